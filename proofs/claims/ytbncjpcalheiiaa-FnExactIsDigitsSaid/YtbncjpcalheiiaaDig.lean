/- The contracts of IsDigits and IsName, in the model and in the program: both return whether the text has the form that the document names. No condition but that the text's length is one that Go's int holds. -/
import Derived.Test.YtbncjpcalheiiaaProg
import Derived.Test.YtbncjpcalheiiaaPlain
import Derived.WalkKit
import Derived.WalkSpells
import Derived.Lib.OthersKept
import Derived.Lib.Hide
namespace Go.Proofs.Ytbncjpcalheiiaa
open Go.RowKit

set_option maxHeartbeats 400000 in
theorem specDigits (s : ByteArray) (w : World) (hs : s.size ≤ maxLen) :
    Calls Try.prog 9 #[.string s] w fun e w' => e = .returned (.bool (digitsB s)) ∧ w = w' := by
  unfold maxLen at hs
  go_enter Try.func9, Try.ntmps9
  go_wp2
  go_loop [3] (fun i => ∃ k : Nat, k ≤ s.size ∧ i = .int .i64 k ∧ Hid ((s.data.toList.take k).all isDig = true)) (fun i => s.size - (intOf i).toNat)
  case atStart => exact ⟨0, Nat.zero_le _, rfl, by simp [Hid]⟩
  case round =>
    obtain ⟨k, hk, rfl, HT⟩ := hrel
    by_cases hlt : k < s.size
    · by_cases h1 : (s[k].toNat : Int) < 48
      · have HD : Hid (digitsB s = false) := digitsB_at hlt (by simp [isDig]; omega)
        go_wp2
        go_ret
        exact ⟨ret_bool HD.out.symm, rfl⟩
      · by_cases h2 : 57 < (s[k].toNat : Int)
        · have HD : Hid (digitsB s = false) := digitsB_at hlt (by simp [isDig]; omega)
          go_wp2
          go_ret
          exact ⟨ret_bool HD.out.symm, rfl⟩
        · have HD : Hid (isDig s[k] = true) := by unfold Hid; simp [isDig]; omega
          go_wp2
          go_round
          case rel => exact ⟨k + 1, by omega, by go_num, all_take_succ isDig hlt HT.out HD.out⟩
          case measure => simp [intOf]; omega
    · have HD : Hid (digitsB s = decide (0 < s.size)) := digitsB_end (by omega) HT.out
      go_wp2
      go_ret
      exact ⟨ret_bool (by rw [HD.out]), rfl⟩

theorem isDigit_yes (r : Int) (w : World) (h1 : 48 ≤ r) (h2 : r ≤ 57) : Calls Try.prog 26 #[.int .i32 r] w fun e w' => e = .returned (.bool true) ∧ w = w' := by
  go_enter Try.func26, Try.ntmps26
  go_wp2
  go_ret
  exact ⟨rfl, rfl⟩

theorem isDigit_no (r : Int) (w : World) (h : r < 48 ∨ 57 < r) : Calls Try.prog 26 #[.int .i32 r] w fun e w' => e = .returned (.bool false) ∧ w = w' := by
  by_cases h1 : r < 48
  · go_enter Try.func26, Try.ntmps26
    go_wp2
    go_ret
    exact ⟨ret_bool (by simp; try omega), rfl⟩
  · have h2 : 57 < r := by omega
    go_enter Try.func26, Try.ntmps26
    go_wp2
    go_ret
    exact ⟨ret_bool (by simp; try omega), rfl⟩

theorem isLow_yes (r : Int) (w : World) (h1 : 97 ≤ r) (h2 : r ≤ 122) : Calls Try.prog 28 #[.int .i32 r] w fun e w' => e = .returned (.bool true) ∧ w = w' := by
  go_enter Try.func28, Try.ntmps28
  go_wp2
  go_ret
  exact ⟨rfl, rfl⟩

theorem isLow_no (r : Int) (w : World) (h : r < 97 ∨ 122 < r) : Calls Try.prog 28 #[.int .i32 r] w fun e w' => e = .returned (.bool false) ∧ w = w' := by
  by_cases h1 : r < 97
  · go_enter Try.func28, Try.ntmps28
    go_wp2
    go_ret
    exact ⟨ret_bool (by simp; try omega), rfl⟩
  · have h2 : 122 < r := by omega
    go_enter Try.func28, Try.ntmps28
    go_wp2
    go_ret
    exact ⟨ret_bool (by simp; try omega), rfl⟩

set_option maxHeartbeats 400000 in
theorem implDigits (s : ByteArray) (w : World) :
    Calls Try.prog 10 #[.string s] w fun e w' => e = .returned (.bool (digitsB s)) ∧ Below w.heap.size w w' := by
  go_enter Try.func10, Try.ntmps10
  go_wp2
  go_loopw [4] (fun _ wr => ∃ pos : Nat, pos ≤ s.size ∧ wr = w.iter s pos ∧ Hid ((s.data.toList.take pos).all isDig = true)) (fun _ wr => s.size - wr.iterPos w.heap.size)
  case atStart => exact ⟨0, Nat.zero_le _, rfl, by simp [Hid]⟩
  case round =>
    obtain ⟨pos, hk, rfl, HT⟩ := hrel
    by_cases hlt : pos < s.size
    · by_cases ha : (s[pos]'hlt).toNat < 128
      · have hnx : ∀ ty, (Instr.next (.pointer (some ⟨w.heap.size, 0, none⟩)) true ty).run Try.prog (w.iter s pos) = _ := fun ty => run_next_ascii w s pos ty hlt ha
        by_cases hd : isDig s[pos] = true
        · have HD : Hid (isDig s[pos] = true) := hd
          have h1 : (48 : Int) ≤ (s[pos].toNat : Int) ∧ (s[pos].toNat : Int) ≤ 57 := by simpa [isDig] using hd
          clear hd
          go_wp2_with (go_at_call 26; refine (isDigit_yes _ _ h1.1 h1.2).mono ?_; rintro e w' ⟨rfl, rfl⟩)
          go_roundw
          case rel => exact ⟨pos + 1, by omega, rfl, all_take_succ isDig hlt HT.out HD.out⟩
          case measure => simp; omega
        · have HD : Hid (digitsB s = false) := digitsB_at hlt (by simpa using hd)
          have h1 : (s[pos].toNat : Int) < 48 ∨ 57 < (s[pos].toNat : Int) := by simp [isDig] at hd; omega
          clear hd
          go_wp2_with (go_at_call 26; refine (isDigit_no _ _ h1).mono ?_; rintro e w' ⟨rfl, rfl⟩)
          go_ret
          exact ⟨ret_bool HD.out.symm, (Below.refl _ _).alloc (Nat.le_refl _) _⟩
      · have hnx : ∀ ty, (Instr.next (.pointer (some ⟨w.heap.size, 0, none⟩)) true ty).run Try.prog (w.iter s pos) = _ := fun ty => run_next_any w s pos ty hlt
        have hh := decode_high s pos hlt (by omega)
        have HD : Hid (digitsB s = false) := digitsB_at hlt (by simp [isDig]; omega)
        have h1 : ((Utf8.decode s pos).1 : Int) < 48 ∨ 57 < ((Utf8.decode s pos).1 : Int) := by omega
        go_wp2_with (go_at_call 26; refine (isDigit_no _ _ h1).mono ?_; rintro e w' ⟨rfl, rfl⟩)
        go_ret
        exact ⟨ret_bool HD.out.symm, (Below.refl _ _).alloc (Nat.le_refl _) _⟩
    · have hnx : ∀ ty, (Instr.next (.pointer (some ⟨w.heap.size, 0, none⟩)) true ty).run Try.prog (w.iter s pos) = _ := fun ty => run_next_end w s pos ty hlt
      have HD : Hid (digitsB s = decide (0 < s.size)) := digitsB_end (by omega) HT.out
      go_wp2
      go_ret
      exact ⟨ret_bool (by rw [HD.out]; exact not_empty s), (Below.refl _ _).alloc (Nat.le_refl _) _⟩

theorem l01In_any (n lo hi : Int) (w : World) : Calls Try.prog 27 #[.int .i64 n, .int .i64 lo, .int .i64 hi] w fun e w' => e = .returned (.bool (decide (lo ≤ n) && decide (n ≤ hi))) ∧ w = w' := by
  by_cases h1 : lo ≤ n
  · have HD : Hid ((decide (lo ≤ n) && decide (n ≤ hi)) = decide (n ≤ hi)) := by unfold Hid; simp [h1]
    go_enter Try.func27, Try.ntmps27
    go_wp2
    go_ret
    exact ⟨ret_bool HD.out.symm, rfl⟩
  · have HD : Hid ((decide (lo ≤ n) && decide (n ≤ hi)) = false) := by unfold Hid; simp [h1]
    go_enter Try.func27, Try.ntmps27
    go_wp2
    go_ret
    exact ⟨ret_bool HD.out.symm, rfl⟩

set_option maxHeartbeats 1000000 in
theorem specName (s : ByteArray) (w : World) (hs : s.size ≤ maxLen) :
    Calls Try.prog 11 #[.string s] w fun e w' => e = .returned (.bool (nameB s)) ∧ w = w' := by
  unfold maxLen at hs
  go_enter Try.func11, Try.ntmps11
  go_wp2
  go_loop [3] (fun i => ∃ k : Nat, k ≤ s.size ∧ i = .int .i64 k ∧ Hid (nameAt (s.data.toList.take k) = true)) (fun i => s.size - (intOf i).toNat)
  case atStart => exact ⟨0, Nat.zero_le _, rfl, rfl⟩
  case round =>
    obtain ⟨k, hk, rfl, HT⟩ := hrel
    by_cases hlt : k < s.size
    · by_cases h1 : (97 : Int) ≤ (s[k].toNat : Int) ∧ (s[k].toNat : Int) ≤ 122
      · have HD : Hid (nameAt (s.data.toList.take (k + 1)) = true) := name_step hlt HT.out (.inl (by simp [isLow]; omega))
        obtain ⟨h1, h2⟩ := h1
        go_wp2
        go_round
        case rel => exact ⟨k + 1, by omega, by go_num, HD⟩
        case measure => simp [intOf]; omega
      · have hnl : isLow s[k] = false := by simp only [isLow]; exact decide_eq_false h1
        rcases Nat.eq_zero_or_pos k with rfl | h0'
        · have HD : Hid (nameB s = false) := name_bad hlt hnl (.inl rfl)
          clear hnl
          by_cases h2 : (s[0].toNat : Int) < 97
          · have b1 : decide ((97 : Int) ≤ (s[0].toNat : Int)) = false := decide_eq_false (by omega)
            clear h1
            go_wp2
            go_ret
            exact ⟨ret_bool HD.out.symm, rfl⟩
          · have h3 : 122 < (s[0].toNat : Int) := by omega
            have b1 : decide ((s[0].toNat : Int) ≤ 122) = false := decide_eq_false (by omega)
            clear h1
            go_wp2
            go_ret
            exact ⟨ret_bool HD.out.symm, rfl⟩
        · have hz : ((k : Int) == 0) = false := by rw [beq_eq_false_iff_ne]; omega
          by_cases hd : (48 : Int) ≤ (s[k].toNat : Int) ∧ (s[k].toNat : Int) ≤ 57
          · have HD : Hid (nameAt (s.data.toList.take (k + 1)) = true) := name_step hlt HT.out (.inr ⟨h0', by simp [isDig]; omega⟩)
            obtain ⟨h2, h3⟩ := hd
            have b1 : decide ((97 : Int) ≤ (s[k].toNat : Int)) = false := decide_eq_false (by omega)
            have b2 : decide ((s[k].toNat : Int) < 48) = false := decide_eq_false (by omega)
            have b3 : decide (57 < (s[k].toNat : Int)) = false := decide_eq_false (by omega)
            clear hnl h1
            go_wp2
            go_round
            case rel => exact ⟨k + 1, by omega, by go_num, HD⟩
            case measure => simp [intOf]; omega
          · have HD : Hid (nameB s = false) := name_bad hlt hnl (.inr (by simp only [isDig]; exact decide_eq_false hd))
            clear hnl
            by_cases h2 : (s[k].toNat : Int) < 48
            · have b1 : decide ((97 : Int) ≤ (s[k].toNat : Int)) = false := decide_eq_false (by omega)
              have b2 : decide ((s[k].toNat : Int) < 48) = true := decide_eq_true (by omega)
              clear h1 hd
              go_wp2
              go_ret
              exact ⟨ret_bool HD.out.symm, rfl⟩
            · have h3 : 57 < (s[k].toNat : Int) := by omega
              have b2 : decide ((s[k].toNat : Int) < 48) = false := decide_eq_false (by omega)
              have b3 : decide (57 < (s[k].toNat : Int)) = true := decide_eq_true (by omega)
              by_cases h4 : (s[k].toNat : Int) < 97
              · have b1 : decide ((97 : Int) ≤ (s[k].toNat : Int)) = false := decide_eq_false (by omega)
                clear h1 hd
                go_wp2
                go_ret
                exact ⟨ret_bool HD.out.symm, rfl⟩
              · have h5 : 122 < (s[k].toNat : Int) := by omega
                have b1 : decide ((s[k].toNat : Int) ≤ 122) = false := decide_eq_false (by omega)
                clear h1 hd
                go_wp2
                go_ret
                exact ⟨ret_bool HD.out.symm, rfl⟩
    · have HD : Hid (nameB s = (decide ((1 : Int) ≤ (s.size : Int)) && decide ((s.size : Int) ≤ 8))) := by
        unfold Hid
        rw [name_end (by omega) HT.out]
        congr 1 <;> (rw [decide_eq_decide]; omega)
      go_wp2_with (go_at_call 27; refine (l01In_any _ _ _ _).mono ?_; rintro e w' ⟨rfl, rfl⟩)
      go_ret
      exact ⟨ret_bool HD.out.symm, rfl⟩
end Go.Proofs.Ytbncjpcalheiiaa
