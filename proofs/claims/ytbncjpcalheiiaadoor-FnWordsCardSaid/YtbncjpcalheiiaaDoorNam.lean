/- The contract of the program's IsName: it returns whether the text has the form of a name. No condition but that the text's length is one that Go's int holds. -/
import Derived.Test.YtbncjpcalheiiaaDoorDig
namespace Go.Proofs.YtbncjpcalheiiaaDoor
open Go.RowKit

set_option maxHeartbeats 1000000 in
theorem implName (s : ByteArray) (w : World) (hs : s.size ≤ maxLen) :
    Calls Tryd.prog 12 #[.string s] w fun e w' => e = .returned (.bool (nameB s)) ∧ Below w.heap.size w w' := by
  unfold maxLen at hs
  by_cases he : s.size ≤ 0
  · have HD : Hid (nameB s = false) := by unfold Hid; simp [nameB]; omega
    have hn := not_empty s
    have e1 : s.toList.isEmpty = true := by
      rw [decide_eq_false (by omega)] at hn
      simpa using hn
    have e2 : s.toList = [] := List.isEmpty_iff.1 e1
    clear hn
    go_enter Tryd.func12, Tryd.ntmps12
    go_wp2
    go_ret
    exact ⟨ret_bool HD.out.symm, Below.refl _ _⟩
  · have hn := not_empty s
    have e1 : s.toList.isEmpty = false := by
      rw [decide_eq_true (by omega)] at hn
      simpa using hn
    clear hn
    by_cases h8 : (8 : Int) < (s.size : Int)
    · have HD : Hid (nameB s = false) := by unfold Hid; simp [nameB]; omega
      have b8 : decide ((8 : Int) < (s.size : Int)) = true := decide_eq_true h8
      go_enter Tryd.func12, Tryd.ntmps12
      go_wp2
      go_ret
      exact ⟨ret_bool HD.out.symm, Below.refl _ _⟩
    · have b8 : decide ((8 : Int) < (s.size : Int)) = false := decide_eq_false h8
      go_enter Tryd.func12, Tryd.ntmps12
      go_wp2
      go_loopw [3, 4] (fun _ _ wr => ∃ pos : Nat, pos ≤ s.size ∧ wr = w.iter s pos ∧ Hid (nameAt (s.data.toList.take pos) = true)) (fun _ _ wr => s.size - wr.iterPos w.heap.size)
      case atStart => exact ⟨0, Nat.zero_le _, rfl, rfl⟩
      case round =>
        obtain ⟨pos, hk, rfl, HT⟩ := hrel
        by_cases hlt : pos < s.size
        · by_cases ha : (s[pos]'hlt).toNat < 128
          · have hnx : ∀ ty, (Instr.next (.pointer (some ⟨w.heap.size, 0, none⟩)) true ty).run Tryd.prog (w.iter s pos) = _ := fun ty => run_next_ascii w s pos ty hlt ha
            by_cases h1 : (97 : Int) ≤ (s[pos].toNat : Int) ∧ (s[pos].toNat : Int) ≤ 122
            · have HD : Hid (nameAt (s.data.toList.take (pos + 1)) = true) := name_step hlt HT.out (.inl (by simp [isLow]; omega))
              go_wp2_with (go_at_call 25; refine (isLow_yes _ _ h1.1 h1.2).mono ?_; rintro e w' ⟨rfl, rfl⟩)
              go_roundw
              case rel => exact ⟨pos + 1, by omega, rfl, HD⟩
              case measure => simp; omega
            · have hnl : isLow s[pos] = false := by simp only [isLow]; exact decide_eq_false h1
              have h2 : (s[pos].toNat : Int) < 97 ∨ 122 < (s[pos].toNat : Int) := by omega
              clear h1
              rcases Nat.eq_zero_or_pos pos with rfl | h0'
              · have HD : Hid (nameB s = false) := name_bad hlt hnl (.inl rfl)
                clear hnl
                go_wp2_with (go_at_call 25; refine (isLow_no _ _ h2).mono ?_; rintro e w' ⟨rfl, rfl⟩)
                go_ret
                exact ⟨ret_bool HD.out.symm, (Below.refl _ _).alloc (Nat.le_refl _) _⟩
              · have hz : ((pos : Int) == 0) = false := by rw [beq_eq_false_iff_ne]; omega
                by_cases hd : (48 : Int) ≤ (s[pos].toNat : Int) ∧ (s[pos].toNat : Int) ≤ 57
                · have HD : Hid (nameAt (s.data.toList.take (pos + 1)) = true) := name_step hlt HT.out (.inr ⟨h0', by simp [isDig]; omega⟩)
                  clear hnl
                  go_wp2_with (first | (go_at_call 25; refine (isLow_no _ _ h2).mono ?_; rintro e w' ⟨rfl, rfl⟩) | (go_at_call 26; refine (isDigit_yes _ _ hd.1 hd.2).mono ?_; rintro e w' ⟨rfl, rfl⟩))
                  go_roundw
                  case rel => exact ⟨pos + 1, by omega, rfl, HD⟩
                  case measure => simp; omega
                · have HD : Hid (nameB s = false) := name_bad hlt hnl (.inr (by simp only [isDig]; exact decide_eq_false hd))
                  have h3 : (s[pos].toNat : Int) < 48 ∨ 57 < (s[pos].toNat : Int) := by omega
                  clear hnl hd
                  go_wp2_with (first | (go_at_call 25; refine (isLow_no _ _ h2).mono ?_; rintro e w' ⟨rfl, rfl⟩) | (go_at_call 26; refine (isDigit_no _ _ h3).mono ?_; rintro e w' ⟨rfl, rfl⟩))
                  go_ret
                  exact ⟨ret_bool HD.out.symm, (Below.refl _ _).alloc (Nat.le_refl _) _⟩
          · have hnx : ∀ ty, (Instr.next (.pointer (some ⟨w.heap.size, 0, none⟩)) true ty).run Tryd.prog (w.iter s pos) = _ := fun ty => run_next_any w s pos ty hlt
            have hh := decode_high s pos hlt (by omega)
            have HD : Hid (nameB s = false) := name_bad hlt (by simp [isLow]; omega) (.inr (by simp [isDig]; omega))
            have h2 : ((Utf8.decode s pos).1 : Int) < 97 ∨ 122 < ((Utf8.decode s pos).1 : Int) := by omega
            have h3 : ((Utf8.decode s pos).1 : Int) < 48 ∨ 57 < ((Utf8.decode s pos).1 : Int) := by omega
            rcases Nat.eq_zero_or_pos pos with rfl | h0'
            · go_wp2_with (go_at_call 25; refine (isLow_no _ _ h2).mono ?_; rintro e w' ⟨rfl, rfl⟩)
              go_ret
              exact ⟨ret_bool HD.out.symm, (Below.refl _ _).alloc (Nat.le_refl _) _⟩
            · have hz : ((pos : Int) == 0) = false := by rw [beq_eq_false_iff_ne]; omega
              go_wp2_with (first | (go_at_call 25; refine (isLow_no _ _ h2).mono ?_; rintro e w' ⟨rfl, rfl⟩) | (go_at_call 26; refine (isDigit_no _ _ h3).mono ?_; rintro e w' ⟨rfl, rfl⟩))
              go_ret
              exact ⟨ret_bool HD.out.symm, (Below.refl _ _).alloc (Nat.le_refl _) _⟩
        · have hnx : ∀ ty, (Instr.next (.pointer (some ⟨w.heap.size, 0, none⟩)) true ty).run Tryd.prog (w.iter s pos) = _ := fun ty => run_next_end w s pos ty hlt
          have HD : Hid (nameB s = true) := by
            unfold Hid
            rw [name_end (by omega) HT.out]
            simp
            omega
          go_wp2
          go_ret
          exact ⟨ret_bool HD.out.symm, (Below.refl _ _).alloc (Nat.le_refl _) _⟩
end Go.Proofs.YtbncjpcalheiiaaDoor
