/- The contracts of the model's FormatInt at one digit, SetText and ReadSet. Condition: the text is short enough to be counted. -/
import Derived.Test.YtdafhbblkopelaaDoorSetPlain
import Derived.Test.YtdafhbblkopelaaDoorGBase
namespace Go.Proofs.YtdafhbblkopelaaDoor
open Go.RowKit

set_option maxHeartbeats 1600000 in
theorem specDigit (n : Int) (W : World) (h0 : 0 ≤ n) (h1 : n ≤ 9) :
    Calls Tryd.prog 10 #[.int .i64 n] W fun e w' => e = .returned (.string (oneByte (48 + n))) ∧ Below W.heap.size W w' := by
  have hnn : ¬ n < 0 := by omega
  go_enter Tryd.func10, Tryd.ntmps10
  go_wp2
  go_loopw [0, 3] (fun v s wr => v = .int .i64 n ∧ s = .string ByteArray.empty ∧ wr = W) (fun v _ _ => (intOf v).toNat)
  case atStart => exact ⟨rfl, rfl, rfl⟩
  case round =>
    obtain ⟨rfl, rfl, rfl⟩ := hrel
    have hcv := conv_one wr (48 + n) (by omega) (by omega)
    have h1s := Nat.le_of_eq (oneByte_size (48 + n))
    have hz : ByteArray.empty.size = 0 := rfl
    have HD : Hid (oneByte (48 + n) ++ ByteArray.empty = oneByte (48 + n)) := by simp [Hid]
    have hg : ¬ 9 < n := by omega
    go_wp2
    go_ret
    exact ⟨by first | rfl | exact ret_str HD.out, (Below.refl _ _).alloc (Nat.le_refl _) _⟩

set_option maxHeartbeats 3200000 in
theorem specSetText (s : Int) (w : World) :
    Calls Tryd.prog 5 #[.int .i64 s] w fun e w' => e = .returned (.string (setT s)) ∧ Below w.heap.size w w' := by
  have CI := Lib.hid (fun W => l01In_is s 0 1023 W)
  have CD := Lib.hid (fun k W h0 h1 => specDigit k W h0 h1)
  have HS : Hid (setT s = if (decide (0 ≤ s) && decide (s ≤ 1023)) = true then (if (setC s 10).toList.isEmpty = true then ⟨#[45]⟩ else setC s 10) else ⟨#[]⟩) := rfl
  have HB : Hid ((decide (0 ≤ s) && decide (s ≤ 1023)) = true → 0 ≤ s ∧ s ≤ 1023) := fun h => by simpa using h
  generalize setT s = t at HS ⊢
  generalize (decide (0 ≤ s) && decide (s ≤ 1023)) = ib at CI HS HB
  cases ib with
  | false =>
    have HE : Hid (t = ⟨#[]⟩) := HS.out
    go_enter Tryd.func5, Tryd.ntmps5
    go_wp2_with fail
    refine (CI.out _).mono ?_
    rintro e w1 ⟨rfl, rfl⟩
    go_wp2
    go_ret
    exact ⟨ret_str HE.out.symm, Below.refl _ _⟩
  | true =>
    obtain ⟨s0, s1⟩ := HB.out rfl
    have HE : Hid (t = if (setC s 10).toList.isEmpty = true then ⟨#[45]⟩ else setC s 10) := HS.out
    clear HS HB
    go_enter Tryd.func5, Tryd.ntmps5
    go_wp2_with fail
    refine (CI.out _).mono ?_
    rintro e w1 ⟨rfl, rfl⟩
    go_wp2
    go_loopw [0, 3, 4] (fun sv tv kv wr => ∃ (k : Nat) (q : Int) (u : ByteArray), k ≤ 10 ∧ sv = .int .i64 q ∧ tv = .string u ∧ kv = .int .i64 k ∧ 0 ≤ q ∧ q ≤ 1023 ∧ u.size ≤ k ∧ Hid (q = s / 2 ^ k ∧ u = setC s k) ∧ Below w.heap.size w wr) (fun _ _ kv _ => 10 - (intOf kv).toNat)
    case atStart => exact ⟨0, s, _, by omega, rfl, rfl, rfl, s0, s1, Nat.le_refl _, by simp [Hid, setC], Below.refl _ _⟩
    case round =>
      obtain ⟨k, q, u, hk, rfl, rfl, rfl, q0, q1, hu, HQ, hb⟩ := hrel
      have hbs := hb.size
      by_cases hlt : k < 10
      · have HN : Hid (q / 2 = s / 2 ^ (k + 1)) := by
          unfold Hid
          rw [HQ.out.1, Int.ediv_ediv_of_nonneg (Int.le_of_lt (Int.pow_pos (by decide))), ← Int.pow_succ]
        by_cases hodd : q % 2 = 1
        · have HC : Hid (u ++ oneByte (48 + (k : Int)) = setC s (k + 1)) := by
            unfold Hid
            rw [setC_yes (by rw [← HQ.out.1]; exact hodd), HQ.out.2]
          have h1s := Nat.le_of_eq (oneByte_size (48 + (k : Int)))
          have C := Lib.hid (fun W => CD.out (k : Int) W (by omega) (by omega))
          generalize oneByte (48 + (k : Int)) = d at HC h1s C
          clear CD CI HQ
          go_wp2_with fail
          refine (C.out _).mono ?_
          rintro e w2 ⟨rfl, b2⟩
          have B2 := Lib.hid (hb.trans (b2.mono hb.size))
          clear b2 hb
          go_wp2
          go_roundw
          case rel => exact ⟨k + 1, q / 2, _, by omega, by go_num, rfl, by go_num, by omega, by omega, by rw [ByteArray.size_append]; omega, ⟨HN.out, HC.out⟩, B2.out⟩
          case measure => simp [intOf]; omega
        · have HC : Hid (u = setC s (k + 1)) := by
            unfold Hid
            rw [setC_no (by rw [← HQ.out.1]; exact hodd), HQ.out.2]
          clear CD CI HQ
          go_wp2
          go_roundw
          case rel => exact ⟨k + 1, q / 2, _, by omega, by go_num, rfl, by go_num, by omega, by omega, by omega, ⟨HN.out, HC.out⟩, hb⟩
          case measure => simp [intOf]; omega
      · obtain rfl : k = 10 := by omega
        have HT : Hid (t = if u.toList.isEmpty = true then ⟨#[45]⟩ else u) := by unfold Hid; rw [HQ.out.2]; exact HE.out
        clear HQ HE CD CI
        cases hem : u.toList.isEmpty with
        | true =>
          have hnl : u.toList = [] := List.isEmpty_iff.1 hem
          have HR : Hid (t = ⟨#[45]⟩) := by unfold Hid; rw [HT.out, if_pos hem]
          clear HT
          go_wp2
          go_ret
          exact ⟨ret_str HR.out.symm, hb⟩
        | false =>
          have HR : Hid (t = u) := by unfold Hid; rw [HT.out, hem]; rfl
          clear HT
          go_wp2
          go_ret
          exact ⟨ret_str HR.out.symm, hb⟩

set_option maxHeartbeats 3200000 in
theorem specReadSet (t : ByteArray) (w : World) (hs : t.size ≤ maxLen) :
    Calls Tryd.prog 7 #[.string t] w fun e w' => e = .returned (.tuple #[.int .i64 (readV t), .bool (readB t)]) ∧ Below w.heap.size w w' := by
  unfold maxLen at hs
  have CT := Lib.hid (fun s W => specSetText s W)
  have HV : Hid (readV t = if readB t = true then readI t t.size else 0) := rfl
  have HB : Hid (readB t = ((setT (readI t t.size)).toList == t.toList)) := rfl
  generalize readV t = v at HV ⊢
  generalize readB t = b at HV HB ⊢
  go_enter Tryd.func7, Tryd.ntmps7
  go_wp2
  go_loopw [4, 5] (fun sv iv wr => ∃ (k : Nat) (q : Int), k ≤ t.size ∧ sv = .int .i64 q ∧ iv = .int .i64 k ∧ 0 ≤ q ∧ q ≤ 1023 ∧ Hid (q = readI t k) ∧ wr = w) (fun _ iv _ => t.size - (intOf iv).toNat)
  case atStart => exact ⟨0, 0, Nat.zero_le _, rfl, rfl, by omega, by omega, rfl, rfl⟩
  case round =>
    obtain ⟨k, q, hk, rfl, rfl, q0, q1, HQ, rfl⟩ := hrel
    by_cases hlt : k < t.size
    · clear CT HV HB
      by_cases h1 : (t[k].toNat : Int) < 48
      · have HN : Hid (q = readI t (k + 1)) := by unfold Hid; rw [readI_no hlt (.inl h1)]; exact HQ.out
        clear HQ
        go_wp2
        go_roundw
        case rel => exact ⟨k + 1, q, by omega, rfl, by go_num, q0, q1, HN, by first | rfl | trivial⟩
        case measure => simp [intOf]; omega
      · by_cases h2 : 57 < (t[k].toNat : Int)
        · have HN : Hid (q = readI t (k + 1)) := by unfold Hid; rw [readI_no hlt (.inr h2)]; exact HQ.out
          clear HQ
          go_wp2
          go_roundw
          case rel => exact ⟨k + 1, q, by omega, rfl, by go_num, q0, q1, HN, by first | rfl | trivial⟩
          case measure => simp [intOf]; omega
        · have hin := readI_in t (k + 1)
          have ex : ((t[k].toNat : Int) - 48).toNat = t[k].toNat - 48 := by omega
          have HN : Hid (bits .or .i64 q (2 ^ (t[k].toNat - 48)) = readI t (k + 1)) := by unfold Hid; rw [readI_yes hlt h1 h2, HQ.out, ex]; rfl
          have h512 := two_pow_512 (t[k].toNat - 48) (by omega)
          have hw : IntKind.i64.wrap (2 ^ (t[k].toNat - 48)) = 2 ^ (t[k].toNat - 48) := by rw [IntKind.wrap_i64]; omega
          clear HQ
          go_wp2
          go_roundw
          case rel => exact ⟨k + 1, readI t (k + 1), by omega, congrArg _ HN.out, by go_num, hin.1, hin.2, rfl, by first | rfl | trivial⟩
          case measure => simp [intOf]; omega
    · obtain rfl : k = t.size := by omega
      have C := Lib.hid (fun W => CT.out q W)
      have HB2 : Hid (b = ((setT q).toList == t.toList)) := by unfold Hid; rw [HQ.out]; exact HB.out
      have HV2 : Hid (v = if b = true then q else 0) := by unfold Hid; rw [HQ.out]; exact HV.out
      clear CT HB HV HQ
      generalize setT q = x at C HB2
      go_wp2_with fail
      refine (C.out _).mono ?_
      rintro e w2 ⟨rfl, b2⟩
      have B2 := Lib.hid b2
      clear b2
      cases hcmp : (x.toList == t.toList) with
      | false =>
        have HE : Hid (b = false) := by unfold Hid; rw [HB2.out]; exact hcmp
        have HF : Hid (v = 0) := by unfold Hid; rw [HV2.out, HE.out]; rfl
        clear HB2 HV2
        go_wp2
        go_ret2
        exact ⟨by rw [HE.out, HF.out]; rfl, B2.out⟩
      | true =>
        have HE : Hid (b = true) := by unfold Hid; rw [HB2.out]; exact hcmp
        have HF : Hid (v = q) := by unfold Hid; rw [HV2.out, HE.out]; rfl
        clear HB2 HV2
        go_wp2
        go_ret2
        exact ⟨by rw [HE.out, HF.out]; rfl, B2.out⟩
end Go.Proofs.YtdafhbblkopelaaDoor
