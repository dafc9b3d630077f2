/- The contracts of the program's PoolsOk, resultsOf and TestPools. Conditions: the slice reads as integers; a set of the items at hand. -/
import Derived.Test.YthfnbnjajcigeaaCountImpl
import Derived.Test.YthfnbnjajcigeaaPoolLaws
import Derived.Test.YthfnbnjajcigeaaIsSet
namespace Go.Proofs.Ythfnbnjajcigeaa
open Go.RowKit

set_option maxHeartbeats 1600000 in
theorem implPoolsOk (n : Int) (v : Value) (P : List Int) (w : World) (h : IntsAt w v P) (hm : P.length ≤ maxLen) :
    Calls Try.prog 46 #[.int .i64 n, v] w fun e w' => e = .returned (.bool (poolsB n P)) ∧ w = w' := by
  have HP : Hid (poolsB n P = ((itemsB n && decide (P.length ≤ 12)) && P.all (poolB n))) := rfl
  obtain ⟨a, c, rfl, h⟩ := h
  have H := Lib.hid h
  unfold maxLen at hm
  clear h
  generalize poolsB n P = r at HP ⊢
  obtain ⟨m, hmm⟩ : ∃ m, P.length = m := ⟨_, rfl⟩
  rw [hmm] at HP hm ⊢
  have HN := Lib.hid hmm
  clear hmm
  have HI : Hid (itemsB n = (decide (1 ≤ n) && decide (n ≤ 10))) := rfl
  by_cases k1 : n < 1
  · have HE : Hid (r = false) := by unfold Hid; rw [HP.out, HI.out, decide_eq_false (by omega)]; rfl
    go_enter Try.func46, Try.ntmps46
    go_wp2
    go_ret
    exact ⟨ret_bool HE.out.symm, rfl⟩
  by_cases k10 : 10 < n
  · have HE : Hid (r = false) := by unfold Hid; rw [HP.out, HI.out, decide_eq_true (by omega), decide_eq_false (by omega)]; rfl
    go_enter Try.func46, Try.ntmps46
    go_wp2
    go_ret
    exact ⟨ret_bool HE.out.symm, rfl⟩
  by_cases k12 : (12 : Int) < (m : Int)
  · have HE : Hid (r = false) := by unfold Hid; rw [HP.out, decide_eq_false (show ¬ m ≤ 12 by omega), Bool.and_false, Bool.false_and]
    go_enter Try.func46, Try.ntmps46
    go_wp2
    go_ret
    exact ⟨ret_bool HE.out.symm, rfl⟩
  have HE : Hid (r = P.all (poolB n)) := by unfold Hid; rw [HP.out, HI.out, decide_eq_true (show m ≤ 12 by omega), decide_eq_true (show 1 ≤ n by omega), decide_eq_true (show n ≤ 10 by omega)]; rfl
  have CT := Lib.hid (fun p W => implIsSet n p (by omega) (by omega) W)
  clear HP HI
  go_enter Try.func46, Try.ntmps46
  go_wp2_with fail
  clear k12 k1 k10
  go_loopw [20] (fun iv wr => ∃ i : Nat, i ≤ m ∧ iv = .int .i64 i ∧ wr = w ∧ Hid ((P.take i).all (poolB n) = true)) (fun iv _ => m - (intOf iv).toNat)
  case atStart => exact ⟨0, Nat.zero_le _, rfl, rfl, by unfold Hid; simp⟩
  case round =>
    obtain ⟨i, hi, rfl, rfl, HT⟩ := hrel
    by_cases hlt : i < m
    · have hil : i < P.length := by rw [HN.out]; exact hlt
      rcases H.out with h0 | ⟨b, o, rfl, hc⟩
      · rw [h0] at hil; simp at hil
      have e0 := hc i hil
      obtain ⟨p, hp⟩ : ∃ p, P[i] = p := ⟨_, rfl⟩
      rw [hp] at e0
      have HTS : Hid ((P.take (i + 1)).all (poolB n) = poolB n p) := by unfold Hid; rw [List.take_succ_eq_append_getElem hil, List.all_append, HT.out, hp]; simp
      have HNO : Hid (poolB n p = false → P.all (poolB n) = false) := fun hb => by
        rw [List.all_eq_false]
        exact ⟨P[i], List.getElem_mem hil, by rw [hp, hb]; simp⟩
      have CT1 := Lib.hid (CT.out p)
      have i0 : (0 : Int) ≤ (i : Int) := by omega
      have i1 : (i : Int) < (m : Int) := by omega
      generalize poolB n p = pb at HTS HNO CT1
      clear hc hil hp CT
      cases pb with
      | false =>
        have HF : Hid (r = false) := by unfold Hid; rw [HE.out]; exact HNO.out rfl
        go_wp2_with fail
        refine (CT1.out _).mono ?_
        rintro e w2 ⟨rfl, rfl⟩
        go_wp2
        go_ret
        exact ⟨ret_bool HF.out.symm, rfl⟩
      | true =>
        go_wp2_with fail
        refine (CT1.out _).mono ?_
        rintro e w2 ⟨rfl, rfl⟩
        go_wp2
        go_roundw
        case rel => exact ⟨i + 1, by omega, by go_num, by first | rfl | trivial, HTS⟩
        case measure => simp [intOf]; omega
    · obtain rfl : i = m := by omega
      have HF : Hid (r = true) := by
        have := HT.out
        rw [List.take_of_length_le (by rw [HN.out]; omega)] at this
        unfold Hid
        rw [HE.out, this]
      go_wp2
      go_ret
      exact ⟨ret_bool HF.out.symm, rfl⟩

end Go.Proofs.Ythfnbnjajcigeaa
