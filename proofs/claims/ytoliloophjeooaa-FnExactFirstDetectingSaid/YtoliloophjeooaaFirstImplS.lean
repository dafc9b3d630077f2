/- The contracts of the program's FirstDetecting, FewestSums and ExtendDetecting. Conditions: for the last the slice reads as integers. -/
import Derived.Test.YtoliloophjeooaaLeastImpl
namespace Go.Proofs.Ytoliloophjeooaa
open Go.RowKit

set_option maxRecDepth 100000 in
set_option maxHeartbeats 3200000 in
theorem implFirst (n : Int) (w : World) : Calls Try.prog 24 #[.int .i64 n] w (GivesS (firstL n) (firstB n) w) := by
  by_cases h : 1 ≤ n ∧ n ≤ 4
  · have hb : firstB n = true := by unfold firstB; rw [decide_eq_true h.1, decide_eq_true h.2]; rfl
    have hL : firstL n = natL (tabS n.toNat) := by unfold firstL; rw [if_pos hb]
    rw [hb, hL]
    obtain ⟨n1, n4⟩ := h
    obtain ⟨m, hm⟩ : ∃ m, n.toNat = m := ⟨_, rfl⟩
    have hnm : n = (m : Int) := by omega
    obtain ⟨ht0, ht1⟩ := least_is (m := m) (by omega) (by omega)
    have htl : (tabS m).length ≤ 4 := Nat.le_trans (tab_is (m := m) (by omega) (by omega)).2.2 (by omega)
    rw [hm]
    rw [← hnm] at ht0 ht1
    have CL : Hid (∀ k : Nat, k ≤ 4 → ∀ W, Calls Try.prog 48 #[.int .i64 n, .int .i64 (k : Int), .int .i64 0, .slice none 0 0] W (LeastG (leastF n k 0 []) W.heap.size (.slice none 0 0) [] W)) := fun k hk W => by
      have := implLeast n n1 (by omega) k 0 [] (.slice none 0 0) W.heap.size W (Own.nil _ _) (by simp; omega) (fun q hq => by cases hq) (Nat.zero_le _) (Nat.le_refl _)
      rwa [Int.natCast_zero] at this
    have H0 := Lib.hid ht0
    have H1 := Lib.hid ht1
    unfold LeastG at CL
    unfold GivesS
    obtain ⟨T, hT⟩ : ∃ T, (tabS m).length = T := ⟨_, rfl⟩
    rw [hT] at H0 H1 htl
    generalize tabS m = R at H1 ⊢
    generalize leastF n = LF at CL H0 H1
    clear ht0 ht1 hT hb hL hnm hm
    have O0 : Hid (Own w w.heap.size (.slice none 0 0) []) := Own.nil _ _
    have c1 : ¬ n < 1 := by omega
    have c2 : ¬ 4 < n := by omega
    go_enter Try.func24, Try.ntmps24
    go_wp2
    go_loopw [4, 5, 6] (fun pv fv kv wr => ∃ (k : Nat) (b : Bool), k ≤ T + 1 ∧ kv = .int .i64 k ∧ fv = .bool b ∧ (b = false → k ≤ T) ∧ (∃ a m c, pv = .slice a m c) ∧ Hid (b = true → Own wr w.heap.size pv (natL R)) ∧ Hid (Below w.heap.size w wr)) (fun _ fv kv _ => (T + 1 - (intOf kv).toNat) + (match fv with | .bool false => 1 | _ => 0))
    case atStart => exact ⟨0, false, by omega, rfl, rfl, fun _ => by omega, ⟨_, _, _, rfl⟩, Lib.hid (fun e => by cases e), Lib.hid (Below.refl _ _)⟩
    case round =>
      clear O0
      obtain ⟨k, b, hk, rfl, rfl, hb, ⟨a6, m6, c6, rfl⟩, O1, B1⟩ := hrel
      cases b with
      | true =>
        go_wp2
        go_ret2
        exact ⟨_, rfl, O1.out (by first | rfl | trivial), B1.out⟩
      | false =>
        have hkT := hb rfl
        have CK := Lib.hid (CL.out k (by omega) wr)
        have hs1 := B1.out.size
        clear hb
        go_wp2_with fail
        refine CK.out.mono ?_
        rintro e w2 ⟨u, rfl, hf, ⟨a7, m7, c7, rfl⟩, -, t7⟩
        have B2 : Hid (Below w.heap.size w w2) := below_up B1.out ⟨t7.os, t7.tape, t7.output, t7.size, fun i hi => t7.block i hi (by simp [Value.ownBlock])⟩
        have HF := Lib.hid hf
        clear hf t7 O1
        by_cases he : k = T
        · subst he
          have HE := H1.out
          rw [HE] at HF
          have O2 := Lib.hid (Own.lower (HF.out R rfl) hs1)
          rw [HE]
          go_wp2
          go_roundw
          case rel => exact ⟨k + 1, true, by omega, by go_num, rfl, (fun e => by cases e), ⟨_, _, _, rfl⟩, Lib.hid (fun _ => O2.out), B2⟩
          case measure => simp [intOf]
        · have HE := H0.out k (by omega)
          rw [HE]
          clear HF
          go_wp2
          go_roundw
          case rel => exact ⟨k + 1, false, by omega, by go_num, rfl, fun _ => by omega, ⟨_, _, _, rfl⟩, Lib.hid (fun e => by cases e), B2⟩
          case measure => simp [intOf]; omega
  · have hb : firstB n = false := by unfold firstB; simp; omega
    have hL : firstL n = [] := by unfold firstL; rw [if_neg (by rw [hb]; decide)]
    rw [hb, hL]
    unfold GivesS
    clear hb hL
    by_cases c1 : n < 1
    · go_enter Try.func24, Try.ntmps24
      go_wp2
      go_ret2
      exact ⟨_, rfl, Own.nil _ _, Below.refl _ _⟩
    · have c2 : 4 < n := by omega
      go_enter Try.func24, Try.ntmps24
      go_wp2
      go_ret2
      exact ⟨_, rfl, Own.nil _ _, Below.refl _ _⟩

set_option maxHeartbeats 1600000 in
theorem implFewestS (n : Int) (w : World) : Calls Try.prog 26 #[.int .i64 n] w fun e w' => e = .returned (.int .i64 (fewS n)) ∧ Below w.heap.size w w' := by
  have CF := Lib.hid (implFirst n w)
  unfold GivesS at CF
  have HL := firstL_len n
  by_cases hb : firstB n = true
  · have HE : Hid (fewS n = ((firstL n).length : Int)) := by unfold Hid fewS firstL; rw [if_pos hb, if_pos hb, natL_len]
    rw [hb] at CF
    generalize firstL n = R at CF HE HL
    generalize fewS n = r at HE ⊢
    clear hb
    go_enter Try.func26, Try.ntmps26
    go_wp2_with fail
    refine CF.out.mono ?_
    rintro e w2 ⟨u, rfl, o, bb⟩
    obtain ⟨a, c, rfl, -⟩ := o.reads
    have B := Lib.hid bb
    clear o bb
    go_wp2
    go_ret
    exact ⟨ret_int HE.out.symm, B.out⟩
  · have hb2 : firstB n = false := by simpa using hb
    have HE : Hid (fewS n = -1) := by unfold Hid fewS; rw [if_neg hb]
    rw [hb2] at CF
    generalize firstL n = R at CF HL
    generalize fewS n = r at HE ⊢
    clear hb hb2
    go_enter Try.func26, Try.ntmps26
    go_wp2_with fail
    refine CF.out.mono ?_
    rintro e w2 ⟨u, rfl, o, bb⟩
    obtain ⟨a, m, c, rfl⟩ := o.form
    have B := Lib.hid bb
    clear o bb
    go_wp2
    go_ret
    exact ⟨ret_int HE.out.symm, B.out⟩
end Go.Proofs.Ytoliloophjeooaa
