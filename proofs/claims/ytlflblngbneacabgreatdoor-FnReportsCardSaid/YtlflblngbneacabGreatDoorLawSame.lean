/- The contract of the laws' own 'same': it tells whether two lists of integers are equal. Condition: both slices read as lists, short enough to be counted. -/
import Derived.Test.YtlflblngbneacabGreatDoorGWei
namespace Go.Proofs.YtlflblngbneacabGreatDoor
open Go.RowKit

set_option maxHeartbeats 800000 in
theorem lawsSame (u v : Value) (A B : List Int) (w : World) (h1 : IntsAt w u A) (h2 : IntsAt w v B) (m1 : A.length ≤ 1048576) (m2 : B.length ≤ 1048576) :
    Calls Tryz.prog 23 #[u, v] w fun e w' => e = .returned (.bool (decide (A = B))) ∧ w = w' := by
  obtain ⟨a1, c1, rfl, h1⟩ := h1
  obtain ⟨a2, c2, rfl, h2⟩ := h2
  have H1 : Hid (∀ i (h : i < A.length), ∃ b o, a1 = some ⟨b, o, none⟩ ∧ w.cell? ⟨b, o + i, none⟩ = some (.int .i64 A[i])) := by
    intro i hi
    rcases h1 with rfl | ⟨b, o, rfl, hc⟩
    · simp at hi
    · exact ⟨b, o, rfl, hc i hi⟩
  have H2 : Hid (∀ i (h : i < B.length), ∃ b o, a2 = some ⟨b, o, none⟩ ∧ w.cell? ⟨b, o + i, none⟩ = some (.int .i64 B[i])) := by
    intro i hi
    rcases h2 with rfl | ⟨b, o, rfl, hc⟩
    · simp at hi
    · exact ⟨b, o, rfl, hc i hi⟩
  clear h1 h2
  by_cases hl : A.length = B.length
  · have HX : Hid (∀ k, k ≤ A.length → decide (A = B) = decide (A.drop k = B.drop k ∧ A.take k = B.take k)) := fun k _ => by
      congr 1
      refine propext ⟨fun h => by rw [h]; exact ⟨rfl, rfl⟩, fun h => ?_⟩
      rw [← List.take_append_drop k A, h.1, h.2, List.take_append_drop]
    obtain ⟨r, hr⟩ : ∃ r, decide (A = B) = r := ⟨_, rfl⟩
    have HR := Lib.hid hr
    rw [hr]
    clear hr
    obtain ⟨n, hn⟩ : ∃ n, A.length = n := ⟨_, rfl⟩
    have hm : B.length = n := by omega
    have HN := Lib.hid hn
    have HM := Lib.hid hm
    rw [hn] at m1 ⊢
    rw [hm]
    clear hn hm hl m2
    have hne : ((n : Int) != (n : Int)) = false := by simp
    go_enter Tryz.func23, Tryz.ntmps23
    go_wp2
    go_loop [5, 6, 14] (fun _ _ i => ∃ k : Nat, k ≤ n ∧ i = .int .i64 k ∧ Hid (A.take k = B.take k)) (fun _ _ i => n - (intOf i).toNat)
    case atStart => exact ⟨0, Nat.zero_le _, rfl, by simp [Hid]⟩
    case round =>
      obtain ⟨k, hk, rfl, HF⟩ := hrel
      by_cases hlt : k < n
      · have k1 : k < A.length := by rw [HN.out]; exact hlt
        have k2 : k < B.length := by rw [HM.out]; exact hlt
        obtain ⟨b, o, rfl, e0⟩ := H1.out k k1
        obtain ⟨b', o', rfl, e1⟩ := H2.out k k2
        have hst : A.take (k + 1) = A.take k ++ [A[k]] := List.take_succ_eq_append_getElem k1
        have hsu : B.take (k + 1) = B.take k ++ [B[k]] := List.take_succ_eq_append_getElem k2
        have hno : A[k] ≠ B[k] → r = false := fun h => by
          rw [← HR.out]
          refine decide_eq_false fun e => h ?_
          subst e; rfl
        obtain ⟨x, hx⟩ : ∃ x, A[k] = x := ⟨_, rfl⟩
        obtain ⟨y, hy⟩ : ∃ y, B[k] = y := ⟨_, rfl⟩
        rw [hx] at e0 hst hno
        rw [hy] at e1 hsu hno
        have i0 : (0 : Int) ≤ (k : Int) := by omega
        have i1 : (k : Int) < (n : Int) := by omega
        clear hx hy k1 k2 hne
        by_cases hxy : x = y
        · subst hxy
          have HF2 : Hid (A.take (k + 1) = B.take (k + 1)) := by unfold Hid; rw [hst, hsu, HF.out]
          clear hst hsu hno
          go_wp2
          go_round
          case rel => exact ⟨k + 1, by omega, by go_num, HF2⟩
          case measure => simp [intOf]; omega
        · have hne : (x != y) = true := by simp [hxy]
          have HF2 := Lib.hid (hno hxy)
          clear hst hsu hno
          go_wp2
          go_ret
          exact ⟨ret_bool HF2.out.symm, rfl⟩
      · have HF2 : Hid (r = true) := by
          unfold Hid
          rw [← HR.out]
          have := HF.out
          rw [List.take_of_length_le (by rw [HN.out]; omega), List.take_of_length_le (by rw [HM.out]; omega)] at this
          exact decide_eq_true this
        clear hne
        go_wp2
        go_ret
        exact ⟨ret_bool HF2.out.symm, rfl⟩
  · have HE : Hid (decide (A = B) = false) := decide_eq_false fun e => hl (by rw [e])
    generalize decide (A = B) = r at HE ⊢
    clear H1 H2
    generalize A.length = n1 at *
    generalize B.length = n2 at *
    have hne : ((n1 : Int) != (n2 : Int)) = true := by simp; omega
    go_enter Tryz.func23, Tryz.ntmps23
    go_wp2
    go_ret
    exact ⟨ret_bool HE.out.symm, rfl⟩
end Go.Proofs.YtlflblngbneacabGreatDoor
