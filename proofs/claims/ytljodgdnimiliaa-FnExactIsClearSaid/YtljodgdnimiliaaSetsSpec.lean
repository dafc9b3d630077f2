/- The contracts of the model's TestPools, ConsistentSets, SurelyGood and SurelyBad. Conditions: the slices read as integers and as truth values, and are short enough to be counted. -/
import Derived.Test.YtljodgdnimiliaaPoolsSpec
namespace Go.Proofs.Ytljodgdnimiliaa
open Go.RowKit

/-- What a function that tests pools gives back. -/
def TestsR (n : Int) (P : List Int) (bad : Int) (w : World) (e : Ending) (w' : World) : Prop :=
  ∃ u, e = .returned (.tuple #[u, .bool (testsB n P bad)]) ∧ OwnB w' w.heap.size u (testR n P bad) ∧ Below w.heap.size w w'
theorem OwnB.nil (X : World) (B : Nat) : OwnB X B (.slice none 0 0) [] := World.ownsRow_nil _ _ _ _
theorem TestsR.no {n : Int} {P : List Int} {bad : Int} {w w' : World} (h : testsB n P bad = false) (hb : Below w.heap.size w w') : TestsR n P bad w (.returned (.tuple #[.slice none 0 0, .bool false])) w' := by
  refine ⟨_, by rw [h], ?_, hb⟩
  unfold testR
  rw [h]
  exact OwnB.nil _ _
theorem TestsR.yes {n : Int} {P : List Int} {bad : Int} {w w' : World} {u : Value} (h : testsB n P bad = true) (ho : OwnB w' w.heap.size u (resL P bad)) (hb : Below w.heap.size w w') : TestsR n P bad w (.returned (.tuple #[u, .bool true])) w' := by
  refine ⟨u, by rw [h], ?_, hb⟩
  unfold testR
  rwa [h]

theorem beq_len {A B : List Bool} (h : A.length ≠ B.length) : (A == B) = false := by
  rw [beq_eq_false_iff_ne]
  exact fun e => h (by rw [e])
set_option maxHeartbeats 1600000 in
theorem specSame (va vb : Value) (A B : List Bool) (w : World) (ha : BoolsAt w va A) (hb : BoolsAt w vb B) (hm : A.length ≤ maxLen) :
    Calls Try.prog 42 #[va, vb] w fun e w' => e = .returned (.bool (A == B)) ∧ w = w' := by
  obtain ⟨a, ca, rfl, ha⟩ := ha
  obtain ⟨b, cb, rfl, hb⟩ := hb
  have HA := Lib.hid ha
  have HB := Lib.hid hb
  unfold maxLen at hm
  obtain ⟨r, hr⟩ : ∃ r, (A == B) = r := ⟨_, rfl⟩
  have HR := Lib.hid hr
  rw [hr]
  clear ha hb hr
  by_cases hl : A.length = B.length
  · obtain ⟨m, hmm⟩ : ∃ m, A.length = m := ⟨_, rfl⟩
    have HL : Hid (A.length = m ∧ B.length = m) := ⟨hmm, by rw [← hl]; exact hmm⟩
    rw [← hl, hmm]
    rw [hmm] at hm
    have hne : ((m : Int) != (m : Int)) = false := by simp
    clear hl hmm
    go_enter Try.func42, Try.ntmps42
    go_wp2
    clear hne
    go_loopw [14] (fun iv wr => ∃ i : Nat, i ≤ m ∧ iv = .int .i64 i ∧ wr = w ∧ Hid (A.take i = B.take i)) (fun iv _ => m - (intOf iv).toNat)
    case atStart => exact ⟨0, Nat.zero_le _, rfl, rfl, by unfold Hid; simp⟩
    case round =>
      obtain ⟨i, hi, rfl, rfl, HT⟩ := hrel
      by_cases hlt : i < m
      · have h1 : i < A.length := by rw [HL.out.1]; exact hlt
        have h2 : i < B.length := by rw [HL.out.2]; exact hlt
        rcases HA.out with h0 | ⟨b1, o1, rfl, c1⟩
        · rw [h0] at h1; simp at h1
        rcases HB.out with h0 | ⟨b2, o2, rfl, c2⟩
        · rw [h0] at h2; simp at h2
        have e1 := c1 i h1
        have e2 := c2 i h2
        have HS : Hid (A[i] = B[i] → A.take (i + 1) = B.take (i + 1)) := fun h => by
          rw [List.take_succ_eq_append_getElem h1, List.take_succ_eq_append_getElem h2, HT.out, h]
        have HF : Hid (A[i] ≠ B[i] → r = false) := fun h => by
          rw [← HR.out, beq_eq_false_iff_ne]
          intro e
          subst e
          exact h rfl
        generalize A[i] = x at e1 HS HF
        generalize B[i] = y at e2 HS HF
        have i0 : (0 : Int) ≤ (i : Int) := by omega
        have i1 : (i : Int) < (m : Int) := by omega
        clear c1 c2 h1 h2
        by_cases hxy : x = y
        · subst hxy
          have HS2 := Lib.hid (HS.out rfl)
          have hne : (x != x) = false := by simp
          go_wp2
          go_roundw
          case rel => exact ⟨i + 1, by omega, by go_num, by first | rfl | trivial, HS2⟩
          case measure => simp [intOf]; omega
        · have hne : (x == y) = false := beq_eq_false_iff_ne.2 hxy
          have HE := Lib.hid (HF.out hxy)
          go_wp2
          go_ret
          exact ⟨ret_bool HE.out.symm, rfl⟩
      · obtain rfl : i = m := by omega
        have HE : Hid (r = true) := by
          have := HT.out
          rw [List.take_of_length_le (by rw [HL.out.1]; omega), List.take_of_length_le (by rw [HL.out.2]; omega)] at this
          unfold Hid
          rw [← HR.out, this]
          simp
        go_wp2
        go_ret
        exact ⟨ret_bool HE.out.symm, rfl⟩
  · have HE : Hid (r = false) := by unfold Hid; rw [← HR.out]; exact beq_len hl
    obtain ⟨m, hmm⟩ : ∃ m, A.length = m := ⟨_, rfl⟩
    obtain ⟨k, hk⟩ : ∃ k, B.length = k := ⟨_, rfl⟩
    rw [hmm, hk] at hl
    rw [hmm] at hm ⊢
    rw [hk]
    have hne : ((m : Int) != (k : Int)) = true := by simp; omega
    clear hmm hk
    go_enter Try.func42, Try.ntmps42
    go_wp2
    go_ret
    exact ⟨ret_bool HE.out.symm, rfl⟩

/-- The sets among the first k. -/
def consK (P : List Int) (R : List Bool) (most : Int) (k : Nat) : List Int :=
  ((List.range k).map fun (j : Nat) => (j : Int)).filter fun b => decide (cntI b ≤ most) && (resL P b == R)
theorem consK_succ (P : List Int) (R : List Bool) (most : Int) (k : Nat) : consK P R most (k + 1) = if (decide (cntI k ≤ most) && (resL P k == R)) = true then consK P R most k ++ [(k : Int)] else consK P R most k := by
  unfold consK
  rw [List.range_succ, List.map_append, List.filter_append]
  simp only [List.map_cons, List.map_nil, List.filter_cons, List.filter_nil]
  split <;> simp
theorem consK_len (P : List Int) (R : List Bool) (most : Int) (k : Nat) : (consK P R most k).length ≤ k := by
  unfold consK
  refine Nat.le_trans (List.length_filter_le _ _) ?_
  simp
def ListsI2 (L : List Int) (w : World) (e : Ending) (w' : World) : Prop := ∃ v, e = .returned v ∧ Own w' w.heap.size v L ∧ Below w.heap.size w w'

theorem getD_at {α : Type} {l : List α} {k : Nat} (d : α) (h : k < l.length) : l.getD k d = l[k] := by
  rw [List.getD_eq_getElem?_getD, List.getElem?_eq_getElem h]
  rfl
end Go.Proofs.Ytljodgdnimiliaa
