/- The contracts of the model's TestPools, ConsistentSets, SurelyGood and SurelyBad. Conditions: the slices read as integers and as truth values, and are short enough to be counted. -/
import Derived.Test.YthfnbnjajcigeaaPoolsSpec
namespace Go.Proofs.Ythfnbnjajcigeaa
open Go.RowKit

/-- What a function that tests pools gives back. -/
def TestsR (n : Int) (P : List Int) (bad : Int) (w : World) (e : Ending) (w' : World) : Prop :=
  ∃ u, e = .returned (.tuple #[u, .bool (testsB n P bad)]) ∧ OwnB w' w.heap.size u (testR n P bad) ∧ Below w.heap.size w w'
theorem OwnB.nil (X : World) (B : Nat) : OwnB X B (.slice none 0 0) [] := World.ownsRow_nil _ _ _ _
theorem TestsR.no {n : Int} {P : List Int} {bad : Int} {w w' : World} (h : testsB n P bad = false) (hb : Below w.heap.size w w') : TestsR n P bad w (.returned (.tuple #[.slice none 0 0, .bool false])) w' := by
  refine ⟨_, by rw [h], ?_, hb⟩
  unfold testR
  rw [h]
  exact OwnB.nil _ _
theorem TestsR.yes {n : Int} {P : List Int} {bad : Int} {w w' : World} {u : Value} (h : testsB n P bad = true) (ho : OwnB w' w.heap.size u (resL P bad)) (hb : Below w.heap.size w w') : TestsR n P bad w (.returned (.tuple #[u, .bool true])) w' := by
  refine ⟨u, by rw [h], ?_, hb⟩
  unfold testR
  rwa [h]

theorem beq_len {A B : List Bool} (h : A.length ≠ B.length) : (A == B) = false := by
  rw [beq_eq_false_iff_ne]
  exact fun e => h (by rw [e])
/-- The sets among the first k. -/
def consK (P : List Int) (R : List Bool) (most : Int) (k : Nat) : List Int :=
  ((List.range k).map fun (j : Nat) => (j : Int)).filter fun b => decide (cntI b ≤ most) && (resL P b == R)
theorem consK_succ (P : List Int) (R : List Bool) (most : Int) (k : Nat) : consK P R most (k + 1) = if (decide (cntI k ≤ most) && (resL P k == R)) = true then consK P R most k ++ [(k : Int)] else consK P R most k := by
  unfold consK
  rw [List.range_succ, List.map_append, List.filter_append]
  simp only [List.map_cons, List.map_nil, List.filter_cons, List.filter_nil]
  split <;> simp
theorem consK_len (P : List Int) (R : List Bool) (most : Int) (k : Nat) : (consK P R most k).length ≤ k := by
  unfold consK
  refine Nat.le_trans (List.length_filter_le _ _) ?_
  simp
def ListsI2 (L : List Int) (w : World) (e : Ending) (w' : World) : Prop := ∃ v, e = .returned v ∧ Own w' w.heap.size v L ∧ Below w.heap.size w w'

theorem getD_at {α : Type} {l : List α} {k : Nat} (d : α) (h : k < l.length) : l.getD k d = l[k] := by
  rw [List.getD_eq_getElem?_getD, List.getElem?_eq_getElem h]
  rfl
end Go.Proofs.Ythfnbnjajcigeaa
