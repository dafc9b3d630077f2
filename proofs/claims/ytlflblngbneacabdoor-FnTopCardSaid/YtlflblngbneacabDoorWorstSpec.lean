/- The contracts of the model's WorstOutcome and LostCases. No condition. -/
import Derived.Test.YtlflblngbneacabDoorAfterLaw
import Derived.Test.YtlflblngbneacabDoorGBounds
namespace Go.Proofs.YtlflblngbneacabDoor
open Go.RowKit

/-- The outcome chosen among the first j and -1. -/
def wstep (n : Int → Int) : Nat → Int
  | 0 => -1
  | j + 1 => if n (wstep n j) < n j then j else wstep n j
theorem worst_step (s : SD) (p : PD) : worstI s p = wstep (fun x => countS (afterS s p x)) 2 := rfl
/-- A row of the two outcomes 0 and 1 lies in block b. -/
def OutRow (w : World) (b : Nat) : Prop := (∀ j : Nat, j < 2 → w.cell? ⟨b, j, none⟩ = some (.int .i64 j)) ∧ b < w.heap.size
theorem OutRow.below {w w' : World} {b : Nat} (h : OutRow w b) (hb : Below w.heap.size w w') : OutRow w' b := by
  refine ⟨fun j hj => ?_, Nat.lt_of_lt_of_le h.2 hb.size⟩
  rw [hb.cell (p := ⟨b, j, none⟩) h.2]
  exact h.1 j hj
theorem OutRow.new (w : World) : OutRow (w.alloc (.cells #[.int .i64 0, .int .i64 1] 3)) w.heap.size := by
  refine ⟨fun j hj => ?_, by simp⟩
  have := lit_cells w w.heap.size rfl [0, 1] (by simp) j (by simpa using hj)
  refine this.trans ?_
  rcases (show j = 0 ∨ j = 1 by omega) with rfl | rfl <;> rfl

theorem tdiv3_in {a : Int} (h0 : 0 ≤ a) (h1 : a ≤ 26) : 0 ≤ (a + 2).tdiv 3 ∧ (a + 2).tdiv 3 ≤ 9 := by
  rw [Int.tdiv_eq_ediv_of_nonneg (by omega)]; omega
end Go.Proofs.YtlflblngbneacabDoor
