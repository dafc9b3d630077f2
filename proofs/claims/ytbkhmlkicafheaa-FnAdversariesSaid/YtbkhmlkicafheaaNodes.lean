/- The contracts of the law's own helpers on plans: the size, the copy into a list of the call's own, and that a plan equals itself. Conditions: the plan's slices read as nodes and are short enough to be counted. -/
import Derived.Test.YtbkhmlkicafheaaGWei
import Derived.Deep.RegionLaw
import Derived.Deep.RegionHeld3
namespace Go.Proofs.Ytbkhmlkicafheaa
open Go.RowKit

/-- The slice value v reads as the nodes of P in the world w. -/
def NodesAt (w : World) (v : Value) (P : List ND) : Prop :=
  ∃ a cap, v = .slice a P.length cap ∧ ∀ i (h : i < P.length), ∃ b off vl vr, a = some ⟨b, off, none⟩ ∧ FiveAt w b (off + i * 5) vl vr P[i] ∧ IntsAt w vl P[i].L ∧ IntsAt w vr P[i].R
theorem NodesAt.below {w w' : World} {v : Value} {P : List ND} (h : NodesAt w v P) (hb : Below w.heap.size w w') : NodesAt w' v P := by
  obtain ⟨a, cap, rfl, h⟩ := h
  refine ⟨a, cap, rfl, fun i hi => ?_⟩
  obtain ⟨b, off, vl, vr, e, h1, h2, h3⟩ := h i hi
  exact ⟨b, off, vl, vr, e, h1.below hb, h2.below hb, h3.below hb⟩

/-- How many numbers the sides of a plan's weighings have together. -/
def sumP : List ND → Nat
  | [] => 0
  | d :: r => d.L.length + d.R.length + sumP r
theorem sumP_app (a b : List ND) : sumP (a ++ b) = sumP a + sumP b := by
  induction a with
  | nil => simp [sumP]
  | cons d r ih => simp [sumP, ih]; omega
theorem sumP_take {P : List ND} {k : Nat} (h : k < P.length) : sumP (P.take (k + 1)) = sumP (P.take k) + (P[k].L.length + P[k].R.length) := by
  rw [List.take_succ_eq_append_getElem h, sumP_app]; simp [sumP]
theorem sumP_mem : ∀ {P : List ND} {d : ND}, d ∈ P → d.L.length + d.R.length ≤ sumP P
  | e :: r, d, h => by
    rw [List.mem_cons] at h
    unfold sumP
    rcases h with rfl | h
    · omega
    · have := sumP_mem h; omega
/-- What the size of a plan says. -/
def SzP (P : List ND) (r : Int) : Prop := r < 0 ∨ 0 ≤ r ∧ r ≤ 1048576 ∧ P.length + sumP P ≤ 1048576
theorem SzP.lists {P : List ND} (h : P.length + sumP P ≤ 1048576) : ∀ d ∈ P, d.L.length ≤ 1048576 ∧ d.R.length ≤ 1048576 := fun d hd => by
  have := sumP_mem hd; omega
/-- The lists of a plan are no longer than any slice. -/
def LenOk (P : List ND) : Prop := ∀ d ∈ P, d.L.length ≤ maxLen ∧ d.R.length ≤ maxLen

end Go.Proofs.Ytbkhmlkicafheaa
