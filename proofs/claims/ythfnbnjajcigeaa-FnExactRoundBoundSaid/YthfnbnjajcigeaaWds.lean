/- Lists of weighings: how they read, and the contracts of the law's own helpers for their size and for equality with themselves. Conditions: the slices read as weighings and are short enough to be counted. -/
import Derived.Test.YthfnbnjajcigeaaGWei
import Derived.Deep.RegionLaw
import Derived.Deep.RegionHeld3
namespace Go.Proofs.Ythfnbnjajcigeaa
open Go.RowKit

/-- The sides of a weighing. -/
structure WD where
  L : List Int
  R : List Int
/-- Two cells lie from place o of block b on. -/
def PairAt (w : World) (b o : Nat) (x y : Value) : Prop := w.cell? ⟨b, o, none⟩ = some x ∧ w.cell? ⟨b, o + 1, none⟩ = some y ∧ b < w.heap.size
theorem PairAt.belowN {w w' : World} {b o B : Nat} {x y : Value} (h : PairAt w b o x y) (hb : Below B w w') (hlt : b < B) : PairAt w' b o x y := by
  obtain ⟨e0, e1, h0⟩ := h
  refine ⟨?_, ?_, Nat.lt_of_lt_of_le h0 hb.size⟩
  · rw [hb.cell (p := ⟨b, o, none⟩) hlt]; exact e0
  · rw [hb.cell (p := ⟨b, o + 1, none⟩) hlt]; exact e1
theorem PairAt.below {w w' : World} {b o : Nat} {x y : Value} (h : PairAt w b o x y) (hb : Below w.heap.size w w') : PairAt w' b o x y := h.belowN hb h.2.2
/-- The slice value v reads as the weighings of D. -/
def WdsAt (w : World) (v : Value) (D : List WD) : Prop :=
  ∃ a cap, v = .slice a D.length cap ∧ D.length ≤ cap ∧ ∀ i (h : i < D.length), ∃ b off vl vr, a = some ⟨b, off, none⟩ ∧ PairAt w b (off + i * 2) vl vr ∧ IntsAt w vl D[i].L ∧ IntsAt w vr D[i].R
theorem WdsAt.below {w w' : World} {v : Value} {D : List WD} (h : WdsAt w v D) (hb : Below w.heap.size w w') : WdsAt w' v D := by
  obtain ⟨a, cap, rfl, hc, h⟩ := h
  refine ⟨a, cap, rfl, hc, fun i hi => ?_⟩
  obtain ⟨b, off, vl, vr, e, h1, h2, h3⟩ := h i hi
  exact ⟨b, off, vl, vr, e, h1.below hb, h2.below hb, h3.below hb⟩
theorem WdsAt.form {w : World} {v : Value} {D : List WD} (h : WdsAt w v D) : ∃ a c, v = .slice a D.length c := by
  obtain ⟨a, c, rfl, -⟩ := h
  exact ⟨a, c, rfl⟩
theorem WdsAt.nil (w : World) : WdsAt w (.slice none 0 0) [] := ⟨none, 0, rfl, Nat.le_refl _, fun i hi => by simp at hi⟩

/-- How many numbers the sides of the weighings have together. -/
def sumW : List WD → Nat
  | [] => 0
  | d :: r => d.L.length + d.R.length + sumW r
theorem sumW_app (a b : List WD) : sumW (a ++ b) = sumW a + sumW b := by
  induction a with
  | nil => simp [sumW]
  | cons d r ih => simp [sumW, ih]; omega
theorem sumW_take {D : List WD} {k : Nat} (h : k < D.length) : sumW (D.take (k + 1)) = sumW (D.take k) + (D[k].L.length + D[k].R.length) := by
  rw [List.take_succ_eq_append_getElem h, sumW_app]; simp [sumW]
theorem sumW_mem : ∀ {D : List WD} {d : WD}, d ∈ D → d.L.length + d.R.length ≤ sumW D
  | e :: r, d, h => by
    rw [List.mem_cons] at h
    unfold sumW
    rcases h with rfl | h
    · omega
    · have := sumW_mem h; omega
/-- What the size of a list of weighings says. -/
def SzW (D : List WD) (r : Int) : Prop := r < 0 ∨ 0 ≤ r ∧ r ≤ 1048576 ∧ D.length + sumW D ≤ 1048576
theorem SzW.lists {D : List WD} (h : D.length + sumW D ≤ 1048576) : ∀ d ∈ D, d.L.length ≤ 1048576 ∧ d.R.length ≤ 1048576 := fun d hd => by
  have := sumW_mem hd; omega
theorem sizesW_len {D : List WD} (h : D.length + sumW D ≤ 1048576) : D.length ≤ 1048576 := by omega
/-- The lists are no longer than any slice. -/
def LenW (D : List WD) : Prop := ∀ d ∈ D, d.L.length ≤ maxLen ∧ d.R.length ≤ maxLen

end Go.Proofs.Ythfnbnjajcigeaa
