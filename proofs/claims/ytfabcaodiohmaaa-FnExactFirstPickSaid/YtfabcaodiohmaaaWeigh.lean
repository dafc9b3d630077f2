/- The contracts of the law's own helpers on weighings: their size, their copy, comparing one with its like, writing marks and finding them. Conditions: the sides read as integers; where they are written they are lists of the call's own, in different blocks. -/
import Derived.Test.YtfabcaodiohmaaaIntArgs
namespace Go.Proofs.Ytfabcaodiohmaaa
open Go.RowKit

/-- Two cells lie in block b. -/
def TwoAt (w : World) (b : Nat) (x y : Value) : Prop := w.cell? ⟨b, 0, none⟩ = some x ∧ w.cell? ⟨b, 1, none⟩ = some y ∧ b < w.heap.size
theorem TwoAt.belowN {w w' : World} {b B : Nat} {x y : Value} (hp : TwoAt w b x y) (hb : Below B w w') (hlt : b < B) : TwoAt w' b x y := by
  obtain ⟨e0, e1, hlt0⟩ := hp
  refine ⟨?_, ?_, Nat.lt_of_lt_of_le hlt0 hb.size⟩
  · rw [hb.cell (p := ⟨b, 0, none⟩) hlt]; exact e0
  · rw [hb.cell (p := ⟨b, 1, none⟩) hlt]; exact e1
theorem TwoAt.below {w w' : World} {b : Nat} {x y : Value} (hp : TwoAt w b x y) (hb : Below w.heap.size w w') : TwoAt w' b x y := hp.belowN hb hp.2.2
theorem TwoAt.new (w : World) (ty : TypeId) (x y : Value) : TwoAt (w.alloc (.cells #[x, y] ty)) w.heap.size x y := by
  refine ⟨?_, ?_, ?_⟩ <;> simp
theorem TwoAt.only {T : Nat → Prop} {w w' : World} {b : Nat} {x y : Value} (hp : TwoAt w b x y) (ho : Only T w w') (hb : ¬ T b) : TwoAt w' b x y := by
  obtain ⟨e0, e1, hlt⟩ := hp
  refine ⟨?_, ?_, Nat.lt_of_lt_of_le hlt ho.size⟩
  · rw [World.cell?_of_block (w := w) (a := ⟨b, 0, none⟩) (ho.block b hlt hb)]; exact e0
  · rw [World.cell?_of_block (w := w) (a := ⟨b, 1, none⟩) (ho.block b hlt hb)]; exact e1

/-- Two cells that may be written lie in block b. -/
def VarAt (w : World) (b : Nat) (x y : Value) : Prop := TwoAt w b x y ∧ w.frozen? ⟨b, 0, none⟩ = false ∧ w.frozen? ⟨b, 1, none⟩ = false
theorem VarAt.belowN {w w' : World} {b B : Nat} {x y : Value} (hp : VarAt w b x y) (hb : Below B w w') (hlt : b < B) : VarAt w' b x y := by
  refine ⟨hp.1.belowN hb hlt, ?_, ?_⟩
  · rw [hb.frozen (p := ⟨b, 0, none⟩) hlt]; exact hp.2.1
  · rw [hb.frozen (p := ⟨b, 1, none⟩) hlt]; exact hp.2.2
theorem VarAt.below {w w' : World} {b : Nat} {x y : Value} (hp : VarAt w b x y) (hb : Below w.heap.size w w') : VarAt w' b x y := hp.belowN hb hp.1.2.2
theorem VarAt.new (w : World) (ty : TypeId) (x y : Value) : VarAt (w.alloc (.cells #[x, y] ty)) w.heap.size x y := by
  refine ⟨TwoAt.new w ty x y, ?_, ?_⟩ <;> simp
theorem VarAt.set0 {w : World} {b : Nat} {x y : Value} (hp : VarAt w b x y) (u : Value) : VarAt (w.setCell ⟨b, 0, none⟩ u) b u y := by
  obtain ⟨⟨e0, e1, h⟩, f0, f1⟩ := hp
  refine ⟨⟨World.cell?_setCell_same (w := w) (a := ⟨b, 0, none⟩) (v := u) e0, ?_, by simpa [World.setCell] using h⟩, by simpa using f0, by simpa using f1⟩
  rw [World.cell?_setCell_other (w := w) (a := ⟨b, 0, none⟩) (b := ⟨b, 1, none⟩) (v := u) (by simp)]; exact e1
theorem VarAt.set1 {w : World} {b : Nat} {x y : Value} (hp : VarAt w b x y) (u : Value) : VarAt (w.setCell ⟨b, 1, none⟩ u) b x u := by
  obtain ⟨⟨e0, e1, h⟩, f0, f1⟩ := hp
  refine ⟨⟨?_, World.cell?_setCell_same (w := w) (a := ⟨b, 1, none⟩) (v := u) e1, by simpa [World.setCell] using h⟩, by simpa using f0, by simpa using f1⟩
  rw [World.cell?_setCell_other (w := w) (a := ⟨b, 1, none⟩) (b := ⟨b, 0, none⟩) (v := u) (by simp)]; exact e0
theorem VarAt.far {w : World} {b c : Nat} {x y : Value} (hp : VarAt w b x y) (o : Nat) (u : Value) (hc : c ≠ b) : VarAt (w.setCell ⟨c, o, none⟩ u) b x y := by
  obtain ⟨⟨e0, e1, h⟩, f0, f1⟩ := hp
  refine ⟨⟨?_, ?_, by simpa [World.setCell] using h⟩, by simpa using f0, by simpa using f1⟩
  · rw [World.cell?_setCell_other (w := w) (a := ⟨c, o, none⟩) (b := ⟨b, 0, none⟩) (v := u) (fun e => hc (congrArg Addr.block e))]; exact e0
  · rw [World.cell?_setCell_other (w := w) (a := ⟨c, o, none⟩) (b := ⟨b, 1, none⟩) (v := u) (fun e => hc (congrArg Addr.block e))]; exact e1
theorem TwoAt.far {w : World} {b c : Nat} {x y : Value} (hp : TwoAt w b x y) (o : Nat) (u : Value) (hc : c ≠ b) : TwoAt (w.setCell ⟨c, o, none⟩ u) b x y := by
  obtain ⟨e0, e1, h⟩ := hp
  refine ⟨?_, ?_, by simpa [World.setCell] using h⟩
  · rw [World.cell?_setCell_other (w := w) (a := ⟨c, o, none⟩) (b := ⟨b, 0, none⟩) (v := u) (fun e => hc (congrArg Addr.block e))]; exact e0
  · rw [World.cell?_setCell_other (w := w) (a := ⟨c, o, none⟩) (b := ⟨b, 1, none⟩) (v := u) (fun e => hc (congrArg Addr.block e))]; exact e1
theorem setCell_size (w : World) (a : Addr) (u : Value) : (w.setCell a u).heap.size = w.heap.size := by simp [World.setCell]
theorem Own.setCell {w : World} {B : Nat} {v : Value} {l : List Int} (h : Own w B v l) {c o : Nat} (hc : c < B) (u : Value) : Own (w.setCell ⟨c, o, none⟩ u) B v l := ownsRow_setCell_below h hc u

theorem alloc_below (w : World) (o : Obj) : Below w.heap.size w (w.alloc o) := (Below.refl _ _).alloc (Nat.le_refl _) _
theorem below_on {B : Nat} {W X w1 : World} (h : Below B W X) (hB : B ≤ X.heap.size) (hb : Below X.heap.size X w1) : Below B W w1 := h.trans (hb.mono hB)
theorem below_up {W X w1 : World} (h : Below W.heap.size W X) (hb : Below X.heap.size X w1) : Below W.heap.size W w1 := h.trans (hb.mono h.size)

/-- What the size of a weighing says. -/
def SzOk (L R : List Int) (left r : Int) : Prop := r < 0 ∨ 0 ≤ r ∧ r ≤ left ∧ (L.length : Int) + (R.length : Int) ≤ left

/-- What the size of a weighing is, unless it is negative. -/
def SzEq (L R : List Int) (left r : Int) : Prop := r < 0 ∨ 0 ≤ r ∧ r + (L.length : Int) + (R.length : Int) = left

/-- A weighing of the call's own: both sides own their blocks, from block B on; the blocks are different ones. -/
def OwnW (w : World) (B : Nat) (v : Value) (L R : List Int) : Prop := ∃ vl vr, v = .agg #[vl, vr] ∧ Own w B vl L ∧ Own w B vr R ∧ Sep vl vr ∧ Solid vl ∧ Solid vr

/-- The blocks of a weighing's two sides. -/
def Sides (vl vr : Value) (k : Nat) : Prop := vl.ownBlock = some k ∨ vr.ownBlock = some k

end Go.Proofs.Ytfabcaodiohmaaa
