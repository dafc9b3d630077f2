/- The contracts of the law's own helpers on one node of a plan: its size, its copy, and that it equals itself. Conditions: the sides read as integers and are short enough to be counted. -/
import Derived.Test.YthgdobnegepgoaaPlanPlain
namespace Go.Proofs.Ythgdobnegepgoaa
open Go.RowKit

/-- A node as a value. -/
def nodeV (vl vr : Value) (d : ND) : Value := .agg #[vl, vr, .int .i64 d.a, .int .i64 d.b, .int .i64 d.c]
/-- A node's five cells lie in block b from place o on. -/
def FiveAt (w : World) (b o : Nat) (vl vr : Value) (d : ND) : Prop :=
  w.cell? ⟨b, o, none⟩ = some vl ∧ w.cell? ⟨b, o + 1, none⟩ = some vr ∧ w.cell? ⟨b, o + 2, none⟩ = some (.int .i64 d.a) ∧ w.cell? ⟨b, o + 3, none⟩ = some (.int .i64 d.b) ∧ w.cell? ⟨b, o + 4, none⟩ = some (.int .i64 d.c) ∧ b < w.heap.size
theorem FiveAt.belowN {w w' : World} {b o B : Nat} {x y : Value} {d : ND} (h : FiveAt w b o x y d) (hb : Below B w w') (hlt : b < B) : FiveAt w' b o x y d := by
  obtain ⟨e0, e1, e2, e3, e4, h0⟩ := h
  refine ⟨?_, ?_, ?_, ?_, ?_, Nat.lt_of_lt_of_le h0 hb.size⟩
  · rw [hb.cell (p := ⟨b, o, none⟩) hlt]; exact e0
  · rw [hb.cell (p := ⟨b, o + 1, none⟩) hlt]; exact e1
  · rw [hb.cell (p := ⟨b, o + 2, none⟩) hlt]; exact e2
  · rw [hb.cell (p := ⟨b, o + 3, none⟩) hlt]; exact e3
  · rw [hb.cell (p := ⟨b, o + 4, none⟩) hlt]; exact e4
theorem FiveAt.below {w w' : World} {b o : Nat} {x y : Value} {d : ND} (h : FiveAt w b o x y d) (hb : Below w.heap.size w w') : FiveAt w' b o x y d := h.belowN hb h.2.2.2.2.2
theorem FiveAt.only {T : Nat → Prop} {w w' : World} {b o : Nat} {x y : Value} {d : ND} (h : FiveAt w b o x y d) (ho : Only T w w') (hb : ¬ T b) : FiveAt w' b o x y d := by
  obtain ⟨e0, e1, e2, e3, e4, h0⟩ := h
  have k := ho.block b h0 hb
  refine ⟨?_, ?_, ?_, ?_, ?_, Nat.lt_of_lt_of_le h0 ho.size⟩
  · rw [World.cell?_of_block (w := w) (a := ⟨b, o, none⟩) k]; exact e0
  · rw [World.cell?_of_block (w := w) (a := ⟨b, o + 1, none⟩) k]; exact e1
  · rw [World.cell?_of_block (w := w) (a := ⟨b, o + 2, none⟩) k]; exact e2
  · rw [World.cell?_of_block (w := w) (a := ⟨b, o + 3, none⟩) k]; exact e3
  · rw [World.cell?_of_block (w := w) (a := ⟨b, o + 4, none⟩) k]; exact e4
theorem FiveAt.new (w : World) (ty : TypeId) (x y : Value) (d : ND) : FiveAt (w.alloc (.cells #[x, y, .int .i64 d.a, .int .i64 d.b, .int .i64 d.c] ty)) w.heap.size 0 x y d := by
  refine ⟨?_, ?_, ?_, ?_, ?_, ?_⟩ <;> simp

/-- A node's five cells lie in block b. -/
def Five (w : World) (b : Nat) (x y : Value) (p q r : Int) : Prop :=
  w.cell? ⟨b, 0, none⟩ = some x ∧ w.cell? ⟨b, 1, none⟩ = some y ∧ w.cell? ⟨b, 2, none⟩ = some (.int .i64 p) ∧ w.cell? ⟨b, 3, none⟩ = some (.int .i64 q) ∧ w.cell? ⟨b, 4, none⟩ = some (.int .i64 r) ∧ b < w.heap.size
theorem FiveAt.zero {w : World} {b : Nat} {x y : Value} {d : ND} (h : FiveAt w b 0 x y d) : Five w b x y d.a d.b d.c := h
theorem Five.below {w w' : World} {b : Nat} {x y : Value} {p q r : Int} (h : Five w b x y p q r) (hb : Below w.heap.size w w') : Five w' b x y p q r := FiveAt.below (d := ⟨[], [], p, q, r⟩) (o := 0) h hb
theorem Five.new (w : World) (ty : TypeId) (x y : Value) (p q r : Int) : Five (w.alloc (.cells #[x, y, .int .i64 p, .int .i64 q, .int .i64 r] ty)) w.heap.size x y p q r := FiveAt.new w ty x y ⟨[], [], p, q, r⟩
/-- A variable that holds a node lies in block b; its cells may be written. -/
def FiveVar (w : World) (b : Nat) (x y : Value) (p q r : Int) : Prop :=
  Five w b x y p q r ∧ w.frozen? ⟨b, 0, none⟩ = false ∧ w.frozen? ⟨b, 1, none⟩ = false ∧ w.frozen? ⟨b, 2, none⟩ = false ∧ w.frozen? ⟨b, 3, none⟩ = false ∧ w.frozen? ⟨b, 4, none⟩ = false
theorem FiveVar.new (w : World) (ty : TypeId) (x y : Value) (p q r : Int) : FiveVar (w.alloc (.cells #[x, y, .int .i64 p, .int .i64 q, .int .i64 r] ty)) w.heap.size x y p q r := by
  refine ⟨Five.new w ty x y p q r, ?_, ?_, ?_, ?_, ?_⟩ <;> simp
theorem FiveVar.below {w w' : World} {b : Nat} {x y : Value} {p q r : Int} (h : FiveVar w b x y p q r) (hb : Below w.heap.size w w') : FiveVar w' b x y p q r := by
  have hlt := h.1.2.2.2.2.2
  refine ⟨h.1.below hb, ?_, ?_, ?_, ?_, ?_⟩
  · rw [hb.frozen (p := ⟨b, 0, none⟩) hlt]; exact h.2.1
  · rw [hb.frozen (p := ⟨b, 1, none⟩) hlt]; exact h.2.2.1
  · rw [hb.frozen (p := ⟨b, 2, none⟩) hlt]; exact h.2.2.2.1
  · rw [hb.frozen (p := ⟨b, 3, none⟩) hlt]; exact h.2.2.2.2.1
  · rw [hb.frozen (p := ⟨b, 4, none⟩) hlt]; exact h.2.2.2.2.2

/-- The first n cells of block b are given by f, and may be written. -/
def Cells (w : World) (b n : Nat) (f : Nat → Value) : Prop := b < w.heap.size ∧ ∀ o, o < n → w.cell? ⟨b, o, none⟩ = some (f o) ∧ w.frozen? ⟨b, o, none⟩ = false
theorem Cells.set {w : World} {b n : Nat} {f : Nat → Value} (h : Cells w b n f) (i : Nat) (hi : i < n) (u : Value) : Cells (w.setCell ⟨b, i, none⟩ u) b n (fun o => if o = i then u else f o) := by
  refine ⟨by simpa [World.setCell] using h.1, fun o ho => ⟨?_, by simpa using (h.2 o ho).2⟩⟩
  by_cases e : o = i
  · subst e
    simp only [if_pos]
    exact World.cell?_setCell_same (w := w) (a := ⟨b, o, none⟩) (v := u) (h.2 o ho).1
  · simp only [if_neg e]
    rw [World.cell?_setCell_other (w := w) (a := ⟨b, i, none⟩) (b := ⟨b, o, none⟩) (v := u) (fun e' => e (congrArg Addr.off e').symm)]
    exact (h.2 o ho).1
theorem Cells.far {w : World} {b n c : Nat} {f : Nat → Value} (h : Cells w b n f) (hc : c ≠ b) (i : Nat) (u : Value) : Cells (w.setCell ⟨c, i, none⟩ u) b n f :=
  ⟨by simpa [World.setCell] using h.1, fun o ho => ⟨by rw [World.cell?_setCell_other (w := w) (a := ⟨c, i, none⟩) (b := ⟨b, o, none⟩) (v := u) (fun e => hc (congrArg Addr.block e))]; exact (h.2 o ho).1, by simpa using (h.2 o ho).2⟩⟩
theorem FiveVar.cells {w : World} {b : Nat} {x y : Value} {p q r : Int} (h : FiveVar w b x y p q r) : ∃ f, Cells w b 5 f :=
  ⟨fun o => if o = 0 then x else if o = 1 then y else if o = 2 then .int .i64 p else if o = 3 then .int .i64 q else .int .i64 r, h.1.2.2.2.2.2, fun o ho => match o, ho with
    | 0, _ => ⟨h.1.1, h.2.1⟩
    | 1, _ => ⟨h.1.2.1, h.2.2.1⟩
    | 2, _ => ⟨h.1.2.2.1, h.2.2.2.1⟩
    | 3, _ => ⟨h.1.2.2.2.1, h.2.2.2.2.1⟩
    | 4, _ => ⟨h.1.2.2.2.2.1, h.2.2.2.2.2⟩⟩
/-- Five cells written one behind another. -/
def set5 (w : World) (b : Nat) (x y : Value) (p q r : Int) : World :=
  ((((w.setCell ⟨b, 0, none⟩ x).setCell ⟨b, 1, none⟩ y).setCell ⟨b, 2, none⟩ (.int .i64 p)).setCell ⟨b, 3, none⟩ (.int .i64 q)).setCell ⟨b, 4, none⟩ (.int .i64 r)
theorem Cells.set5 {w : World} {b : Nat} {f : Nat → Value} (h : Cells w b 5 f) (x y : Value) (p q r : Int) : Five (set5 w b x y p q r) b x y p q r := by
  have k := ((((h.set 0 (by omega) x).set 1 (by omega) y).set 2 (by omega) (.int .i64 p)).set 3 (by omega) (.int .i64 q)).set 4 (by omega) (.int .i64 r)
  exact ⟨(k.2 0 (by omega)).1, (k.2 1 (by omega)).1, (k.2 2 (by omega)).1, (k.2 3 (by omega)).1, (k.2 4 (by omega)).1, k.1⟩
theorem Cells.far5 {w : World} {b n c : Nat} {f : Nat → Value} (h : Cells w b n f) (hc : c ≠ b) (x y : Value) (p q r : Int) : Cells (Go.Proofs.Ythgdobnegepgoaa.set5 w c x y p q r) b n f := ((((h.far hc 0 x).far hc 1 y).far hc 2 _).far hc 3 _).far hc 4 _
theorem Own.set5 {w : World} {B : Nat} {v : Value} {l : List Int} (h : Own w B v l) {c : Nat} (hc : c < B) (x y : Value) (p q r : Int) : Own (Go.Proofs.Ythgdobnegepgoaa.set5 w c x y p q r) B v l := ((((h.setCell hc x).setCell hc y).setCell hc _).setCell hc _).setCell hc _
theorem below_set5 {w W : World} {B : Nat} (h : Below B W w) {c : Nat} (hc : B ≤ c) (x y : Value) (p q r : Int) : Below B W (set5 w c x y p q r) :=
  ((((h.setCell (p := ⟨c, 0, none⟩) hc x).setCell (p := ⟨c, 1, none⟩) hc y).setCell (p := ⟨c, 2, none⟩) hc _).setCell (p := ⟨c, 3, none⟩) hc _).setCell (p := ⟨c, 4, none⟩) hc _

end Go.Proofs.Ythgdobnegepgoaa
