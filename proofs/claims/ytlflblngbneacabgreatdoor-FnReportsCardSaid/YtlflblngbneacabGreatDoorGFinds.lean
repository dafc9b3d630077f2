/- Several texts in one file; each says what it proves and under which condition. No condition. -/
import Derived.Test.YtlflblngbneacabGreatDoorGStates
/- The contract of the model's completion of a pick by good coins. Conditions: a valid state, a pick within it without good coins. -/
namespace Go.Proofs.YtlflblngbneacabGreatDoor
open Go.RowKit

/-- A pick's eight cells lie in block b and may be written. -/
def EightVar (w : World) (b : Nat) (p : PD) : Prop :=
  PickAt w b p ∧ w.frozen? ⟨b, 0, none⟩ = false ∧ w.frozen? ⟨b, 1, none⟩ = false ∧ w.frozen? ⟨b, 2, none⟩ = false ∧ w.frozen? ⟨b, 3, none⟩ = false ∧ w.frozen? ⟨b, 4, none⟩ = false ∧ w.frozen? ⟨b, 5, none⟩ = false ∧ w.frozen? ⟨b, 6, none⟩ = false ∧ w.frozen? ⟨b, 7, none⟩ = false
theorem EightVar.below {w w' : World} {b : Nat} {p : PD} (h : EightVar w b p) (hb : Below w.heap.size w w') : EightVar w' b p := by
  have hlt : b < w.heap.size := h.1.2.2.2.2.2.2.2.2
  obtain ⟨hp, f0, f1, f2, f3, f4, f5, f6, f7⟩ := h
  refine ⟨hp.below hb, ?_, ?_, ?_, ?_, ?_, ?_, ?_, ?_⟩
  · rw [hb.frozen (p := ⟨b, 0, none⟩) hlt]; exact f0
  · rw [hb.frozen (p := ⟨b, 1, none⟩) hlt]; exact f1
  · rw [hb.frozen (p := ⟨b, 2, none⟩) hlt]; exact f2
  · rw [hb.frozen (p := ⟨b, 3, none⟩) hlt]; exact f3
  · rw [hb.frozen (p := ⟨b, 4, none⟩) hlt]; exact f4
  · rw [hb.frozen (p := ⟨b, 5, none⟩) hlt]; exact f5
  · rw [hb.frozen (p := ⟨b, 6, none⟩) hlt]; exact f6
  · rw [hb.frozen (p := ⟨b, 7, none⟩) hlt]; exact f7
theorem EightVar.new (w : World) (ty : TypeId) (p : PD) : EightVar (w.alloc (.cells #[.int .i64 p.bl, .int .i64 p.br, .int .i64 p.hl, .int .i64 p.hr, .int .i64 p.ll, .int .i64 p.lr, .int .i64 p.gl, .int .i64 p.gr] ty)) w.heap.size p := by
  refine ⟨PickAt.new w ty p, ?_, ?_, ?_, ?_, ?_, ?_, ?_, ?_⟩ <;> simp

end Go.Proofs.YtlflblngbneacabGreatDoor

/- The contract of the model's test of a pick, round the contract of the search with one weighing fewer. Conditions: a valid state, a pick within it. -/
namespace Go.Proofs.YtlflblngbneacabGreatDoor
open Go.RowKit

theorem all_step {α : Type} {l : List α} {i : Nat} (f : α → Bool) (h : i < l.length) : (l.drop i).all f = (f l[i] && (l.drop (i + 1)).all f) := by
  rw [List.drop_eq_getElem_cons h, List.all_cons]
theorem all_over {α : Type} {l : List α} {i : Nat} (f : α → Bool) (h : l.length ≤ i) : (l.drop i).all f = true := by
  rw [List.drop_of_length_le h]; rfl
end Go.Proofs.YtlflblngbneacabGreatDoor

/- The contract of the model's search over the light coins of a pick, round the contract of the search with one weighing fewer. Conditions: a valid state, a pick of its other coins. -/
namespace Go.Proofs.YtlflblngbneacabGreatDoor
open Go.RowKit

theorem StateAt.far {w : World} {b : Nat} {s : SD} (h : StateAt w b s) (c k : Nat) (v : Value) (hne : c ≠ b) : StateAt (w.setCell ⟨c, k, none⟩ v) b s := by
  obtain ⟨e0, e1, e2, e3, hlt⟩ := h
  refine ⟨?_, ?_, ?_, ?_, by rw [setCell_size]; exact hlt⟩
  all_goals (rw [World.cell?_setCell_far _ _ _ _ hne]; assumption)
theorem EightVar.far {w : World} {b : Nat} {p : PD} (h : EightVar w b p) (c k : Nat) (v : Value) (hne : c ≠ b) : EightVar (w.setCell ⟨c, k, none⟩ v) b p := by
  obtain ⟨⟨e0, e1, e2, e3, e4, e5, e6, e7, hlt⟩, f0, f1, f2, f3, f4, f5, f6, f7⟩ := h
  refine ⟨⟨?_, ?_, ?_, ?_, ?_, ?_, ?_, ?_, by rw [setCell_size]; exact hlt⟩, ?_, ?_, ?_, ?_, ?_, ?_, ?_, ?_⟩
  all_goals first
    | (rw [World.cell?_setCell_far _ _ _ _ hne]; assumption)
    | (rw [World.frozen?_setCell]; assumption)
theorem EightVar.set0 {w : World} {b : Nat} {p : PD} (h : EightVar w b p) (x : Int) : EightVar (w.setCell ⟨b, 0, none⟩ (.int .i64 x)) b { p with bl := x } := by
  obtain ⟨⟨e0, e1, e2, e3, e4, e5, e6, e7, hlt⟩, f0, f1, f2, f3, f4, f5, f6, f7⟩ := h
  exact ⟨⟨World.cell?_setCell_same _ _ _ e0, (World.cell?_setCell_other _ _ _ _ (by simp)).trans e1, (World.cell?_setCell_other _ _ _ _ (by simp)).trans e2, (World.cell?_setCell_other _ _ _ _ (by simp)).trans e3, (World.cell?_setCell_other _ _ _ _ (by simp)).trans e4, (World.cell?_setCell_other _ _ _ _ (by simp)).trans e5, (World.cell?_setCell_other _ _ _ _ (by simp)).trans e6, (World.cell?_setCell_other _ _ _ _ (by simp)).trans e7, by rw [setCell_size]; exact hlt⟩, (by rw [World.frozen?_setCell]; exact f0), (by rw [World.frozen?_setCell]; exact f1), (by rw [World.frozen?_setCell]; exact f2), (by rw [World.frozen?_setCell]; exact f3), (by rw [World.frozen?_setCell]; exact f4), (by rw [World.frozen?_setCell]; exact f5), (by rw [World.frozen?_setCell]; exact f6), (by rw [World.frozen?_setCell]; exact f7)⟩
theorem EightVar.set1 {w : World} {b : Nat} {p : PD} (h : EightVar w b p) (x : Int) : EightVar (w.setCell ⟨b, 1, none⟩ (.int .i64 x)) b { p with br := x } := by
  obtain ⟨⟨e0, e1, e2, e3, e4, e5, e6, e7, hlt⟩, f0, f1, f2, f3, f4, f5, f6, f7⟩ := h
  exact ⟨⟨(World.cell?_setCell_other _ _ _ _ (by simp)).trans e0, World.cell?_setCell_same _ _ _ e1, (World.cell?_setCell_other _ _ _ _ (by simp)).trans e2, (World.cell?_setCell_other _ _ _ _ (by simp)).trans e3, (World.cell?_setCell_other _ _ _ _ (by simp)).trans e4, (World.cell?_setCell_other _ _ _ _ (by simp)).trans e5, (World.cell?_setCell_other _ _ _ _ (by simp)).trans e6, (World.cell?_setCell_other _ _ _ _ (by simp)).trans e7, by rw [setCell_size]; exact hlt⟩, (by rw [World.frozen?_setCell]; exact f0), (by rw [World.frozen?_setCell]; exact f1), (by rw [World.frozen?_setCell]; exact f2), (by rw [World.frozen?_setCell]; exact f3), (by rw [World.frozen?_setCell]; exact f4), (by rw [World.frozen?_setCell]; exact f5), (by rw [World.frozen?_setCell]; exact f6), (by rw [World.frozen?_setCell]; exact f7)⟩
theorem EightVar.set2 {w : World} {b : Nat} {p : PD} (h : EightVar w b p) (x : Int) : EightVar (w.setCell ⟨b, 2, none⟩ (.int .i64 x)) b { p with hl := x } := by
  obtain ⟨⟨e0, e1, e2, e3, e4, e5, e6, e7, hlt⟩, f0, f1, f2, f3, f4, f5, f6, f7⟩ := h
  exact ⟨⟨(World.cell?_setCell_other _ _ _ _ (by simp)).trans e0, (World.cell?_setCell_other _ _ _ _ (by simp)).trans e1, World.cell?_setCell_same _ _ _ e2, (World.cell?_setCell_other _ _ _ _ (by simp)).trans e3, (World.cell?_setCell_other _ _ _ _ (by simp)).trans e4, (World.cell?_setCell_other _ _ _ _ (by simp)).trans e5, (World.cell?_setCell_other _ _ _ _ (by simp)).trans e6, (World.cell?_setCell_other _ _ _ _ (by simp)).trans e7, by rw [setCell_size]; exact hlt⟩, (by rw [World.frozen?_setCell]; exact f0), (by rw [World.frozen?_setCell]; exact f1), (by rw [World.frozen?_setCell]; exact f2), (by rw [World.frozen?_setCell]; exact f3), (by rw [World.frozen?_setCell]; exact f4), (by rw [World.frozen?_setCell]; exact f5), (by rw [World.frozen?_setCell]; exact f6), (by rw [World.frozen?_setCell]; exact f7)⟩
theorem EightVar.set3 {w : World} {b : Nat} {p : PD} (h : EightVar w b p) (x : Int) : EightVar (w.setCell ⟨b, 3, none⟩ (.int .i64 x)) b { p with hr := x } := by
  obtain ⟨⟨e0, e1, e2, e3, e4, e5, e6, e7, hlt⟩, f0, f1, f2, f3, f4, f5, f6, f7⟩ := h
  exact ⟨⟨(World.cell?_setCell_other _ _ _ _ (by simp)).trans e0, (World.cell?_setCell_other _ _ _ _ (by simp)).trans e1, (World.cell?_setCell_other _ _ _ _ (by simp)).trans e2, World.cell?_setCell_same _ _ _ e3, (World.cell?_setCell_other _ _ _ _ (by simp)).trans e4, (World.cell?_setCell_other _ _ _ _ (by simp)).trans e5, (World.cell?_setCell_other _ _ _ _ (by simp)).trans e6, (World.cell?_setCell_other _ _ _ _ (by simp)).trans e7, by rw [setCell_size]; exact hlt⟩, (by rw [World.frozen?_setCell]; exact f0), (by rw [World.frozen?_setCell]; exact f1), (by rw [World.frozen?_setCell]; exact f2), (by rw [World.frozen?_setCell]; exact f3), (by rw [World.frozen?_setCell]; exact f4), (by rw [World.frozen?_setCell]; exact f5), (by rw [World.frozen?_setCell]; exact f6), (by rw [World.frozen?_setCell]; exact f7)⟩
theorem EightVar.set4 {w : World} {b : Nat} {p : PD} (h : EightVar w b p) (x : Int) : EightVar (w.setCell ⟨b, 4, none⟩ (.int .i64 x)) b { p with ll := x } := by
  obtain ⟨⟨e0, e1, e2, e3, e4, e5, e6, e7, hlt⟩, f0, f1, f2, f3, f4, f5, f6, f7⟩ := h
  exact ⟨⟨(World.cell?_setCell_other _ _ _ _ (by simp)).trans e0, (World.cell?_setCell_other _ _ _ _ (by simp)).trans e1, (World.cell?_setCell_other _ _ _ _ (by simp)).trans e2, (World.cell?_setCell_other _ _ _ _ (by simp)).trans e3, World.cell?_setCell_same _ _ _ e4, (World.cell?_setCell_other _ _ _ _ (by simp)).trans e5, (World.cell?_setCell_other _ _ _ _ (by simp)).trans e6, (World.cell?_setCell_other _ _ _ _ (by simp)).trans e7, by rw [setCell_size]; exact hlt⟩, (by rw [World.frozen?_setCell]; exact f0), (by rw [World.frozen?_setCell]; exact f1), (by rw [World.frozen?_setCell]; exact f2), (by rw [World.frozen?_setCell]; exact f3), (by rw [World.frozen?_setCell]; exact f4), (by rw [World.frozen?_setCell]; exact f5), (by rw [World.frozen?_setCell]; exact f6), (by rw [World.frozen?_setCell]; exact f7)⟩
theorem EightVar.set5 {w : World} {b : Nat} {p : PD} (h : EightVar w b p) (x : Int) : EightVar (w.setCell ⟨b, 5, none⟩ (.int .i64 x)) b { p with lr := x } := by
  obtain ⟨⟨e0, e1, e2, e3, e4, e5, e6, e7, hlt⟩, f0, f1, f2, f3, f4, f5, f6, f7⟩ := h
  exact ⟨⟨(World.cell?_setCell_other _ _ _ _ (by simp)).trans e0, (World.cell?_setCell_other _ _ _ _ (by simp)).trans e1, (World.cell?_setCell_other _ _ _ _ (by simp)).trans e2, (World.cell?_setCell_other _ _ _ _ (by simp)).trans e3, (World.cell?_setCell_other _ _ _ _ (by simp)).trans e4, World.cell?_setCell_same _ _ _ e5, (World.cell?_setCell_other _ _ _ _ (by simp)).trans e6, (World.cell?_setCell_other _ _ _ _ (by simp)).trans e7, by rw [setCell_size]; exact hlt⟩, (by rw [World.frozen?_setCell]; exact f0), (by rw [World.frozen?_setCell]; exact f1), (by rw [World.frozen?_setCell]; exact f2), (by rw [World.frozen?_setCell]; exact f3), (by rw [World.frozen?_setCell]; exact f4), (by rw [World.frozen?_setCell]; exact f5), (by rw [World.frozen?_setCell]; exact f6), (by rw [World.frozen?_setCell]; exact f7)⟩
theorem EightVar.set6 {w : World} {b : Nat} {p : PD} (h : EightVar w b p) (x : Int) : EightVar (w.setCell ⟨b, 6, none⟩ (.int .i64 x)) b { p with gl := x } := by
  obtain ⟨⟨e0, e1, e2, e3, e4, e5, e6, e7, hlt⟩, f0, f1, f2, f3, f4, f5, f6, f7⟩ := h
  exact ⟨⟨(World.cell?_setCell_other _ _ _ _ (by simp)).trans e0, (World.cell?_setCell_other _ _ _ _ (by simp)).trans e1, (World.cell?_setCell_other _ _ _ _ (by simp)).trans e2, (World.cell?_setCell_other _ _ _ _ (by simp)).trans e3, (World.cell?_setCell_other _ _ _ _ (by simp)).trans e4, (World.cell?_setCell_other _ _ _ _ (by simp)).trans e5, World.cell?_setCell_same _ _ _ e6, (World.cell?_setCell_other _ _ _ _ (by simp)).trans e7, by rw [setCell_size]; exact hlt⟩, (by rw [World.frozen?_setCell]; exact f0), (by rw [World.frozen?_setCell]; exact f1), (by rw [World.frozen?_setCell]; exact f2), (by rw [World.frozen?_setCell]; exact f3), (by rw [World.frozen?_setCell]; exact f4), (by rw [World.frozen?_setCell]; exact f5), (by rw [World.frozen?_setCell]; exact f6), (by rw [World.frozen?_setCell]; exact f7)⟩
theorem EightVar.set7 {w : World} {b : Nat} {p : PD} (h : EightVar w b p) (x : Int) : EightVar (w.setCell ⟨b, 7, none⟩ (.int .i64 x)) b { p with gr := x } := by
  obtain ⟨⟨e0, e1, e2, e3, e4, e5, e6, e7, hlt⟩, f0, f1, f2, f3, f4, f5, f6, f7⟩ := h
  exact ⟨⟨(World.cell?_setCell_other _ _ _ _ (by simp)).trans e0, (World.cell?_setCell_other _ _ _ _ (by simp)).trans e1, (World.cell?_setCell_other _ _ _ _ (by simp)).trans e2, (World.cell?_setCell_other _ _ _ _ (by simp)).trans e3, (World.cell?_setCell_other _ _ _ _ (by simp)).trans e4, (World.cell?_setCell_other _ _ _ _ (by simp)).trans e5, (World.cell?_setCell_other _ _ _ _ (by simp)).trans e6, World.cell?_setCell_same _ _ _ e7, by rw [setCell_size]; exact hlt⟩, (by rw [World.frozen?_setCell]; exact f0), (by rw [World.frozen?_setCell]; exact f1), (by rw [World.frozen?_setCell]; exact f2), (by rw [World.frozen?_setCell]; exact f3), (by rw [World.frozen?_setCell]; exact f4), (by rw [World.frozen?_setCell]; exact f5), (by rw [World.frozen?_setCell]; exact f6), (by rw [World.frozen?_setCell]; exact f7)⟩
theorem EightVar.fill {w : World} {b : Nat} {p : PD} (h : EightVar w b p) (q : PD) : EightVar ((((((((w.setCell ⟨b, 0, none⟩ (.int .i64 q.bl)).setCell ⟨b, 1, none⟩ (.int .i64 q.br)).setCell ⟨b, 2, none⟩ (.int .i64 q.hl)).setCell ⟨b, 3, none⟩ (.int .i64 q.hr)).setCell ⟨b, 4, none⟩ (.int .i64 q.ll)).setCell ⟨b, 5, none⟩ (.int .i64 q.lr)).setCell ⟨b, 6, none⟩ (.int .i64 q.gl)).setCell ⟨b, 7, none⟩ (.int .i64 q.gr)) b q := by
  exact ((((((((h.set0 q.bl).set1 q.br).set2 q.hl).set3 q.hr).set4 q.ll).set5 q.lr).set6 q.gl).set7 q.gr)
theorem EightVar.fillFar {w : World} {b c : Nat} {p : PD} (h : EightVar w b p) (hne : c ≠ b) (q : PD) : EightVar ((((((((w.setCell ⟨c, 0, none⟩ (.int .i64 q.bl)).setCell ⟨c, 1, none⟩ (.int .i64 q.br)).setCell ⟨c, 2, none⟩ (.int .i64 q.hl)).setCell ⟨c, 3, none⟩ (.int .i64 q.hr)).setCell ⟨c, 4, none⟩ (.int .i64 q.ll)).setCell ⟨c, 5, none⟩ (.int .i64 q.lr)).setCell ⟨c, 6, none⟩ (.int .i64 q.gl)).setCell ⟨c, 7, none⟩ (.int .i64 q.gr)) b p := by
  exact ((((((((h.far c 0 _ hne).far c 1 _ hne).far c 2 _ hne).far c 3 _ hne).far c 4 _ hne).far c 5 _ hne).far c 6 _ hne).far c 7 _ hne)
theorem StateAt.fillFar {w : World} {b c : Nat} {s : SD} (h : StateAt w b s) (hne : c ≠ b) (q : PD) : StateAt ((((((((w.setCell ⟨c, 0, none⟩ (.int .i64 q.bl)).setCell ⟨c, 1, none⟩ (.int .i64 q.br)).setCell ⟨c, 2, none⟩ (.int .i64 q.hl)).setCell ⟨c, 3, none⟩ (.int .i64 q.hr)).setCell ⟨c, 4, none⟩ (.int .i64 q.ll)).setCell ⟨c, 5, none⟩ (.int .i64 q.lr)).setCell ⟨c, 6, none⟩ (.int .i64 q.gl)).setCell ⟨c, 7, none⟩ (.int .i64 q.gr)) b s := by
  exact ((((((((h.far c 0 _ hne).far c 1 _ hne).far c 2 _ hne).far c 3 _ hne).far c 4 _ hne).far c 5 _ hne).far c 6 _ hne).far c 7 _ hne)
theorem below_fill {B : Nat} {a w : World} (h : Below B a w) {b : Nat} (hb : B ≤ b) (q : PD) : Below B a ((((((((w.setCell ⟨b, 0, none⟩ (.int .i64 q.bl)).setCell ⟨b, 1, none⟩ (.int .i64 q.br)).setCell ⟨b, 2, none⟩ (.int .i64 q.hl)).setCell ⟨b, 3, none⟩ (.int .i64 q.hr)).setCell ⟨b, 4, none⟩ (.int .i64 q.ll)).setCell ⟨b, 5, none⟩ (.int .i64 q.lr)).setCell ⟨b, 6, none⟩ (.int .i64 q.gl)).setCell ⟨b, 7, none⟩ (.int .i64 q.gr)) := by
  exact ((((((((h.setCell hb _).setCell hb _).setCell hb _).setCell hb _).setCell hb _).setCell hb _).setCell hb _).setCell hb _)

end Go.Proofs.YtlflblngbneacabGreatDoor

/- The contract of the model's search for the first pick, round the contract of the search with one weighing fewer; and with it the search itself, by induction. Conditions: a valid state, at most three weighings. -/
namespace Go.Proofs.YtlflblngbneacabGreatDoor
open Go.RowKit

theorem opt_split {α : Type} (t : Option α) (z : α) : ∃ g ok, t.getD z = g ∧ t.isSome = ok ∧ (ok = true → t = some g) ∧ (ok = false → t = none) := by
  cases t with
  | none => exact ⟨z, false, rfl, rfl, fun h => (Bool.false_ne_true h).elim, fun _ => rfl⟩
  | some g => exact ⟨g, true, rfl, rfl, fun _ => rfl, fun h => (Bool.false_ne_true h.symm).elim⟩

end Go.Proofs.YtlflblngbneacabGreatDoor

/- The contract of the model's search for a case, by induction on the number of weighings. Conditions: a valid state, at most three weighings. -/
namespace Go.Proofs.YtlflblngbneacabGreatDoor
open Go.RowKit

end Go.Proofs.YtlflblngbneacabGreatDoor

/- The contracts of the model's CanFind, FewestFor and FirstPick. No condition. -/
namespace Go.Proofs.YtlflblngbneacabGreatDoor
open Go.RowKit

/-- No fewer weighings are enough. -/
def NoneTo (s : SD) (i : Nat) : Prop := ∀ j : Nat, j < i → findB s (j : Int) = false
theorem fewest_at {s : SD} {i : Nat} (h : NoneTo s i) (hi : i ≤ 3) (hf : findB s (i : Int) = true) : fewestI s = (i : Int) := by
  unfold fewestI
  rcases (show i = 0 ∨ i = 1 ∨ i = 2 ∨ i = 3 by omega) with rfl | rfl | rfl | rfl
  · rw [if_pos (show findB s 0 = true from hf)]; rfl
  · rw [if_neg (by rw [show (0 : Int) = ((0 : Nat) : Int) from rfl, h 0 (by omega)]; exact Bool.false_ne_true), if_pos (show findB s 1 = true from hf)]; rfl
  · rw [if_neg (by rw [show (0 : Int) = ((0 : Nat) : Int) from rfl, h 0 (by omega)]; exact Bool.false_ne_true), if_neg (by rw [show (1 : Int) = ((1 : Nat) : Int) from rfl, h 1 (by omega)]; exact Bool.false_ne_true), if_pos (show findB s 2 = true from hf)]; rfl
  · rw [if_neg (by rw [show (0 : Int) = ((0 : Nat) : Int) from rfl, h 0 (by omega)]; exact Bool.false_ne_true), if_neg (by rw [show (1 : Int) = ((1 : Nat) : Int) from rfl, h 1 (by omega)]; exact Bool.false_ne_true), if_neg (by rw [show (2 : Int) = ((2 : Nat) : Int) from rfl, h 2 (by omega)]; exact Bool.false_ne_true), if_pos (show findB s 3 = true from hf)]; rfl
theorem fewest_none {s : SD} (h : NoneTo s 4) : fewestI s = -1 := by
  unfold fewestI
  rw [if_neg (by rw [show (0 : Int) = ((0 : Nat) : Int) from rfl, h 0 (by omega)]; exact Bool.false_ne_true), if_neg (by rw [show (1 : Int) = ((1 : Nat) : Int) from rfl, h 1 (by omega)]; exact Bool.false_ne_true), if_neg (by rw [show (2 : Int) = ((2 : Nat) : Int) from rfl, h 2 (by omega)]; exact Bool.false_ne_true), if_neg (by rw [show (3 : Int) = ((3 : Nat) : Int) from rfl, h 3 (by omega)]; exact Bool.false_ne_true)]
theorem none_succ {s : SD} {i : Nat} (h : NoneTo s i) (hf : findB s (i : Int) = false) : NoneTo s (i + 1) := fun j hj => by
  by_cases e : j = i
  · subst e; exact hf
  · exact h j (by omega)

end Go.Proofs.YtlflblngbneacabGreatDoor

/- The walks of the exact laws of CanFind, FewestFor and FirstPick round the contracts of the program's functions: each returns true for every argument. No condition. -/
namespace Go.Proofs.YtlflblngbneacabGreatDoor
open Go.RowKit

/-- The contracts of functions of a state, and of a state and a number. -/
def CanFindIs (f : FuncId) (s : SD) (k : Int) : Prop := ∀ W, Calls Tryz.prog f #[stateV s, .int .i64 k] W fun e w' => e = .returned (.bool (findB s k)) ∧ Below W.heap.size W w'
def FewestIs (f : FuncId) (s : SD) : Prop := ∀ W, Calls Tryz.prog f #[stateV s] W fun e w' => e = .returned (.int .i64 (fewestI s)) ∧ Below W.heap.size W w'
def FirstPickIs (f : FuncId) (s : SD) (k : Int) : Prop := ∀ W, Calls Tryz.prog f #[stateV s, .int .i64 k] W fun e w' => e = .returned (.tuple #[pickV ((pickO s k).getD zeroP), .bool (pickO s k).isSome]) ∧ Below W.heap.size W w'

end Go.Proofs.YtlflblngbneacabGreatDoor
