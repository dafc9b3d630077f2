/- The walk of the exact law of AfterPick round the contract of the program's function: it returns true for every argument. No condition. -/
import Derived.Test.YtlflblngbneacabDoorGStates
import Derived.Deep.DeepCutAuto
namespace Go.Proofs.YtlflblngbneacabDoor
open Go.RowKit

/-- A state's four cells of one's own, behind what is older than B. -/
def Fresh4 (B : Nat) (w : World) (b : Nat) (s : SD) : Prop := FourVar w b s ∧ B < b
theorem Fresh4.new {B : Nat} {w : World} (h : B < w.heap.size) (ty : TypeId) (s : SD) : Fresh4 B (w.alloc (.cells #[.int .i64 s.b, .int .i64 s.h, .int .i64 s.l, .int .i64 s.g] ty)) w.heap.size s := ⟨FourVar.new w ty s, h⟩
theorem Fresh4.below {B : Nat} {w w' : World} {b : Nat} {s : SD} (h : Fresh4 B w b s) (hb : Below w.heap.size w w') : Fresh4 B w' b s := ⟨h.1.below hb, h.2⟩
theorem StateAt.cells {w : World} {b : Nat} {s : SD} (h : StateAt w b s) : w.cell? ⟨b, 0, none⟩ = some (.int .i64 s.b) ∧ w.cell? ⟨b, 1, none⟩ = some (.int .i64 s.h) ∧ w.cell? ⟨b, 2, none⟩ = some (.int .i64 s.l) ∧ w.cell? ⟨b, 3, none⟩ = some (.int .i64 s.g) ∧ b < w.heap.size := h
theorem PickAt.cells {w : World} {b : Nat} {p : PD} (h : PickAt w b p) : w.cell? ⟨b, 0, none⟩ = some (.int .i64 p.bl) ∧ w.cell? ⟨b, 1, none⟩ = some (.int .i64 p.br) ∧ w.cell? ⟨b, 2, none⟩ = some (.int .i64 p.hl) ∧ w.cell? ⟨b, 3, none⟩ = some (.int .i64 p.hr) ∧
    w.cell? ⟨b, 4, none⟩ = some (.int .i64 p.ll) ∧ w.cell? ⟨b, 5, none⟩ = some (.int .i64 p.lr) ∧ w.cell? ⟨b, 6, none⟩ = some (.int .i64 p.gl) ∧ w.cell? ⟨b, 7, none⟩ = some (.int .i64 p.gr) ∧ b < w.heap.size := h
theorem StateAt.lt {w : World} {b : Nat} {s : SD} (h : StateAt w b s) : b < w.heap.size := h.2.2.2.2
theorem PickAt.lt {w : World} {b : Nat} {p : PD} (h : PickAt w b p) : b < w.heap.size := h.2.2.2.2.2.2.2.2
theorem StateAt.far4 {w : World} {b c : Nat} {s : SD} (h : StateAt w b s) (hne : b < c) (q : SD) : StateAt ((((w.setCell ⟨c, 0, none⟩ (.int .i64 q.b)).setCell ⟨c, 1, none⟩ (.int .i64 q.h)).setCell ⟨c, 2, none⟩ (.int .i64 q.l)).setCell ⟨c, 3, none⟩ (.int .i64 q.g)) b s := by
  have hn : c ≠ b := by omega
  obtain ⟨e0, e1, e2, e3, hlt⟩ := h
  refine ⟨?_, ?_, ?_, ?_, by simp only [setCell_size]; exact hlt⟩
  all_goals (rw [World.cell?_setCell_far _ _ _ _ hn, World.cell?_setCell_far _ _ _ _ hn, World.cell?_setCell_far _ _ _ _ hn, World.cell?_setCell_far _ _ _ _ hn]; assumption)
theorem PickAt.far4 {w : World} {b c : Nat} {p : PD} (h : PickAt w b p) (hne : b < c) (q : SD) : PickAt ((((w.setCell ⟨c, 0, none⟩ (.int .i64 q.b)).setCell ⟨c, 1, none⟩ (.int .i64 q.h)).setCell ⟨c, 2, none⟩ (.int .i64 q.l)).setCell ⟨c, 3, none⟩ (.int .i64 q.g)) b p := by
  have hn : c ≠ b := by omega
  obtain ⟨e0, e1, e2, e3, e4, e5, e6, e7, hlt⟩ := h
  refine ⟨?_, ?_, ?_, ?_, ?_, ?_, ?_, ?_, by simp only [setCell_size]; exact hlt⟩
  all_goals (rw [World.cell?_setCell_far _ _ _ _ hn, World.cell?_setCell_far _ _ _ _ hn, World.cell?_setCell_far _ _ _ _ hn, World.cell?_setCell_far _ _ _ _ hn]; assumption)
theorem Fresh4.drewT {B : Nat} {w : World} {b : Nat} {s : SD} (h : Fresh4 B w b s) : Fresh4 B w.drew b s := h.below (Below.refl _ _).drew
theorem Fresh4.lt {B : Nat} {w : World} {b : Nat} {s : SD} (h : Fresh4 B w b s) : b < w.heap.size := h.1.1.2.2.2.2
theorem Fresh4.far4 {B : Nat} {w : World} {b c : Nat} {s : SD} (h : Fresh4 B w b s) (hne : b < c) (q : SD) : Fresh4 B ((((w.setCell ⟨c, 0, none⟩ (.int .i64 q.b)).setCell ⟨c, 1, none⟩ (.int .i64 q.h)).setCell ⟨c, 2, none⟩ (.int .i64 q.l)).setCell ⟨c, 3, none⟩ (.int .i64 q.g)) b s := by
  refine ⟨⟨h.1.1.far4 hne q, ?_, ?_, ?_, ?_⟩, h.2⟩
  all_goals (obtain ⟨⟨-, f0, f1, f2, f3⟩, -⟩ := h; simp only [World.frozen?_setCell]; assumption)
theorem Fresh4.fill {B : Nat} {w : World} {b : Nat} {s : SD} (h : Fresh4 B w b s) (q : SD) : Fresh4 B ((((w.setCell ⟨b, 0, none⟩ (.int .i64 q.b)).setCell ⟨b, 1, none⟩ (.int .i64 q.h)).setCell ⟨b, 2, none⟩ (.int .i64 q.l)).setCell ⟨b, 3, none⟩ (.int .i64 q.g)) b q := by
  obtain ⟨⟨⟨e0, e1, e2, e3, hlt⟩, f0, f1, f2, f3⟩, hB⟩ := h
  refine ⟨⟨⟨?_, ?_, ?_, ?_, by simp only [setCell_size]; exact hlt⟩, ?_, ?_, ?_, ?_⟩, hB⟩
  · rw [World.cell?_setCell_other _ _ _ _ (by simp), World.cell?_setCell_other _ _ _ _ (by simp), World.cell?_setCell_other _ _ _ _ (by simp)]; exact World.cell?_setCell_same _ _ _ e0
  · rw [World.cell?_setCell_other _ _ _ _ (by simp), World.cell?_setCell_other _ _ _ _ (by simp)]; exact World.cell?_setCell_same _ _ _ ((World.cell?_setCell_other _ _ _ _ (by simp)).trans e1)
  · rw [World.cell?_setCell_other _ _ _ _ (by simp)]; exact World.cell?_setCell_same _ _ _ ((World.cell?_setCell_other _ _ _ _ (by simp)).trans ((World.cell?_setCell_other _ _ _ _ (by simp)).trans e2))
  · exact World.cell?_setCell_same _ _ _ ((World.cell?_setCell_other _ _ _ _ (by simp)).trans ((World.cell?_setCell_other _ _ _ _ (by simp)).trans ((World.cell?_setCell_other _ _ _ _ (by simp)).trans e3)))
  all_goals (simp only [World.frozen?_setCell]; assumption)
def AfterPickIs (f : FuncId) (s : SD) (p : PD) (x : Int) : Prop := ∀ W, Calls Tryd.prog f #[stateV s, pickV p, .int .i64 x] W fun e w' => e = .returned (.tuple #[stateV ((afterO s p x).getD zeroS), .bool (afterO s p x).isSome]) ∧ Below W.heap.size W w'

end Go.Proofs.YtlflblngbneacabDoor
