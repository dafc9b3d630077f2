/- The contract of the program's ConsistentSets. Conditions: the slices read as integers and as truth values, and are short enough to be counted. -/
import Derived.Test.YtlflblngbneacaaGreatDoorConsImpl
namespace Go.Proofs.YtlflblngbneacaaGreatDoor
open Go.RowKit Go.Shelf
attribute [local go_sem] Oper.semAt_some

theorem keepsOthers_belowC {V V' : World} (h : Below V.heap.size V V') : KeepsOthers V V' := ⟨h.size, fun k _ hk _ => (h.block k (Array.getElem?_eq_some_iff.1 hk).1).trans hk⟩
theorem owns_deep {V V' : World} {B : Nat} {e : TypeId} {size k : Nat} {v : Value} {xs : List Value} (h : V.ownsRow B e size v k xs) (hb : Below V.heap.size V V') : V'.ownsRow B e size v k xs := owns_below h hb
/-- What the loop keeps: the list that grows, the two slices that came in, the bound. -/
def ConsI (w : World) (v vr : Value) (most : Int) (L : List Int) (V : World) : Prop :=
  (∃ s, Boxed V (w.heap.size + 2) 22 s ∧ V.ownsRow (w.heap.size + 5) 3 1 s L.length (L.map (Value.int .i64)) ∧ True) ∧
    (Boxed V w.heap.size 22 v ∧ Boxed V (w.heap.size + 1) 111 vr ∧ Boxed V (w.heap.size + 4) 3 (.int .i64 most)) ∧ Below w.heap.size w V
theorem consI_own {β : Type} {w : World} {v vr : Value} {most : Int} {f : β → List Int} {B : Nat} (hB : w.heap.size ≤ B) : OwnFrom B (fun (s : β) V => ConsI w v vr most (f s) V) :=
  OwnFrom.and (_root_.Go.Own.from (holdsRow_own (w.heap.size + 5) (w.heap.size + 2) 22 3 1 (fun s => (f s).length) (fun s => (f s).map (Value.int .i64)) (fun _ _ => True)) _)
    (OwnFrom.and (fun _ X Y row hs hg hr => ⟨boxed_own w.heap.size 22 (fun (_ : Unit) => v) () X Y row hs.1 hg (fun r e => (hr r e).2), boxed_own (w.heap.size + 1) 111 (fun (_ : Unit) => vr) () X Y row hs.2.1 hg (fun r e => (hr r e).2), boxed_own (w.heap.size + 4) 3 (fun (_ : Unit) => Value.int .i64 most) () X Y row hs.2.2 hg (fun r e => (hr r e).2)⟩)
      (ownFrom_below (Nat.le_refl _) hB))
theorem ConsI.deep {w V V' : World} {v vr : Value} {most : Int} {L : List Int} (h : ConsI w v vr most L V) (hb : Below V.heap.size V V') : ConsI w v vr most L V' := by
  obtain ⟨⟨s, bS, oS, ht⟩, ⟨bP, bR, bM⟩, hB⟩ := h
  exact ⟨⟨s, boxedDeep bS hb, owns_deep oS hb, ht⟩, ⟨boxedDeep bP hb, boxedDeep bR hb, boxedDeep bM hb⟩, below_up hB hb⟩

/-- Behind an append to the list: ahead of the store the box still holds the old list; behind it all is kept. -/
theorem consAppend {w V w5 : World} {v vr s v' : Value} {most x : Int} {L : List Int} {tmp : Obj} (bS : Boxed V (w.heap.size + 2) 22 s) (oS : V.ownsRow (w.heap.size + 5) 3 1 s L.length (L.map (Value.int .i64)))
    (bP : Boxed V w.heap.size 22 v) (bR : Boxed V (w.heap.size + 1) 111 vr) (bM : Boxed V (w.heap.size + 4) 3 (.int .i64 most)) (hB : Below w.heap.size w V)
    (hown : w5.ownsRow (w.heap.size + 5) 3 1 v' (L.length + 1) (L.map (Value.int .i64) ++ [.int .i64 x])) (hgrow : (V.alloc tmp).grownBy w5 s.ownBlock) :
    Boxed w5 (w.heap.size + 2) 22 s ∧ KeepsOthers V (w5.setCell ⟨w.heap.size + 2, 0, none⟩ v') ∧ SameBlk (w.heap.size + 4) V (w5.setCell ⟨w.heap.size + 2, 0, none⟩ v') ∧ ConsI w v vr most (L ++ [x]) (w5.setCell ⟨w.heap.size + 2, 0, none⟩ v') := by
  have ne : ∀ b, b < w.heap.size + 5 → some b ≠ s.ownBlock := fun b hb e => by have := (oS.lt b e.symm).1; omega
  have ne' : ∀ b, b < w.heap.size + 5 → v'.ownBlock ≠ some b := fun b hb e => by have := (hown.lt b e).1; omega
  have S1 := (bS.alloc tmp).kept hgrow (ne _ (by omega))
  have P1 := ((bP.alloc tmp).kept hgrow (ne _ (by omega))).other (B' := w.heap.size + 2) (by omega) v'
  have R1 := ((bR.alloc tmp).kept hgrow (ne _ (by omega))).other (B' := w.heap.size + 2) (by omega) v'
  have M1 := ((bM.alloc tmp).kept hgrow (ne _ (by omega))).other (B' := w.heap.size + 2) (by omega) v'
  refine ⟨S1, ?_, Eq.trans M1 (Eq.symm bM), ⟨v', S1.set v', ?_, trivial⟩, ⟨P1, R1, M1⟩, ?_⟩
  · refine ((KeepsOthers.alloc V tmp).trans (KeepsOthers.of_grownBy hgrow fun j o ej hj => ?_)).trans (KeepsOthers.setCell _ _ _)
    rcases (oS.alloc tmp).2 with ⟨rfl, _⟩ | ⟨g, cap, cur, rfl, _, hgb, _⟩
    · simp [Value.ownBlock] at ej
    · obtain rfl : g = j := by simpa [Value.ownBlock] using ej
      rw [hgb] at hj; cases hj; rfl
  · have := hown.kept (grownBy_setCell' w5 (w.heap.size + 2) v') (.inr (ne' _ (by omega)))
    simpa using this
  · exact ((hB.alloc hB.size tmp).grown hgrow (by have := hB.size; simp; omega) fun j ej => by have := (oS.lt j ej).1; omega).setCell (p := ⟨w.heap.size + 2, 0, none⟩) (by simp) v'

end Go.Proofs.YtlflblngbneacaaGreatDoor
