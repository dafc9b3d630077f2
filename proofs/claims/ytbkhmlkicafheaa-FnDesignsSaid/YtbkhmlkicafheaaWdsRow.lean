/- A row of weighings of the call's own: how it reads, and one weighing more. No condition. -/
import Derived.Test.YtbkhmlkicafheaaSpareSpec
namespace Go.Proofs.Ytbkhmlkicafheaa
open Go.RowKit

/-- A row of weighings of the call's own, whose sides lie in other blocks. -/
def WdsG (w : World) (lo : Nat) (v : Value) (D : List WD) (us : List (Value × Value)) : Prop :=
  us.length = D.length ∧ w.ownsRow lo 74 2 v D.length (pcells us) ∧ ∀ i (h : i < D.length) (h' : i < us.length),
    (IntsAt w us[i].1 D[i].L ∧ Blk (fun q => v.ownBlock ≠ some q ∧ q < w.heap.size) us[i].1) ∧ (IntsAt w us[i].2 D[i].R ∧ Blk (fun q => v.ownBlock ≠ some q ∧ q < w.heap.size) us[i].2)
theorem WdsG.below {w w' : World} {lo : Nat} {v : Value} {D : List WD} {us : List (Value × Value)} (h : WdsG w lo v D us) (hb : Below w.heap.size w w') : WdsG w' lo v D us :=
  ⟨h.1, owns_below h.2.1 hb, fun i h1 h2 => ⟨⟨(h.2.2 i h1 h2).1.1.below hb, fun q e => ⟨((h.2.2 i h1 h2).1.2 q e).1, Nat.lt_of_lt_of_le ((h.2.2 i h1 h2).1.2 q e).2 hb.size⟩⟩,
    ⟨(h.2.2 i h1 h2).2.1.below hb, fun q e => ⟨((h.2.2 i h1 h2).2.2 q e).1, Nat.lt_of_lt_of_le ((h.2.2 i h1 h2).2.2 q e).2 hb.size⟩⟩⟩⟩
theorem WdsG.reads {w : World} {lo : Nat} {v : Value} {D : List WD} {us : List (Value × Value)} (h : WdsG w lo v D us) : WdsAt w v D :=
  wds_of_row h.1 h.2.1 fun i h1 h2 => ⟨(h.2.2 i h1 h2).1.1, (h.2.2 i h1 h2).2.1⟩
theorem WdsG.push {w w' : World} {lo : Nat} {v v' : Value} {D : List WD} {us : List (Value × Value)} (h : WdsG w lo v D us) {d : WD} {x y : Value}
    (hg : w.grownBy w' v.ownBlock) (hown : w'.ownsRow lo 74 2 v' (D.length + 1) (pcells us ++ [x, y])) (hat : v'.ownBlock = v.ownBlock ∨ v'.ownBlock = some w.heap.size)
    (hx : IntsAt w x d.L) (hbx : Blk (fun q => v.ownBlock ≠ some q ∧ q < w.heap.size) x) (hy : IntsAt w y d.R) (hby : Blk (fun q => v.ownBlock ≠ some q ∧ q < w.heap.size) y) : WdsG w' lo v' (D ++ [d]) (us ++ [(x, y)]) := by
  have T := Only.of_grown hg
  have key : ∀ (x : Value) (l : List Int), IntsAt w x l ∧ Blk (fun q => v.ownBlock ≠ some q ∧ q < w.heap.size) x → IntsAt w' x l ∧ Blk (fun q => v'.ownBlock ≠ some q ∧ q < w'.heap.size) x := fun x l hx =>
    ⟨hx.1.only T fun q e => (hx.2 q e).1, fun q e => ⟨by
      have h1 := hx.2 q e
      rcases hat with e' | e'
      · rw [e']; exact h1.1
      · rw [e']; intro e2; simp at e2; omega, Nat.lt_of_lt_of_le (hx.2 q e).2 T.size⟩⟩
  refine ⟨by simp [h.1], by rw [pcells_app]; simpa [pcells] using hown, fun i h1 h2 => ?_⟩
  by_cases e : i < D.length
  · have e' : i < us.length := by rw [h.1]; exact e
    rw [List.getElem_append_left e, List.getElem_append_left e']
    exact ⟨key _ _ (h.2.2 i e e').1, key _ _ (h.2.2 i e e').2⟩
  · have e1 : i = D.length := by simp at h1; omega
    have e2 : i = us.length := by rw [h.1]; exact e1
    have g1 : (D ++ [d])[i] = d := by rw [List.getElem_append_right (by omega)]; simp [e1]
    have g2 : (us ++ [(x, y)])[i] = (x, y) := by rw [List.getElem_append_right (by omega)]; simp [e2]
    rw [g1, g2]
    exact ⟨key x d.L ⟨hx, hbx⟩, key y d.R ⟨hy, hby⟩⟩
end Go.Proofs.Ytbkhmlkicafheaa
