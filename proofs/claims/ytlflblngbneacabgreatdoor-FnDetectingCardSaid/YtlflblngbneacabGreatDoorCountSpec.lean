/- The contracts of the model's CountSigns and DesignSolves. Conditions: the slice reads as weighings and is short enough to be counted. -/
import Derived.Test.YtlflblngbneacabGreatDoorDesignVals
import Derived.Deep.RegionLaw
import Derived.Deep.RegionHeld3
import Derived.Deep.RegionWith
namespace Go.Proofs.YtlflblngbneacabGreatDoor
open Go.RowKit

/-- A row of lists of the call's own; the lists lie in other blocks. -/
def ListsK (w : World) (lo : Nat) (ov : Value) (S : List (List Int)) (us : List Value) : Prop :=
  us.length = S.length ∧ w.ownsRow lo 26 1 ov S.length us ∧ ∀ i (h : i < S.length) (h' : i < us.length), IntsAt w us[i] S[i] ∧ Blk (fun b => ov.ownBlock ≠ some b ∧ b < w.heap.size) us[i]
theorem ListsK.below {w w' : World} {lo : Nat} {ov : Value} {S : List (List Int)} {us : List Value} (h : ListsK w lo ov S us) (hb : Below w.heap.size w w') : ListsK w' lo ov S us :=
  ⟨h.1, owns_below h.2.1 hb, fun i h1 h2 => ⟨(h.2.2 i h1 h2).1.below hb, fun b e => ⟨((h.2.2 i h1 h2).2 b e).1, Nat.lt_of_lt_of_le ((h.2.2 i h1 h2).2 b e).2 hb.size⟩⟩⟩
theorem ListsK.push {w w' : World} {lo : Nat} {ov ov' : Value} {S : List (List Int)} {us : List Value} (h : ListsK w lo ov S us) {s : List Int} {u : Value}
    (hg : w.grownBy w' ov.ownBlock) (hown : w'.ownsRow lo 26 1 ov' (S.length + 1) (us ++ [u])) (hat : ov'.ownBlock = ov.ownBlock ∨ ov'.ownBlock = some w.heap.size)
    (hu : IntsAt w u s) (hbu : Blk (fun b => ov.ownBlock ≠ some b ∧ b < w.heap.size) u) : ListsK w' lo ov' (S ++ [s]) (us ++ [u]) := by
  have T := Only.of_grown hg
  have key : ∀ (x : Value) (l : List Int), IntsAt w x l → Blk (fun b => ov.ownBlock ≠ some b ∧ b < w.heap.size) x → IntsAt w' x l ∧ Blk (fun b => ov'.ownBlock ≠ some b ∧ b < w'.heap.size) x := fun x l hx hb =>
    ⟨hx.only T fun b e => (hb b e).1, fun b e => ⟨by
      have h1 := hb b e
      rcases hat with e' | e'
      · rw [e']; exact h1.1
      · rw [e']; intro e2; simp at e2; omega, Nat.lt_of_lt_of_le (hb b e).2 T.size⟩⟩
  refine ⟨by simp [h.1], by simpa using hown, fun i h1 h2 => ?_⟩
  by_cases e : i < S.length
  · have e' : i < us.length := by rw [h.1]; exact e
    rw [List.getElem_append_left e, List.getElem_append_left e']
    exact key _ _ (h.2.2 i e e').1 (h.2.2 i e e').2
  · have e1 : i = S.length := by simp at h1; omega
    have g1 : (S ++ [s])[i] = s := by rw [List.getElem_append_right (by omega)]; simp [e1]
    have g2 : (us ++ [u])[i] = u := by rw [List.getElem_append_right (by rw [h.1]; omega)]; simp [e1, h.1]
    rw [g1, g2]
    exact key u s hu hbu

/-- The different values of f that are seen. -/
def seenL (f : Int → List Int) : List (List Int) → List Int → List (List Int)
  | S, [] => S
  | S, c :: r => seenL f (if (S.any fun x => decide (x = f c)) = true then S else S ++ [f c]) r
theorem seenL_len (f : Int → List Int) : ∀ (l : List Int) (S : List (List Int)), (seenL f S l).length ≤ S.length + l.length
  | [], S => by simp [seenL]
  | c :: r, S => by
    unfold seenL
    split
    · have := seenL_len f r S; simp; omega
    · have := seenL_len f r (S ++ [f c]); simp at this ⊢; omega
/-- The number of different signs that is given back. -/
def cntR (P : List WD) (n : Int) (h l z : Bool) : Int := if goodD P n h l z = true then ((seenL (signsL P) [] (casesL n h l z)).length : Int) else -1
theorem cntR_range (P : List WD) (n : Int) (h l z : Bool) : -1 ≤ cntR P n h l z ∧ cntR P n h l z ≤ 27 := by
  unfold cntR
  split
  · have h1 := seenL_len (signsL P) (casesL n h l z) []
    have h2 := cases_len n h l z
    simp at h1
    omega
  · omega

theorem infoLst : (Tryz.prog.info? 26).map (fun i => (i.zero, i.size, i.bytes)) = some (some (.slice none 0 0), 1, 24) := by kernel_rfl
theorem any_take {S : List (List Int)} {s : List Int} {j : Nat} (h : j < S.length) : ((S.take (j + 1)).any fun x => decide (x = s)) = (((S.take j).any fun x => decide (x = s)) || decide (S[j] = s)) := by
  rw [List.take_succ_eq_append_getElem h, List.any_append]
  simp

/-- Whether a design tells all cases of a problem apart. -/
def dsolB (P : List WD) (n : Int) (h l z : Bool) : Bool := goodD P n h l z && decide (cntR P n h l z = ((casesL n h l z).length : Int))

end Go.Proofs.YtlflblngbneacabGreatDoor
