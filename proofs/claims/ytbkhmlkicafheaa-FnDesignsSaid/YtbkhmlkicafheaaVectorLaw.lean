/- A list of weighings that a function gives back as its own; the law's marks on it; and the walk of the exact law of VectorDesign round the contracts of the model's and the program's functions: the law returns true for every argument. No condition. -/
import Derived.Test.YtbkhmlkicafheaaMarkWds
import Derived.Test.YtbkhmlkicafheaaGWei
import Derived.Test.YtbkhmlkicafheaaCameWds
namespace Go.Proofs.Ytbkhmlkicafheaa
open Go.RowKit

/-- A list of weighings of the call's own, from block lo on: no two of its blocks are one. -/
structure WdsR (w : World) (lo : Nat) (v : Value) (f : Nat → Value) (D : List WD) : Prop where
  form : ∃ a cap, v = .slice a D.length cap ∧ D.length ≤ cap ∧ ∀ i, i < D.length → ∃ g, a = some ⟨g, 0, none⟩ ∧ lo ≤ g ∧ g < w.heap.size ∧ w.cell? ⟨g, i * 2, none⟩ = some (f (i * 2)) ∧ w.cell? ⟨g, i * 2 + 1, none⟩ = some (f (i * 2 + 1))
  own : ∀ i (h : i < D.length), Own w lo (f (i * 2)) D[i].L ∧ Own w lo (f (i * 2 + 1)) D[i].R ∧ Sep (f (i * 2)) (f (i * 2 + 1))
  apart : ∀ i j, i < D.length → j < D.length → i ≠ j → ∀ b, SdW f i b → ¬ SdW f j b
  row : ∀ i, i < D.length → ∀ b, SdW f i b → v.ownBlock ≠ some b
theorem WdsR.below {w w' : World} {lo : Nat} {v : Value} {f : Nat → Value} {D : List WD} (h : WdsR w lo v f D) (hb : Below w.heap.size w w') : WdsR w' lo v f D := by
  obtain ⟨⟨a, cap, rfl, hc, hr⟩, h2, h3, h4⟩ := h
  refine ⟨⟨a, cap, rfl, hc, fun i hi => ?_⟩, fun i hi => ⟨(h2 i hi).1.below hb, (h2 i hi).2.1.below hb, (h2 i hi).2.2⟩, h3, h4⟩
  obtain ⟨g, e, g1, g2, c1, c2⟩ := hr i hi
  exact ⟨g, e, g1, Nat.lt_of_lt_of_le g2 hb.size, by rw [hb.cell (p := ⟨g, i * 2, none⟩) g2]; exact c1, by rw [hb.cell (p := ⟨g, i * 2 + 1, none⟩) g2]; exact c2⟩
theorem WdsR.blk {w : World} {lo : Nat} {v : Value} {f : Nat → Value} {D : List WD} (h : WdsR w lo v f D) {i b : Nat} (hi : i < D.length) (hs : SdW f i b) : lo ≤ b ∧ b < w.heap.size := by
  rcases hs with e | e
  · exact (h.own i hi).1.blk b e
  · exact (h.own i hi).2.1.blk b e
theorem WdsR.reads {w : World} {lo : Nat} {v : Value} {f : Nat → Value} {D : List WD} (h : WdsR w lo v f D) : WdsAt w v D := by
  obtain ⟨⟨a, cap, rfl, hc, hr⟩, h2, h3, h4⟩ := h
  refine ⟨a, cap, rfl, hc, fun i hi => ?_⟩
  obtain ⟨g, e, g1, g2, c1, c2⟩ := hr i hi
  refine ⟨g, 0, _, _, e, ?_, (h2 i hi).1.reads, (h2 i hi).2.1.reads⟩
  rw [Nat.zero_add]
  exact ⟨c1, c2, g2⟩
theorem WdsR.step {w w2 : World} {lo j : Nat} {v : Value} {f : Nat → Value} {D : List WD} (h : WdsR w lo v f D) (hj : j < D.length) (ho : Only (SdW f j) w w2) {d : WD} (h1 : Own w2 lo (f (j * 2)) d.L) (h2 : Own w2 lo (f (j * 2 + 1)) d.R) : WdsR w2 lo v f (D.set j d) := by
  obtain ⟨⟨a, cap, rfl, hc, hr⟩, k2, k3, k4⟩ := h
  refine ⟨⟨a, cap, by rw [List.length_set], by rw [List.length_set]; exact hc, fun i hi => ?_⟩, fun i hi => ?_, fun i i' a b => k3 i i' (by simpa using a) (by simpa using b), fun i a b hb => k4 i (by simpa using a) b hb⟩
  · obtain ⟨g, e, g1, g2, c1, c2⟩ := hr i (by simpa using hi)
    have hg : ¬ SdW f j g := fun hs => k4 j hj g hs (by rw [e]; rfl)
    have kb := ho.block g g2 hg
    exact ⟨g, e, g1, Nat.lt_of_lt_of_le g2 ho.size, by rw [World.cell?_of_block (w := w) (a := ⟨g, i * 2, none⟩) kb]; exact c1, by rw [World.cell?_of_block (w := w) (a := ⟨g, i * 2 + 1, none⟩) kb]; exact c2⟩
  · have hi2 : i < D.length := by simpa using hi
    rw [List.getElem_set]
    by_cases e : j = i
    · subst e
      rw [if_pos rfl]
      exact ⟨h1, h2, (k2 j hj).2.2⟩
    · rw [if_neg e]
      exact ⟨(k2 i hi2).1.only ho fun k hk ht => k3 j i hj hi2 e k ht (.inl hk), (k2 i hi2).2.1.only ho fun k hk ht => k3 j i hj hi2 e k ht (.inr hk), (k2 i hi2).2.2⟩

/-- The fixed designs. -/
def vecD (k : Int) : List WD :=
  if k = 2 then [⟨[1], [3]⟩, ⟨[3], [2]⟩]
  else if k = 3 then [⟨[1, 2, 3, 4], [9, 10, 11, 12]⟩, ⟨[1, 9, 10, 11], [6, 7, 8, 12]⟩, ⟨[2, 6, 9, 12], [4, 5, 8, 11]⟩]
  else []
def vecN (k : Int) : Int := if k = 2 then 3 else if k = 3 then 12 else 0
def vecB (k : Int) : Bool := k == 2 || k == 3
theorem vecD_size (k : Int) : (vecD k).length + sumW (vecD k) ≤ 100 := by
  unfold vecD
  split
  · decide
  · split <;> decide
/-- The contract of a function that gives back the fixed designs, read alone. -/
def VecReads (f : FuncId) (k : Int) : Prop :=
  ∀ W, Calls Try.prog f #[.int .i64 k] W fun e w' => ∃ v, e = .returned (.tuple #[v, .int .i64 (vecN k), .bool (vecB k)]) ∧ WdsAt w' v (vecD k) ∧ Below W.heap.size W w'
/-- The contract of a function that gives back the fixed designs as its own. -/
def VecIs (f : FuncId) (k : Int) : Prop :=
  ∀ W, Calls Try.prog f #[.int .i64 k] W fun e w' => ∃ v f, e = .returned (.tuple #[v, .int .i64 (vecN k), .bool (vecB k)]) ∧ WdsR w' W.heap.size v f (vecD k) ∧ Below W.heap.size W w'

end Go.Proofs.Ytbkhmlkicafheaa
