/- The contract of the law's own marks on a plan: only blocks of the plan are written. Conditions: the plan is a list of the call's own, and short enough to be counted. -/
import Derived.Test.YtbkhmlkicafheaaToNodes
namespace Go.Proofs.Ytbkhmlkicafheaa
open Go.RowKit

/-- The nodes from j on of the list of n in block g are the call's own, each with blocks behind those of the ones before, below hi. -/
structure RestK (w : World) (g n j hi : Nat) (f : Nat → Value) (P : List ND) : Prop where
  cells : Cells w g (n * 5) f
  node : ∀ i (h : i < P.length), j ≤ i → NodeOwn w g f i P[i]
  up : ∀ i i', j ≤ i → i < i' → i' < P.length → ∀ b b', Sd f i b → Sd f i' b' → b < b'
  lt : ∀ i, j ≤ i → i < P.length → ∀ b, Sd f i b → b < hi
/-- A list of nodes of the call's own, its blocks from lo up to hi. -/
def OwnQ (w : World) (lo hi : Nat) (v : Value) (P : List ND) : Prop := ∃ g f, v = .slice (some ⟨g, 0, none⟩) P.length P.length ∧ lo ≤ g ∧ g < hi ∧ RestK w g P.length 0 hi f P
theorem OwnP.all {w : World} {lo : Nat} {v : Value} {P : List ND} (h : OwnP w lo v P) : OwnQ w lo w.heap.size v P := by
  obtain ⟨g, f, e, hg, h⟩ := h
  exact ⟨g, f, e, hg, h.cells.1, ⟨h.cells, fun i hi _ => h.node i hi hi, fun i i' _ h1 h2 => h.up i i' h1 h2, fun i _ hi _ hb => ((h.node i hi hi).blk hb).2⟩⟩
theorem RestK.below {w w' : World} {g n j hi : Nat} {f : Nat → Value} {P : List ND} (h : RestK w g n j hi f P) (hb : Below w.heap.size w w') : RestK w' g n j hi f P :=
  ⟨h.cells.below hb, fun i hi hj => (h.node i hi hj).below hb, h.up, h.lt⟩
theorem OwnQ.below {w w' : World} {lo hi : Nat} {v : Value} {P : List ND} (h : OwnQ w lo hi v P) (hb : Below w.heap.size w w') : OwnQ w' lo hi v P := by
  obtain ⟨g, f, e, hg, h1, h2⟩ := h
  exact ⟨g, f, e, hg, h1, h2.below hb⟩
theorem OwnQ.reads {w : World} {lo hi : Nat} {v : Value} {P : List ND} (h : OwnQ w lo hi v P) : NodesAt w v P := by
  obtain ⟨g, f, rfl, hg, _, hk⟩ := h
  exact OwnP.reads (lo := lo) ⟨g, f, rfl, hg, ⟨hk.cells, fun i hi _ => hk.node i hi (Nat.zero_le _), fun i j h1 h2 => hk.up i j (Nat.zero_le _) h1 h2⟩⟩
theorem OwnQ.form {w : World} {lo hi : Nat} {v : Value} {P : List ND} (h : OwnQ w lo hi v P) : ∃ g n c, v = .slice (some ⟨g, 0, none⟩) n c := by
  obtain ⟨g, f, e, _⟩ := h
  exact ⟨g, _, _, e⟩
theorem Only.setCell {T : Nat → Prop} {w w' : World} (h : Only T w w') {b : Nat} (hb : T b) (o : Nat) (u : Value) : Only T w (w'.setCell ⟨b, o, none⟩ u) := by
  refine ⟨h.os, h.tape, h.output, by rw [setCell_size]; exact h.size, fun k hk hn => ?_⟩
  rw [← h.block k hk hn]
  exact (Below.setCell (B := b) (p := ⟨b, o, none⟩) (Below.refl b w') (Nat.le_refl _) u) |> fun hh => by
    rcases Nat.lt_trichotomy k b with e | e | e
    · exact hh.block k e
    · subst e; exact absurd hb hn
    · simp only [World.setCell]
      rw [Array.getElem?_modify, if_neg (by omega)]
theorem NodeOwn.only {T : Nat → Prop} {w w' : World} {g i : Nat} {f : Nat → Value} {d : ND} (h : NodeOwn w g f i d) (ho : Only T w w') (hT : ∀ b, Sd f i b → ¬ T b) : NodeOwn w' g f i d :=
  ⟨h.a, h.b, h.c, h.left.only ho fun k hk => hT k (.inl hk), h.right.only ho fun k hk => hT k (.inr hk), h.sep⟩
theorem RestK.step {w w2 : World} {g n j hi : Nat} {f : Nat → Value} {P : List ND} (h : RestK w g n j hi f P) (hj : j < P.length) (hn : P.length = n) (ho : Only (Sd f j) w w2) (u1 u2 u3 : Value) :
    ∃ f', RestK (((w2.setCell ⟨g, j * 5 + 2, none⟩ u1).setCell ⟨g, j * 5 + 3, none⟩ u2).setCell ⟨g, j * 5 + 4, none⟩ u3) g n (j + 1) hi f' P := by
  have hg : ¬ Sd f j g := fun e => by
    have := ((h.node j hj (Nat.le_refl _)).blk e).1
    omega
  obtain ⟨F, hc, k0⟩ : ∃ F, Cells (((w2.setCell ⟨g, j * 5 + 2, none⟩ u1).setCell ⟨g, j * 5 + 3, none⟩ u2).setCell ⟨g, j * 5 + 4, none⟩ u3) g (n * 5) F ∧ ∀ z, (z < j * 5 + 2 ∨ j * 5 + 5 ≤ z) → F z = f z :=
    ⟨_, (((h.cells.only ho hg).set (j * 5 + 2) (by omega) u1).set (j * 5 + 3) (by omega) u2).set (j * 5 + 4) (by omega) u3, fun z hz => by
      show (if z = j * 5 + 4 then u3 else if z = j * 5 + 3 then u2 else if z = j * 5 + 2 then u1 else f z) = f z
      rw [if_neg (by omega), if_neg (by omega), if_neg (by omega)]⟩
  have sd : ∀ i b, j + 1 ≤ i → Sd F i b → Sd f i b := fun i b h1 hb => by
    unfold Sd at hb ⊢
    rw [k0 _ (by omega), k0 _ (by omega)] at hb
    exact hb
  refine ⟨F, hc, fun i hi' hji => ?_, fun i i' h1 h2 h3 b b' hb hb' => h.up i i' (by omega) h2 h3 b b' (sd i b h1 hb) (sd i' b' (by omega) hb'), fun i h1 h2 b hb => h.lt i (by omega) h2 b (sd i b h1 hb)⟩
  have c := (h.node i hi' (by omega)).only ho (fun b hb hb' => by
    have := h.up j i (Nat.le_refl _) (by omega) hi' b b hb' hb
    omega)
  refine ⟨?_, ?_, ?_, ?_, ?_, ?_⟩
  · rw [k0 _ (by omega)]; exact c.a
  · rw [k0 _ (by omega)]; exact c.b
  · rw [k0 _ (by omega)]; exact c.c
  · rw [k0 _ (by omega)]; exact ((c.left.setCell (by omega) _).setCell (by omega) _).setCell (by omega) _
  · rw [k0 _ (by omega)]; exact ((c.right.setCell (by omega) _).setCell (by omega) _).setCell (by omega) _
  · rw [k0 _ (by omega), k0 _ (by omega)]; exact c.sep

end Go.Proofs.Ytbkhmlkicafheaa
