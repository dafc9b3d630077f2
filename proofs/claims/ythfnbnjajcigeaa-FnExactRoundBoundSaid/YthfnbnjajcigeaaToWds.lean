/- The contract of the law's own copy of a list of weighings: a list of the call's own, whose sides lie in different blocks. Conditions: the list that came in reads as weighings and is short enough to be counted. -/
import Derived.Test.YthfnbnjajcigeaaWds
namespace Go.Proofs.Ythfnbnjajcigeaa
open Go.RowKit

/-- The first n cells of block b are given by f, and may be written. -/
def CellsW (w : World) (b n : Nat) (f : Nat → Value) : Prop := b < w.heap.size ∧ ∀ o, o < n → w.cell? ⟨b, o, none⟩ = some (f o) ∧ w.frozen? ⟨b, o, none⟩ = false
theorem CellsW.set {w : World} {b n : Nat} {f : Nat → Value} (h : CellsW w b n f) (i : Nat) (hi : i < n) (u : Value) : CellsW (w.setCell ⟨b, i, none⟩ u) b n (fun o => if o = i then u else f o) := by
  refine ⟨by simpa [World.setCell] using h.1, fun o ho => ⟨?_, by simpa using (h.2 o ho).2⟩⟩
  by_cases e : o = i
  · subst e
    simp only [if_pos]
    exact World.cell?_setCell_same (w := w) (a := ⟨b, o, none⟩) (v := u) (h.2 o ho).1
  · simp only [if_neg e]
    rw [World.cell?_setCell_other (w := w) (a := ⟨b, i, none⟩) (b := ⟨b, o, none⟩) (v := u) (fun e' => e (congrArg Addr.off e').symm)]
    exact (h.2 o ho).1
theorem CellsW.below {w w' : World} {b n : Nat} {f : Nat → Value} (h : CellsW w b n f) (hb : Below w.heap.size w w') : CellsW w' b n f :=
  ⟨Nat.lt_of_lt_of_le h.1 hb.size, fun o ho => ⟨by rw [hb.cell (p := ⟨b, o, none⟩) h.1]; exact (h.2 o ho).1, by rw [hb.frozen (p := ⟨b, o, none⟩) h.1]; exact (h.2 o ho).2⟩⟩
theorem CellsW.only {T : Nat → Prop} {w w' : World} {b n : Nat} {f : Nat → Value} (h : CellsW w b n f) (ho : Only T w w') (hb : ¬ T b) : CellsW w' b n f := by
  have k := ho.block b h.1 hb
  exact ⟨Nat.lt_of_lt_of_le h.1 ho.size, fun o ho' => ⟨by rw [World.cell?_of_block (w := w) (a := ⟨b, o, none⟩) k]; exact (h.2 o ho').1, by rw [World.frozen?_of_block (w := w) (a := ⟨b, o, none⟩) k]; exact (h.2 o ho').2⟩⟩
/-- The blocks of the two sides of weighing i. -/
def SdW (f : Nat → Value) (i b : Nat) : Prop := (f (i * 2)).ownBlock = some b ∨ (f (i * 2 + 1)).ownBlock = some b
/-- Weighing i of the list in block g is the call's own. -/
structure WdOwn (w : World) (g : Nat) (f : Nat → Value) (i : Nat) (d : WD) : Prop where
  left : Own w (g + 1) (f (i * 2)) d.L
  right : Own w (g + 1) (f (i * 2 + 1)) d.R
  sep : Sep (f (i * 2)) (f (i * 2 + 1))
/-- The first k weighings of the list of n in block g are the call's own, each with blocks behind those of the ones before. -/
structure WdsK (w : World) (g n k : Nat) (f : Nat → Value) (D : List WD) : Prop where
  cells : CellsW w g (n * 2) f
  wd : ∀ i (h : i < D.length), i < k → WdOwn w g f i D[i]
  up : ∀ i j, i < j → j < k → ∀ b b', SdW f i b → SdW f j b' → b < b'
theorem WdOwn.below {w w' : World} {g i : Nat} {f : Nat → Value} {d : WD} (h : WdOwn w g f i d) (hb : Below w.heap.size w w') : WdOwn w' g f i d :=
  ⟨h.left.below hb, h.right.below hb, h.sep⟩
theorem WdOwn.blk {w : World} {g i b : Nat} {f : Nat → Value} {d : WD} (h : WdOwn w g f i d) (hs : SdW f i b) : g + 1 ≤ b ∧ b < w.heap.size := by
  rcases hs with e | e
  · exact h.left.blk b e
  · exact h.right.blk b e
theorem WdsK.below {w w' : World} {g n k : Nat} {f : Nat → Value} {D : List WD} (h : WdsK w g n k f D) (hb : Below w.heap.size w w') : WdsK w' g n k f D :=
  ⟨h.cells.below hb, fun i hi hk => (h.wd i hi hk).below hb, h.up⟩
/-- A list of weighings of the call's own, from block lo on. -/
def OwnWds (w : World) (lo : Nat) (v : Value) (D : List WD) : Prop := ∃ g f, v = .slice (some ⟨g, 0, none⟩) D.length D.length ∧ lo ≤ g ∧ WdsK w g D.length D.length f D
theorem OwnWds.below {w w' : World} {lo : Nat} {v : Value} {D : List WD} (h : OwnWds w lo v D) (hb : Below w.heap.size w w') : OwnWds w' lo v D := by
  obtain ⟨g, f, e, hg, hk⟩ := h
  exact ⟨g, f, e, hg, hk.below hb⟩
theorem WdsK.pair {w : World} {g n k : Nat} {f : Nat → Value} {D : List WD} (h : WdsK w g n k f D) {i : Nat} (hn : i < n) : PairAt w g (i * 2) (f (i * 2)) (f (i * 2 + 1)) :=
  ⟨(h.cells.2 _ (by omega)).1, (h.cells.2 _ (by omega)).1, h.cells.1⟩
theorem OwnWds.reads {w : World} {lo : Nat} {v : Value} {D : List WD} (h : OwnWds w lo v D) : WdsAt w v D := by
  obtain ⟨g, f, rfl, hg, hk⟩ := h
  refine ⟨_, _, rfl, Nat.le_refl _, fun i hi => ⟨g, 0, _, _, rfl, ?_, (hk.wd i hi hi).left.reads, (hk.wd i hi hi).right.reads⟩⟩
  rw [Nat.zero_add]
  exact hk.pair hi
theorem OwnWds.form {w : World} {lo : Nat} {v : Value} {D : List WD} (h : OwnWds w lo v D) : ∃ g n c, v = .slice (some ⟨g, 0, none⟩) n c := by
  obtain ⟨g, f, e, _⟩ := h
  exact ⟨g, _, _, e⟩

/-- Two cells written one behind the other, from place o on. -/
def set2o (w : World) (b o : Nat) (x y : Value) : World := (w.setCell ⟨b, o, none⟩ x).setCell ⟨b, o + 1, none⟩ y
def up2 (f : Nat → Value) (o : Nat) (x y : Value) : Nat → Value := fun z => if z = o + 1 then y else if z = o then x else f z
theorem up2_far {f : Nat → Value} {o z : Nat} (x y : Value) (h : z < o ∨ o + 2 ≤ z) : up2 f o x y z = f z := by
  unfold up2
  rw [if_neg (by omega), if_neg (by omega)]
theorem CellsW.set2o {w : World} {b n o : Nat} {f : Nat → Value} (h : CellsW w b n f) (ho : o + 1 < n) (x y : Value) : CellsW (Go.Proofs.Ythfnbnjajcigeaa.set2o w b o x y) b n (up2 f o x y) :=
  (h.set o (by omega) x).set (o + 1) (by omega) y
theorem Own.set2o {w : World} {B : Nat} {v : Value} {l : List Int} (h : Own w B v l) {c : Nat} (hc : c < B) (o : Nat) (x y : Value) : Own (Go.Proofs.Ythfnbnjajcigeaa.set2o w c o x y) B v l := (h.setCell hc x).setCell hc y
theorem below_set2o {w W : World} {B : Nat} (h : Below B W w) {c : Nat} (hc : B ≤ c) (o : Nat) (x y : Value) : Below B W (set2o w c o x y) :=
  (h.setCell (p := ⟨c, o, none⟩) hc x).setCell (p := ⟨c, o + 1, none⟩) hc y
theorem WdsK.push {w W : World} {g n k : Nat} {f : Nat → Value} {D : List WD} (h : WdsK W g n k f D) (hW : Below W.heap.size W w) (hk : k < D.length) (hn : k < n) {x y : Value} (hx : Own w W.heap.size x D[k].L) (hy : Own w W.heap.size y D[k].R) (hs : Sep x y) :
    WdsK (set2o w g (k * 2) x y) g n (k + 1) (up2 f (k * 2) x y) D := by
  have hg : g < W.heap.size := h.cells.1
  have e0 : up2 f (k * 2) x y (k * 2) = x := by unfold up2; rw [if_neg (by omega), if_pos rfl]
  have e1 : up2 f (k * 2) x y (k * 2 + 1) = y := by unfold up2; rw [if_pos rfl]
  refine ⟨(h.cells.below hW).set2o (by omega) _ _, fun i hi hik => ?_, fun i j hij hj b b' hb hb' => ?_⟩
  · by_cases e : i = k
    · subst e
      refine ⟨?_, ?_, ?_⟩
      · rw [e0]; exact (hx.set2o hg _ _ _).lower hg
      · rw [e1]; exact (hy.set2o hg _ _ _).lower hg
      · rw [e0, e1]; exact hs
    · have c := (h.wd i hi (by omega)).below hW
      refine ⟨?_, ?_, ?_⟩
      · rw [up2_far _ _ (by omega)]; exact c.left.set2o (by omega) _ _ _
      · rw [up2_far _ _ (by omega)]; exact c.right.set2o (by omega) _ _ _
      · rw [up2_far _ _ (by omega), up2_far _ _ (by omega)]; exact c.sep
  · have hbi : SdW f i b := by
      unfold SdW at hb ⊢
      rw [up2_far _ _ (by omega), up2_far _ _ (by omega)] at hb
      exact hb
    by_cases e : j = k
    · subst e
      have h1 := ((h.wd i (by omega) (by omega)).blk hbi).2
      have h2 : W.heap.size ≤ b' := by
        unfold SdW at hb'
        rw [e0, e1] at hb'
        rcases hb' with e | e
        · exact (hx.blk b' e).1
        · exact (hy.blk b' e).1
      omega
    · have hbj : SdW f j b' := by
        unfold SdW at hb' ⊢
        rw [up2_far _ _ (by omega), up2_far _ _ (by omega)] at hb'
        exact hb'
      exact h.up i j hij (by omega) b b' hbi hbj

theorem cellsW_of_row {w : World} {B e g n : Nat} {xs : List Value} (h : w.ownsRow B e 2 (.slice (some ⟨g, 0, none⟩) n n) n xs) : ∃ f, CellsW w g (n * 2) f :=
  ⟨fun o => xs.getD o (.bool false), (h.lt g rfl).2, fun o ho => ⟨by
    have hl : o < xs.length := by rw [h.1]; exact ho
    rw [h.cellAt o ho, List.getElem?_eq_getElem hl]
    simp [List.getD_eq_getElem?_getD, List.getElem?_eq_getElem hl], h.frozenAt o⟩⟩

end Go.Proofs.Ythfnbnjajcigeaa
