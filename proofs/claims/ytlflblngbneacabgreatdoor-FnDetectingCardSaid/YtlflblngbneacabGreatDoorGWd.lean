/- Several texts in one file; each says what it proves and under which condition. No condition. -/
import Derived.Test.YtlflblngbneacabGreatDoorGWei
import Derived.Deep.RegionLaw
import Derived.Deep.RegionHeld3
import Derived.Deep.Slices
import Derived.ChangeSame
/- Lists of weighings: how they read, and the contracts of the law's own helpers for their size and for equality with themselves. Conditions: the slices read as weighings and are short enough to be counted. -/
namespace Go.Proofs.YtlflblngbneacabGreatDoor
open Go.RowKit

/-- The sides of a weighing. -/
structure WD where
  L : List Int
  R : List Int
/-- Two cells lie from place o of block b on. -/
def PairAt (w : World) (b o : Nat) (x y : Value) : Prop := w.cell? ⟨b, o, none⟩ = some x ∧ w.cell? ⟨b, o + 1, none⟩ = some y ∧ b < w.heap.size
theorem PairAt.belowN {w w' : World} {b o B : Nat} {x y : Value} (h : PairAt w b o x y) (hb : Below B w w') (hlt : b < B) : PairAt w' b o x y := by
  obtain ⟨e0, e1, h0⟩ := h
  refine ⟨?_, ?_, Nat.lt_of_lt_of_le h0 hb.size⟩
  · rw [hb.cell (p := ⟨b, o, none⟩) hlt]; exact e0
  · rw [hb.cell (p := ⟨b, o + 1, none⟩) hlt]; exact e1
theorem PairAt.below {w w' : World} {b o : Nat} {x y : Value} (h : PairAt w b o x y) (hb : Below w.heap.size w w') : PairAt w' b o x y := h.belowN hb h.2.2
/-- The slice value v reads as the weighings of D. -/
def WdsAt (w : World) (v : Value) (D : List WD) : Prop :=
  ∃ a cap, v = .slice a D.length cap ∧ D.length ≤ cap ∧ ∀ i (h : i < D.length), ∃ b off vl vr, a = some ⟨b, off, none⟩ ∧ PairAt w b (off + i * 2) vl vr ∧ IntsAt w vl D[i].L ∧ IntsAt w vr D[i].R
theorem WdsAt.below {w w' : World} {v : Value} {D : List WD} (h : WdsAt w v D) (hb : Below w.heap.size w w') : WdsAt w' v D := by
  obtain ⟨a, cap, rfl, hc, h⟩ := h
  refine ⟨a, cap, rfl, hc, fun i hi => ?_⟩
  obtain ⟨b, off, vl, vr, e, h1, h2, h3⟩ := h i hi
  exact ⟨b, off, vl, vr, e, h1.below hb, h2.below hb, h3.below hb⟩
theorem WdsAt.form {w : World} {v : Value} {D : List WD} (h : WdsAt w v D) : ∃ a c, v = .slice a D.length c := by
  obtain ⟨a, c, rfl, -⟩ := h
  exact ⟨a, c, rfl⟩
theorem WdsAt.nil (w : World) : WdsAt w (.slice none 0 0) [] := ⟨none, 0, rfl, Nat.le_refl _, fun i hi => by simp at hi⟩

/-- How many numbers the sides of the weighings have together. -/
def sumW : List WD → Nat
  | [] => 0
  | d :: r => d.L.length + d.R.length + sumW r
theorem sumW_app (a b : List WD) : sumW (a ++ b) = sumW a + sumW b := by
  induction a with
  | nil => simp [sumW]
  | cons d r ih => simp [sumW, ih]; omega
theorem sumW_take {D : List WD} {k : Nat} (h : k < D.length) : sumW (D.take (k + 1)) = sumW (D.take k) + (D[k].L.length + D[k].R.length) := by
  rw [List.take_succ_eq_append_getElem h, sumW_app]; simp [sumW]
theorem sumW_mem : ∀ {D : List WD} {d : WD}, d ∈ D → d.L.length + d.R.length ≤ sumW D
  | e :: r, d, h => by
    rw [List.mem_cons] at h
    unfold sumW
    rcases h with rfl | h
    · omega
    · have := sumW_mem h; omega
/-- What the size of a list of weighings says. -/
def SzW (D : List WD) (r : Int) : Prop := r < 0 ∨ 0 ≤ r ∧ r ≤ 1048576 ∧ D.length + sumW D ≤ 1048576
theorem SzW.lists {D : List WD} (h : D.length + sumW D ≤ 1048576) : ∀ d ∈ D, d.L.length ≤ 1048576 ∧ d.R.length ≤ 1048576 := fun d hd => by
  have := sumW_mem hd; omega
theorem sizesW_len {D : List WD} (h : D.length + sumW D ≤ 1048576) : D.length ≤ 1048576 := by omega
/-- The lists are no longer than any slice. -/
def LenW (D : List WD) : Prop := ∀ d ∈ D, d.L.length ≤ maxLen ∧ d.R.length ≤ maxLen

end Go.Proofs.YtlflblngbneacabGreatDoor

/- The contract of the law's own copy of a list of weighings: a list of the call's own, whose sides lie in different blocks. Conditions: the list that came in reads as weighings and is short enough to be counted. -/
namespace Go.Proofs.YtlflblngbneacabGreatDoor
open Go.RowKit

/-- The first n cells of block b are given by f, and may be written. -/
def CellsW (w : World) (b n : Nat) (f : Nat → Value) : Prop := b < w.heap.size ∧ ∀ o, o < n → w.cell? ⟨b, o, none⟩ = some (f o) ∧ w.frozen? ⟨b, o, none⟩ = false
theorem CellsW.set {w : World} {b n : Nat} {f : Nat → Value} (h : CellsW w b n f) (i : Nat) (hi : i < n) (u : Value) : CellsW (w.setCell ⟨b, i, none⟩ u) b n (fun o => if o = i then u else f o) := by
  refine ⟨by simpa [World.setCell] using h.1, fun o ho => ⟨?_, by simpa using (h.2 o ho).2⟩⟩
  by_cases e : o = i
  · subst e
    simp only [if_pos]
    exact World.cell?_setCell_same (w := w) (a := ⟨b, o, none⟩) (v := u) (h.2 o ho).1
  · simp only [if_neg e]
    rw [World.cell?_setCell_other (w := w) (a := ⟨b, i, none⟩) (b := ⟨b, o, none⟩) (v := u) (fun e' => e (congrArg Addr.off e').symm)]
    exact (h.2 o ho).1
theorem CellsW.below {w w' : World} {b n : Nat} {f : Nat → Value} (h : CellsW w b n f) (hb : Below w.heap.size w w') : CellsW w' b n f :=
  ⟨Nat.lt_of_lt_of_le h.1 hb.size, fun o ho => ⟨by rw [hb.cell (p := ⟨b, o, none⟩) h.1]; exact (h.2 o ho).1, by rw [hb.frozen (p := ⟨b, o, none⟩) h.1]; exact (h.2 o ho).2⟩⟩
theorem CellsW.only {T : Nat → Prop} {w w' : World} {b n : Nat} {f : Nat → Value} (h : CellsW w b n f) (ho : Only T w w') (hb : ¬ T b) : CellsW w' b n f := by
  have k := ho.block b h.1 hb
  exact ⟨Nat.lt_of_lt_of_le h.1 ho.size, fun o ho' => ⟨by rw [World.cell?_of_block (w := w) (a := ⟨b, o, none⟩) k]; exact (h.2 o ho').1, by rw [World.frozen?_of_block (w := w) (a := ⟨b, o, none⟩) k]; exact (h.2 o ho').2⟩⟩
/-- The blocks of the two sides of weighing i. -/
def SdW (f : Nat → Value) (i b : Nat) : Prop := (f (i * 2)).ownBlock = some b ∨ (f (i * 2 + 1)).ownBlock = some b
/-- Weighing i of the list in block g is the call's own. -/
structure WdOwn (w : World) (g : Nat) (f : Nat → Value) (i : Nat) (d : WD) : Prop where
  left : Own w (g + 1) (f (i * 2)) d.L
  right : Own w (g + 1) (f (i * 2 + 1)) d.R
  sep : Sep (f (i * 2)) (f (i * 2 + 1))
/-- The first k weighings of the list of n in block g are the call's own, each with blocks behind those of the ones before. -/
structure WdsK (w : World) (g n k : Nat) (f : Nat → Value) (D : List WD) : Prop where
  cells : CellsW w g (n * 2) f
  wd : ∀ i (h : i < D.length), i < k → WdOwn w g f i D[i]
  up : ∀ i j, i < j → j < k → ∀ b b', SdW f i b → SdW f j b' → b < b'
theorem WdOwn.below {w w' : World} {g i : Nat} {f : Nat → Value} {d : WD} (h : WdOwn w g f i d) (hb : Below w.heap.size w w') : WdOwn w' g f i d :=
  ⟨h.left.below hb, h.right.below hb, h.sep⟩
theorem WdOwn.blk {w : World} {g i b : Nat} {f : Nat → Value} {d : WD} (h : WdOwn w g f i d) (hs : SdW f i b) : g + 1 ≤ b ∧ b < w.heap.size := by
  rcases hs with e | e
  · exact h.left.blk b e
  · exact h.right.blk b e
theorem WdsK.below {w w' : World} {g n k : Nat} {f : Nat → Value} {D : List WD} (h : WdsK w g n k f D) (hb : Below w.heap.size w w') : WdsK w' g n k f D :=
  ⟨h.cells.below hb, fun i hi hk => (h.wd i hi hk).below hb, h.up⟩
/-- A list of weighings of the call's own, from block lo on. -/
def OwnWds (w : World) (lo : Nat) (v : Value) (D : List WD) : Prop := ∃ g f, v = .slice (some ⟨g, 0, none⟩) D.length D.length ∧ lo ≤ g ∧ WdsK w g D.length D.length f D
theorem OwnWds.below {w w' : World} {lo : Nat} {v : Value} {D : List WD} (h : OwnWds w lo v D) (hb : Below w.heap.size w w') : OwnWds w' lo v D := by
  obtain ⟨g, f, e, hg, hk⟩ := h
  exact ⟨g, f, e, hg, hk.below hb⟩
theorem WdsK.pair {w : World} {g n k : Nat} {f : Nat → Value} {D : List WD} (h : WdsK w g n k f D) {i : Nat} (hn : i < n) : PairAt w g (i * 2) (f (i * 2)) (f (i * 2 + 1)) :=
  ⟨(h.cells.2 _ (by omega)).1, (h.cells.2 _ (by omega)).1, h.cells.1⟩
theorem OwnWds.reads {w : World} {lo : Nat} {v : Value} {D : List WD} (h : OwnWds w lo v D) : WdsAt w v D := by
  obtain ⟨g, f, rfl, hg, hk⟩ := h
  refine ⟨_, _, rfl, Nat.le_refl _, fun i hi => ⟨g, 0, _, _, rfl, ?_, (hk.wd i hi hi).left.reads, (hk.wd i hi hi).right.reads⟩⟩
  rw [Nat.zero_add]
  exact hk.pair hi
theorem OwnWds.form {w : World} {lo : Nat} {v : Value} {D : List WD} (h : OwnWds w lo v D) : ∃ g n c, v = .slice (some ⟨g, 0, none⟩) n c := by
  obtain ⟨g, f, e, _⟩ := h
  exact ⟨g, _, _, e⟩

/-- Two cells written one behind the other, from place o on. -/
def set2o (w : World) (b o : Nat) (x y : Value) : World := (w.setCell ⟨b, o, none⟩ x).setCell ⟨b, o + 1, none⟩ y
def up2 (f : Nat → Value) (o : Nat) (x y : Value) : Nat → Value := fun z => if z = o + 1 then y else if z = o then x else f z
theorem up2_far {f : Nat → Value} {o z : Nat} (x y : Value) (h : z < o ∨ o + 2 ≤ z) : up2 f o x y z = f z := by
  unfold up2
  rw [if_neg (by omega), if_neg (by omega)]
theorem CellsW.set2o {w : World} {b n o : Nat} {f : Nat → Value} (h : CellsW w b n f) (ho : o + 1 < n) (x y : Value) : CellsW (Go.Proofs.YtlflblngbneacabGreatDoor.set2o w b o x y) b n (up2 f o x y) :=
  (h.set o (by omega) x).set (o + 1) (by omega) y
theorem Own.set2o {w : World} {B : Nat} {v : Value} {l : List Int} (h : Own w B v l) {c : Nat} (hc : c < B) (o : Nat) (x y : Value) : Own (Go.Proofs.YtlflblngbneacabGreatDoor.set2o w c o x y) B v l := (h.setCell hc x).setCell hc y
theorem below_set2o {w W : World} {B : Nat} (h : Below B W w) {c : Nat} (hc : B ≤ c) (o : Nat) (x y : Value) : Below B W (set2o w c o x y) :=
  (h.setCell (p := ⟨c, o, none⟩) hc x).setCell (p := ⟨c, o + 1, none⟩) hc y
theorem WdsK.push {w W : World} {g n k : Nat} {f : Nat → Value} {D : List WD} (h : WdsK W g n k f D) (hW : Below W.heap.size W w) (hk : k < D.length) (hn : k < n) {x y : Value} (hx : Own w W.heap.size x D[k].L) (hy : Own w W.heap.size y D[k].R) (hs : Sep x y) :
    WdsK (set2o w g (k * 2) x y) g n (k + 1) (up2 f (k * 2) x y) D := by
  have hg : g < W.heap.size := h.cells.1
  have e0 : up2 f (k * 2) x y (k * 2) = x := by unfold up2; rw [if_neg (by omega), if_pos rfl]
  have e1 : up2 f (k * 2) x y (k * 2 + 1) = y := by unfold up2; rw [if_pos rfl]
  refine ⟨(h.cells.below hW).set2o (by omega) _ _, fun i hi hik => ?_, fun i j hij hj b b' hb hb' => ?_⟩
  · by_cases e : i = k
    · subst e
      refine ⟨?_, ?_, ?_⟩
      · rw [e0]; exact (hx.set2o hg _ _ _).lower hg
      · rw [e1]; exact (hy.set2o hg _ _ _).lower hg
      · rw [e0, e1]; exact hs
    · have c := (h.wd i hi (by omega)).below hW
      refine ⟨?_, ?_, ?_⟩
      · rw [up2_far _ _ (by omega)]; exact c.left.set2o (by omega) _ _ _
      · rw [up2_far _ _ (by omega)]; exact c.right.set2o (by omega) _ _ _
      · rw [up2_far _ _ (by omega), up2_far _ _ (by omega)]; exact c.sep
  · have hbi : SdW f i b := by
      unfold SdW at hb ⊢
      rw [up2_far _ _ (by omega), up2_far _ _ (by omega)] at hb
      exact hb
    by_cases e : j = k
    · subst e
      have h1 := ((h.wd i (by omega) (by omega)).blk hbi).2
      have h2 : W.heap.size ≤ b' := by
        unfold SdW at hb'
        rw [e0, e1] at hb'
        rcases hb' with e | e
        · exact (hx.blk b' e).1
        · exact (hy.blk b' e).1
      omega
    · have hbj : SdW f j b' := by
        unfold SdW at hb' ⊢
        rw [up2_far _ _ (by omega), up2_far _ _ (by omega)] at hb'
        exact hb'
      exact h.up i j hij (by omega) b b' hbi hbj

theorem infoWd : (Tryz.prog.info? 28).map (fun i => (i.zero, i.size, i.bytes)) = some (some (.agg #[.slice none 0 0, .slice none 0 0]), 2, 48) := by kernel_rfl
theorem cellsW_of_row {w : World} {B e g n : Nat} {xs : List Value} (h : w.ownsRow B e 2 (.slice (some ⟨g, 0, none⟩) n n) n xs) : ∃ f, CellsW w g (n * 2) f :=
  ⟨fun o => xs.getD o (.bool false), (h.lt g rfl).2, fun o ho => ⟨by
    have hl : o < xs.length := by rw [h.1]; exact ho
    rw [h.cellAt o ho, List.getElem?_eq_getElem hl]
    simp [List.getD_eq_getElem?_getD, List.getElem?_eq_getElem hl], h.frozenAt o⟩⟩

end Go.Proofs.YtlflblngbneacabGreatDoor

/- Lists of lists of integers: how they read, and the contracts of the law's own helpers for their size, for equality with themselves, and for a copy of the call's own. Conditions: the slices read as lists of integers and are short enough to be counted. -/
namespace Go.Proofs.YtlflblngbneacabGreatDoor
open Go.RowKit Go.ChangeShapes Go.Deep

/-- The slice value v reads as the lists of S. -/
def LsAt (w : World) (v : Value) (S : List (List Int)) : Prop :=
  ∃ a cap, v = .slice a S.length cap ∧ ∀ i (h : i < S.length), ∃ b off u, a = some ⟨b, off, none⟩ ∧ w.cell? ⟨b, off + i, none⟩ = some u ∧ IntsAt w u S[i]
theorem LsAt.below {w w' : World} {v : Value} {S : List (List Int)} (h : LsAt w v S) (hb : Below w.heap.size w w') : LsAt w' v S := by
  obtain ⟨a, cap, rfl, h⟩ := h
  refine ⟨a, cap, rfl, fun i hi => ?_⟩
  obtain ⟨b, off, u, e, h1, h2⟩ := h i hi
  exact ⟨b, off, u, e, by rw [hb.cell (p := ⟨b, off + i, none⟩) (World.block_lt_of_cell? w _ h1)]; exact h1, h2.below hb⟩
theorem LsAt.form {w : World} {v : Value} {S : List (List Int)} (h : LsAt w v S) : ∃ a c, v = .slice a S.length c := by
  obtain ⟨a, c, rfl, -⟩ := h
  exact ⟨a, c, rfl⟩

/-- How many numbers the lists have together. -/
def totL : List (List Int) → Nat
  | [] => 0
  | d :: r => d.length + totL r
theorem totL_app (a b : List (List Int)) : totL (a ++ b) = totL a + totL b := by
  induction a with
  | nil => simp [totL]
  | cons d r ih => simp [totL, ih]; omega
theorem totL_take {S : List (List Int)} {k : Nat} (h : k < S.length) : totL (S.take (k + 1)) = totL (S.take k) + S[k].length := by
  rw [List.take_succ_eq_append_getElem h, totL_app]; simp [totL]
theorem totL_mem : ∀ {S : List (List Int)} {d : List Int}, d ∈ S → d.length ≤ totL S
  | e :: r, d, h => by
    rw [List.mem_cons] at h
    unfold totL
    rcases h with rfl | h
    · omega
    · have := totL_mem h; omega
/-- What the size of a list of lists says. -/
def SzLs (S : List (List Int)) (r : Int) : Prop := r < 0 ∨ 0 ≤ r ∧ r ≤ 1048576 ∧ S.length + totL S ≤ 1048576
theorem SzLs.lists {S : List (List Int)} (h : S.length + totL S ≤ 1048576) : ∀ d ∈ S, d.length ≤ 1048576 := fun d hd => by
  have := totL_mem hd; omega

/-- The first k lists of the row of n in block g are the call's own, each in a block behind those of the ones before. -/
structure LsK (w : World) (g n k : Nat) (f : Nat → Value) (S : List (List Int)) : Prop where
  cells : CellsW w g n f
  own : ∀ i (h : i < S.length), i < k → Own w (g + 1) (f i) S[i]
  up : ∀ i j, i < j → j < k → ∀ b b', (f i).ownBlock = some b → (f j).ownBlock = some b' → b < b'
theorem LsK.below {w w' : World} {g n k : Nat} {f : Nat → Value} {S : List (List Int)} (h : LsK w g n k f S) (hb : Below w.heap.size w w') : LsK w' g n k f S :=
  ⟨h.cells.below hb, fun i hi hk => (h.own i hi hk).below hb, h.up⟩
/-- A list of lists of the call's own, from block lo on. -/
def OwnLs (w : World) (lo : Nat) (v : Value) (S : List (List Int)) : Prop := ∃ g f, v = .slice (some ⟨g, 0, none⟩) S.length S.length ∧ lo ≤ g ∧ LsK w g S.length S.length f S
theorem OwnLs.below {w w' : World} {lo : Nat} {v : Value} {S : List (List Int)} (h : OwnLs w lo v S) (hb : Below w.heap.size w w') : OwnLs w' lo v S := by
  obtain ⟨g, f, e, hg, hk⟩ := h
  exact ⟨g, f, e, hg, hk.below hb⟩
theorem OwnLs.reads {w : World} {lo : Nat} {v : Value} {S : List (List Int)} (h : OwnLs w lo v S) : LsAt w v S := by
  obtain ⟨g, f, rfl, hg, hk⟩ := h
  refine ⟨_, _, rfl, fun i hi => ⟨g, 0, _, rfl, ?_, (hk.own i hi hi).reads⟩⟩
  rw [Nat.zero_add]
  exact (hk.cells.2 i hi).1
theorem OwnLs.form {w : World} {lo : Nat} {v : Value} {S : List (List Int)} (h : OwnLs w lo v S) : ∃ g n c, v = .slice (some ⟨g, 0, none⟩) n c := by
  obtain ⟨g, f, e, _⟩ := h
  exact ⟨g, _, _, e⟩
theorem LsK.push {w W : World} {g n k : Nat} {f : Nat → Value} {S : List (List Int)} (h : LsK W g n k f S) (hW : Below W.heap.size W w) (hk : k < S.length) (hn : k < n) {x : Value} (hx : Own w W.heap.size x S[k]) :
    LsK (w.setCell ⟨g, k, none⟩ x) g n (k + 1) (fun z => if z = k then x else f z) S := by
  have hg : g < W.heap.size := h.cells.1
  refine ⟨(h.cells.below hW).set k hn x, fun i hi hik => ?_, fun i j hij hj b b' hb hb' => ?_⟩
  · by_cases e : i = k
    · subst e
      simp only [if_pos]
      exact (hx.setCell hg x).lower hg
    · simp only [if_neg e]
      exact ((h.own i hi (by omega)).below hW).setCell (Nat.lt_succ_self _) x
  · simp only [if_neg (show ¬ i = k by omega)] at hb
    by_cases e : j = k
    · subst e
      simp only [if_pos] at hb'
      have h1 := ((h.own i (by omega) (by omega)).blk b hb).2
      have h2 := (hx.blk b' hb').1
      omega
    · simp only [if_neg e] at hb'
      exact h.up i j hij (by omega) b b' hb hb'

theorem infoLs : (Tryz.prog.info? 26).map (fun i => (i.zero, i.size, i.bytes)) = some (some (.slice none 0 0), 1, 24) := by kernel_rfl
theorem cellsW_of_row1 {w : World} {B e g n : Nat} {xs : List Value} (h : w.ownsRow B e 1 (.slice (some ⟨g, 0, none⟩) n n) n xs) : ∃ f, CellsW w g n f :=
  ⟨fun o => xs.getD o (.bool false), (h.lt g rfl).2, fun o ho => ⟨by
    have hl : o < xs.length := by rw [h.1]; omega
    rw [h.cellAt o (by omega), List.getElem?_eq_getElem hl]
    simp [List.getD_eq_getElem?_getD, List.getElem?_eq_getElem hl], h.frozenAt o⟩⟩

theorem listL_of {A : Type} (Q : Nat → A → Prop) : ∀ n, (∀ i, i < n → ∃ d, Q i d) → ∃ P : List A, P.length = n ∧ ∀ i (h : i < P.length), Q i P[i]
  | 0, _ => ⟨[], rfl, fun i h => by simp at h⟩
  | n + 1, h => by
    obtain ⟨P, hn, hP⟩ := listL_of Q n fun i hi => h i (by omega)
    obtain ⟨d, hd⟩ := h n (by omega)
    refine ⟨P ++ [d], by simp [hn], fun i hi => ?_⟩
    by_cases e : i < P.length
    · rw [List.getElem_append_left e]; exact hP i e
    · obtain rfl : i = n := by simp at hi; omega
      rw [List.getElem_append_right (by omega)]
      simpa [hn] using hd
/-- What the walk is told of a slice of lists that came in. -/
def CameLs (w : World) (v : Value) (S : List (List Int)) : Prop := LsAt w v S ∧ S.length ≤ maxLen ∧ ∀ d ∈ S, d.length ≤ maxLen ∧ ∀ x ∈ d, (Lit.int .i64 x).wf = true

theorem cameLs {H : Type} {enc : TypeId × Value → H} {P : Program} {w : World} {base : Nat} {spare : Nat → Bool} {held : Bool} {t e q : TypeId} {fuel : Nat} {u : Value} {x : DataW H × List MemPlace}
    (ht : P.underlying t = some (.slice e)) (he : P.underlying e = some (.slice q)) (hq : P.underlying q = some (.int .i64)) (ce : P.cellsOf e = 1) (cq : P.cellsOf q = 1)
    (hsp : ∀ b, spare b = true) (h : DataW.trod enc P w base spare held fuel t [u] = some x) : ∃ S, CameLs w u S := by
  rcases open_slice1 ht ce h with ⟨hcs, _⟩ | ⟨a, len, cap, m, n, V, D, Pl, hcs, hb, hl, hm, hmm, hx0, hx⟩
  · simp at hcs
    subst hcs
    exact ⟨[], ⟨none, 0, rfl, fun i hi => by simp at hi⟩, by unfold maxLen; simp, by simp⟩
  · simp at hcs
    subst hcs
    rw [hsp, if_pos rfl] at hmm
    have one : ∀ i, i < len → ∃ d : List Int, (∃ b off u, some a = some (⟨b, off, none⟩ : Addr) ∧ w.cell? ⟨b, off + i, none⟩ = some u ∧ IntsAt w u d) ∧ d.length ≤ maxLen ∧ ∀ x ∈ d, (Lit.int .i64 x).wf = true := by
      intro i hil
      obtain ⟨h1, h2⟩ := hx i (by omega)
      obtain ⟨L, hL, hl1, hl2⟩ := cameInts he hq cq hsp h2
      obtain ⟨b, o, spot⟩ := a
      have hspot : spot = none := by
        simpa [Addr.add] using World.cell?_spot (hx 0 (by omega)).1
      subst hspot
      rw [Addr.add_lit] at h1
      exact ⟨L, ⟨b, o, _, rfl, h1, hL⟩, hl1, hl2⟩
    obtain ⟨S, hn, hS⟩ := listL_of _ len one
    refine ⟨S, ⟨some a, cap, by rw [hn], fun i hi => (hS i hi).1⟩, by omega, fun d hd => ?_⟩
    obtain ⟨i, hi, rfl⟩ := List.mem_iff_getElem.1 hd
    exact (hS i hi).2
end Go.Proofs.YtlflblngbneacabGreatDoor
