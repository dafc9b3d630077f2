/- The contract of the law's own copy of a plan: a list of nodes of the call's own, whose sides lie in different blocks. Conditions: the plan that came in reads as nodes and is short enough to be counted. -/
import Derived.Test.YtbkhmlkicafheaaNodes
namespace Go.Proofs.Ytbkhmlkicafheaa
open Go.RowKit

theorem Cells.below {w w' : World} {b n : Nat} {f : Nat → Value} (h : Cells w b n f) (hb : Below w.heap.size w w') : Cells w' b n f :=
  ⟨Nat.lt_of_lt_of_le h.1 hb.size, fun o ho => ⟨by rw [hb.cell (p := ⟨b, o, none⟩) h.1]; exact (h.2 o ho).1, by rw [hb.frozen (p := ⟨b, o, none⟩) h.1]; exact (h.2 o ho).2⟩⟩
theorem Cells.only {T : Nat → Prop} {w w' : World} {b n : Nat} {f : Nat → Value} (h : Cells w b n f) (ho : Only T w w') (hb : ¬ T b) : Cells w' b n f := by
  have k := ho.block b h.1 hb
  exact ⟨Nat.lt_of_lt_of_le h.1 ho.size, fun o ho' => ⟨by rw [World.cell?_of_block (w := w) (a := ⟨b, o, none⟩) k]; exact (h.2 o ho').1, by rw [World.frozen?_of_block (w := w) (a := ⟨b, o, none⟩) k]; exact (h.2 o ho').2⟩⟩
/-- The blocks of the two sides of node i. -/
def Sd (f : Nat → Value) (i b : Nat) : Prop := (f (i * 5)).ownBlock = some b ∨ (f (i * 5 + 1)).ownBlock = some b
/-- Node i of the list in block g is the call's own. -/
structure NodeOwn (w : World) (g : Nat) (f : Nat → Value) (i : Nat) (d : ND) : Prop where
  a : f (i * 5 + 2) = .int .i64 d.a
  b : f (i * 5 + 3) = .int .i64 d.b
  c : f (i * 5 + 4) = .int .i64 d.c
  left : Own w (g + 1) (f (i * 5)) d.L
  right : Own w (g + 1) (f (i * 5 + 1)) d.R
  sep : Sep (f (i * 5)) (f (i * 5 + 1))
/-- The first k nodes of the list of n in block g are the call's own, each with blocks behind those of the ones before. -/
structure OwnK (w : World) (g n k : Nat) (f : Nat → Value) (P : List ND) : Prop where
  cells : Cells w g (n * 5) f
  node : ∀ i (h : i < P.length), i < k → NodeOwn w g f i P[i]
  up : ∀ i j, i < j → j < k → ∀ b b', Sd f i b → Sd f j b' → b < b'
theorem NodeOwn.below {w w' : World} {g i : Nat} {f : Nat → Value} {d : ND} (h : NodeOwn w g f i d) (hb : Below w.heap.size w w') : NodeOwn w' g f i d :=
  ⟨h.a, h.b, h.c, h.left.below hb, h.right.below hb, h.sep⟩
theorem NodeOwn.blk {w : World} {g i b : Nat} {f : Nat → Value} {d : ND} (h : NodeOwn w g f i d) (hs : Sd f i b) : g + 1 ≤ b ∧ b < w.heap.size := by
  rcases hs with e | e
  · exact h.left.blk b e
  · exact h.right.blk b e
theorem OwnK.below {w w' : World} {g n k : Nat} {f : Nat → Value} {P : List ND} (h : OwnK w g n k f P) (hb : Below w.heap.size w w') : OwnK w' g n k f P :=
  ⟨h.cells.below hb, fun i hi hk => (h.node i hi hk).below hb, h.up⟩

/-- A list of nodes of the call's own, from block lo on. -/
def OwnP (w : World) (lo : Nat) (v : Value) (P : List ND) : Prop := ∃ g f, v = .slice (some ⟨g, 0, none⟩) P.length P.length ∧ lo ≤ g ∧ OwnK w g P.length P.length f P
theorem OwnP.below {w w' : World} {lo : Nat} {v : Value} {P : List ND} (h : OwnP w lo v P) (hb : Below w.heap.size w w') : OwnP w' lo v P := by
  obtain ⟨g, f, e, hg, hk⟩ := h
  exact ⟨g, f, e, hg, hk.below hb⟩
theorem OwnK.five {w : World} {g n k : Nat} {f : Nat → Value} {P : List ND} (h : OwnK w g n k f P) {i : Nat} (hi : i < P.length) (hk : i < k) (hn : i < n) : FiveAt w g (i * 5) (f (i * 5)) (f (i * 5 + 1)) P[i] := by
  have c := h.node i hi hk
  refine ⟨(h.cells.2 _ (by omega)).1, (h.cells.2 _ (by omega)).1, ?_, ?_, ?_, h.cells.1⟩
  · rw [(h.cells.2 _ (show i * 5 + 2 < n * 5 by omega)).1, c.a]
  · rw [(h.cells.2 _ (show i * 5 + 3 < n * 5 by omega)).1, c.b]
  · rw [(h.cells.2 _ (show i * 5 + 4 < n * 5 by omega)).1, c.c]
theorem OwnP.reads {w : World} {lo : Nat} {v : Value} {P : List ND} (h : OwnP w lo v P) : NodesAt w v P := by
  obtain ⟨g, f, rfl, hg, hk⟩ := h
  refine ⟨_, _, rfl, fun i hi => ⟨g, 0, _, _, rfl, ?_, (hk.node i hi hi).left.reads, (hk.node i hi hi).right.reads⟩⟩
  rw [Nat.zero_add]
  exact hk.five hi hi hi

/-- Five cells written one behind another, from place o on. -/
def set5o (w : World) (b o : Nat) (x y p q r : Value) : World :=
  ((((w.setCell ⟨b, o, none⟩ x).setCell ⟨b, o + 1, none⟩ y).setCell ⟨b, o + 2, none⟩ p).setCell ⟨b, o + 3, none⟩ q).setCell ⟨b, o + 4, none⟩ r
def up5 (f : Nat → Value) (o : Nat) (x y p q r : Value) : Nat → Value :=
  fun z => if z = o + 4 then r else if z = o + 3 then q else if z = o + 2 then p else if z = o + 1 then y else if z = o then x else f z
theorem up5_far {f : Nat → Value} {o z : Nat} (x y p q r : Value) (h : z < o ∨ o + 5 ≤ z) : up5 f o x y p q r z = f z := by
  unfold up5
  rw [if_neg (by omega), if_neg (by omega), if_neg (by omega), if_neg (by omega), if_neg (by omega)]
theorem Cells.set5o {w : World} {b n o : Nat} {f : Nat → Value} (h : Cells w b n f) (ho : o + 4 < n) (x y p q r : Value) : Cells (Go.Proofs.Ytbkhmlkicafheaa.set5o w b o x y p q r) b n (up5 f o x y p q r) :=
  ((((h.set o (by omega) x).set (o + 1) (by omega) y).set (o + 2) (by omega) p).set (o + 3) (by omega) q).set (o + 4) (by omega) r
theorem Own.set5o {w : World} {B : Nat} {v : Value} {l : List Int} (h : Own w B v l) {c : Nat} (hc : c < B) (o : Nat) (x y p q r : Value) : Own (Go.Proofs.Ytbkhmlkicafheaa.set5o w c o x y p q r) B v l := ((((h.setCell hc x).setCell hc y).setCell hc p).setCell hc q).setCell hc r
theorem below_set5o {w W : World} {B : Nat} (h : Below B W w) {c : Nat} (hc : B ≤ c) (o : Nat) (x y p q r : Value) : Below B W (set5o w c o x y p q r) :=
  ((((h.setCell (p := ⟨c, o, none⟩) hc x).setCell (p := ⟨c, o + 1, none⟩) hc y).setCell (p := ⟨c, o + 2, none⟩) hc p).setCell (p := ⟨c, o + 3, none⟩) hc q).setCell (p := ⟨c, o + 4, none⟩) hc r
theorem OwnK.push {w W : World} {g n k : Nat} {f : Nat → Value} {P : List ND} (h : OwnK W g n k f P) (hW : Below W.heap.size W w) (hk : k < P.length) (hn : k < n) {x y : Value} (hx : Own w W.heap.size x P[k].L) (hy : Own w W.heap.size y P[k].R) (hs : Sep x y) :
    OwnK (set5o w g (k * 5) x y (.int .i64 P[k].a) (.int .i64 P[k].b) (.int .i64 P[k].c)) g n (k + 1) (up5 f (k * 5) x y (.int .i64 P[k].a) (.int .i64 P[k].b) (.int .i64 P[k].c)) P := by
  have hg : g < W.heap.size := h.cells.1
  have e0 : up5 f (k * 5) x y (.int .i64 P[k].a) (.int .i64 P[k].b) (.int .i64 P[k].c) (k * 5) = x := by
    unfold up5; rw [if_neg (by omega), if_neg (by omega), if_neg (by omega), if_neg (by omega), if_pos rfl]
  have e1 : up5 f (k * 5) x y (.int .i64 P[k].a) (.int .i64 P[k].b) (.int .i64 P[k].c) (k * 5 + 1) = y := by
    unfold up5; rw [if_neg (by omega), if_neg (by omega), if_neg (by omega), if_pos rfl]
  refine ⟨(h.cells.below hW).set5o (by omega) _ _ _ _ _, fun i hi hik => ?_, fun i j hij hj b b' hb hb' => ?_⟩
  · by_cases e : i = k
    · subst e
      refine ⟨?_, ?_, ?_, ?_, ?_, ?_⟩
      · unfold up5; rw [if_neg (by omega), if_neg (by omega), if_pos rfl]
      · unfold up5; rw [if_neg (by omega), if_pos rfl]
      · unfold up5; rw [if_pos rfl]
      · rw [e0]; exact (hx.set5o hg _ _ _ _ _ _).lower hg
      · rw [e1]; exact (hy.set5o hg _ _ _ _ _ _).lower hg
      · rw [e0, e1]; exact hs
    · have c := (h.node i hi (by omega)).below hW
      refine ⟨?_, ?_, ?_, ?_, ?_, ?_⟩
      · rw [up5_far _ _ _ _ _ (by omega)]; exact c.a
      · rw [up5_far _ _ _ _ _ (by omega)]; exact c.b
      · rw [up5_far _ _ _ _ _ (by omega)]; exact c.c
      · rw [up5_far _ _ _ _ _ (by omega)]; exact c.left.set5o (by omega) _ _ _ _ _ _
      · rw [up5_far _ _ _ _ _ (by omega)]; exact c.right.set5o (by omega) _ _ _ _ _ _
      · rw [up5_far _ _ _ _ _ (by omega), up5_far _ _ _ _ _ (by omega)]; exact c.sep
  · have hbi : Sd f i b := by
      unfold Sd at hb ⊢
      rw [up5_far _ _ _ _ _ (by omega), up5_far _ _ _ _ _ (by omega)] at hb
      exact hb
    by_cases e : j = k
    · subst e
      have h1 := ((h.node i (by omega) (by omega)).blk hbi).2
      have h2 : W.heap.size ≤ b' := by
        unfold Sd at hb'
        rw [e0, e1] at hb'
        rcases hb' with e | e
        · exact (hx.blk b' e).1
        · exact (hy.blk b' e).1
      omega
    · have hbj : Sd f j b' := by
        unfold Sd at hb' ⊢
        rw [up5_far _ _ _ _ _ (by omega), up5_far _ _ _ _ _ (by omega)] at hb'
        exact hb'
      exact h.up i j hij (by omega) b b' hbi hbj

theorem cells_of_row {w : World} {B e g n : Nat} {xs : List Value} (h : w.ownsRow B e 5 (.slice (some ⟨g, 0, none⟩) n n) n xs) : ∃ f, Cells w g (n * 5) f :=
  ⟨fun o => xs.getD o (.bool false), (h.lt g rfl).2, fun o ho => ⟨by
    have hl : o < xs.length := by rw [h.1]; exact ho
    rw [h.cellAt o ho, List.getElem?_eq_getElem hl]
    simp [List.getD_eq_getElem?_getD, List.getElem?_eq_getElem hl], h.frozenAt o⟩⟩

end Go.Proofs.Ytbkhmlkicafheaa
