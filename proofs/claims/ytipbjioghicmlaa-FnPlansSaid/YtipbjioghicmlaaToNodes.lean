/- The contract of the law's own copy of a plan: a list of nodes of the call's own, whose sides lie in different blocks. Conditions: the plan that came in reads as nodes and is short enough to be counted. -/
import Derived.Test.YtipbjioghicmlaaNodes
namespace Go.Proofs.Ytipbjioghicmlaa
open Go.RowKit

theorem Cells.below {w w' : World} {b n : Nat} {f : Nat → Value} (h : Cells w b n f) (hb : Below w.heap.size w w') : Cells w' b n f :=
  ⟨Nat.lt_of_lt_of_le h.1 hb.size, fun o ho => ⟨by rw [hb.cell (p := ⟨b, o, none⟩) h.1]; exact (h.2 o ho).1, by rw [hb.frozen (p := ⟨b, o, none⟩) h.1]; exact (h.2 o ho).2⟩⟩
theorem Cells.only {T : Nat → Prop} {w w' : World} {b n : Nat} {f : Nat → Value} (h : Cells w b n f) (ho : Only T w w') (hb : ¬ T b) : Cells w' b n f := by
  have k := ho.block b h.1 hb
  exact ⟨Nat.lt_of_lt_of_le h.1 ho.size, fun o ho' => ⟨by rw [World.cell?_of_block (w := w) (a := ⟨b, o, none⟩) k]; exact (h.2 o ho').1, by rw [World.frozen?_of_block (w := w) (a := ⟨b, o, none⟩) k]; exact (h.2 o ho').2⟩⟩
/-- The blocks of the two sides of node i. -/
def Sd (f : Nat → Value) (i b : Nat) : Prop := (f (i * 5)).ownBlock = some b ∨ (f (i * 5 + 1)).ownBlock = some b
/-- Node i of the list in block g is the call's own. -/
structure NodeOwn (w : World) (g : Nat) (f : Nat → Value) (i : Nat) (d : ND) : Prop where
  a : f (i * 5 + 2) = .int .i64 d.a
  b : f (i * 5 + 3) = .int .i64 d.b
  c : f (i * 5 + 4) = .int .i64 d.c
  left : Own w (g + 1) (f (i * 5)) d.L
  right : Own w (g + 1) (f (i * 5 + 1)) d.R
  sep : Sep (f (i * 5)) (f (i * 5 + 1))
/-- The first k nodes of the list of n in block g are the call's own, each with blocks behind those of the ones before. -/
structure OwnK (w : World) (g n k : Nat) (f : Nat → Value) (P : List ND) : Prop where
  cells : Cells w g (n * 5) f
  node : ∀ i (h : i < P.length), i < k → NodeOwn w g f i P[i]
  up : ∀ i j, i < j → j < k → ∀ b b', Sd f i b → Sd f j b' → b < b'
theorem NodeOwn.below {w w' : World} {g i : Nat} {f : Nat → Value} {d : ND} (h : NodeOwn w g f i d) (hb : Below w.heap.size w w') : NodeOwn w' g f i d :=
  ⟨h.a, h.b, h.c, h.left.below hb, h.right.below hb, h.sep⟩
theorem NodeOwn.blk {w : World} {g i b : Nat} {f : Nat → Value} {d : ND} (h : NodeOwn w g f i d) (hs : Sd f i b) : g + 1 ≤ b ∧ b < w.heap.size := by
  rcases hs with e | e
  · exact h.left.blk b e
  · exact h.right.blk b e
theorem OwnK.below {w w' : World} {g n k : Nat} {f : Nat → Value} {P : List ND} (h : OwnK w g n k f P) (hb : Below w.heap.size w w') : OwnK w' g n k f P :=
  ⟨h.cells.below hb, fun i hi hk => (h.node i hi hk).below hb, h.up⟩

/-- A list of nodes of the call's own, from block lo on. -/
def OwnP (w : World) (lo : Nat) (v : Value) (P : List ND) : Prop := ∃ g f, v = .slice (some ⟨g, 0, none⟩) P.length P.length ∧ lo ≤ g ∧ OwnK w g P.length P.length f P
theorem OwnP.below {w w' : World} {lo : Nat} {v : Value} {P : List ND} (h : OwnP w lo v P) (hb : Below w.heap.size w w') : OwnP w' lo v P := by
  obtain ⟨g, f, e, hg, hk⟩ := h
  exact ⟨g, f, e, hg, hk.below hb⟩
theorem OwnK.five {w : World} {g n k : Nat} {f : Nat → Value} {P : List ND} (h : OwnK w g n k f P) {i : Nat} (hi : i < P.length) (hk : i < k) (hn : i < n) : FiveAt w g (i * 5) (f (i * 5)) (f (i * 5 + 1)) P[i] := by
  have c := h.node i hi hk
  refine ⟨(h.cells.2 _ (by omega)).1, (h.cells.2 _ (by omega)).1, ?_, ?_, ?_, h.cells.1⟩
  · rw [(h.cells.2 _ (show i * 5 + 2 < n * 5 by omega)).1, c.a]
  · rw [(h.cells.2 _ (show i * 5 + 3 < n * 5 by omega)).1, c.b]
  · rw [(h.cells.2 _ (show i * 5 + 4 < n * 5 by omega)).1, c.c]
theorem OwnP.reads {w : World} {lo : Nat} {v : Value} {P : List ND} (h : OwnP w lo v P) : NodesAt w v P := by
  obtain ⟨g, f, rfl, hg, hk⟩ := h
  refine ⟨_, _, rfl, fun i hi => ⟨g, 0, _, _, rfl, ?_, (hk.node i hi hi).left.reads, (hk.node i hi hi).right.reads⟩⟩
  rw [Nat.zero_add]
  exact hk.five hi hi hi

/-- Five cells written one behind another, from place o on. -/
def set5o (w : World) (b o : Nat) (x y p q r : Value) : World :=
  ((((w.setCell ⟨b, o, none⟩ x).setCell ⟨b, o + 1, none⟩ y).setCell ⟨b, o + 2, none⟩ p).setCell ⟨b, o + 3, none⟩ q).setCell ⟨b, o + 4, none⟩ r
def up5 (f : Nat → Value) (o : Nat) (x y p q r : Value) : Nat → Value :=
  fun z => if z = o + 4 then r else if z = o + 3 then q else if z = o + 2 then p else if z = o + 1 then y else if z = o then x else f z
theorem up5_far {f : Nat → Value} {o z : Nat} (x y p q r : Value) (h : z < o ∨ o + 5 ≤ z) : up5 f o x y p q r z = f z := by
  unfold up5
  rw [if_neg (by omega), if_neg (by omega), if_neg (by omega), if_neg (by omega), if_neg (by omega)]
theorem Cells.set5o {w : World} {b n o : Nat} {f : Nat → Value} (h : Cells w b n f) (ho : o + 4 < n) (x y p q r : Value) : Cells (Go.Proofs.Ytipbjioghicmlaa.set5o w b o x y p q r) b n (up5 f o x y p q r) :=
  ((((h.set o (by omega) x).set (o + 1) (by omega) y).set (o + 2) (by omega) p).set (o + 3) (by omega) q).set (o + 4) (by omega) r
theorem Own.set5o {w : World} {B : Nat} {v : Value} {l : List Int} (h : Own w B v l) {c : Nat} (hc : c < B) (o : Nat) (x y p q r : Value) : Own (Go.Proofs.Ytipbjioghicmlaa.set5o w c o x y p q r) B v l := ((((h.setCell hc x).setCell hc y).setCell hc p).setCell hc q).setCell hc r
theorem below_set5o {w W : World} {B : Nat} (h : Below B W w) {c : Nat} (hc : B ≤ c) (o : Nat) (x y p q r : Value) : Below B W (set5o w c o x y p q r) :=
  ((((h.setCell (p := ⟨c, o, none⟩) hc x).setCell (p := ⟨c, o + 1, none⟩) hc y).setCell (p := ⟨c, o + 2, none⟩) hc p).setCell (p := ⟨c, o + 3, none⟩) hc q).setCell (p := ⟨c, o + 4, none⟩) hc r
theorem OwnK.push {w W : World} {g n k : Nat} {f : Nat → Value} {P : List ND} (h : OwnK W g n k f P) (hW : Below W.heap.size W w) (hk : k < P.length) (hn : k < n) {x y : Value} (hx : Own w W.heap.size x P[k].L) (hy : Own w W.heap.size y P[k].R) (hs : Sep x y) :
    OwnK (set5o w g (k * 5) x y (.int .i64 P[k].a) (.int .i64 P[k].b) (.int .i64 P[k].c)) g n (k + 1) (up5 f (k * 5) x y (.int .i64 P[k].a) (.int .i64 P[k].b) (.int .i64 P[k].c)) P := by
  have hg : g < W.heap.size := h.cells.1
  have e0 : up5 f (k * 5) x y (.int .i64 P[k].a) (.int .i64 P[k].b) (.int .i64 P[k].c) (k * 5) = x := by
    unfold up5; rw [if_neg (by omega), if_neg (by omega), if_neg (by omega), if_neg (by omega), if_pos rfl]
  have e1 : up5 f (k * 5) x y (.int .i64 P[k].a) (.int .i64 P[k].b) (.int .i64 P[k].c) (k * 5 + 1) = y := by
    unfold up5; rw [if_neg (by omega), if_neg (by omega), if_neg (by omega), if_pos rfl]
  refine ⟨(h.cells.below hW).set5o (by omega) _ _ _ _ _, fun i hi hik => ?_, fun i j hij hj b b' hb hb' => ?_⟩
  · by_cases e : i = k
    · subst e
      refine ⟨?_, ?_, ?_, ?_, ?_, ?_⟩
      · unfold up5; rw [if_neg (by omega), if_neg (by omega), if_pos rfl]
      · unfold up5; rw [if_neg (by omega), if_pos rfl]
      · unfold up5; rw [if_pos rfl]
      · rw [e0]; exact (hx.set5o hg _ _ _ _ _ _).lower hg
      · rw [e1]; exact (hy.set5o hg _ _ _ _ _ _).lower hg
      · rw [e0, e1]; exact hs
    · have c := (h.node i hi (by omega)).below hW
      refine ⟨?_, ?_, ?_, ?_, ?_, ?_⟩
      · rw [up5_far _ _ _ _ _ (by omega)]; exact c.a
      · rw [up5_far _ _ _ _ _ (by omega)]; exact c.b
      · rw [up5_far _ _ _ _ _ (by omega)]; exact c.c
      · rw [up5_far _ _ _ _ _ (by omega)]; exact c.left.set5o (by omega) _ _ _ _ _ _
      · rw [up5_far _ _ _ _ _ (by omega)]; exact c.right.set5o (by omega) _ _ _ _ _ _
      · rw [up5_far _ _ _ _ _ (by omega), up5_far _ _ _ _ _ (by omega)]; exact c.sep
  · have hbi : Sd f i b := by
      unfold Sd at hb ⊢
      rw [up5_far _ _ _ _ _ (by omega), up5_far _ _ _ _ _ (by omega)] at hb
      exact hb
    by_cases e : j = k
    · subst e
      have h1 := ((h.node i (by omega) (by omega)).blk hbi).2
      have h2 : W.heap.size ≤ b' := by
        unfold Sd at hb'
        rw [e0, e1] at hb'
        rcases hb' with e | e
        · exact (hx.blk b' e).1
        · exact (hy.blk b' e).1
      omega
    · have hbj : Sd f j b' := by
        unfold Sd at hb' ⊢
        rw [up5_far _ _ _ _ _ (by omega), up5_far _ _ _ _ _ (by omega)] at hb'
        exact hb'
      exact h.up i j hij (by omega) b b' hbi hbj

theorem infoNode : (Try.prog.info? 39).map (fun i => (i.zero, i.size, i.bytes)) = some (some (.agg #[.slice none 0 0, .slice none 0 0, .int .i64 0, .int .i64 0, .int .i64 0]), 5, 72) := by kernel_rfl

theorem cells_of_row {w : World} {B e g n : Nat} {xs : List Value} (h : w.ownsRow B e 5 (.slice (some ⟨g, 0, none⟩) n n) n xs) : ∃ f, Cells w g (n * 5) f :=
  ⟨fun o => xs.getD o (.bool false), (h.lt g rfl).2, fun o ho => ⟨by
    have hl : o < xs.length := by rw [h.1]; exact ho
    rw [h.cellAt o ho, List.getElem?_eq_getElem hl]
    simp [List.getD_eq_getElem?_getD, List.getElem?_eq_getElem hl], h.frozenAt o⟩⟩

set_option maxHeartbeats 3200000 in
theorem toNodes (v : Value) (P : List ND) (w : World) (h : NodesAt w v P) (hm : P.length ≤ 1048576) (hl : ∀ d ∈ P, d.L.length ≤ 1048576 ∧ d.R.length ≤ 1048576) :
    Calls Try.prog 27 #[v] w fun e w' => ∃ v', e = .returned v' ∧ OwnP w' w.heap.size v' P ∧ Below w.heap.size w w' := by
  obtain ⟨i0, hi, hz0, hz1, hz2⟩ := info_parts infoNode
  obtain ⟨a, c, rfl, h⟩ := h
  have H := Lib.hid h
  have HL := Lib.hid hl
  clear h hl
  obtain ⟨n, hn⟩ : ∃ n, P.length = n := ⟨_, rfl⟩
  unfold OwnP
  rw [hn] at hm ⊢
  have HN := Lib.hid hn
  clear hn
  go_enter Try.func27, Try.ntmps27
  go_wp2_with (at_make; refine wpList_make_full _ rfl _ _ 26 rfl w.heap.size 39 i0 (.agg #[.slice none 0 0, .slice none 0 0, .int .i64 0, .int .i64 0, .int .i64 0]) 5 Try.underlying26 hi hz0 hz1 .i64 .i64 _ _ n rfl rfl rfl rfl (by rw [hz2]; omega) (by unfold maxLen; omega) (Nat.le_refl _) ?_; intro w1 hown hg)
  have hb := Below.grown (Below.refl w.heap.size w) hg (Nat.le_refl _) (by intro k hk; cases hk)
  obtain ⟨f0, hc0⟩ := cells_of_row hown
  have HC0 := Lib.hid hc0
  clear hown hg hc0
  go_wp2
  go_loopw [4] (fun i wr => ∃ (k : Nat) (f : Nat → Value), k ≤ n ∧ i = .int .i64 k ∧ Hid (OwnK wr w.heap.size n k f P) ∧ Below w.heap.size w wr) (fun i _ => n - (intOf i).toNat)
  case atStart => exact ⟨0, f0, Nat.zero_le _, rfl, ⟨HC0.out, fun _ _ h => by omega, fun _ _ _ h => by omega⟩, hb⟩
  case round =>
    clear HC0 hb
    obtain ⟨k, f, hk, rfl, HK, hb⟩ := hrel
    have HB := Lib.hid hb
    clear hb
    by_cases hlt : k < n
    · have hkl : k < P.length := by rw [HN.out]; exact hlt
      obtain ⟨b, o, vl, vr, rfl, h5, hL, hR⟩ := H.out k hkl
      have hd := HL.out P[k] (List.getElem_mem hkl)
      obtain ⟨d, hx⟩ : ∃ d, P[k] = d := ⟨_, rfl⟩
      have HX := Lib.hid hx
      rw [hx] at h5 hL hR hd
      have I1 := Lib.hid (hL.below HB.out)
      have I2 := Lib.hid (hR.below HB.out)
      have C := Lib.hid (fun W h h' => toNodeC vl vr d W h h' hd.1 hd.2)
      unfold nodeV at C
      have F1 := Lib.hid (h5.below HB.out)
      have i0' : (0 : Int) ≤ (k : Int) := by omega
      have i1 : (k : Int) < (n : Int) := by omega
      clear h5 hL hR hd hx
      obtain ⟨e0, e1, e2, e3, e4, -⟩ := F1.out
      go_wp2_with fail
      clear e0 e1 e2 e3 e4
      refine (C.out _ I1.out I2.out).mono ?_
      rintro e w2 ⟨x, y, rfl, ⟨x', y', hxy, o1, o2, sp, d1, d2⟩, b2⟩
      obtain ⟨rfl, rfl⟩ : x = x' ∧ y = y' := by simpa using hxy
      obtain ⟨gx, nx, cx, rfl⟩ := d1
      obtain ⟨gy, ny, cy, rfl⟩ := d2
      have BY := Lib.hid (below_up HB.out b2)
      have O1 := Lib.hid o1
      have O2 := Lib.hid o2
      have BW := Lib.hid b2
      have CW := Lib.hid (HK.out.cells.below b2)
      clear o1 o2 b2 hxy
      have q0 := (CW.out.2 (k * 5) (by omega)).1
      have q1 := (CW.out.2 (k * 5 + 1) (by omega)).1
      have q2 := (CW.out.2 (k * 5 + 2) (by omega)).1
      have q3 := (CW.out.2 (k * 5 + 3) (by omega)).1
      have q4 := (CW.out.2 (k * 5 + 4) (by omega)).1
      have z0 := (CW.out.2 (k * 5) (by omega)).2
      have z1 := (CW.out.2 (k * 5 + 1) (by omega)).2
      have z2 := (CW.out.2 (k * 5 + 2) (by omega)).2
      have z3 := (CW.out.2 (k * 5 + 3) (by omega)).2
      have z4 := (CW.out.2 (k * 5 + 4) (by omega)).2
      go_wp2
      go_roundw
      case rel =>
        have HP := HK.out.push (k := k) BW.out hkl hlt (x := .slice (some ⟨gx, 0, none⟩) nx cx) (y := .slice (some ⟨gy, 0, none⟩) ny cy) (by rw [HX.out]; exact O1.out) (by rw [HX.out]; exact O2.out) sp
        rw [HX.out] at HP
        exact ⟨k + 1, _, by omega, by go_num, HP, below_set5o BY.out (Nat.le_refl _) _ _ _ _ _ _⟩
      case measure => simp [intOf]; omega
    · obtain rfl : k = n := by omega
      go_wp2
      go_ret
      exact ⟨_, rfl, ⟨_, f, rfl, Nat.le_refl _, HK.out⟩, HB.out⟩
end Go.Proofs.Ytipbjioghicmlaa
