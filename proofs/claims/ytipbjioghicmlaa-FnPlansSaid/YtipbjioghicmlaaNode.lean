/- The contracts of the law's own helpers on one node of a plan: its size, its copy, and that it equals itself. Conditions: the sides read as integers and are short enough to be counted. -/
import Derived.Test.YtipbjioghicmlaaPlanPlain
namespace Go.Proofs.Ytipbjioghicmlaa
open Go.RowKit

/-- A node as a value. -/
def nodeV (vl vr : Value) (d : ND) : Value := .agg #[vl, vr, .int .i64 d.a, .int .i64 d.b, .int .i64 d.c]
/-- A node's five cells lie in block b from place o on. -/
def FiveAt (w : World) (b o : Nat) (vl vr : Value) (d : ND) : Prop :=
  w.cell? ⟨b, o, none⟩ = some vl ∧ w.cell? ⟨b, o + 1, none⟩ = some vr ∧ w.cell? ⟨b, o + 2, none⟩ = some (.int .i64 d.a) ∧ w.cell? ⟨b, o + 3, none⟩ = some (.int .i64 d.b) ∧ w.cell? ⟨b, o + 4, none⟩ = some (.int .i64 d.c) ∧ b < w.heap.size
theorem FiveAt.belowN {w w' : World} {b o B : Nat} {x y : Value} {d : ND} (h : FiveAt w b o x y d) (hb : Below B w w') (hlt : b < B) : FiveAt w' b o x y d := by
  obtain ⟨e0, e1, e2, e3, e4, h0⟩ := h
  refine ⟨?_, ?_, ?_, ?_, ?_, Nat.lt_of_lt_of_le h0 hb.size⟩
  · rw [hb.cell (p := ⟨b, o, none⟩) hlt]; exact e0
  · rw [hb.cell (p := ⟨b, o + 1, none⟩) hlt]; exact e1
  · rw [hb.cell (p := ⟨b, o + 2, none⟩) hlt]; exact e2
  · rw [hb.cell (p := ⟨b, o + 3, none⟩) hlt]; exact e3
  · rw [hb.cell (p := ⟨b, o + 4, none⟩) hlt]; exact e4
theorem FiveAt.below {w w' : World} {b o : Nat} {x y : Value} {d : ND} (h : FiveAt w b o x y d) (hb : Below w.heap.size w w') : FiveAt w' b o x y d := h.belowN hb h.2.2.2.2.2
theorem FiveAt.only {T : Nat → Prop} {w w' : World} {b o : Nat} {x y : Value} {d : ND} (h : FiveAt w b o x y d) (ho : Only T w w') (hb : ¬ T b) : FiveAt w' b o x y d := by
  obtain ⟨e0, e1, e2, e3, e4, h0⟩ := h
  have k := ho.block b h0 hb
  refine ⟨?_, ?_, ?_, ?_, ?_, Nat.lt_of_lt_of_le h0 ho.size⟩
  · rw [World.cell?_of_block (w := w) (a := ⟨b, o, none⟩) k]; exact e0
  · rw [World.cell?_of_block (w := w) (a := ⟨b, o + 1, none⟩) k]; exact e1
  · rw [World.cell?_of_block (w := w) (a := ⟨b, o + 2, none⟩) k]; exact e2
  · rw [World.cell?_of_block (w := w) (a := ⟨b, o + 3, none⟩) k]; exact e3
  · rw [World.cell?_of_block (w := w) (a := ⟨b, o + 4, none⟩) k]; exact e4
theorem FiveAt.new (w : World) (ty : TypeId) (x y : Value) (d : ND) : FiveAt (w.alloc (.cells #[x, y, .int .i64 d.a, .int .i64 d.b, .int .i64 d.c] ty)) w.heap.size 0 x y d := by
  refine ⟨?_, ?_, ?_, ?_, ?_, ?_⟩ <;> simp

set_option maxHeartbeats 800000 in
theorem szNodeC (vl vr : Value) (d : ND) (left : Int) (w : World) (hl : IntsAt w vl d.L) (hr : IntsAt w vr d.R) (ml : d.L.length ≤ maxLen) (mr : d.R.length ≤ maxLen) (h0 : 0 ≤ left) (h1 : left ≤ 1048576) :
    Calls Try.prog 58 #[nodeV vl vr d, .int .i64 left] w fun e w' => ∃ r, e = .returned (.int .i64 r) ∧ SzEq d.L d.R left r ∧ Below w.heap.size w w' := by
  have C := Lib.hid (fun W h h' => szWeighE vl vr d.L d.R left W h h' ml mr h0 h1)
  unfold nodeV
  have P1 := Lib.hid (FiveAt.new w 86 vl vr d)
  have B1 := Lib.hid (alloc_below w (.cells #[vl, vr, .int .i64 d.a, .int .i64 d.b, .int .i64 d.c] 86))
  generalize hX1 : w.alloc (.cells #[vl, vr, .int .i64 d.a, .int .i64 d.b, .int .i64 d.c] 86) = X1 at P1 B1
  have H1 := Lib.hid (hl.below B1.out)
  have H2 := Lib.hid (hr.below B1.out)
  clear hl hr
  obtain ⟨e0, e1, -⟩ := P1.out
  go_enter Try.func58, Try.ntmps58
  go_wp2_with fail
  refine (C.out _ H1.out H2.out).mono ?_
  rintro e w1 ⟨r, rfl, hs, b1⟩
  have BY := Lib.hid (below_up B1.out b1)
  have HS := Lib.hid hs
  clear b1 hs
  by_cases hneg : r < 0
  · go_wp2
    go_ret
    exact ⟨-1, rfl, .inl (by omega), BY.out⟩
  · go_wp2
    go_ret
    exact ⟨r, rfl, HS.out, BY.out⟩

set_option maxHeartbeats 1600000 in
theorem eqNodeC (vl vr ul ur : Value) (d : ND) (w : World) (h1 : IntsAt w vl d.L) (h2 : IntsAt w vr d.R) (h3 : IntsAt w ul d.L) (h4 : IntsAt w ur d.R) (ml : d.L.length ≤ 100000000) (mr : d.R.length ≤ 100000000) :
    Calls Try.prog 62 #[nodeV vl vr d, nodeV ul ur d] w fun e w' => e = .returned (.bool true) ∧ Below w.heap.size w w' := by
  have C := Lib.hid (fun W a b c e => eqWeigh_same vl vr ul ur d.L d.R W a b c e ml mr)
  unfold nodeV
  have P1 := Lib.hid (FiveAt.new w 39 vl vr d)
  have B1 := Lib.hid (alloc_below w (.cells #[vl, vr, .int .i64 d.a, .int .i64 d.b, .int .i64 d.c] 39))
  generalize hX1 : w.alloc (.cells #[vl, vr, .int .i64 d.a, .int .i64 d.b, .int .i64 d.c] 39) = X1 at P1 B1
  have s1 : X1.heap.size = w.heap.size + 1 := by rw [← hX1]; simp
  have P2 : Hid (FiveAt (X1.alloc (.cells #[ul, ur, .int .i64 d.a, .int .i64 d.b, .int .i64 d.c] 39)) (w.heap.size + 1) 0 ul ur d) := by rw [← s1]; exact FiveAt.new _ _ _ _ _
  have B2 := Lib.hid (alloc_below X1 (.cells #[ul, ur, .int .i64 d.a, .int .i64 d.b, .int .i64 d.c] 39))
  generalize hX2 : X1.alloc (.cells #[ul, ur, .int .i64 d.a, .int .i64 d.b, .int .i64 d.c] 39) = X2 at P2 B2
  have T1 := Lib.hid (P1.out.below B2.out)
  have BX := Lib.hid (below_up B1.out B2.out)
  have H1 := Lib.hid (h1.below BX.out)
  have H2 := Lib.hid (h2.below BX.out)
  have H3 := Lib.hid (h3.below BX.out)
  have H4 := Lib.hid (h4.below BX.out)
  clear h1 h2 h3 h4
  obtain ⟨e0, e1, -⟩ := T1.out
  obtain ⟨f0, f1, -⟩ := P2.out
  go_enter Try.func62, Try.ntmps62
  go_wp2_with fail
  clear e0 e1 f0 f1
  refine (C.out _ H1.out H2.out H3.out H4.out).mono ?_
  rintro e w1 ⟨rfl, b1⟩
  have BY := Lib.hid (below_up BX.out b1)
  obtain ⟨-, -, e2, e3, e4, -⟩ := T1.out.below b1
  obtain ⟨-, -, f2, f3, f4, -⟩ := P2.out.below b1
  clear b1 hX1 hX2
  go_wp2
  go_ret
  exact ⟨rfl, BY.out⟩

/-- A node's five cells lie in block b. -/
def Five (w : World) (b : Nat) (x y : Value) (p q r : Int) : Prop :=
  w.cell? ⟨b, 0, none⟩ = some x ∧ w.cell? ⟨b, 1, none⟩ = some y ∧ w.cell? ⟨b, 2, none⟩ = some (.int .i64 p) ∧ w.cell? ⟨b, 3, none⟩ = some (.int .i64 q) ∧ w.cell? ⟨b, 4, none⟩ = some (.int .i64 r) ∧ b < w.heap.size
theorem FiveAt.zero {w : World} {b : Nat} {x y : Value} {d : ND} (h : FiveAt w b 0 x y d) : Five w b x y d.a d.b d.c := h
theorem Five.below {w w' : World} {b : Nat} {x y : Value} {p q r : Int} (h : Five w b x y p q r) (hb : Below w.heap.size w w') : Five w' b x y p q r := FiveAt.below (d := ⟨[], [], p, q, r⟩) (o := 0) h hb
theorem Five.new (w : World) (ty : TypeId) (x y : Value) (p q r : Int) : Five (w.alloc (.cells #[x, y, .int .i64 p, .int .i64 q, .int .i64 r] ty)) w.heap.size x y p q r := FiveAt.new w ty x y ⟨[], [], p, q, r⟩
/-- A variable that holds a node lies in block b; its cells may be written. -/
def FiveVar (w : World) (b : Nat) (x y : Value) (p q r : Int) : Prop :=
  Five w b x y p q r ∧ w.frozen? ⟨b, 0, none⟩ = false ∧ w.frozen? ⟨b, 1, none⟩ = false ∧ w.frozen? ⟨b, 2, none⟩ = false ∧ w.frozen? ⟨b, 3, none⟩ = false ∧ w.frozen? ⟨b, 4, none⟩ = false
theorem FiveVar.new (w : World) (ty : TypeId) (x y : Value) (p q r : Int) : FiveVar (w.alloc (.cells #[x, y, .int .i64 p, .int .i64 q, .int .i64 r] ty)) w.heap.size x y p q r := by
  refine ⟨Five.new w ty x y p q r, ?_, ?_, ?_, ?_, ?_⟩ <;> simp
theorem FiveVar.below {w w' : World} {b : Nat} {x y : Value} {p q r : Int} (h : FiveVar w b x y p q r) (hb : Below w.heap.size w w') : FiveVar w' b x y p q r := by
  have hlt := h.1.2.2.2.2.2
  refine ⟨h.1.below hb, ?_, ?_, ?_, ?_, ?_⟩
  · rw [hb.frozen (p := ⟨b, 0, none⟩) hlt]; exact h.2.1
  · rw [hb.frozen (p := ⟨b, 1, none⟩) hlt]; exact h.2.2.1
  · rw [hb.frozen (p := ⟨b, 2, none⟩) hlt]; exact h.2.2.2.1
  · rw [hb.frozen (p := ⟨b, 3, none⟩) hlt]; exact h.2.2.2.2.1
  · rw [hb.frozen (p := ⟨b, 4, none⟩) hlt]; exact h.2.2.2.2.2

/-- The first n cells of block b are given by f, and may be written. -/
def Cells (w : World) (b n : Nat) (f : Nat → Value) : Prop := b < w.heap.size ∧ ∀ o, o < n → w.cell? ⟨b, o, none⟩ = some (f o) ∧ w.frozen? ⟨b, o, none⟩ = false
theorem Cells.set {w : World} {b n : Nat} {f : Nat → Value} (h : Cells w b n f) (i : Nat) (hi : i < n) (u : Value) : Cells (w.setCell ⟨b, i, none⟩ u) b n (fun o => if o = i then u else f o) := by
  refine ⟨by simpa [World.setCell] using h.1, fun o ho => ⟨?_, by simpa using (h.2 o ho).2⟩⟩
  by_cases e : o = i
  · subst e
    simp only [if_pos]
    exact World.cell?_setCell_same (w := w) (a := ⟨b, o, none⟩) (v := u) (h.2 o ho).1
  · simp only [if_neg e]
    rw [World.cell?_setCell_other (w := w) (a := ⟨b, i, none⟩) (b := ⟨b, o, none⟩) (v := u) (fun e' => e (congrArg Addr.off e').symm)]
    exact (h.2 o ho).1
theorem Cells.far {w : World} {b n c : Nat} {f : Nat → Value} (h : Cells w b n f) (hc : c ≠ b) (i : Nat) (u : Value) : Cells (w.setCell ⟨c, i, none⟩ u) b n f :=
  ⟨by simpa [World.setCell] using h.1, fun o ho => ⟨by rw [World.cell?_setCell_other (w := w) (a := ⟨c, i, none⟩) (b := ⟨b, o, none⟩) (v := u) (fun e => hc (congrArg Addr.block e))]; exact (h.2 o ho).1, by simpa using (h.2 o ho).2⟩⟩
theorem FiveVar.cells {w : World} {b : Nat} {x y : Value} {p q r : Int} (h : FiveVar w b x y p q r) : ∃ f, Cells w b 5 f :=
  ⟨fun o => if o = 0 then x else if o = 1 then y else if o = 2 then .int .i64 p else if o = 3 then .int .i64 q else .int .i64 r, h.1.2.2.2.2.2, fun o ho => match o, ho with
    | 0, _ => ⟨h.1.1, h.2.1⟩
    | 1, _ => ⟨h.1.2.1, h.2.2.1⟩
    | 2, _ => ⟨h.1.2.2.1, h.2.2.2.1⟩
    | 3, _ => ⟨h.1.2.2.2.1, h.2.2.2.2.1⟩
    | 4, _ => ⟨h.1.2.2.2.2.1, h.2.2.2.2.2⟩⟩
/-- Five cells written one behind another. -/
def set5 (w : World) (b : Nat) (x y : Value) (p q r : Int) : World :=
  ((((w.setCell ⟨b, 0, none⟩ x).setCell ⟨b, 1, none⟩ y).setCell ⟨b, 2, none⟩ (.int .i64 p)).setCell ⟨b, 3, none⟩ (.int .i64 q)).setCell ⟨b, 4, none⟩ (.int .i64 r)
theorem Cells.set5 {w : World} {b : Nat} {f : Nat → Value} (h : Cells w b 5 f) (x y : Value) (p q r : Int) : Five (set5 w b x y p q r) b x y p q r := by
  have k := ((((h.set 0 (by omega) x).set 1 (by omega) y).set 2 (by omega) (.int .i64 p)).set 3 (by omega) (.int .i64 q)).set 4 (by omega) (.int .i64 r)
  exact ⟨(k.2 0 (by omega)).1, (k.2 1 (by omega)).1, (k.2 2 (by omega)).1, (k.2 3 (by omega)).1, (k.2 4 (by omega)).1, k.1⟩
theorem Cells.far5 {w : World} {b n c : Nat} {f : Nat → Value} (h : Cells w b n f) (hc : c ≠ b) (x y : Value) (p q r : Int) : Cells (Go.Proofs.Ytipbjioghicmlaa.set5 w c x y p q r) b n f := ((((h.far hc 0 x).far hc 1 y).far hc 2 _).far hc 3 _).far hc 4 _
theorem Own.set5 {w : World} {B : Nat} {v : Value} {l : List Int} (h : Own w B v l) {c : Nat} (hc : c < B) (x y : Value) (p q r : Int) : Own (Go.Proofs.Ytipbjioghicmlaa.set5 w c x y p q r) B v l := ((((h.setCell hc x).setCell hc y).setCell hc _).setCell hc _).setCell hc _
theorem below_set5 {w W : World} {B : Nat} (h : Below B W w) {c : Nat} (hc : B ≤ c) (x y : Value) (p q r : Int) : Below B W (set5 w c x y p q r) :=
  ((((h.setCell (p := ⟨c, 0, none⟩) hc x).setCell (p := ⟨c, 1, none⟩) hc y).setCell (p := ⟨c, 2, none⟩) hc _).setCell (p := ⟨c, 3, none⟩) hc _).setCell (p := ⟨c, 4, none⟩) hc _

set_option maxHeartbeats 3200000 in
theorem toNodeC (vl vr : Value) (d : ND) (w : World) (hl : IntsAt w vl d.L) (hr : IntsAt w vr d.R) (ml : d.L.length ≤ 1048576) (mr : d.R.length ≤ 1048576) :
    Calls Try.prog 61 #[nodeV vl vr d] w fun e w' => ∃ ul ur, e = .returned (nodeV ul ur d) ∧ OwnW w' w.heap.size (.agg #[ul, ur]) d.L d.R ∧ Below w.heap.size w w' := by
  have C := Lib.hid (fun W h h' => toWeigh vl vr d.L d.R W h h' ml mr)
  unfold nodeV
  have P1 := Lib.hid (FiveAt.new w 86 vl vr d)
  have B1 := Lib.hid (alloc_below w (.cells #[vl, vr, .int .i64 d.a, .int .i64 d.b, .int .i64 d.c] 86))
  generalize hX1 : w.alloc (.cells #[vl, vr, .int .i64 d.a, .int .i64 d.b, .int .i64 d.c] 86) = X1 at P1 B1
  have s1 : X1.heap.size = w.heap.size + 1 := by rw [← hX1]; simp
  have P2 : Hid (FiveVar (X1.alloc (.cells #[.slice none 0 0, .slice none 0 0, .int .i64 0, .int .i64 0, .int .i64 0] 39)) (w.heap.size + 1) (.slice none 0 0) (.slice none 0 0) 0 0 0) := by rw [← s1]; exact FiveVar.new _ _ _ _ _ _ _
  have B2 := Lib.hid (alloc_below X1 (.cells #[.slice none 0 0, .slice none 0 0, .int .i64 0, .int .i64 0, .int .i64 0] 39))
  generalize hX2 : X1.alloc (.cells #[.slice none 0 0, .slice none 0 0, .int .i64 0, .int .i64 0, .int .i64 0] 39) = X2 at P2 B2
  have s2 : X2.heap.size = w.heap.size + 2 := by rw [← hX2]; simp [s1]
  have P3 : Hid (FiveVar (X2.alloc (.cells #[.slice none 0 0, .slice none 0 0, .int .i64 0, .int .i64 0, .int .i64 0] 39)) (w.heap.size + 2) (.slice none 0 0) (.slice none 0 0) 0 0 0) := by rw [← s2]; exact FiveVar.new _ _ _ _ _ _ _
  have B3 := Lib.hid (alloc_below X2 (.cells #[.slice none 0 0, .slice none 0 0, .int .i64 0, .int .i64 0, .int .i64 0] 39))
  generalize hX3 : X2.alloc (.cells #[.slice none 0 0, .slice none 0 0, .int .i64 0, .int .i64 0, .int .i64 0] 39) = X3 at P3 B3
  have s3 : X3.heap.size = w.heap.size + 3 := by rw [← hX3]; simp [s2]
  have BX := Lib.hid (below_up (below_up B1.out B2.out) B3.out)
  have T1 := Lib.hid ((P1.out.below B2.out).below B3.out)
  have T2 := Lib.hid (P2.out.below B3.out)
  have H1 := Lib.hid (hl.below BX.out)
  have H2 := Lib.hid (hr.below BX.out)
  clear hl hr
  obtain ⟨e0, e1, -⟩ := T1.out
  go_enter Try.func61, Try.ntmps61
  go_wp2_with fail
  clear e0 e1
  refine (C.out _ H1.out H2.out).mono ?_
  rintro e w4 ⟨_, rfl, ⟨ul, ur, rfl, o1, o2, sp, d1, d2⟩, b4⟩
  have BY := Lib.hid (below_up BX.out b4)
  have O1 := Lib.hid o1
  have O2 := Lib.hid o2
  have T4 := Lib.hid (T1.out.below b4)
  have V2 := Lib.hid (T2.out.below b4)
  have V3 := Lib.hid (P3.out.below b4)
  have SZ := Lib.hid s3
  obtain ⟨g1, n1, c1, rfl⟩ := d1
  obtain ⟨g2, n2, c2, rfl⟩ := d2
  clear hX1 hX2 hX3 s1 s2 s3 o1 o2 b4 P1 P2 P3 B1 B2 B3 T1 T2
  obtain ⟨-, -, e2, e3, e4, -⟩ := T4.out.zero
  obtain ⟨⟨f0, f1, f2, f3, f4, f5⟩, f6, f7, f8, f9, fa⟩ := V2.out
  obtain ⟨⟨q0, q1, q2, q3, q4, q5⟩, q6, q7, q8, q9, qa⟩ := V3.out
  go_wp2
  obtain ⟨U, hU⟩ : ∃ U, set5 (set5 w4 (w.heap.size + 2) (.slice (some ⟨g1, 0, none⟩) n1 c1) (.slice (some ⟨g2, 0, none⟩) n2 c2) d.a d.b d.c) (w.heap.size + 1) (.slice (some ⟨g1, 0, none⟩) n1 c1) (.slice (some ⟨g2, 0, none⟩) n2 c2) d.a d.b d.c = U := ⟨_, rfl⟩
  have hS := SZ.out
  obtain ⟨F2, C2⟩ := V2.out.cells
  have R5 : Five U (w.heap.size + 1) (.slice (some ⟨g1, 0, none⟩) n1 c1) (.slice (some ⟨g2, 0, none⟩) n2 c2) d.a d.b d.c := by rw [← hU]; exact (C2.far5 (by omega) _ _ _ _ _).set5 _ _ _ _ _
  have Q1 : Own U X3.heap.size (.slice (some ⟨g1, 0, none⟩) n1 c1) d.L := by rw [← hU]; exact (O1.out.set5 (by omega) _ _ _ _ _).set5 (by omega) _ _ _ _ _
  have Q2 : Own U X3.heap.size (.slice (some ⟨g2, 0, none⟩) n2 c2) d.R := by rw [← hU]; exact (O2.out.set5 (by omega) _ _ _ _ _).set5 (by omega) _ _ _ _ _
  have BU : Below w.heap.size w U := by rw [← hU]; exact below_set5 (below_set5 BY.out (by omega) _ _ _ _ _) (by omega) _ _ _ _ _
  unfold set5 at hU
  rw [hU]
  obtain ⟨u0, u1, u2, u3, u4, -⟩ := R5
  refine bodyPost_ret (v := .agg #[.slice (some ⟨g1, 0, none⟩) n1 c1, .slice (some ⟨g2, 0, none⟩) n2 c2, .int .i64 d.a, .int .i64 d.b, .int .i64 d.c]) (by simp [results, Try.results61, go_sem, u0, u1, u2, u3, u4]) rfl ⟨_, _, rfl, ⟨_, _, rfl, Q1.lower (by omega), Q2.lower (by omega), sp, ⟨_, _, _, rfl⟩, ⟨_, _, _, rfl⟩⟩, BU⟩
end Go.Proofs.Ytipbjioghicmlaa
