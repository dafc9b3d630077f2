/- The walk of the law of TurnWeighing round the contract of the program's function: it returns true for every argument. Condition: the sides that came in read as integers. -/
import Derived.Test.YtdfcjdepfikboaaWeighLaw
import Derived.Test.YtdfcjdepfikboaaTurnSpec
namespace Go.Proofs.Ytdfcjdepfikboaa
open Go.RowKit

/-- A list read from blocks in S. -/
def Rd (S : Nat → Prop) (W : World) (v : Value) (l : List Int) : Prop := IntsAt W v l ∧ (l = [] ∨ Blk S v)
theorem IntsAt.rd {W : World} {v : Value} {l : List Int} (h : IntsAt W v l) : Rd (· < W.heap.size) W v l := by
  refine ⟨h, ?_⟩
  obtain ⟨a, cap, rfl, h⟩ := h
  rcases h with h | ⟨b, off, rfl, hc⟩
  · exact .inl h
  · by_cases hl : l = []
    · exact .inl hl
    · refine .inr fun k hk => ?_
      have : b = k := by simpa [Value.ownBlock] using hk
      subst this
      exact World.block_lt_of_cell? W _ (hc 0 (by cases l with | nil => exact absurd rfl hl | cons => simp))
theorem Rd.only {S T : Nat → Prop} {W W' : World} {v : Value} {l : List Int} (h : Rd S W v l) (ho : Only T W W') (hd : ∀ k, S k → ¬ T k) : Rd S W' v l := by
  refine ⟨?_, h.2⟩
  rcases h.2 with rfl | hb
  · obtain ⟨a, cap, rfl, _⟩ := h.1
    exact ⟨a, cap, rfl, .inl rfl⟩
  · exact h.1.only ho fun k hk => hd k (hb k hk)
theorem Rd.below {S : Nat → Prop} {W W' : World} {v : Value} {l : List Int} (h : Rd S W v l) (hb : Below W.heap.size W W') : Rd S W' v l := ⟨h.1.below hb, h.2⟩
theorem Rd.mono {S S' : Nat → Prop} {W : World} {v : Value} {l : List Int} (h : Rd S W v l) (hS : ∀ k, S k → S' k) : Rd S' W v l := ⟨h.1, h.2.imp id fun hb => hb.mono hS⟩

/-- In the world W the weighing that came in at w lies in the law's own variable and reads as L and R, all below the law's own blocks. -/
structure InB (w W : World) (vl vr : Value) (L R : List Int) : Prop where
  two : TwoAt W w.heap.size vl vr
  left : Rd (· < w.heap.size) W vl L
  right : Rd (· < w.heap.size) W vr R
  bel : Below w.heap.size w W
theorem InB.below {w W W' : World} {vl vr : Value} {L R : List Int} (h : InB w W vl vr L R) (hb : Below W.heap.size W W') : InB w W' vl vr L R := ⟨h.two.below hb, h.left.below hb, h.right.below hb, below_up h.bel hb⟩
theorem InB.only {w W W' : World} {vl vr : Value} {L R : List Int} {T : Nat → Prop} (h : InB w W vl vr L R) (ho : Only T W W') (hT : ∀ k, T k → w.heap.size < k) : InB w W' vl vr L R :=
  ⟨h.two.only ho fun e => by have := hT _ e; omega, h.left.only ho fun k hk e => by have := hT k e; omega, h.right.only ho fun k hk e => by have := hT k e; omega,
   h.bel.trans (ho.below h.bel.size fun k e => by have := hT k e; omega)⟩
theorem InB.new {w : World} {vl vr : Value} {L R : List Int} (ty : TypeId) (hl : IntsAt w vl L) (hr : IntsAt w vr R) : InB w (w.alloc (.cells #[vl, vr] ty)) vl vr L R :=
  ⟨TwoAt.new w ty vl vr, hl.rd.below (alloc_below _ _), hr.rd.below (alloc_below _ _), alloc_below _ _⟩

/-- In the world W a weighing of the law's own, its lists in the blocks from lo up to hi, lies in a variable in block b. -/
structure Var (W : World) (b lo hi : Nat) (vl vr : Value) (L R : List Int) : Prop where
  two : TwoAt W b vl vr
  left : Own W lo vl L
  right : Own W lo vr R
  ul : Blk (· < hi) vl
  ur : Blk (· < hi) vr
  sep : Sep vl vr
  hb : hi ≤ b
  lh : lo ≤ hi
theorem Var.below {W W' : World} {b lo hi : Nat} {vl vr : Value} {L R : List Int} (h : Var W b lo hi vl vr L R) (hb : Below W.heap.size W W') : Var W' b lo hi vl vr L R :=
  ⟨h.two.below hb, h.left.below hb, h.right.below hb, h.ul, h.ur, h.sep, h.hb, h.lh⟩
theorem Var.only {W W' : World} {b lo hi : Nat} {vl vr : Value} {L R : List Int} {T : Nat → Prop} (h : Var W b lo hi vl vr L R) (ho : Only T W W') (hT : ∀ k, T k → k < lo ∨ hi ≤ k ∧ k ≠ b) : Var W' b lo hi vl vr L R := by
  have hbb := h.hb
  have hlh := h.lh
  refine ⟨h.two.only ho fun e => ?_, h.left.only ho fun k hk e => ?_, h.right.only ho fun k hk e => ?_, h.ul, h.ur, h.sep, h.hb, h.lh⟩
  · rcases hT _ e with h1 | h1
    · omega
    · exact h1.2 rfl
  · have a1 := (h.left.blk k hk).1
    have a2 := h.ul k hk
    rcases hT k e with h1 | h1 <;> omega
  · have a1 := (h.right.blk k hk).1
    have a2 := h.ur k hk
    rcases hT k e with h1 | h1 <;> omega
theorem Var.new {W : World} {lo : Nat} {vl vr : Value} {L R : List Int} (ty : TypeId) (h1 : Own W lo vl L) (h2 : Own W lo vr R) (hs : Sep vl vr) (hl : lo ≤ W.heap.size) : Var (W.alloc (.cells #[vl, vr] ty)) W.heap.size lo W.heap.size vl vr L R :=
  ⟨TwoAt.new W ty vl vr, h1.below (alloc_below _ _), h2.below (alloc_below _ _), fun k hk => (h1.blk k hk).2, fun k hk => (h2.blk k hk).2, hs, Nat.le_refl _, hl⟩
theorem Var.sides {W : World} {b lo hi : Nat} {vl vr : Value} {L R : List Int} (h : Var W b lo hi vl vr L R) : ∀ k, Sides vl vr k → lo ≤ k ∧ k < hi := by
  rintro k (hk | hk)
  · exact ⟨(h.left.blk k hk).1, h.ul k hk⟩
  · exact ⟨(h.right.blk k hk).1, h.ur k hk⟩
/-- Marks in the lists of the variable itself. -/
theorem Var.marked {W W' : World} {b lo hi : Nat} {vl vr : Value} {L R L' R' : List Int} (h : Var W b lo hi vl vr L R) (ho : Only (Sides vl vr) W W') (h1 : Own W' lo vl L') (h2 : Own W' lo vr R') : Var W' b lo hi vl vr L' R' :=
  ⟨h.two.only ho fun e => by have := h.sides _ e; have := h.hb; omega, h1, h2, h.ul, h.ur, h.sep, h.hb, h.lh⟩

/-- A weighing whose sides are lists of the call's own, from block B on, in different blocks. -/
def OwnF (w : World) (B : Nat) (v : Value) (L R : List Int) : Prop := ∃ vl vr, v = .agg #[vl, vr] ∧ Own w B vl L ∧ Own w B vr R ∧ Sep vl vr

/-- The contract of a function that exchanges the sides. -/
def TurnIs (f : FuncId) (L R : List Int) : Prop :=
  ∀ W gl cl gr cr, IntsAt W (.slice (some ⟨gl, 0, none⟩) L.length cl) L → IntsAt W (.slice (some ⟨gr, 0, none⟩) R.length cr) R → gl < W.heap.size → gr < W.heap.size →
    Calls Try.prog f #[.agg #[.slice (some ⟨gl, 0, none⟩) L.length cl, .slice (some ⟨gr, 0, none⟩) R.length cr]] W fun e w' => ∃ v, e = .returned v ∧ OwnF w' W.heap.size v R L ∧ Below W.heap.size W w'

/-- A solid slice that reads as a list is written out. -/
theorem solid_form {W : World} {B : Nat} {v : Value} {l : List Int} (h : Own W B v l) (hs : Solid v) : ∃ g c, v = .slice (some ⟨g, 0, none⟩) l.length c ∧ g < W.heap.size := by
  obtain ⟨g, n, c, rfl⟩ := hs
  obtain ⟨a, c', hv, _⟩ := h.reads
  cases hv
  exact ⟨g, c, rfl, (h.blk g rfl).2⟩

set_option maxHeartbeats 3200000 in
theorem lawTurnWeighing (IM : ∀ (L R : List Int), L.length ≤ 1048576 → R.length ≤ 1048576 → TurnIs 11 L R)
    (w : World) (vl : Value) (L : List Int) (cl : CameInts w vl L) (vr : Value) (R : List Int) (cr : CameInts w vr R) :
    Calls Try.prog 8 #[.agg #[vl, vr]] w fun e w' => e = .returned (.bool true) ∧ Below w.heap.size w w' := by
  obtain ⟨hl, ml, -⟩ := cl
  obtain ⟨hr, mr, -⟩ := cr
  have J0 := Lib.hid (InB.new 33 hl hr)
  have hsz := Lib.hid (fun W h h' => szWeigh vl vr L R 1048576 W h h' ml mr (by omega) (by omega))
  generalize hX1 : w.alloc (.cells #[vl, vr] 33) = X1 at J0
  clear hl hr
  obtain ⟨e0, e1, -⟩ := J0.out.two
  go_enter Try.func8, Try.ntmps8
  go_wp2_with fail
  clear e0 e1
  refine (hsz.out _ J0.out.left.1 J0.out.right.1).mono ?_
  rintro e w1 ⟨r, rfl, hr, b1⟩
  have J1 := Lib.hid (J0.out.below b1)
  clear b1 hX1
  by_cases hneg : r < 0
  · go_wp2
    go_ret
    exact ⟨rfl, J1.out.bel⟩
  · obtain ⟨r0, r1, hlen⟩ : 0 ≤ r ∧ r ≤ 1048576 ∧ (L.length : Int) + (R.length : Int) ≤ 1048576 := by
      rcases hr with h | h
      · omega
      · exact h
    have T := Lib.hid (fun W h h' => toWeigh vl vr L R W h h' (by omega) (by omega))
    have SP := Lib.hid (fun W gl cl gr cr h h' h1 h2 => specTurn gl gr cl cr L R W h h' h1 h2 (by omega) (by omega))
    have IP := Lib.hid (IM L R (by omega) (by omega))
    have EL := Lib.hid (fun W a b c d h1 h2 h3 h4 => eqWeigh_same a b c d L R W h1 h2 h3 h4 (by omega) (by omega))
    have ER := Lib.hid (fun W a b c d h1 h2 h3 h4 => eqWeigh_same a b c d R L W h1 h2 h3 h4 (by omega) (by omega))
    have ML := Lib.hid (fun W B a b h1 h2 hs => markWeigh B B a b 1 L R W h1 h2 hs (by omega) (by omega) (by omega) (by omega))
    have MR := Lib.hid (fun W B a b h1 h2 hs => markWeigh B B a b 1 R L W h1 h2 hs (by omega) (by omega) (by omega) (by omega))
    have HR := Lib.hid (fun W a b h1 h2 => heldWeigh a b 1 R.length L.length W h1 h2 (by omega) (by omega) (by omega) (by omega))
    unfold TurnIs at IP
    obtain ⟨k1, hk1⟩ : ∃ k1, (1 : Int) + (L.length : Int) + (R.length : Int) = k1 := ⟨_, rfl⟩
    obtain ⟨k2, hk2⟩ : ∃ k2, (1 : Int) + (R.length : Int) + (L.length : Int) = k2 := ⟨_, rfl⟩
    have p1 : 0 ≤ k1 := by omega
    have p2 : 0 ≤ k2 := by omega
    rw [hk1] at ML
    rw [hk2] at MR HR
    clear hr ml mr hlen r1 hk1 hk2
    obtain ⟨e0, e1, -⟩ := J1.out.two
    go_wp2_with fail
    clear e0 e1
    refine (T.out _ J1.out.left.1 J1.out.right.1).mono ?_
    rintro e w2 ⟨_, rfl, ⟨ul, ur, rfl, A1, A2, -, D1, D2⟩, b2⟩
    obtain ⟨g1, c1, rfl, l1⟩ := solid_form A1 D1
    obtain ⟨g2, c2, rfl, l2⟩ := solid_form A2 D2
    have J2 := Lib.hid (J1.out.below b2)
    have G1 := Lib.hid A1.reads
    have G2 := Lib.hid A2.reads
    have U1 := Lib.hid l1
    have U2 := Lib.hid l2
    clear A1 A2 b2 l1 l2
    go_wp2_with fail
    refine (SP.out _ _ _ _ _ G1.out G2.out U1.out U2.out).mono ?_
    rintro e w3 ⟨_, rfl, ⟨pl, pr, rfl, A1, A2, S3, D1, D2⟩, b3⟩
    obtain ⟨ga, na, ca, rfl⟩ := D1
    obtain ⟨gb, nb, cb, rfl⟩ := D2
    have V3 := Lib.hid (Var.new 26 A1 A2 S3 b3.size)
    have J3 := Lib.hid ((J2.out.below b3).below (alloc_below w3 (.cells #[.slice (some ⟨ga, 0, none⟩) na ca, .slice (some ⟨gb, 0, none⟩) nb cb] 26)))
    have Z2 := Lib.hid J2.out.two.2.2
    clear A1 A2 S3 b3
    generalize hX3 : w3.alloc (.cells #[.slice (some ⟨ga, 0, none⟩) na ca, .slice (some ⟨gb, 0, none⟩) nb cb] 26) = X3 at V3 J3
    have s3 : Hid (X3.heap.size = w3.heap.size + 1) := by unfold Hid; rw [← hX3]; simp
    obtain ⟨e0, e1, -⟩ := J3.out.two
    go_wp2_with fail
    clear e0 e1
    refine (T.out _ J3.out.left.1 J3.out.right.1).mono ?_
    rintro e w4 ⟨_, rfl, ⟨xl, xr, rfl, A1, A2, S4, D1, D2⟩, b4⟩
    obtain ⟨gc, cc, rfl, l1⟩ := solid_form A1 D1
    obtain ⟨gd, cd, rfl, l2⟩ := solid_form A2 D2
    have V4 := Lib.hid (Var.new 26 A1 A2 S4 b4.size)
    have P4 := Lib.hid ((V3.out.below b4).below (alloc_below w4 (.cells #[.slice (some ⟨gc, 0, none⟩) L.length cc, .slice (some ⟨gd, 0, none⟩) R.length cd] 26)))
    have J4 := Lib.hid ((J3.out.below b4).below (alloc_below w4 (.cells #[.slice (some ⟨gc, 0, none⟩) L.length cc, .slice (some ⟨gd, 0, none⟩) R.length cd] 26)))
    have U1 := Lib.hid l1
    have U2 := Lib.hid l2
    have Z4 := Lib.hid b4.size
    clear A1 A2 S4 b4 l1 l2 hX3
    generalize hX4 : w4.alloc (.cells #[.slice (some ⟨gc, 0, none⟩) L.length cc, .slice (some ⟨gd, 0, none⟩) R.length cd] 26) = X4 at V4 J4 P4
    have s4 : Hid (X4.heap.size = w4.heap.size + 1) := by unfold Hid; rw [← hX4]; simp
    obtain ⟨e0, e1, -⟩ := V4.out.two
    go_wp2_with fail
    clear e0 e1
    refine (IP.out _ _ _ _ _ V4.out.left.reads V4.out.right.reads (by have := U1.out; have := s4.out; omega) (by have := U2.out; have := s4.out; omega)).mono ?_
    rintro e w5 ⟨_, rfl, ⟨yl, yr, rfl, A1, A2, S5⟩, b5⟩
    obtain ⟨ge, ne, ce, rfl⟩ := A1.form
    obtain ⟨gf, nf, cf, rfl⟩ := A2.form
    have V5 := Lib.hid (Var.new 26 A1 A2 S5 b5.size)
    have Q5 := Lib.hid ((V4.out.below b5).below (alloc_below w5 (.cells #[.slice ge ne ce, .slice gf nf cf] 26)))
    have P5 := Lib.hid ((P4.out.below b5).below (alloc_below w5 (.cells #[.slice ge ne ce, .slice gf nf cf] 26)))
    have J5 := Lib.hid ((J4.out.below b5).below (alloc_below w5 (.cells #[.slice ge ne ce, .slice gf nf cf] 26)))
    have Z5 := Lib.hid b5.size
    clear A1 A2 S5 b5 hX4
    generalize hX5 : w5.alloc (.cells #[.slice ge ne ce, .slice gf nf cf] 26) = X5 at V5 Q5 P5 J5
    obtain ⟨e0, e1, -⟩ := V5.out.two
    obtain ⟨e2, e3, -⟩ := P5.out.two
    go_wp2_with fail
    clear e0 e1 e2 e3
    refine (ER.out _ _ _ _ _ V5.out.left.reads V5.out.right.reads P5.out.left.reads P5.out.right.reads).mono ?_
    rintro e w6 ⟨rfl, b6⟩
    have V6 := Lib.hid (V5.out.below b6)
    have Q6 := Lib.hid (Q5.out.below b6)
    have P6 := Lib.hid (P5.out.below b6)
    have J6 := Lib.hid (J5.out.below b6)
    clear b6 hX5
    obtain ⟨e0, e1, -⟩ := J6.out.two
    obtain ⟨e2, e3, -⟩ := Q6.out.two
    go_wp2_with fail
    first | (go_region_held3 (fun w' => (w'.cell? ⟨w.heap.size, 0, none⟩ = some vl ∧ w'.cell? ⟨w.heap.size, 1, none⟩ = some vr ∧ w.heap.size < w'.heap.size) ∧ (w'.cell? ⟨w4.heap.size, 0, none⟩ = some (.slice (some ⟨gc, 0, none⟩) L.length cc) ∧ w'.cell? ⟨w4.heap.size, 1, none⟩ = some (.slice (some ⟨gd, 0, none⟩) R.length cd) ∧ w4.heap.size < w'.heap.size))
      (first | exact ⟨J8.out.two, Q8.out.two⟩ | exact ⟨J7.out.two, Q7.out.two⟩ | exact ⟨J6.out.two.drewT, Q6.out.two.drewT⟩)
      (first
        | (go_at_call 17; refine (T.out _ J6.out.left.1.drewT J6.out.right.1.drewT).mono ?_; rintro e w7 ⟨_, rfl, ⟨zl, zr, rfl, A1, A2, -, -, -⟩, b7⟩; have bb := (Below.refl w6.heap.size w6).drew.trans b7; have J7 := Lib.hid (J6.out.below bb); have V7 := Lib.hid (V6.out.below bb); have Q7 := Lib.hid (Q6.out.below bb); have P7 := Lib.hid (P6.out.below bb); have Z1 := Lib.hid A1.reads; have Z2' := Lib.hid A2.reads; clear A1 A2 b7 bb)
        | (go_at_call 18; refine (EL.out _ _ _ _ _ Q7.out.left.reads Q7.out.right.reads Z1.out Z2'.out).mono ?_; rintro e w8 ⟨rfl, b8⟩; have J8 := Lib.hid (J7.out.below b8); have V8 := Lib.hid (V7.out.below b8); have Q8 := Lib.hid (Q7.out.below b8); have P8 := Lib.hid (P7.out.below b8); clear b8)
        | fail)) | fail
    obtain ⟨e2, e3, -⟩ := Q8.out.two
    go_wp2_with fail
    clear e2 e3
    refine (ML.out _ _ _ _ Q8.out.left Q8.out.right Q8.out.sep).mono ?_
    rintro e w9 ⟨rfl, A1, A2, O9⟩
    have hS := Q8.out.sides
    have HS := Lib.hid hS
    have J9 := Lib.hid (J8.out.only O9 fun k hk => by have := hS k hk; have := s3.out; have := V5.out.two.2.2; have := P5.out.hb; have := P5.out.lh; have := Z2.out; omega)
    have P9 := Lib.hid (P8.out.only O9 fun k hk => by have := hS k hk; have := s3.out; omega)
    have V9 := Lib.hid (V8.out.only O9 fun k hk => by have := hS k hk; have := s4.out; omega)
    clear A1 A2 O9 hS
    obtain ⟨e0, e1, -⟩ := V9.out.two
    obtain ⟨e2, e3, -⟩ := P9.out.two
    go_wp2_with fail
    clear e0 e1 e2 e3
    refine (ER.out _ _ _ _ _ V9.out.left.reads V9.out.right.reads P9.out.left.reads P9.out.right.reads).mono ?_
    rintro e wA ⟨rfl, bA⟩
    have VA := Lib.hid (V9.out.below bA)
    have PA := Lib.hid (P9.out.below bA)
    have JA := Lib.hid (J9.out.below bA)
    clear bA
    obtain ⟨e0, e1, -⟩ := VA.out.two
    go_wp2_with fail
    clear e0 e1
    refine (MR.out _ _ _ _ VA.out.left VA.out.right VA.out.sep).mono ?_
    rintro e wB ⟨rfl, A1, A2, OB⟩
    have hS := VA.out.sides
    have JB := Lib.hid (JA.out.only OB fun k hk => by have := hS k hk; have := s3.out; have := s4.out; have := P5.out.hb; have := P5.out.lh; have := Z2.out; have := Z4.out; omega)
    have PB := Lib.hid (PA.out.only OB fun k hk => by have := hS k hk; have := s3.out; have := s4.out; have := Z4.out; omega)
    have VB := Lib.hid (VA.out.marked OB A1 A2)
    clear A1 A2 OB hS
    obtain ⟨e0, e1, -⟩ := VB.out.two
    go_wp2_with fail
    clear e0 e1
    refine (HR.out _ _ _ VB.out.left.reads VB.out.right.reads).mono ?_
    rintro e wC ⟨rfl, bC⟩
    have JC := Lib.hid (JB.out.below bC)
    have PC := Lib.hid (PB.out.below bC)
    have VC := Lib.hid (VB.out.below bC)
    clear bC
    obtain ⟨e0, e1, -⟩ := JC.out.two
    go_wp2_with fail
    clear e0 e1
    refine (T.out _ JC.out.left.1 JC.out.right.1).mono ?_
    rintro e wD ⟨_, rfl, ⟨al, ar, rfl, A1, A2, -, D1, D2⟩, bD⟩
    obtain ⟨gg, cg, rfl, l1⟩ := solid_form A1 D1
    obtain ⟨gh, ch, rfl, l2⟩ := solid_form A2 D2
    have JD := Lib.hid (JC.out.below bD)
    have PD := Lib.hid (PC.out.below bD)
    have VD := Lib.hid (VC.out.below bD)
    have G1' := Lib.hid A1.reads
    have G2' := Lib.hid A2.reads
    have U1' := Lib.hid l1
    have U2' := Lib.hid l2
    clear A1 A2 bD l1 l2
    go_wp2_with fail
    refine (IP.out _ _ _ _ _ G1'.out G2'.out U1'.out U2'.out).mono ?_
    rintro e wE ⟨_, rfl, ⟨hl, hr, rfl, A1, A2, SE⟩, bE⟩
    obtain ⟨gi, ni, ci, rfl⟩ := A1.form
    obtain ⟨gj, nj, cj, rfl⟩ := A2.form
    have TE := Lib.hid (Var.new 26 A1 A2 SE bE.size)
    have JE := Lib.hid ((JD.out.below bE).below (alloc_below wE (.cells #[.slice gi ni ci, .slice gj nj cj] 26)))
    have PE := Lib.hid ((PD.out.below bE).below (alloc_below wE (.cells #[.slice gi ni ci, .slice gj nj cj] 26)))
    have VE := Lib.hid ((VD.out.below bE).below (alloc_below wE (.cells #[.slice gi ni ci, .slice gj nj cj] 26)))
    clear A1 A2 SE bE
    generalize hXE : wE.alloc (.cells #[.slice gi ni ci, .slice gj nj cj] 26) = XE at TE JE PE VE
    obtain ⟨e0, e1, -⟩ := TE.out.two
    obtain ⟨e2, e3, -⟩ := PE.out.two
    go_wp2_with fail
    clear e0 e1 e2 e3
    refine (ER.out _ _ _ _ _ TE.out.left.reads TE.out.right.reads PE.out.left.reads PE.out.right.reads).mono ?_
    rintro e wF ⟨rfl, bF⟩
    have JF := Lib.hid (JE.out.below bF)
    have VF := Lib.hid (VE.out.below bF)
    clear bF hXE
    obtain ⟨e0, e1, -⟩ := VF.out.two
    go_wp2_with fail
    clear e0 e1
    refine (HR.out _ _ _ VF.out.left.reads VF.out.right.reads).mono ?_
    rintro e wG ⟨rfl, bG⟩
    have JG := Lib.hid (JF.out.below bG)
    clear bG
    go_wp2
    go_ret
    exact ⟨rfl, JG.out.bel⟩
end Go.Proofs.Ytdfcjdepfikboaa
