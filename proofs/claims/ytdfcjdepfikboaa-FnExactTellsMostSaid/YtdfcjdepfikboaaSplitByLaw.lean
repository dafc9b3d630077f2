/- The walk of the law of SplitBy round the contract of the program's function: it returns true for every argument. Condition: the slices that came in read as integers. -/
import Derived.Test.YtdfcjdepfikboaaTurnLaw
import Derived.Test.YtdfcjdepfikboaaTellsLaw
namespace Go.Proofs.Ytdfcjdepfikboaa
open Go.RowKit

/-- Three lists of the law's own in the blocks from lo up to hi. -/
structure ThreeI (W : World) (lo hi : Nat) (v1 v2 v3 : Value) (a b c : List Int) : Prop where
  t : Three W lo v1 v2 v3 a b c
  u1 : Blk (· < hi) v1
  u2 : Blk (· < hi) v2
  u3 : Blk (· < hi) v3
  lh : lo ≤ hi
theorem ThreeI.of {W : World} {lo : Nat} {v1 v2 v3 : Value} {a b c : List Int} (h : Three W lo v1 v2 v3 a b c) (hl : lo ≤ W.heap.size) : ThreeI W lo W.heap.size v1 v2 v3 a b c :=
  ⟨h, fun k hk => (h.o1.blk k hk).2, fun k hk => (h.o2.blk k hk).2, fun k hk => (h.o3.blk k hk).2, hl⟩
theorem ThreeI.below {W W' : World} {lo hi : Nat} {v1 v2 v3 : Value} {a b c : List Int} (h : ThreeI W lo hi v1 v2 v3 a b c) (hb : Below W.heap.size W W') : ThreeI W' lo hi v1 v2 v3 a b c :=
  ⟨h.t.below hb, h.u1, h.u2, h.u3, h.lh⟩
theorem ThreeI.only {W W' : World} {lo hi : Nat} {v1 v2 v3 : Value} {a b c : List Int} {T : Nat → Prop} (h : ThreeI W lo hi v1 v2 v3 a b c) (ho : Only T W W') (hT : ∀ k, T k → k < lo ∨ hi ≤ k) : ThreeI W' lo hi v1 v2 v3 a b c := by
  refine ⟨⟨h.t.o1.only ho fun k hk e => ?_, h.t.o2.only ho fun k hk e => ?_, h.t.o3.only ho fun k hk e => ?_, h.t.s12, h.t.s13, h.t.s23⟩, h.u1, h.u2, h.u3, h.lh⟩
  · have a1 := (h.t.o1.blk k hk).1; have a2 := h.u1 k hk; rcases hT k e with h1 | h1 <;> omega
  · have a1 := (h.t.o2.blk k hk).1; have a2 := h.u2 k hk; rcases hT k e with h1 | h1 <;> omega
  · have a1 := (h.t.o3.blk k hk).1; have a2 := h.u3 k hk; rcases hT k e with h1 | h1 <;> omega
theorem ThreeI.swap12 {W : World} {lo hi : Nat} {v1 v2 v3 : Value} {a b c : List Int} (h : ThreeI W lo hi v1 v2 v3 a b c) : ThreeI W lo hi v2 v1 v3 b a c := ⟨h.t.swap12, h.u2, h.u1, h.u3, h.lh⟩
theorem ThreeI.swap13 {W : World} {lo hi : Nat} {v1 v2 v3 : Value} {a b c : List Int} (h : ThreeI W lo hi v1 v2 v3 a b c) : ThreeI W lo hi v3 v2 v1 c b a := ⟨h.t.swap13, h.u3, h.u2, h.u1, h.lh⟩
theorem ThreeI.mark {W W' : World} {lo hi : Nat} {v1 v2 v3 : Value} {a b c a' : List Int} (h : ThreeI W lo hi v1 v2 v3 a b c) (h1 : Own W' lo v1 a') (hg : W.grownBy W' v1.ownBlock) : ThreeI W' lo hi v1 v2 v3 a' b c := by
  have T := Only.of_grown hg
  exact ⟨⟨h1, h.t.o2.only T fun k hk e => h.t.s12 k e hk, h.t.o3.only T fun k hk e => h.t.s13 k e hk, h.t.s12, h.t.s13, h.t.s23⟩, h.u1, h.u2, h.u3, h.lh⟩
theorem ThreeI.in1 {W : World} {lo hi : Nat} {v1 v2 v3 : Value} {a b c : List Int} (h : ThreeI W lo hi v1 v2 v3 a b c) : ∀ k, v1.ownBlock = some k → lo ≤ k ∧ k < hi := fun k hk => ⟨(h.t.o1.blk k hk).1, h.u1 k hk⟩

/-- One list of the law's own in the blocks from lo up to hi. -/
structure OneI (W : World) (lo hi : Nat) (v : Value) (l : List Int) : Prop where
  o : Own W lo v l
  u : Blk (· < hi) v
  lh : lo ≤ hi
theorem OneI.of {W : World} {lo : Nat} {v : Value} {l : List Int} (h : Own W lo v l) (hl : lo ≤ W.heap.size) : OneI W lo W.heap.size v l := ⟨h, fun k hk => (h.blk k hk).2, hl⟩
theorem OneI.below {W W' : World} {lo hi : Nat} {v : Value} {l : List Int} (h : OneI W lo hi v l) (hb : Below W.heap.size W W') : OneI W' lo hi v l := ⟨h.o.below hb, h.u, h.lh⟩
theorem OneI.only {W W' : World} {lo hi : Nat} {v : Value} {l : List Int} {T : Nat → Prop} (h : OneI W lo hi v l) (ho : Only T W W') (hT : ∀ k, T k → k < lo ∨ hi ≤ k) : OneI W' lo hi v l :=
  ⟨h.o.only ho fun k hk e => by have a1 := (h.o.blk k hk).1; have a2 := h.u k hk; rcases hT k e with h1 | h1 <;> omega, h.u, h.lh⟩
theorem OneI.inside {W : World} {lo hi : Nat} {v : Value} {l : List Int} (h : OneI W lo hi v l) : ∀ k, v.ownBlock = some k → lo ≤ k ∧ k < hi := fun k hk => ⟨(h.o.blk k hk).1, h.u k hk⟩

/-- markInts, for lists of the law's own. -/
theorem markOwn (B : Nat) (v : Value) (q q' : Int) (l : List Int) (w : World) (h : Own w B v l) (hq : 0 < q) (hqm : q ≤ 100000000) (hm : l.length ≤ 100000000) (hq' : q + l.length = q') :
    Calls Try.prog 25 #[v, .int .i64 q] w fun e w' => e = .returned (.int .i64 q') ∧ Own w' B v (imarks q l.length) ∧ w.grownBy w' v.ownBlock := by
  subst hq'
  refine (markInts B v q l w h hq hqm hm).mono fun e w' hh => ⟨hh.1, ?_, hh.2.2⟩
  unfold Own
  rw [imarks_length]
  exact hh.2.1
theorem heldOwn (v : Value) (q q' : Int) (n : Nat) (w : World) (h : IntsAt w v (imarks q n)) (hq : 0 < q) (hqm : q ≤ 100000000) (hm : n ≤ 100000000) (hq' : q + n = q') :
    Calls Try.prog 26 #[v, .int .i64 q] w fun e w' => e = .returned (.int .i64 q') ∧ w = w' := by
  subst hq'
  exact heldInts v q n w h hq hqm hm

/-- The contract of a function that parts a list of cases by a weighing. -/
def PartsIs (f : FuncId) (L R l : List Int) : Prop :=
  ∀ W vl vr vc, IntsAt W vl L → IntsAt W vr R → IntsAt W vc l → Calls Try.prog f #[.agg #[vl, vr], vc] W (Parts (outI L R) l W)

set_option maxRecDepth 100000 in
set_option maxHeartbeats 6400000 in
theorem lawSplitBy (IM : ∀ (L R l : List Int), L.length ≤ 1048576 → R.length ≤ 1048576 → l.length ≤ 1048576 → AllIn l → PartsIs 22 L R l)
    (w : World) (vl : Value) (L : List Int) (cl : CameInts w vl L) (vr : Value) (R : List Int) (cr : CameInts w vr R) (vc : Value) (l : List Int) (cc : CameInts w vc l) :
    Calls Try.prog 6 #[.agg #[vl, vr], vc] w fun e w' => e = .returned (.bool true) ∧ Below w.heap.size w w' := by
  obtain ⟨hl, ml, -⟩ := cl
  obtain ⟨hr, mr, -⟩ := cr
  obtain ⟨hc, mc, wc⟩ := cc
  have AI := Lib.hid (allIn_of wc)
  have J0 := Lib.hid (InB.new 33 hl hr)
  have K0 := Lib.hid (hc.rd.below (alloc_below w (.cells #[vl, vr] 33)))
  have hsz := Lib.hid (fun W h h' => szWeigh vl vr L R 1048576 W h h' ml mr (by omega) (by omega))
  generalize hX1 : w.alloc (.cells #[vl, vr] 33) = X1 at J0 K0
  clear hl hr wc
  obtain ⟨ac, capc, rfl, -⟩ := hc
  unfold maxLen at mc
  obtain ⟨e0, e1, -⟩ := J0.out.two
  by_cases hbig : (1048576 : Int) < (l.length : Int)
  · go_enter Try.func6, Try.ntmps6
    go_wp2
    go_ret
    exact ⟨rfl, J0.out.bel⟩
  go_enter Try.func6, Try.ntmps6
  go_wp2_with fail
  clear e0 e1
  refine (hsz.out _ J0.out.left.1 J0.out.right.1).mono ?_
  rintro e w1 ⟨r, rfl, hr, b1⟩
  have J1 := Lib.hid (J0.out.below b1)
  have K1 := Lib.hid (K0.out.below b1)
  clear b1 hX1
  by_cases hneg : r < 0
  · go_wp2
    go_ret
    exact ⟨rfl, J1.out.bel⟩
  · obtain ⟨r0, r1, hlen⟩ : 0 ≤ r ∧ r ≤ 1048576 ∧ (L.length : Int) + (R.length : Int) ≤ 1048576 := by
      rcases hr with h | h
      · omega
      · exact h
    have T := Lib.hid (fun W h h' => toWeigh vl vr L R W h h' (by omega) (by omega))
    have TC := Lib.hid (fun W h => toInts (.slice ac l.length capc) l W h (by omega))
    have SP := Lib.hid (fun W ul ur uc h h' h'' => specSplitBy ul ur uc L R l W h h' h'' (by omega) (by omega) (by omega) AI.out)
    have IP := Lib.hid (IM L R l (by omega) (by omega) (by omega) AI.out)
    unfold PartsIs at IP
    unfold Parts at SP IP
    obtain ⟨n1, n2, n3⟩ := part_len (outI L R) l
    generalize lessL (outI L R) l = la at SP IP n1
    generalize evenL (outI L R) l = lb at SP IP n2
    generalize moreL (outI L R) l = lc at SP IP n3
    have EQ1 := Lib.hid (fun W a b h1 h2 => eqInts_same a b la W h1 h2 (by omega))
    have EQ2 := Lib.hid (fun W a b h1 h2 => eqInts_same a b lb W h1 h2 (by omega))
    have EQ3 := Lib.hid (fun W a b h1 h2 => eqInts_same a b lc W h1 h2 (by omega))
    have EC := Lib.hid (fun W a b h1 h2 => eqInts_same a b l W h1 h2 (by omega))
    have EL := Lib.hid (fun W a b c d h1 h2 h3 h4 => eqWeigh_same a b c d L R W h1 h2 h3 h4 (by omega) (by omega))
    have MX := Lib.hid (fun W B a b h1 h2 hs => markWeigh B B a b 1 L R W h1 h2 hs (by omega) (by omega) (by omega) (by omega))
    obtain ⟨k1, hk1⟩ : ∃ k1, (1 : Int) + (L.length : Int) + (R.length : Int) = k1 := ⟨_, rfl⟩
    obtain ⟨k2, hk2⟩ : ∃ k2, k1 + (l.length : Int) = k2 := ⟨_, rfl⟩
    have MY := Lib.hid (fun W B v h => markOwn B v k1 k2 l W h (by omega) (by omega) (by omega) hk2)
    rw [hk1] at MX
    have p2 : 0 ≤ k2 := by omega
    obtain ⟨q1, hq1⟩ : ∃ q1, (1 : Int) + (la.length : Int) = q1 := ⟨_, rfl⟩
    obtain ⟨q2, hq2⟩ : ∃ q2, q1 + (lb.length : Int) = q2 := ⟨_, rfl⟩
    obtain ⟨q3, hq3⟩ : ∃ q3, q2 + (lc.length : Int) = q3 := ⟨_, rfl⟩
    have M1 := Lib.hid (fun W B v h => markOwn B v 1 q1 la W h (by omega) (by omega) (by omega) hq1)
    have M2 := Lib.hid (fun W B v h => markOwn B v q1 q2 lb W h (by omega) (by omega) (by omega) hq2)
    have M3 := Lib.hid (fun W B v h => markOwn B v q2 q3 lc W h (by omega) (by omega) (by omega) hq3)
    have H1 := Lib.hid (fun W v h => heldOwn v 1 q1 la.length W h (by omega) (by omega) (by omega) hq1)
    have H2 := Lib.hid (fun W v h => heldOwn v q1 q2 lb.length W h (by omega) (by omega) (by omega) hq2)
    have H3 := Lib.hid (fun W v h => heldOwn v q2 q3 lc.length W h (by omega) (by omega) (by omega) hq3)
    have pq1 : 0 ≤ q1 := by omega
    have pq2 : 0 ≤ q2 := by omega
    have pq3 : 0 ≤ q3 := by omega
    clear hr ml mr hlen r1 hk1 hk2 hq1 hq2 hq3 n1 n2 n3
    obtain ⟨e0, e1, -⟩ := J1.out.two
    go_wp2_with fail
    clear e0 e1
    refine (T.out _ J1.out.left.1 J1.out.right.1).mono ?_
    rintro e w2 ⟨_, rfl, ⟨ul, ur, rfl, A1, A2, -, -, -⟩, b⟩
    have U1 := Lib.hid A1.reads
    have U2 := Lib.hid A2.reads
    have J2 := Lib.hid (J1.out.below b)
    have C2 := Lib.hid (K1.out.below b)
    clear A1 A2 b
    go_wp2_with fail
    refine (TC.out _ C2.out.1).mono ?_
    rintro e w3 ⟨uc, rfl, -, A3, b⟩
    have UC := Lib.hid A3.reads
    have J3 := Lib.hid (J2.out.below b)
    have C3 := Lib.hid (C2.out.below b)
    have U3 := Lib.hid (U1.out.below b)
    have V3 := Lib.hid (U2.out.below b)
    clear A3 b
    go_wp2_with fail
    refine (SP.out _ _ _ _ U3.out V3.out UC.out).mono ?_
    rintro e w4 ⟨a0, a1, a2, rfl, A, b⟩
    have D := Lib.hid (ThreeI.of A b.size)
    have z3 := Lib.hid (J3.out.two.2.2)
    have J4 := Lib.hid (J3.out.below b)
    have C4 := Lib.hid (C3.out.below b)
    clear A b
    obtain ⟨e0, e1, -⟩ := J4.out.two
    go_wp2_with fail
    clear e0 e1
    refine (T.out _ J4.out.left.1 J4.out.right.1).mono ?_
    rintro e w5 ⟨_, rfl, ⟨xl, xr, rfl, A1, A2, S5, D1, D2⟩, b⟩
    obtain ⟨gc, nc, cc, rfl⟩ := D1
    obtain ⟨gd, nd, cd, rfl⟩ := D2
    have X := Lib.hid (Var.new 26 A1 A2 S5 b.size)
    have J5 := Lib.hid ((J4.out.below b).below (alloc_below w5 (.cells #[.slice (some ⟨gc, 0, none⟩) nc cc, .slice (some ⟨gd, 0, none⟩) nd cd] 26)))
    have C5 := Lib.hid ((C4.out.below b).below (alloc_below w5 (.cells #[.slice (some ⟨gc, 0, none⟩) nc cc, .slice (some ⟨gd, 0, none⟩) nd cd] 26)))
    have D5 := Lib.hid ((D.out.below b).below (alloc_below w5 (.cells #[.slice (some ⟨gc, 0, none⟩) nc cc, .slice (some ⟨gd, 0, none⟩) nd cd] 26)))
    clear A1 A2 S5 b
    generalize hX5 : w5.alloc (.cells #[.slice (some ⟨gc, 0, none⟩) nc cc, .slice (some ⟨gd, 0, none⟩) nd cd] 26) = X5 at J5 C5 D5 X
    have s5 : Hid (X5.heap.size = w5.heap.size + 1) := by unfold Hid; rw [← hX5]; simp
    go_wp2_with fail
    refine (TC.out _ C5.out.1).mono ?_
    rintro e w6 ⟨yv, rfl, D3, A3, b⟩
    obtain ⟨zg, zn, zc, rfl⟩ := D3
    have Y := Lib.hid (OneI.of A3 b.size)
    have z6 := Lib.hid b.size
    have J6 := Lib.hid (J5.out.below b)
    have C6 := Lib.hid (C5.out.below b)
    have D6 := Lib.hid (D5.out.below b)
    have X6 := Lib.hid (X.out.below b)
    clear A3 b hX5
    obtain ⟨e2, e3, -⟩ := X6.out.two
    go_wp2_with fail
    clear e2 e3
    refine (IP.out _ _ _ _ X6.out.left.reads X6.out.right.reads Y.out.o.reads).mono ?_
    rintro e w7 ⟨g0, g1, g2, rfl, A, b⟩
    have G := Lib.hid (ThreeI.of A b.size)
    have J7 := Lib.hid (J6.out.below b)
    have C7 := Lib.hid (C6.out.below b)
    have D7 := Lib.hid (D6.out.below b)
    have X7 := Lib.hid (X6.out.below b)
    have Y7 := Lib.hid (Y.out.below b)
    clear A b
    have XL := Lib.hid (And.intro X7.out.hb X7.out.lh)
    have YL := Lib.hid Y7.out.lh
    go_wp2_with fail
    refine (EQ1.out _ _ _ G.out.t.o1.reads D7.out.t.o1.reads).mono ?_
    rintro e w8 ⟨rfl, b⟩
    have J8 := Lib.hid (J7.out.below b)
    have C8 := Lib.hid (C7.out.below b)
    have D8 := Lib.hid (D7.out.below b)
    have X8 := Lib.hid (X7.out.below b)
    have Y8 := Lib.hid (Y7.out.below b)
    have G8 := Lib.hid (G.out.below b)
    clear b
    go_wp2_with fail
    refine (EQ2.out _ _ _ G8.out.t.o2.reads D8.out.t.o2.reads).mono ?_
    rintro e w8 ⟨rfl, b⟩
    have J9 := Lib.hid (J8.out.below b)
    have C9 := Lib.hid (C8.out.below b)
    have D9 := Lib.hid (D8.out.below b)
    have X9 := Lib.hid (X8.out.below b)
    have Y9 := Lib.hid (Y8.out.below b)
    have G9 := Lib.hid (G8.out.below b)
    clear b
    go_wp2_with fail
    refine (EQ3.out _ _ _ G9.out.t.o3.reads D9.out.t.o3.reads).mono ?_
    rintro e w8 ⟨rfl, b⟩
    have J10 := Lib.hid (J9.out.below b)
    have C10 := Lib.hid (C9.out.below b)
    have D10 := Lib.hid (D9.out.below b)
    have X10 := Lib.hid (X9.out.below b)
    have Y10 := Lib.hid (Y9.out.below b)
    have G10 := Lib.hid (G9.out.below b)
    clear b
    obtain ⟨e0, e1, -⟩ := J10.out.two
    obtain ⟨e2, e3, -⟩ := X10.out.two
    go_wp2_with fail
    first | (go_region_held3 (fun w' => (w'.cell? ⟨w.heap.size, 0, none⟩ = some vl ∧ w'.cell? ⟨w.heap.size, 1, none⟩ = some vr ∧ w.heap.size < w'.heap.size) ∧ (w'.cell? ⟨w5.heap.size, 0, none⟩ = some (.slice (some ⟨gc, 0, none⟩) nc cc) ∧ w'.cell? ⟨w5.heap.size, 1, none⟩ = some (.slice (some ⟨gd, 0, none⟩) nd cd) ∧ w5.heap.size < w'.heap.size))
      (first | exact ⟨Jq.out.two, Xq.out.two⟩ | exact ⟨Jp.out.two, Xp.out.two⟩ | exact ⟨J10.out.two.drewT, X10.out.two.drewT⟩)
      (first
        | (go_at_call 17; refine (T.out _ J10.out.left.1.drewT J10.out.right.1.drewT).mono ?_; rintro e w9 ⟨_, rfl, ⟨zl, zr, rfl, A1, A2, -, -, -⟩, b7⟩; have bb := (Below.refl _ _).drew.trans b7; have Jp := Lib.hid (J10.out.below bb); have Cp := Lib.hid (C10.out.below bb); have Dp := Lib.hid (D10.out.below bb); have Xp := Lib.hid (X10.out.below bb); have Yp := Lib.hid (Y10.out.below bb); have Gp := Lib.hid (G10.out.below bb); have Z1 := Lib.hid A1.reads; have Z2 := Lib.hid A2.reads; clear A1 A2 b7 bb)
        | (go_at_call 18; refine (EL.out _ _ _ _ _ Xp.out.left.reads Xp.out.right.reads Z1.out Z2.out).mono ?_; rintro e w10 ⟨rfl, b8⟩; have Jq := Lib.hid (Jp.out.below b8); have Cq := Lib.hid (Cp.out.below b8); have Dq := Lib.hid (Dp.out.below b8); have Xq := Lib.hid (Xp.out.below b8); have Yq := Lib.hid (Yp.out.below b8); have Gq := Lib.hid (Gp.out.below b8); clear b8)
        | fail)) | fail
    go_wp2_with fail
    refine (TC.out _ Cq.out.1).mono ?_
    rintro e w11 ⟨zv, rfl, -, A3, b⟩
    have ZV := Lib.hid A3.reads
    have J11 := Lib.hid (Jq.out.below b)
    have C11 := Lib.hid (Cq.out.below b)
    have D11 := Lib.hid (Dq.out.below b)
    have X11 := Lib.hid (Xq.out.below b)
    have Y11 := Lib.hid (Yq.out.below b)
    have G11 := Lib.hid (Gq.out.below b)
    clear A3 b
    go_wp2_with fail
    refine (EC.out _ _ _ Y11.out.o.reads ZV.out).mono ?_
    rintro e w12 ⟨rfl, b⟩
    have J12 := Lib.hid (J11.out.below b)
    have C12 := Lib.hid (C11.out.below b)
    have D12 := Lib.hid (D11.out.below b)
    have X12 := Lib.hid (X11.out.below b)
    have Y12 := Lib.hid (Y11.out.below b)
    have G12 := Lib.hid (G11.out.below b)
    clear b
    obtain ⟨e2, e3, -⟩ := X12.out.two
    go_wp2_with fail
    clear e2 e3
    refine (MX.out _ _ _ _ X12.out.left X12.out.right X12.out.sep).mono ?_
    rintro e w13 ⟨rfl, -, -, O⟩
    have hS := X12.out.sides
    have k1 := D12.out.lh
    have J13 := Lib.hid (J12.out.only O fun k hk => by have := hS k hk; have := z3.out; have := z6.out; have := s5.out; have := D12.out.lh; have := X12.out.hb; have := X12.out.lh; have := Y12.out.lh; have := G12.out.lh; omega)
    have D13 := Lib.hid (D12.out.only O fun k hk => by have := hS k hk; have := z3.out; have := z6.out; have := s5.out; have := D12.out.lh; have := X12.out.hb; have := X12.out.lh; have := Y12.out.lh; have := G12.out.lh; omega)
    have Y13 := Lib.hid (Y12.out.only O fun k hk => by have := hS k hk; have := z3.out; have := z6.out; have := s5.out; have := D12.out.lh; have := X12.out.hb; have := X12.out.lh; have := Y12.out.lh; have := G12.out.lh; omega)
    have G13 := Lib.hid (G12.out.only O fun k hk => by have := hS k hk; have := z3.out; have := z6.out; have := s5.out; have := D12.out.lh; have := X12.out.hb; have := X12.out.lh; have := Y12.out.lh; have := G12.out.lh; omega)
    have C13 := Lib.hid (C12.out.only O fun k hk ht => by have := hS k ht; have := z3.out; have := z6.out; have := s5.out; have := D12.out.lh; have := X12.out.hb; have := X12.out.lh; have := Y12.out.lh; have := G12.out.lh; omega)
    clear O hS k1
    go_wp2_with fail
    refine (MY.out _ _ _ Y13.out.o).mono ?_
    rintro e w14 ⟨rfl, -, O⟩
    have O := Only.of_grown O
    have hS := Y13.out.inside
    have J14 := Lib.hid (J13.out.only O fun k hk => by have := hS k hk; have := z3.out; have := z6.out; have := s5.out; have := D12.out.lh; have := X12.out.hb; have := X12.out.lh; have := Y12.out.lh; have := G12.out.lh; omega)
    have D14 := Lib.hid (D13.out.only O fun k hk => by have := hS k hk; have := z3.out; have := z6.out; have := s5.out; have := D12.out.lh; have := X12.out.hb; have := X12.out.lh; have := Y12.out.lh; have := G12.out.lh; omega)
    have G14 := Lib.hid (G13.out.only O fun k hk => by have := hS k hk; have := z3.out; have := z6.out; have := s5.out; have := D12.out.lh; have := X12.out.hb; have := X12.out.lh; have := Y12.out.lh; have := G12.out.lh; omega)
    have C14 := Lib.hid (C13.out.only O fun k hk ht => by have := hS k ht; have := z3.out; have := z6.out; have := s5.out; have := D12.out.lh; have := X12.out.hb; have := X12.out.lh; have := Y12.out.lh; have := G12.out.lh; omega)
    clear O hS
    go_wp2_with fail
    refine (EQ1.out _ _ _ G14.out.t.o1.reads D14.out.t.o1.reads).mono ?_
    rintro e w8 ⟨rfl, b⟩
    have J15 := Lib.hid (J14.out.below b)
    have C15 := Lib.hid (C14.out.below b)
    have D15 := Lib.hid (D14.out.below b)
    have G15 := Lib.hid (G14.out.below b)
    clear b
    go_wp2_with fail
    refine (EQ2.out _ _ _ G15.out.t.o2.reads D15.out.t.o2.reads).mono ?_
    rintro e w8 ⟨rfl, b⟩
    have J16 := Lib.hid (J15.out.below b)
    have C16 := Lib.hid (C15.out.below b)
    have D16 := Lib.hid (D15.out.below b)
    have G16 := Lib.hid (G15.out.below b)
    clear b
    go_wp2_with fail
    refine (EQ3.out _ _ _ G16.out.t.o3.reads D16.out.t.o3.reads).mono ?_
    rintro e w8 ⟨rfl, b⟩
    have J17 := Lib.hid (J16.out.below b)
    have C17 := Lib.hid (C16.out.below b)
    have D17 := Lib.hid (D16.out.below b)
    have G17 := Lib.hid (G16.out.below b)
    clear b
    go_wp2_with fail
    refine (M1.out _ _ _ G17.out.t.o1).mono ?_
    rintro e w15 ⟨rfl, A, O⟩
    have hS := G17.out.in1
    have G18 := Lib.hid ((G17.out.mark A O))
    have O := Only.of_grown O
    have J18 := Lib.hid (J17.out.only O fun k hk => by have := hS k hk; have := z3.out; have := z6.out; have := s5.out; have := D17.out.lh; have := XL.out; have := G17.out.lh; have := YL.out; omega)
    have D18 := Lib.hid (D17.out.only O fun k hk => by have := hS k hk; have := z3.out; have := z6.out; have := s5.out; have := D17.out.lh; have := XL.out; have := G17.out.lh; have := YL.out; omega)
    have C18 := Lib.hid (C17.out.only O fun k hk ht => by have := hS k ht; have := z3.out; have := z6.out; have := s5.out; have := D17.out.lh; have := XL.out; have := G17.out.lh; have := YL.out; omega)
    clear A O hS
    go_wp2_with fail
    refine (M2.out _ _ _ G18.out.t.o2).mono ?_
    rintro e w15 ⟨rfl, A, O⟩
    have hS := G18.out.swap12.in1
    have G19 := Lib.hid ((G18.out.swap12.mark A O).swap12)
    have O := Only.of_grown O
    have J19 := Lib.hid (J18.out.only O fun k hk => by have := hS k hk; have := z3.out; have := z6.out; have := s5.out; have := D18.out.lh; have := XL.out; have := G18.out.lh; have := YL.out; omega)
    have D19 := Lib.hid (D18.out.only O fun k hk => by have := hS k hk; have := z3.out; have := z6.out; have := s5.out; have := D18.out.lh; have := XL.out; have := G18.out.lh; have := YL.out; omega)
    have C19 := Lib.hid (C18.out.only O fun k hk ht => by have := hS k ht; have := z3.out; have := z6.out; have := s5.out; have := D18.out.lh; have := XL.out; have := G18.out.lh; have := YL.out; omega)
    clear A O hS
    go_wp2_with fail
    refine (M3.out _ _ _ G19.out.t.o3).mono ?_
    rintro e w15 ⟨rfl, A, O⟩
    have hS := G19.out.swap13.in1
    have G20 := Lib.hid ((G19.out.swap13.mark A O).swap13)
    have O := Only.of_grown O
    have J20 := Lib.hid (J19.out.only O fun k hk => by have := hS k hk; have := z3.out; have := z6.out; have := s5.out; have := D19.out.lh; have := XL.out; have := G19.out.lh; have := YL.out; omega)
    have D20 := Lib.hid (D19.out.only O fun k hk => by have := hS k hk; have := z3.out; have := z6.out; have := s5.out; have := D19.out.lh; have := XL.out; have := G19.out.lh; have := YL.out; omega)
    have C20 := Lib.hid (C19.out.only O fun k hk ht => by have := hS k ht; have := z3.out; have := z6.out; have := s5.out; have := D19.out.lh; have := XL.out; have := G19.out.lh; have := YL.out; omega)
    clear A O hS
    go_wp2_with fail
    refine (H1.out _ _ G20.out.t.o1.reads).mono ?_
    rintro e w16 ⟨rfl, rfl⟩
    go_wp2_with fail
    refine (H2.out _ _ G20.out.t.o2.reads).mono ?_
    rintro e w16 ⟨rfl, rfl⟩
    go_wp2_with fail
    refine (H3.out _ _ G20.out.t.o3.reads).mono ?_
    rintro e w16 ⟨rfl, rfl⟩
    obtain ⟨e0, e1, -⟩ := J20.out.two
    go_wp2_with fail
    clear e0 e1
    refine (T.out _ J20.out.left.1 J20.out.right.1).mono ?_
    rintro e w17 ⟨_, rfl, ⟨ql, qr, rfl, A1, A2, -, -, -⟩, b⟩
    have QL := Lib.hid A1.reads
    have QR := Lib.hid A2.reads
    have J21 := Lib.hid (J20.out.below b)
    have C21 := Lib.hid (C20.out.below b)
    have D21 := Lib.hid (D20.out.below b)
    have G21 := Lib.hid (G20.out.below b)
    clear A1 A2 b
    go_wp2_with fail
    refine (TC.out _ C21.out.1).mono ?_
    rintro e w18 ⟨qc, rfl, -, A3, b⟩
    have QC := Lib.hid A3.reads
    have J22 := Lib.hid (J21.out.below b)
    have C22 := Lib.hid (C21.out.below b)
    have D22 := Lib.hid (D21.out.below b)
    have G22 := Lib.hid (G21.out.below b)
    have U22 := Lib.hid (QL.out.below b)
    have V22 := Lib.hid (QR.out.below b)
    clear A3 b
    go_wp2_with fail
    refine (IP.out _ _ _ _ U22.out V22.out QC.out).mono ?_
    rintro e w19 ⟨h0, h1, h2, rfl, A, b⟩
    have P := Lib.hid (ThreeI.of A b.size)
    have J23 := Lib.hid (J22.out.below b)
    have D23 := Lib.hid (D22.out.below b)
    have G23 := Lib.hid (G22.out.below b)
    clear A b
    go_wp2_with fail
    refine (EQ1.out _ _ _ P.out.t.o1.reads D23.out.t.o1.reads).mono ?_
    rintro e w8 ⟨rfl, b⟩
    have J24 := Lib.hid (J23.out.below b)
    have D24 := Lib.hid (D23.out.below b)
    have G24 := Lib.hid (G23.out.below b)
    have P24 := Lib.hid (P.out.below b)
    clear b
    go_wp2_with fail
    refine (EQ2.out _ _ _ P24.out.t.o2.reads D24.out.t.o2.reads).mono ?_
    rintro e w8 ⟨rfl, b⟩
    have J25 := Lib.hid (J24.out.below b)
    have D25 := Lib.hid (D24.out.below b)
    have G25 := Lib.hid (G24.out.below b)
    have P25 := Lib.hid (P24.out.below b)
    clear b
    go_wp2_with fail
    refine (EQ3.out _ _ _ P25.out.t.o3.reads D25.out.t.o3.reads).mono ?_
    rintro e w8 ⟨rfl, b⟩
    have J26 := Lib.hid (J25.out.below b)
    have D26 := Lib.hid (D25.out.below b)
    have G26 := Lib.hid (G25.out.below b)
    have P26 := Lib.hid (P25.out.below b)
    clear b
    go_wp2_with fail
    refine (H1.out _ _ G26.out.t.o1.reads).mono ?_
    rintro e w16 ⟨rfl, rfl⟩
    go_wp2_with fail
    refine (H2.out _ _ G26.out.t.o2.reads).mono ?_
    rintro e w16 ⟨rfl, rfl⟩
    go_wp2_with fail
    refine (H3.out _ _ G26.out.t.o3.reads).mono ?_
    rintro e w16 ⟨rfl, rfl⟩
    go_wp2
    go_ret
    exact ⟨rfl, J26.out.bel⟩
end Go.Proofs.Ytdfcjdepfikboaa
