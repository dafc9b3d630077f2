/- The walks of the exact laws of SplitLine, FormatState, StateLine, FormatPick and RoundsLine round the contracts of the program's functions (in every world that lies above the one that the law starts in): each returns true for every argument. Conditions: what came in reads as integers that fit Go's int. -/
import Derived.Test.YtlflblngbneacaaGreatDoorGRep
import Derived.Test.YtlflblngbneacaaGreatDoorRepState
import Derived.Test.YtlflblngbneacaaGreatDoorTellsLaw
import Derived.Test.YtlflblngbneacaaGreatDoorGStates
namespace Go.Proofs.YtlflblngbneacaaGreatDoor
open Go.RowKit

/-- The contracts of the program's functions. -/
def SplitLineIs (f : FuncId) (L R l : List Int) (w : World) : Prop :=
  ∀ W, Below w.heap.size w W → ∀ vl vr vc, IntsAt W vl L → IntsAt W vr R → IntsAt W vc l → Calls Tryz.prog f #[.agg #[vl, vr], vc] W fun e w' => e = .returned (.string (splitT L R l)) ∧ Below W.heap.size W w'
def FormatStateIs (f : FuncId) (s : SD) (w : World) : Prop := ∀ W, Below w.heap.size w W → Calls Tryz.prog f #[stateV s] W fun e w' => e = .returned (.string (listB s.list)) ∧ Below W.heap.size W w'
def StateLineIs (f : FuncId) (s : SD) (w : World) : Prop := ∀ W, Below w.heap.size w W → Calls Tryz.prog f #[stateV s] W fun e w' => e = .returned (.string (stateT s)) ∧ Below W.heap.size W w'
def FormatPickIs (f : FuncId) (p : PD) (w : World) : Prop := ∀ W, Below w.heap.size w W → Calls Tryz.prog f #[pickV p] W fun e w' => e = .returned (.string (listB p.list)) ∧ Below W.heap.size W w'
def RoundsLineIs (f : FuncId) (S : List (List Int)) (w : World) : Prop := ∀ W, Below w.heap.size w W → ∀ v, LsAt W v S → Calls Tryz.prog f #[v] W fun e w' => e = .returned (.string (roundsT S)) ∧ Below W.heap.size W w'

set_option maxHeartbeats 1600000 in
theorem lawSplitLine (w : World) (IM : ∀ (L R l : List Int), L.length ≤ 1048576 → R.length ≤ 1048576 → l.length ≤ 1048576 → AllIn l → SplitLineIs 10 L R l w)
    (vl : Value) (L : List Int) (cl : CameInts w vl L) (vr : Value) (R : List Int) (cr : CameInts w vr R) (vc : Value) (l : List Int) (cc : CameInts w vc l) :
    Calls Tryz.prog 3 #[.agg #[vl, vr], vc] w fun e w' => e = .returned (.bool true) ∧ Below w.heap.size w w' := by
  obtain ⟨hl, ml, -⟩ := cl
  obtain ⟨hr, mr, -⟩ := cr
  obtain ⟨hc, mc, wc⟩ := cc
  have AI := Lib.hid (allIn_of wc)
  have J0 := Lib.hid (In.new 24 hl hr)
  have K0 := Lib.hid (hc.below (alloc_below w (.cells #[vl, vr] 24)))
  have hsz := Lib.hid (fun W h h' => szWeigh vl vr L R 1048576 W h h' ml mr (by omega) (by omega))
  generalize hX1 : w.alloc (.cells #[vl, vr] 24) = X1 at J0 K0
  clear hl hr wc
  obtain ⟨ac, capc, rfl, -⟩ := hc
  unfold maxLen at mc
  obtain ⟨e0, e1, -⟩ := J0.out.two
  by_cases hbig : (1048576 : Int) < (l.length : Int)
  · go_enter Tryz.func3, Tryz.ntmps3
    go_wp2
    go_ret
    exact ⟨rfl, J0.out.bel⟩
  go_enter Tryz.func3, Tryz.ntmps3
  go_wp2_with fail
  clear e0 e1
  refine (hsz.out _ J0.out.left J0.out.right).mono ?_
  rintro e w1 ⟨r, rfl, hr, b1⟩
  have J1 := Lib.hid (J0.out.below b1)
  have K1 := Lib.hid (K0.out.below b1)
  clear b1 hX1
  by_cases hneg : r < 0
  · go_wp2
    go_ret
    exact ⟨rfl, J1.out.bel⟩
  · obtain ⟨r0, r1, hlen⟩ : 0 ≤ r ∧ r ≤ 1048576 ∧ (L.length : Int) + (R.length : Int) ≤ 1048576 := by
      rcases hr with h | h
      · omega
      · exact h
    have T := Lib.hid (fun W h h' => toWeigh vl vr L R W h h' (by omega) (by omega))
    have TC := Lib.hid (fun W h => toInts (.slice ac l.length capc) l W h (by omega))
    have SP := Lib.hid (fun W ul ur uc h h' h'' => specSplitLine ul ur uc L R l W h h' h'' (by omega) (by omega) (by omega) AI.out)
    have IP := Lib.hid (IM L R l (by omega) (by omega) (by omega) AI.out)
    have EQ := Lib.hid (fun W a b c d h1 h2 h3 h4 => eqWeigh_same a b c d L R W h1 h2 h3 h4 (by omega) (by omega))
    have EC := Lib.hid (fun W a b h1 h2 => eqInts_same a b l W h1 h2 (by omega))
    unfold SplitLineIs at IP
    generalize splitT L R l = t at SP IP
    clear hr ml mr hlen r1
    obtain ⟨e0, e1, -⟩ := J1.out.two
    go_wp2_with fail
    clear e0 e1
    refine (T.out _ J1.out.left J1.out.right).mono ?_
    rintro e w2 ⟨_, rfl, ⟨ul, ur, rfl, A1, A2, -, -, -⟩, b2⟩
    have J2 := Lib.hid (J1.out.below b2)
    have K2 := Lib.hid (K1.out.below b2)
    have G1 := Lib.hid A1.reads
    have G2 := Lib.hid A2.reads
    clear A1 A2 b2
    go_wp2_with fail
    refine (TC.out _ K2.out).mono ?_
    rintro e w2c ⟨uc, rfl, -, A3, b2⟩
    have J2c := Lib.hid (J2.out.below b2)
    have K2c := Lib.hid (K2.out.below b2)
    have G1c := Lib.hid (G1.out.below b2)
    have G2c := Lib.hid (G2.out.below b2)
    have G3c := Lib.hid A3.reads
    clear A3 b2
    go_wp2_with fail
    refine (SP.out _ _ _ _ G1c.out G2c.out G3c.out).mono ?_
    rintro e w3 ⟨rfl, b3⟩
    have J3 := Lib.hid (J2c.out.below b3)
    have K3 := Lib.hid (K2c.out.below b3)
    clear b3
    obtain ⟨e0, e1, -⟩ := J3.out.two
    go_wp2_with fail
    clear e0 e1
    refine (T.out _ J3.out.left J3.out.right).mono ?_
    rintro e w4 ⟨_, rfl, ⟨xl, xr, rfl, A1, A2, -, D1, D2⟩, b4⟩
    obtain ⟨xg, xn, xc, rfl⟩ := D1
    obtain ⟨yg, yn, yc, rfl⟩ := D2
    have J4 := Lib.hid ((J3.out.below b4).below (alloc_below w4 (.cells #[.slice (some ⟨xg, 0, none⟩) xn xc, .slice (some ⟨yg, 0, none⟩) yn yc] 27)))
    have K4 := Lib.hid ((K3.out.below b4).below (alloc_below w4 (.cells #[.slice (some ⟨xg, 0, none⟩) xn xc, .slice (some ⟨yg, 0, none⟩) yn yc] 27)))
    have F1 := Lib.hid (A1.reads.below (alloc_below w4 (.cells #[.slice (some ⟨xg, 0, none⟩) xn xc, .slice (some ⟨yg, 0, none⟩) yn yc] 27)))
    have F2 := Lib.hid (A2.reads.below (alloc_below w4 (.cells #[.slice (some ⟨xg, 0, none⟩) xn xc, .slice (some ⟨yg, 0, none⟩) yn yc] 27)))
    have V4 := Lib.hid (TwoAt.new w4 27 (.slice (some ⟨xg, 0, none⟩) xn xc) (.slice (some ⟨yg, 0, none⟩) yn yc))
    clear A1 A2 b4
    generalize hX5 : w4.alloc (.cells #[.slice (some ⟨xg, 0, none⟩) xn xc, .slice (some ⟨yg, 0, none⟩) yn yc] 27) = X5 at J4 K4 F1 F2 V4
    go_wp2_with fail
    refine (TC.out _ K4.out).mono ?_
    rintro e w5 ⟨yv, rfl, D3, A3, b5⟩
    obtain ⟨zg, zn, zc, rfl⟩ := D3
    have J5 := Lib.hid (J4.out.below b5)
    have K5 := Lib.hid (K4.out.below b5)
    have F15 := Lib.hid (F1.out.below b5)
    have F25 := Lib.hid (F2.out.below b5)
    have F35 := Lib.hid A3.reads
    have V5 := Lib.hid (V4.out.below b5)
    clear A3 b5 hX5
    generalize w4.heap.size = b at V5 ⊢
    obtain ⟨e2, e3, -⟩ := V5.out
    go_wp2_with fail
    clear e2 e3
    refine (IP.out _ J5.out.bel _ _ _ F15.out F25.out F35.out).mono ?_
    rintro e w6 ⟨rfl, b6⟩
    have J6 := Lib.hid (J5.out.below b6)
    have K6 := Lib.hid (K5.out.below b6)
    have G6 := Lib.hid (F15.out.below b6)
    have H6 := Lib.hid (F25.out.below b6)
    have I6 := Lib.hid (F35.out.below b6)
    have V6 := Lib.hid (V5.out.below b6)
    clear b6
    obtain ⟨e0, e1, -⟩ := J6.out.two
    obtain ⟨e2, e3, -⟩ := V6.out
    go_wp2_with fail
    first | (go_region_held3 (fun w' => (w'.cell? ⟨w.heap.size, 0, none⟩ = some vl ∧ w'.cell? ⟨w.heap.size, 1, none⟩ = some vr ∧ w.heap.size < w'.heap.size) ∧ (w'.cell? ⟨b, 0, none⟩ = some (.slice (some ⟨xg, 0, none⟩) xn xc) ∧ w'.cell? ⟨b, 1, none⟩ = some (.slice (some ⟨yg, 0, none⟩) yn yc) ∧ b < w'.heap.size))
      (first | exact ⟨J8.out.two, V8.out⟩ | exact ⟨J7.out.two, V7.out⟩ | exact ⟨J6.out.two.drewT, V6.out.drewT⟩)
      (first
        | (go_at_call 8; refine (T.out _ J6.out.left.drewT J6.out.right.drewT).mono ?_; rintro e w7 ⟨_, rfl, ⟨zl, zr, rfl, A1, A2, -, -, -⟩, b7⟩; have J7 := Lib.hid (J6.out.below ((Below.refl _ _).drew.trans b7)); have V7 := Lib.hid (V6.out.drewT.below b7); have G7 := Lib.hid (G6.out.drewT.below b7); have H7 := Lib.hid (H6.out.drewT.below b7); have I7 := Lib.hid (I6.out.drewT.below b7); have K7 := Lib.hid (K6.out.drewT.below b7); have Z1 := Lib.hid A1.reads; have Z2 := Lib.hid A2.reads; clear A1 A2 b7)
        | (go_at_call 11; refine (EQ.out _ _ _ _ _ G7.out H7.out Z1.out Z2.out).mono ?_; rintro e w8 ⟨rfl, b8⟩; have J8 := Lib.hid (J7.out.below b8); have V8 := Lib.hid (V7.out.below b8); have I8 := Lib.hid (I7.out.below b8); have K8 := Lib.hid (K7.out.below b8); clear b8)
        | fail)) | fail
    go_wp2_with fail
    refine (TC.out _ K8.out).mono ?_
    rintro e w9 ⟨zv, rfl, -, A3, b9⟩
    have J9 := Lib.hid (J8.out.below b9)
    have I9 := Lib.hid (I8.out.below b9)
    have Z9 := Lib.hid A3.reads
    clear A3 b9
    go_wp2_with fail
    refine (EC.out _ _ _ I9.out Z9.out).mono ?_
    rintro e w10 ⟨rfl, b10⟩
    have J10 := Lib.hid (J9.out.below b10)
    clear b10
    go_wp2
    go_ret
    exact ⟨rfl, J10.out.bel⟩

set_option maxRecDepth 100000 in
set_option maxHeartbeats 1600000 in
theorem lawStateLine (s : SD) (w : World) (IM : StateLineIs 15 s w) :
    Calls Tryz.prog 4 #[stateV s] w fun e w' => e = .returned (.bool true) ∧ Below w.heap.size w w' := by
  have T := Lib.hid (toStateL s)
  have C1 := Lib.hid (fun W => specStateLine s W)
  have C2 := Lib.hid IM
  have P0 := Lib.hid (StateAt.new w 34 s)
  have B0 := Lib.hid (alloc_below w (.cells #[.int .i64 s.b, .int .i64 s.h, .int .i64 s.l, .int .i64 s.g] 34))
  unfold StateLineIs at C2
  generalize stateT s = b at C1 C2
  unfold stateV at T C1 C2 ⊢
  generalize hX : w.alloc (.cells #[.int .i64 s.b, .int .i64 s.h, .int .i64 s.l, .int .i64 s.g] 34) = X at P0 B0
  obtain ⟨e0, e1, e2, e3, -⟩ := P0.out
  go_enter Tryz.func4, Tryz.ntmps4
  go_wp2_with fail
  refine (T.out _).mono ?_
  rintro e w1 ⟨rfl, b1⟩
  have B1 := Lib.hid (below_up B0.out b1)
  have P1 := Lib.hid (P0.out.below b1)
  clear b1 e0 e1 e2 e3 hX
  go_wp2_with fail
  refine (C1.out _).mono ?_
  rintro e w2 ⟨rfl, b2⟩
  have B2 := Lib.hid (below_up B1.out b2)
  obtain ⟨e0, e1, e2, e3, -⟩ := P1.out.below b2
  clear b2
  go_wp2_with fail
  refine (T.out _).mono ?_
  rintro e w3 ⟨rfl, b3⟩
  have B3 := Lib.hid (below_up B2.out b3)
  clear b3 e0 e1 e2 e3
  go_wp2_with fail
  refine (C2.out _ B3.out).mono ?_
  rintro e w4 ⟨rfl, b4⟩
  have B4 := Lib.hid (below_up B3.out b4)
  clear b4
  go_wp2
  go_ret
  exact ⟨rfl, B4.out⟩

end Go.Proofs.YtlflblngbneacaaGreatDoor
