/- The walks of the exact laws of ArrayOk, TestArray, SuspectsOf, IsClear, CountArrayTests, ArraySets and WorstArray round the contracts of the program's functions: each returns true for every argument. Condition: the slices that came in read as truth values. -/
import Derived.Test.YtljodgdnimiliaaArrMore
namespace Go.Proofs.Ytljodgdnimiliaa
open Go.RowKit

/-- The contracts of the program's functions. -/
def ArrayOkIs (f : FuncId) (r c : Int) : Prop := ∀ W, Calls Try.prog f #[.int .i64 r, .int .i64 c] W fun e w' => e = .returned (.bool (okArr r c)) ∧ Below W.heap.size W w'
def TestArrayIs (f : FuncId) (r c b : Int) : Prop := ∀ W, Calls Try.prog f #[.int .i64 r, .int .i64 c, .int .i64 b] W (Tests2 (rowL r c b) (colL r c b) (okTest r c b) W)
def SuspectsOfIs (f : FuncId) (r c : Int) (R C : List Bool) : Prop := ∀ W vR vC, BoolsAt W vR R → BoolsAt W vC C → Calls Try.prog f #[.int .i64 r, .int .i64 c, vR, vC] W fun e w' => e = .returned (.int .i64 (suspA r c R C)) ∧ Below W.heap.size W w'
def IsClearIs (f : FuncId) (r c : Int) (R C : List Bool) : Prop := ∀ W vR vC, BoolsAt W vR R → BoolsAt W vC C → Calls Try.prog f #[.int .i64 r, .int .i64 c, vR, vC] W fun e w' => e = .returned (.bool (clearA r c R C)) ∧ Below W.heap.size W w'
def CountArrayTestsIs (f : FuncId) (r c b : Int) : Prop := ∀ W, Calls Try.prog f #[.int .i64 r, .int .i64 c, .int .i64 b] W fun e w' => e = .returned (.int .i64 (cntA r c b)) ∧ Below W.heap.size W w'
def ArraySetsIs (f : FuncId) (r c : Int) (R C : List Bool) : Prop := ∀ W vR vC, BoolsAt W vR R → BoolsAt W vC C → Calls Try.prog f #[.int .i64 r, .int .i64 c, vR, vC] W fun e w' => e = .returned (.int .i64 (setsA r c R C)) ∧ Below W.heap.size W w'
def WorstArrayIs (f : FuncId) (r c d : Int) : Prop := ∀ W, Calls Try.prog f #[.int .i64 r, .int .i64 c, .int .i64 d] W fun e w' => e = .returned (.int .i64 (worstA r c d)) ∧ Below W.heap.size W w'

set_option maxRecDepth 100000 in
set_option maxHeartbeats 3200000 in
theorem lawArrayOk (r : Int) (c : Int) (w : World)   (IM : ArrayOkIs 12 r c) :
    Calls Try.prog 3 #[.int .i64 r, .int .i64 c] w fun e w' => e = .returned (.bool true) ∧ Below w.heap.size w w' := by
  have B0 := Lib.hid (Below.refl w.heap.size w)
  have SP := Lib.hid (fun W  => specArrayOk r c W)
  unfold ArrayOkIs at IM
  have IP := Lib.hid IM
  generalize okArr r c = t at SP IP
  have hok : (t != t) = false := by simp
  clear IM
  go_enter Try.func3, Try.ntmps3
  go_wp2_with fail
  refine (SP.out _  ).mono ?_
  rintro e w1 ⟨rfl, rfl⟩
  go_wp2_with fail
  refine (IP.out _  ).mono ?_
  rintro e w1 ⟨rfl, bb⟩
  have B1 := Lib.hid (below_up B0.out bb)
  have D1 : Hid (w.heap.size ≤ w1.heap.size) := bb.size
  clear bb B0
  go_wp2
  go_ret
  exact ⟨rfl, B1.out⟩

set_option maxRecDepth 100000 in
set_option maxHeartbeats 3200000 in
theorem lawTestArray (r c b : Int) (w : World) (IM : TestArrayIs 14 r c b) :
    Calls Try.prog 4 #[.int .i64 r, .int .i64 c, .int .i64 b] w fun e w' => e = .returned (.bool true) ∧ Below w.heap.size w w' := by
  have B0 := Lib.hid (Below.refl w.heap.size w)
  have SP := Lib.hid (fun W => specTestArray r c b W)
  unfold TestArrayIs at IM
  have IP := Lib.hid IM
  unfold Tests2 at SP IP
  have hF0 := rowL_len r c b
  have hF1 := colL_len r c b
  generalize rowL r c b = F at SP IP hF0
  generalize colL r c b = G at SP IP hF1
  generalize okTest r c b = t at SP IP
  have E0 := Lib.hid (fun W a b (h : BoolsAt W a F) h' => eqBools_same a b F W h h' (by omega))
  have M0 := Lib.hid (fun W B a (h : OwnB W B a F) => markBools B a 1 F W h (by omega) (by omega) (by omega))
  have H0 := Lib.hid (fun W a h => heldBools a 1 F.length W h (by omega) (by omega) (by omega))
  obtain ⟨kf0, hkf0⟩ : ∃ q, (1 : Int) + (F.length : Int) = q := ⟨_, rfl⟩
  rw [hkf0] at M0 H0
  have kp0 : 1 ≤ kf0 ∧ kf0 ≤ 10000000 := by omega
  have kn0 : ¬ kf0 < 0 := by omega
  have E1 := Lib.hid (fun W a b (h : BoolsAt W a G) h' => eqBools_same a b G W h h' (by omega))
  have M1 := Lib.hid (fun W B a (h : OwnB W B a G) => markBools B a kf0 G W h (by omega) (by omega) (by omega))
  have H1 := Lib.hid (fun W a h => heldBools a kf0 G.length W h (by omega) (by omega) (by omega))
  obtain ⟨kf1, hkf1⟩ : ∃ q, (kf0 : Int) + (G.length : Int) = q := ⟨_, rfl⟩
  rw [hkf1] at M1 H1
  have kp1 : 1 ≤ kf1 ∧ kf1 ≤ 10000000 := by omega
  have kn1 : ¬ kf1 < 0 := by omega
  have hok0 : (t != t) = false := by simp
  clear IM hkf0 hF0 kp0 hkf1 hF1 kp1
  go_enter Try.func4, Try.ntmps4
  go_wp2_with fail
  refine (SP.out _).mono ?_
  rintro e w1 ⟨uW0, uW1, rfl, o0, o1, sp, bb⟩
  obtain ⟨gWx0, nWx0, qWx0, rfl⟩ := o0.form
  have IWx0 : Hid (∀ k, Value.ownBlock (.slice gWx0 nWx0 qWx0) = some k → w.heap.size ≤ k ∧ k < w1.heap.size) := fun k hk => o0.blk k hk
  have Wx0_1 := Lib.hid o0
  obtain ⟨gWx1, nWx1, qWx1, rfl⟩ := o1.form
  have IWx1 : Hid (∀ k, Value.ownBlock (.slice gWx1 nWx1 qWx1) = some k → w.heap.size ≤ k ∧ k < w1.heap.size) := fun k hk => o1.blk k hk
  have Wx1_1 := Lib.hid o1
  have SW := Lib.hid sp
  clear sp o0 o1
  have B1 := Lib.hid (below_up B0.out bb)
  have D1 : Hid (w.heap.size ≤ w1.heap.size) := bb.size
  clear bb B0
  go_wp2_with fail
  refine (IP.out _).mono ?_
  rintro e w2 ⟨uG0, uG1, rfl, o0, o1, sp, bb⟩
  obtain ⟨gGx0, nGx0, qGx0, rfl⟩ := o0.form
  have IGx0 : Hid (∀ k, Value.ownBlock (.slice gGx0 nGx0 qGx0) = some k → w1.heap.size ≤ k ∧ k < w2.heap.size) := fun k hk => o0.blk k hk
  have Gx0_2 := Lib.hid o0
  obtain ⟨gGx1, nGx1, qGx1, rfl⟩ := o1.form
  have IGx1 : Hid (∀ k, Value.ownBlock (.slice gGx1 nGx1 qGx1) = some k → w1.heap.size ≤ k ∧ k < w2.heap.size) := fun k hk => o1.blk k hk
  have Gx1_2 := Lib.hid o1
  have SG := Lib.hid sp
  clear sp o0 o1
  have B2 := Lib.hid (below_up B1.out bb)
  have D2 : Hid (w1.heap.size ≤ w2.heap.size) := bb.size
  have Wx0_2 := Lib.hid (Wx0_1.out.below bb)
  have Wx1_2 := Lib.hid (Wx1_1.out.below bb)
  clear bb B1 Wx0_1 Wx1_1
  go_wp2_with fail
  refine (E0.out _ _ _ Gx0_2.out.reads Wx0_2.out.reads).mono ?_
  rintro e w3 ⟨rfl, bb⟩
  have B3 := Lib.hid (below_up B2.out bb)
  have D3 : Hid (w2.heap.size ≤ w3.heap.size) := bb.size
  have Wx0_3 := Lib.hid (Wx0_2.out.below bb)
  have Wx1_3 := Lib.hid (Wx1_2.out.below bb)
  have Gx0_3 := Lib.hid (Gx0_2.out.below bb)
  have Gx1_3 := Lib.hid (Gx1_2.out.below bb)
  clear bb B2 Wx0_2 Wx1_2 Gx0_2 Gx1_2
  go_wp2_with fail
  refine (E1.out _ _ _ Gx1_3.out.reads Wx1_3.out.reads).mono ?_
  rintro e w4 ⟨rfl, bb⟩
  have B4 := Lib.hid (below_up B3.out bb)
  have D4 : Hid (w3.heap.size ≤ w4.heap.size) := bb.size
  have Wx0_4 := Lib.hid (Wx0_3.out.below bb)
  have Wx1_4 := Lib.hid (Wx1_3.out.below bb)
  have Gx0_4 := Lib.hid (Gx0_3.out.below bb)
  have Gx1_4 := Lib.hid (Gx1_3.out.below bb)
  clear bb B3 Wx0_3 Wx1_3 Gx0_3 Gx1_3
  go_wp2_with fail
  refine (M0.out _ _ _ Gx0_4.out).mono ?_
  rintro e w5 ⟨rfl, oI, gI⟩
  have tI := Only.of_grown gI
  have B5 : Hid (Below w.heap.size w w5) := B4.out.trans (tI.below B4.out.size fun k hk => by have := IGx0.out k hk; have := D1.out; have := D2.out; have := D3.out; have := D4.out; omega)
  have D5 : Hid (w4.heap.size ≤ w5.heap.size) := tI.size
  have Wx0_5 := Lib.hid (Wx0_4.out.only tI fun k hk e => by have := IWx0.out k hk; have := IGx0.out k e; have := D1.out; have := D2.out; have := D3.out; have := D4.out; omega)
  have Wx1_5 := Lib.hid (Wx1_4.out.only tI fun k hk e => by have := IWx1.out k hk; have := IGx0.out k e; have := D1.out; have := D2.out; have := D3.out; have := D4.out; omega)
  have Gx1_5 := Lib.hid (Gx1_4.out.only tI fun k hk e => SG.out k e hk)
  have Gx0_5 : Hid (BoolsAt w5 (.slice gGx0 nGx0 qGx0) (bmarks 1 F.length)) := BoolsAt.of_owns_n oI (bmarks_length _ _)
  clear oI gI tI B4 Wx0_4 Wx1_4 Gx0_4 Gx1_4
  go_wp2_with fail
  refine (M1.out _ _ _ Gx1_5.out).mono ?_
  rintro e w6 ⟨rfl, oI, gI⟩
  have tI := Only.of_grown gI
  have B6 : Hid (Below w.heap.size w w6) := B5.out.trans (tI.below B5.out.size fun k hk => by have := IGx1.out k hk; have := D1.out; have := D2.out; have := D3.out; have := D4.out; have := D5.out; omega)
  have D6 : Hid (w5.heap.size ≤ w6.heap.size) := tI.size
  have Wx0_6 := Lib.hid (Wx0_5.out.only tI fun k hk e => by have := IWx0.out k hk; have := IGx1.out k e; have := D1.out; have := D2.out; have := D3.out; have := D4.out; have := D5.out; omega)
  have Wx1_6 := Lib.hid (Wx1_5.out.only tI fun k hk e => by have := IWx1.out k hk; have := IGx1.out k e; have := D1.out; have := D2.out; have := D3.out; have := D4.out; have := D5.out; omega)
  have Gx0_6 := Lib.hid (Gx0_5.out.only tI fun k hk e => SG.out k hk e)
  have Gx1_6 : Hid (BoolsAt w6 (.slice gGx1 nGx1 qGx1) (bmarks kf0 G.length)) := BoolsAt.of_owns_n oI (bmarks_length _ _)
  clear oI gI tI B5 Wx0_5 Wx1_5 Gx0_5 Gx1_5
  go_wp2_with fail
  refine (H0.out _ _ Gx0_6.out).mono ?_
  rintro e w7 ⟨rfl, rfl⟩
  go_wp2_with fail
  refine (H1.out _ _ Gx1_6.out).mono ?_
  rintro e w7 ⟨rfl, rfl⟩
  go_wp2_with fail
  refine (IP.out _).mono ?_
  rintro e w7 ⟨uH0, uH1, rfl, o0, o1, sp, bb⟩
  obtain ⟨gHx0, nHx0, qHx0, rfl⟩ := o0.form
  have IHx0 : Hid (∀ k, Value.ownBlock (.slice gHx0 nHx0 qHx0) = some k → w6.heap.size ≤ k ∧ k < w7.heap.size) := fun k hk => o0.blk k hk
  have Hx0_7 := Lib.hid o0
  obtain ⟨gHx1, nHx1, qHx1, rfl⟩ := o1.form
  have IHx1 : Hid (∀ k, Value.ownBlock (.slice gHx1 nHx1 qHx1) = some k → w6.heap.size ≤ k ∧ k < w7.heap.size) := fun k hk => o1.blk k hk
  have Hx1_7 := Lib.hid o1
  have SH := Lib.hid sp
  clear sp o0 o1
  have B7 := Lib.hid (below_up B6.out bb)
  have D7 : Hid (w6.heap.size ≤ w7.heap.size) := bb.size
  have Wx0_7 := Lib.hid (Wx0_6.out.below bb)
  have Wx1_7 := Lib.hid (Wx1_6.out.below bb)
  have Gx0_7 := Lib.hid (Gx0_6.out.below bb)
  have Gx1_7 := Lib.hid (Gx1_6.out.below bb)
  clear bb B6 Wx0_6 Wx1_6 Gx0_6 Gx1_6
  go_wp2_with fail
  refine (E0.out _ _ _ Hx0_7.out.reads Wx0_7.out.reads).mono ?_
  rintro e w8 ⟨rfl, bb⟩
  have B8 := Lib.hid (below_up B7.out bb)
  have D8 : Hid (w7.heap.size ≤ w8.heap.size) := bb.size
  have Wx0_8 := Lib.hid (Wx0_7.out.below bb)
  have Wx1_8 := Lib.hid (Wx1_7.out.below bb)
  have Gx0_8 := Lib.hid (Gx0_7.out.below bb)
  have Gx1_8 := Lib.hid (Gx1_7.out.below bb)
  have Hx0_8 := Lib.hid (Hx0_7.out.below bb)
  have Hx1_8 := Lib.hid (Hx1_7.out.below bb)
  clear bb B7 Wx0_7 Wx1_7 Gx0_7 Gx1_7 Hx0_7 Hx1_7
  go_wp2_with fail
  refine (E1.out _ _ _ Hx1_8.out.reads Wx1_8.out.reads).mono ?_
  rintro e w9 ⟨rfl, bb⟩
  have B9 := Lib.hid (below_up B8.out bb)
  have D9 : Hid (w8.heap.size ≤ w9.heap.size) := bb.size
  have Gx0_9 := Lib.hid (Gx0_8.out.below bb)
  have Gx1_9 := Lib.hid (Gx1_8.out.below bb)
  clear bb B8 Wx0_8 Wx1_8 Gx0_8 Gx1_8 Hx0_8 Hx1_8
  go_wp2_with fail
  refine (H0.out _ _ Gx0_9.out).mono ?_
  rintro e w10 ⟨rfl, rfl⟩
  go_wp2_with fail
  refine (H1.out _ _ Gx1_9.out).mono ?_
  rintro e w10 ⟨rfl, rfl⟩
  go_wp2
  go_ret
  exact ⟨rfl, B9.out⟩

set_option maxRecDepth 100000 in
set_option maxHeartbeats 3200000 in
theorem lawSuspectsOf (r : Int) (c : Int) (R : List Bool) (C : List Bool) (w : World) (vR : Value) (vC : Value) (cR : BoolsAt w vR R) (cC : BoolsAt w vC C) (IM : R.length ≤ 1048576 → C.length ≤ 1048576 → SuspectsOfIs 20 r c R C) :
    Calls Try.prog 5 #[.int .i64 r, .int .i64 c, vR, vC] w fun e w' => e = .returned (.bool true) ∧ Below w.heap.size w w' := by
  have HR := Lib.hid cR
  have HC := Lib.hid cC
  have B0 := Lib.hid (Below.refl w.heap.size w)
  obtain ⟨aR, kR, rfl, -⟩ := cR
  obtain ⟨aC, kC, rfl, -⟩ := cC
  by_cases LR : 1048576 < R.length
  · go_enter Try.func5, Try.ntmps5
    go_wp2
    go_ret
    exact ⟨rfl, B0.out⟩
  by_cases LC : 1048576 < C.length
  · go_enter Try.func5, Try.ntmps5
    go_wp2
    go_ret
    exact ⟨rfl, B0.out⟩
  have NR : R.length ≤ 1048576 := by omega
  have NC : C.length ≤ 1048576 := by omega
  replace IM := IM NR NC
  have SP := Lib.hid (fun W u0 u1 h0 h1 => specSuspects r c u0 u1 R C W h0 h1)
  unfold SuspectsOfIs at IM
  have IP := Lib.hid IM
  generalize suspA r c R C = x at SP IP
  have TR := Lib.hid (fun W h => toBools (.slice aR R.length kR) R W h NR)
  have ER := Lib.hid (fun W a b (h : BoolsAt W a R) h' => eqBools_same a b R W h h' (by omega))
  have TC := Lib.hid (fun W h => toBools (.slice aC C.length kC) C W h NC)
  have EC := Lib.hid (fun W a b (h : BoolsAt W a C) h' => eqBools_same a b C W h h' (by omega))
  clear IM NR NC
  generalize hnR : R.length = nR at HR TR LR
  generalize hnC : C.length = nC at HC TC LC
  clear hnR hnC
  go_enter Try.func5, Try.ntmps5
  go_wp2_with fail
  refine (TR.out _ (HR.out.below B0.out)).mono ?_
  rintro e w1 ⟨uPR, rfl, -, o, bb⟩
  obtain ⟨gPR, nPR, qPR, rfl⟩ := o.form
  have IPR : Hid (∀ k, Value.ownBlock (.slice gPR nPR qPR) = some k → w.heap.size ≤ k ∧ k < w1.heap.size) := fun k hk => o.blk k hk
  have PR1 := Lib.hid o
  clear o
  have B1 := Lib.hid (below_up B0.out bb)
  have D1 : Hid (w.heap.size ≤ w1.heap.size) := bb.size
  clear bb B0
  go_wp2_with fail
  refine (TC.out _ (HC.out.below B1.out)).mono ?_
  rintro e w2 ⟨uPC, rfl, -, o, bb⟩
  obtain ⟨gPC, nPC, qPC, rfl⟩ := o.form
  have IPC : Hid (∀ k, Value.ownBlock (.slice gPC nPC qPC) = some k → w1.heap.size ≤ k ∧ k < w2.heap.size) := fun k hk => o.blk k hk
  have PC2 := Lib.hid o
  clear o
  have B2 := Lib.hid (below_up B1.out bb)
  have D2 : Hid (w1.heap.size ≤ w2.heap.size) := bb.size
  have PR2 := Lib.hid (PR1.out.below bb)
  clear bb B1 PR1
  go_wp2_with fail
  refine (SP.out _ _ _ PR2.out.reads PC2.out.reads).mono ?_
  rintro e w3 ⟨rfl, rfl⟩
  clear PR2 PC2
  go_wp2_with fail
  refine (TR.out _ (HR.out.below B2.out)).mono ?_
  rintro e w3 ⟨uXR, rfl, -, o, bb⟩
  obtain ⟨gXR, nXR, qXR, rfl⟩ := o.form
  have IXR : Hid (∀ k, Value.ownBlock (.slice gXR nXR qXR) = some k → w2.heap.size ≤ k ∧ k < w3.heap.size) := fun k hk => o.blk k hk
  have XR3 := Lib.hid o
  clear o
  have B3 := Lib.hid (below_up B2.out bb)
  have D3 : Hid (w2.heap.size ≤ w3.heap.size) := bb.size
  clear bb B2
  go_wp2_with fail
  refine (TC.out _ (HC.out.below B3.out)).mono ?_
  rintro e w4 ⟨uXC, rfl, -, o, bb⟩
  obtain ⟨gXC, nXC, qXC, rfl⟩ := o.form
  have IXC : Hid (∀ k, Value.ownBlock (.slice gXC nXC qXC) = some k → w3.heap.size ≤ k ∧ k < w4.heap.size) := fun k hk => o.blk k hk
  have XC4 := Lib.hid o
  clear o
  have B4 := Lib.hid (below_up B3.out bb)
  have D4 : Hid (w3.heap.size ≤ w4.heap.size) := bb.size
  have XR4 := Lib.hid (XR3.out.below bb)
  clear bb B3 XR3
  go_wp2_with fail
  refine (IP.out _ _ _ XR4.out.reads XC4.out.reads).mono ?_
  rintro e w5 ⟨rfl, bb⟩
  have B5 := Lib.hid (below_up B4.out bb)
  have D5 : Hid (w4.heap.size ≤ w5.heap.size) := bb.size
  have XR5 := Lib.hid (XR4.out.below bb)
  have XC5 := Lib.hid (XC4.out.below bb)
  clear bb B4 XR4 XC4
  go_wp2_with fail
  refine (TR.out _ (HR.out.below B5.out)).mono ?_
  rintro e w6 ⟨uY, rfl, -, o, bb⟩
  obtain ⟨gY, nY, qY, rfl⟩ := o.form
  have IY : Hid (∀ k, Value.ownBlock (.slice gY nY qY) = some k → w5.heap.size ≤ k ∧ k < w6.heap.size) := fun k hk => o.blk k hk
  have Y6 := Lib.hid o
  clear o
  have B6 := Lib.hid (below_up B5.out bb)
  have D6 : Hid (w5.heap.size ≤ w6.heap.size) := bb.size
  have XR6 := Lib.hid (XR5.out.below bb)
  have XC6 := Lib.hid (XC5.out.below bb)
  clear bb B5 XR5 XC5
  go_wp2_with fail
  refine (ER.out _ _ _ XR6.out.reads Y6.out.reads).mono ?_
  rintro e w7 ⟨rfl, bb⟩
  have B7 := Lib.hid (below_up B6.out bb)
  have D7 : Hid (w6.heap.size ≤ w7.heap.size) := bb.size
  have XC7 := Lib.hid (XC6.out.below bb)
  clear bb B6 XR6 XC6 Y6
  go_wp2_with fail
  refine (TC.out _ (HC.out.below B7.out)).mono ?_
  rintro e w8 ⟨uY, rfl, -, o, bb⟩
  obtain ⟨gY, nY, qY, rfl⟩ := o.form
  have IY : Hid (∀ k, Value.ownBlock (.slice gY nY qY) = some k → w7.heap.size ≤ k ∧ k < w8.heap.size) := fun k hk => o.blk k hk
  have Y8 := Lib.hid o
  clear o
  have B8 := Lib.hid (below_up B7.out bb)
  have D8 : Hid (w7.heap.size ≤ w8.heap.size) := bb.size
  have XC8 := Lib.hid (XC7.out.below bb)
  clear bb B7 XC7
  go_wp2_with fail
  refine (EC.out _ _ _ XC8.out.reads Y8.out.reads).mono ?_
  rintro e w9 ⟨rfl, bb⟩
  have B9 := Lib.hid (below_up B8.out bb)
  have D9 : Hid (w8.heap.size ≤ w9.heap.size) := bb.size
  clear bb B8 XC8 Y8
  go_wp2
  go_ret
  exact ⟨rfl, B9.out⟩

set_option maxRecDepth 100000 in
set_option maxHeartbeats 3200000 in
theorem lawIsClear (r : Int) (c : Int) (R : List Bool) (C : List Bool) (w : World) (vR : Value) (vC : Value) (cR : BoolsAt w vR R) (cC : BoolsAt w vC C) (IM : R.length ≤ 1048576 → C.length ≤ 1048576 → IsClearIs 22 r c R C) :
    Calls Try.prog 6 #[.int .i64 r, .int .i64 c, vR, vC] w fun e w' => e = .returned (.bool true) ∧ Below w.heap.size w w' := by
  have HR := Lib.hid cR
  have HC := Lib.hid cC
  have B0 := Lib.hid (Below.refl w.heap.size w)
  obtain ⟨aR, kR, rfl, -⟩ := cR
  obtain ⟨aC, kC, rfl, -⟩ := cC
  by_cases LR : 1048576 < R.length
  · go_enter Try.func6, Try.ntmps6
    go_wp2
    go_ret
    exact ⟨rfl, B0.out⟩
  by_cases LC : 1048576 < C.length
  · go_enter Try.func6, Try.ntmps6
    go_wp2
    go_ret
    exact ⟨rfl, B0.out⟩
  have NR : R.length ≤ 1048576 := by omega
  have NC : C.length ≤ 1048576 := by omega
  replace IM := IM NR NC
  have SP := Lib.hid (fun W u0 u1 h0 h1 => specIsClear r c u0 u1 R C W h0 h1)
  unfold IsClearIs at IM
  have IP := Lib.hid IM
  generalize clearA r c R C = x at SP IP
  have TR := Lib.hid (fun W h => toBools (.slice aR R.length kR) R W h NR)
  have ER := Lib.hid (fun W a b (h : BoolsAt W a R) h' => eqBools_same a b R W h h' (by omega))
  have TC := Lib.hid (fun W h => toBools (.slice aC C.length kC) C W h NC)
  have EC := Lib.hid (fun W a b (h : BoolsAt W a C) h' => eqBools_same a b C W h h' (by omega))
  have hok : (x != x) = false := by simp
  clear IM NR NC
  generalize hnR : R.length = nR at HR TR LR
  generalize hnC : C.length = nC at HC TC LC
  clear hnR hnC
  go_enter Try.func6, Try.ntmps6
  go_wp2_with fail
  refine (TR.out _ (HR.out.below B0.out)).mono ?_
  rintro e w1 ⟨uPR, rfl, -, o, bb⟩
  obtain ⟨gPR, nPR, qPR, rfl⟩ := o.form
  have IPR : Hid (∀ k, Value.ownBlock (.slice gPR nPR qPR) = some k → w.heap.size ≤ k ∧ k < w1.heap.size) := fun k hk => o.blk k hk
  have PR1 := Lib.hid o
  clear o
  have B1 := Lib.hid (below_up B0.out bb)
  have D1 : Hid (w.heap.size ≤ w1.heap.size) := bb.size
  clear bb B0
  go_wp2_with fail
  refine (TC.out _ (HC.out.below B1.out)).mono ?_
  rintro e w2 ⟨uPC, rfl, -, o, bb⟩
  obtain ⟨gPC, nPC, qPC, rfl⟩ := o.form
  have IPC : Hid (∀ k, Value.ownBlock (.slice gPC nPC qPC) = some k → w1.heap.size ≤ k ∧ k < w2.heap.size) := fun k hk => o.blk k hk
  have PC2 := Lib.hid o
  clear o
  have B2 := Lib.hid (below_up B1.out bb)
  have D2 : Hid (w1.heap.size ≤ w2.heap.size) := bb.size
  have PR2 := Lib.hid (PR1.out.below bb)
  clear bb B1 PR1
  go_wp2_with fail
  refine (SP.out _ _ _ PR2.out.reads PC2.out.reads).mono ?_
  rintro e w3 ⟨rfl, rfl⟩
  clear PR2 PC2
  go_wp2_with fail
  refine (TR.out _ (HR.out.below B2.out)).mono ?_
  rintro e w3 ⟨uXR, rfl, -, o, bb⟩
  obtain ⟨gXR, nXR, qXR, rfl⟩ := o.form
  have IXR : Hid (∀ k, Value.ownBlock (.slice gXR nXR qXR) = some k → w2.heap.size ≤ k ∧ k < w3.heap.size) := fun k hk => o.blk k hk
  have XR3 := Lib.hid o
  clear o
  have B3 := Lib.hid (below_up B2.out bb)
  have D3 : Hid (w2.heap.size ≤ w3.heap.size) := bb.size
  clear bb B2
  go_wp2_with fail
  refine (TC.out _ (HC.out.below B3.out)).mono ?_
  rintro e w4 ⟨uXC, rfl, -, o, bb⟩
  obtain ⟨gXC, nXC, qXC, rfl⟩ := o.form
  have IXC : Hid (∀ k, Value.ownBlock (.slice gXC nXC qXC) = some k → w3.heap.size ≤ k ∧ k < w4.heap.size) := fun k hk => o.blk k hk
  have XC4 := Lib.hid o
  clear o
  have B4 := Lib.hid (below_up B3.out bb)
  have D4 : Hid (w3.heap.size ≤ w4.heap.size) := bb.size
  have XR4 := Lib.hid (XR3.out.below bb)
  clear bb B3 XR3
  go_wp2_with fail
  refine (IP.out _ _ _ XR4.out.reads XC4.out.reads).mono ?_
  rintro e w5 ⟨rfl, bb⟩
  have B5 := Lib.hid (below_up B4.out bb)
  have D5 : Hid (w4.heap.size ≤ w5.heap.size) := bb.size
  have XR5 := Lib.hid (XR4.out.below bb)
  have XC5 := Lib.hid (XC4.out.below bb)
  clear bb B4 XR4 XC4
  go_wp2_with fail
  refine (TR.out _ (HR.out.below B5.out)).mono ?_
  rintro e w6 ⟨uY, rfl, -, o, bb⟩
  obtain ⟨gY, nY, qY, rfl⟩ := o.form
  have IY : Hid (∀ k, Value.ownBlock (.slice gY nY qY) = some k → w5.heap.size ≤ k ∧ k < w6.heap.size) := fun k hk => o.blk k hk
  have Y6 := Lib.hid o
  clear o
  have B6 := Lib.hid (below_up B5.out bb)
  have D6 : Hid (w5.heap.size ≤ w6.heap.size) := bb.size
  have XR6 := Lib.hid (XR5.out.below bb)
  have XC6 := Lib.hid (XC5.out.below bb)
  clear bb B5 XR5 XC5
  go_wp2_with fail
  refine (ER.out _ _ _ XR6.out.reads Y6.out.reads).mono ?_
  rintro e w7 ⟨rfl, bb⟩
  have B7 := Lib.hid (below_up B6.out bb)
  have D7 : Hid (w6.heap.size ≤ w7.heap.size) := bb.size
  have XC7 := Lib.hid (XC6.out.below bb)
  clear bb B6 XR6 XC6 Y6
  go_wp2_with fail
  refine (TC.out _ (HC.out.below B7.out)).mono ?_
  rintro e w8 ⟨uY, rfl, -, o, bb⟩
  obtain ⟨gY, nY, qY, rfl⟩ := o.form
  have IY : Hid (∀ k, Value.ownBlock (.slice gY nY qY) = some k → w7.heap.size ≤ k ∧ k < w8.heap.size) := fun k hk => o.blk k hk
  have Y8 := Lib.hid o
  clear o
  have B8 := Lib.hid (below_up B7.out bb)
  have D8 : Hid (w7.heap.size ≤ w8.heap.size) := bb.size
  have XC8 := Lib.hid (XC7.out.below bb)
  clear bb B7 XC7
  go_wp2_with fail
  refine (EC.out _ _ _ XC8.out.reads Y8.out.reads).mono ?_
  rintro e w9 ⟨rfl, bb⟩
  have B9 := Lib.hid (below_up B8.out bb)
  have D9 : Hid (w8.heap.size ≤ w9.heap.size) := bb.size
  clear bb B8 XC8 Y8
  go_wp2
  go_ret
  exact ⟨rfl, B9.out⟩

set_option maxRecDepth 100000 in
set_option maxHeartbeats 3200000 in
theorem lawCountArrayTests (r : Int) (c : Int) (b : Int) (w : World)   (IM : CountArrayTestsIs 24 r c b) :
    Calls Try.prog 7 #[.int .i64 r, .int .i64 c, .int .i64 b] w fun e w' => e = .returned (.bool true) ∧ Below w.heap.size w w' := by
  have B0 := Lib.hid (Below.refl w.heap.size w)
  have SP := Lib.hid (fun W  => specCountA r c b W)
  unfold CountArrayTestsIs at IM
  have IP := Lib.hid IM
  generalize cntA r c b = x at SP IP
  clear IM
  go_enter Try.func7, Try.ntmps7
  go_wp2_with fail
  refine (SP.out _  ).mono ?_
  rintro e w1 ⟨rfl, bb⟩
  have B1 := Lib.hid (below_up B0.out bb)
  have D1 : Hid (w.heap.size ≤ w1.heap.size) := bb.size
  clear bb B0
  go_wp2_with fail
  refine (IP.out _  ).mono ?_
  rintro e w2 ⟨rfl, bb⟩
  have B2 := Lib.hid (below_up B1.out bb)
  have D2 : Hid (w1.heap.size ≤ w2.heap.size) := bb.size
  clear bb B1
  go_wp2
  go_ret
  exact ⟨rfl, B2.out⟩

set_option maxRecDepth 100000 in
set_option maxHeartbeats 3200000 in
theorem lawArraySets (r : Int) (c : Int) (R : List Bool) (C : List Bool) (w : World) (vR : Value) (vC : Value) (cR : BoolsAt w vR R) (cC : BoolsAt w vC C) (IM : R.length ≤ 1048576 → C.length ≤ 1048576 → ArraySetsIs 26 r c R C) :
    Calls Try.prog 8 #[.int .i64 r, .int .i64 c, vR, vC] w fun e w' => e = .returned (.bool true) ∧ Below w.heap.size w w' := by
  have HR := Lib.hid cR
  have HC := Lib.hid cC
  have B0 := Lib.hid (Below.refl w.heap.size w)
  obtain ⟨aR, kR, rfl, -⟩ := cR
  obtain ⟨aC, kC, rfl, -⟩ := cC
  by_cases LR : 1048576 < R.length
  · go_enter Try.func8, Try.ntmps8
    go_wp2
    go_ret
    exact ⟨rfl, B0.out⟩
  by_cases LC : 1048576 < C.length
  · go_enter Try.func8, Try.ntmps8
    go_wp2
    go_ret
    exact ⟨rfl, B0.out⟩
  have NR : R.length ≤ 1048576 := by omega
  have NC : C.length ≤ 1048576 := by omega
  replace IM := IM NR NC
  have SP := Lib.hid (fun W u0 u1 h0 h1 => specArraySets r c u0 u1 R C W h0 h1)
  unfold ArraySetsIs at IM
  have IP := Lib.hid IM
  generalize setsA r c R C = x at SP IP
  have TR := Lib.hid (fun W h => toBools (.slice aR R.length kR) R W h NR)
  have ER := Lib.hid (fun W a b (h : BoolsAt W a R) h' => eqBools_same a b R W h h' (by omega))
  have TC := Lib.hid (fun W h => toBools (.slice aC C.length kC) C W h NC)
  have EC := Lib.hid (fun W a b (h : BoolsAt W a C) h' => eqBools_same a b C W h h' (by omega))
  clear IM NR NC
  generalize hnR : R.length = nR at HR TR LR
  generalize hnC : C.length = nC at HC TC LC
  clear hnR hnC
  go_enter Try.func8, Try.ntmps8
  go_wp2_with fail
  refine (TR.out _ (HR.out.below B0.out)).mono ?_
  rintro e w1 ⟨uPR, rfl, -, o, bb⟩
  obtain ⟨gPR, nPR, qPR, rfl⟩ := o.form
  have IPR : Hid (∀ k, Value.ownBlock (.slice gPR nPR qPR) = some k → w.heap.size ≤ k ∧ k < w1.heap.size) := fun k hk => o.blk k hk
  have PR1 := Lib.hid o
  clear o
  have B1 := Lib.hid (below_up B0.out bb)
  have D1 : Hid (w.heap.size ≤ w1.heap.size) := bb.size
  clear bb B0
  go_wp2_with fail
  refine (TC.out _ (HC.out.below B1.out)).mono ?_
  rintro e w2 ⟨uPC, rfl, -, o, bb⟩
  obtain ⟨gPC, nPC, qPC, rfl⟩ := o.form
  have IPC : Hid (∀ k, Value.ownBlock (.slice gPC nPC qPC) = some k → w1.heap.size ≤ k ∧ k < w2.heap.size) := fun k hk => o.blk k hk
  have PC2 := Lib.hid o
  clear o
  have B2 := Lib.hid (below_up B1.out bb)
  have D2 : Hid (w1.heap.size ≤ w2.heap.size) := bb.size
  have PR2 := Lib.hid (PR1.out.below bb)
  clear bb B1 PR1
  go_wp2_with fail
  refine (SP.out _ _ _ PR2.out.reads PC2.out.reads).mono ?_
  rintro e w3 ⟨rfl, bb⟩
  have B3 := Lib.hid (below_up B2.out bb)
  have D3 : Hid (w2.heap.size ≤ w3.heap.size) := bb.size
  clear bb B2 PR2 PC2
  go_wp2_with fail
  refine (TR.out _ (HR.out.below B3.out)).mono ?_
  rintro e w4 ⟨uXR, rfl, -, o, bb⟩
  obtain ⟨gXR, nXR, qXR, rfl⟩ := o.form
  have IXR : Hid (∀ k, Value.ownBlock (.slice gXR nXR qXR) = some k → w3.heap.size ≤ k ∧ k < w4.heap.size) := fun k hk => o.blk k hk
  have XR4 := Lib.hid o
  clear o
  have B4 := Lib.hid (below_up B3.out bb)
  have D4 : Hid (w3.heap.size ≤ w4.heap.size) := bb.size
  clear bb B3
  go_wp2_with fail
  refine (TC.out _ (HC.out.below B4.out)).mono ?_
  rintro e w5 ⟨uXC, rfl, -, o, bb⟩
  obtain ⟨gXC, nXC, qXC, rfl⟩ := o.form
  have IXC : Hid (∀ k, Value.ownBlock (.slice gXC nXC qXC) = some k → w4.heap.size ≤ k ∧ k < w5.heap.size) := fun k hk => o.blk k hk
  have XC5 := Lib.hid o
  clear o
  have B5 := Lib.hid (below_up B4.out bb)
  have D5 : Hid (w4.heap.size ≤ w5.heap.size) := bb.size
  have XR5 := Lib.hid (XR4.out.below bb)
  clear bb B4 XR4
  go_wp2_with fail
  refine (IP.out _ _ _ XR5.out.reads XC5.out.reads).mono ?_
  rintro e w6 ⟨rfl, bb⟩
  have B6 := Lib.hid (below_up B5.out bb)
  have D6 : Hid (w5.heap.size ≤ w6.heap.size) := bb.size
  have XR6 := Lib.hid (XR5.out.below bb)
  have XC6 := Lib.hid (XC5.out.below bb)
  clear bb B5 XR5 XC5
  go_wp2_with fail
  refine (TR.out _ (HR.out.below B6.out)).mono ?_
  rintro e w7 ⟨uY, rfl, -, o, bb⟩
  obtain ⟨gY, nY, qY, rfl⟩ := o.form
  have IY : Hid (∀ k, Value.ownBlock (.slice gY nY qY) = some k → w6.heap.size ≤ k ∧ k < w7.heap.size) := fun k hk => o.blk k hk
  have Y7 := Lib.hid o
  clear o
  have B7 := Lib.hid (below_up B6.out bb)
  have D7 : Hid (w6.heap.size ≤ w7.heap.size) := bb.size
  have XR7 := Lib.hid (XR6.out.below bb)
  have XC7 := Lib.hid (XC6.out.below bb)
  clear bb B6 XR6 XC6
  go_wp2_with fail
  refine (ER.out _ _ _ XR7.out.reads Y7.out.reads).mono ?_
  rintro e w8 ⟨rfl, bb⟩
  have B8 := Lib.hid (below_up B7.out bb)
  have D8 : Hid (w7.heap.size ≤ w8.heap.size) := bb.size
  have XC8 := Lib.hid (XC7.out.below bb)
  clear bb B7 XR7 XC7 Y7
  go_wp2_with fail
  refine (TC.out _ (HC.out.below B8.out)).mono ?_
  rintro e w9 ⟨uY, rfl, -, o, bb⟩
  obtain ⟨gY, nY, qY, rfl⟩ := o.form
  have IY : Hid (∀ k, Value.ownBlock (.slice gY nY qY) = some k → w8.heap.size ≤ k ∧ k < w9.heap.size) := fun k hk => o.blk k hk
  have Y9 := Lib.hid o
  clear o
  have B9 := Lib.hid (below_up B8.out bb)
  have D9 : Hid (w8.heap.size ≤ w9.heap.size) := bb.size
  have XC9 := Lib.hid (XC8.out.below bb)
  clear bb B8 XC8
  go_wp2_with fail
  refine (EC.out _ _ _ XC9.out.reads Y9.out.reads).mono ?_
  rintro e w10 ⟨rfl, bb⟩
  have B10 := Lib.hid (below_up B9.out bb)
  have D10 : Hid (w9.heap.size ≤ w10.heap.size) := bb.size
  clear bb B9 XC9 Y9
  go_wp2
  go_ret
  exact ⟨rfl, B10.out⟩

set_option maxRecDepth 100000 in
set_option maxHeartbeats 3200000 in
theorem lawWorstArray (r : Int) (c : Int) (d : Int) (w : World)   (IM : WorstArrayIs 28 r c d) :
    Calls Try.prog 9 #[.int .i64 r, .int .i64 c, .int .i64 d] w fun e w' => e = .returned (.bool true) ∧ Below w.heap.size w w' := by
  have B0 := Lib.hid (Below.refl w.heap.size w)
  have SP := Lib.hid (fun W  => specWorstA r c d W)
  unfold WorstArrayIs at IM
  have IP := Lib.hid IM
  generalize worstA r c d = x at SP IP
  clear IM
  go_enter Try.func9, Try.ntmps9
  go_wp2_with fail
  refine (SP.out _  ).mono ?_
  rintro e w1 ⟨rfl, bb⟩
  have B1 := Lib.hid (below_up B0.out bb)
  have D1 : Hid (w.heap.size ≤ w1.heap.size) := bb.size
  clear bb B0
  go_wp2_with fail
  refine (IP.out _  ).mono ?_
  rintro e w2 ⟨rfl, bb⟩
  have B2 := Lib.hid (below_up B1.out bb)
  have D2 : Hid (w1.heap.size ≤ w2.heap.size) := bb.size
  clear bb B1
  go_wp2
  go_ret
  exact ⟨rfl, B2.out⟩

end Go.Proofs.Ytljodgdnimiliaa
