/- The walks of the exact laws of AsksOk, FitsAfter, IsFound, WeightOf, CanWin, FirstAsk and FewestAsks round the contracts of the program's functions: each returns true for every argument. Condition: the slices that came in read as integers and as truth values. -/
import Derived.Test.YtnpmkoeceihepaaLieSpec
import Derived.Test.YtnpmkoeceihepaaLieWin
namespace Go.Proofs.Ytnpmkoeceihepaa
open Go.RowKit

/-- The contracts of the program's functions. -/
def AsksOkIs (f : FuncId) (n : Int) (P : List Int) (R : List Bool) : Prop := ∀ W vP vR, IntsAt W vP P → BoolsAt W vR R → Calls Try.prog f #[.int .i64 n, vP, vR] W fun e w' => e = .returned (.bool (asksB n P R)) ∧ Below W.heap.size W w'
def FitsAfterIs (f : FuncId) (n : Int) (P : List Int) (R : List Bool) : Prop := ∀ W vP vR, IntsAt W vP P → BoolsAt W vR R → Calls Try.prog f #[.int .i64 n, vP, vR] W fun e w' => e = .returned (.tuple #[.int .i64 (fitI n P R 0), .int .i64 (fitI n P R 1)]) ∧ Below W.heap.size W w'
def IsFoundIs (f : FuncId) (n : Int) (P : List Int) (R : List Bool) : Prop := ∀ W vP vR, IntsAt W vP P → BoolsAt W vR R → Calls Try.prog f #[.int .i64 n, vP, vR] W fun e w' => e = .returned (.bool (foundB n P R)) ∧ Below W.heap.size W w'
def WeightOfIs (f : FuncId) (a b q : Int) : Prop := ∀ W, Calls Try.prog f #[.int .i64 a, .int .i64 b, .int .i64 q] W fun e w' => e = .returned (.int .i64 (wtI a b q)) ∧ Below W.heap.size W w'
def CanWinIs (f : FuncId) (a b q : Int) : Prop := ∀ W, Calls Try.prog f #[.int .i64 a, .int .i64 b, .int .i64 q] W fun e w' => e = .returned (.bool (canR a b q)) ∧ Below W.heap.size W w'
def FirstAskIs (f : FuncId) (a b q : Int) : Prop := ∀ W, Calls Try.prog f #[.int .i64 a, .int .i64 b, .int .i64 q] W fun e w' => e = .returned (.tuple #[.int .i64 (fstO (askO a b q)), .int .i64 (sndO (askO a b q)), .bool (askO a b q).isSome]) ∧ Below W.heap.size W w'
def FewestAsksIs (f : FuncId) (n : Int) : Prop := ∀ W, Calls Try.prog f #[.int .i64 n] W fun e w' => e = .returned (.int .i64 (asksI n)) ∧ Below W.heap.size W w'

set_option maxRecDepth 100000 in
set_option maxHeartbeats 3200000 in
theorem lawAsksOk (n : Int) (P : List Int) (R : List Bool) (w : World) (vP : Value) (vR : Value) (cP : IntsAt w vP P) (cR : BoolsAt w vR R) (IM : P.length ≤ 1048576 → R.length ≤ 1048576 → AsksOkIs 16 n P R) :
    Calls Try.prog 3 #[.int .i64 n, vP, vR] w fun e w' => e = .returned (.bool true) ∧ Below w.heap.size w w' := by
  have HP := Lib.hid cP
  have HR := Lib.hid cR
  have B0 := Lib.hid (Below.refl w.heap.size w)
  obtain ⟨aP, kP, rfl, -⟩ := cP
  obtain ⟨aR, kR, rfl, -⟩ := cR
  by_cases LP : 1048576 < P.length
  · go_enter Try.func3, Try.ntmps3
    go_wp2
    go_ret
    exact ⟨rfl, B0.out⟩
  by_cases LR : 1048576 < R.length
  · go_enter Try.func3, Try.ntmps3
    go_wp2
    go_ret
    exact ⟨rfl, B0.out⟩
  have NP : P.length ≤ 1048576 := by omega
  have NR : R.length ≤ 1048576 := by omega
  replace IM := IM NP NR
  have SP := Lib.hid (fun W u0 u1 h0 h1 => specAsksOk n u0 u1 P R W h0 h1 NP NR)
  unfold AsksOkIs at IM
  have IP := Lib.hid IM
  generalize asksB n P R = r at SP IP
  have TP := Lib.hid (fun W h => toInts (.slice aP P.length kP) P W h NP)
  have EP := Lib.hid (fun W a b (h : IntsAt W a P) h' => eqInts_same a b P W h h' (by omega))
  have TR := Lib.hid (fun W h => toBools (.slice aR R.length kR) R W h NR)
  have ER := Lib.hid (fun W a b (h : BoolsAt W a R) h' => eqBools_same a b R W h h' (by omega))
  have hok : (r != r) = false := by simp
  clear IM NP NR
  generalize hnP : P.length = nP at HP TP LP
  generalize hnR : R.length = nR at HR TR LR
  clear hnP hnR
  go_enter Try.func3, Try.ntmps3
  go_wp2_with fail
  refine (TP.out _ (HP.out.below B0.out)).mono ?_
  rintro e w1 ⟨uPP, rfl, -, o, bb⟩
  obtain ⟨gPP, nPP, qPP, rfl⟩ := o.form
  have IPP : Hid (∀ k, Value.ownBlock (.slice gPP nPP qPP) = some k → w.heap.size ≤ k ∧ k < w1.heap.size) := fun k hk => o.blk k hk
  have PP1 := Lib.hid o
  clear o
  have B1 := Lib.hid (below_up B0.out bb)
  have D1 : Hid (w.heap.size ≤ w1.heap.size) := bb.size
  clear bb B0
  go_wp2_with fail
  refine (TR.out _ (HR.out.below B1.out)).mono ?_
  rintro e w2 ⟨uPR, rfl, -, o, bb⟩
  obtain ⟨gPR, nPR, qPR, rfl⟩ := o.form
  have IPR : Hid (∀ k, Value.ownBlock (.slice gPR nPR qPR) = some k → w1.heap.size ≤ k ∧ k < w2.heap.size) := fun k hk => o.blk k hk
  have PR2 := Lib.hid o
  clear o
  have B2 := Lib.hid (below_up B1.out bb)
  have D2 : Hid (w1.heap.size ≤ w2.heap.size) := bb.size
  have PP2 := Lib.hid (PP1.out.below bb)
  clear bb B1 PP1
  go_wp2_with fail
  refine (SP.out _ _ _ PP2.out.reads PR2.out.reads).mono ?_
  rintro e w3 ⟨rfl, rfl⟩
  clear PP2 PR2
  go_wp2_with fail
  refine (TP.out _ (HP.out.below B2.out)).mono ?_
  rintro e w3 ⟨uXP, rfl, -, o, bb⟩
  obtain ⟨gXP, nXP, qXP, rfl⟩ := o.form
  have IXP : Hid (∀ k, Value.ownBlock (.slice gXP nXP qXP) = some k → w2.heap.size ≤ k ∧ k < w3.heap.size) := fun k hk => o.blk k hk
  have XP3 := Lib.hid o
  clear o
  have B3 := Lib.hid (below_up B2.out bb)
  have D3 : Hid (w2.heap.size ≤ w3.heap.size) := bb.size
  clear bb B2
  go_wp2_with fail
  refine (TR.out _ (HR.out.below B3.out)).mono ?_
  rintro e w4 ⟨uXR, rfl, -, o, bb⟩
  obtain ⟨gXR, nXR, qXR, rfl⟩ := o.form
  have IXR : Hid (∀ k, Value.ownBlock (.slice gXR nXR qXR) = some k → w3.heap.size ≤ k ∧ k < w4.heap.size) := fun k hk => o.blk k hk
  have XR4 := Lib.hid o
  clear o
  have B4 := Lib.hid (below_up B3.out bb)
  have D4 : Hid (w3.heap.size ≤ w4.heap.size) := bb.size
  have XP4 := Lib.hid (XP3.out.below bb)
  clear bb B3 XP3
  go_wp2_with fail
  refine (IP.out _ _ _ XP4.out.reads XR4.out.reads).mono ?_
  rintro e w5 ⟨rfl, bb⟩
  have B5 := Lib.hid (below_up B4.out bb)
  have D5 : Hid (w4.heap.size ≤ w5.heap.size) := bb.size
  have XP5 := Lib.hid (XP4.out.below bb)
  have XR5 := Lib.hid (XR4.out.below bb)
  clear bb B4 XP4 XR4
  go_wp2_with fail
  refine (TP.out _ (HP.out.below B5.out)).mono ?_
  rintro e w6 ⟨uY, rfl, -, o, bb⟩
  obtain ⟨gY, nY, qY, rfl⟩ := o.form
  have IY : Hid (∀ k, Value.ownBlock (.slice gY nY qY) = some k → w5.heap.size ≤ k ∧ k < w6.heap.size) := fun k hk => o.blk k hk
  have Y6 := Lib.hid o
  clear o
  have B6 := Lib.hid (below_up B5.out bb)
  have D6 : Hid (w5.heap.size ≤ w6.heap.size) := bb.size
  have XP6 := Lib.hid (XP5.out.below bb)
  have XR6 := Lib.hid (XR5.out.below bb)
  clear bb B5 XP5 XR5
  go_wp2_with fail
  refine (EP.out _ _ _ XP6.out.reads Y6.out.reads).mono ?_
  rintro e w7 ⟨rfl, bb⟩
  have B7 := Lib.hid (below_up B6.out bb)
  have D7 : Hid (w6.heap.size ≤ w7.heap.size) := bb.size
  have XR7 := Lib.hid (XR6.out.below bb)
  clear bb B6 XP6 XR6 Y6
  go_wp2_with fail
  refine (TR.out _ (HR.out.below B7.out)).mono ?_
  rintro e w8 ⟨uY, rfl, -, o, bb⟩
  obtain ⟨gY, nY, qY, rfl⟩ := o.form
  have IY : Hid (∀ k, Value.ownBlock (.slice gY nY qY) = some k → w7.heap.size ≤ k ∧ k < w8.heap.size) := fun k hk => o.blk k hk
  have Y8 := Lib.hid o
  clear o
  have B8 := Lib.hid (below_up B7.out bb)
  have D8 : Hid (w7.heap.size ≤ w8.heap.size) := bb.size
  have XR8 := Lib.hid (XR7.out.below bb)
  clear bb B7 XR7
  go_wp2_with fail
  refine (ER.out _ _ _ XR8.out.reads Y8.out.reads).mono ?_
  rintro e w9 ⟨rfl, bb⟩
  have B9 := Lib.hid (below_up B8.out bb)
  have D9 : Hid (w8.heap.size ≤ w9.heap.size) := bb.size
  clear bb B8 XR8 Y8
  go_wp2
  go_ret
  exact ⟨rfl, B9.out⟩

set_option maxRecDepth 100000 in
set_option maxHeartbeats 3200000 in
theorem lawFitsAfter (n : Int) (P : List Int) (R : List Bool) (w : World) (vP : Value) (vR : Value) (cP : IntsAt w vP P) (cR : BoolsAt w vR R) (IM : P.length ≤ 1048576 → R.length ≤ 1048576 → FitsAfterIs 20 n P R) :
    Calls Try.prog 4 #[.int .i64 n, vP, vR] w fun e w' => e = .returned (.bool true) ∧ Below w.heap.size w w' := by
  have HP := Lib.hid cP
  have HR := Lib.hid cR
  have B0 := Lib.hid (Below.refl w.heap.size w)
  obtain ⟨aP, kP, rfl, -⟩ := cP
  obtain ⟨aR, kR, rfl, -⟩ := cR
  by_cases LP : 1048576 < P.length
  · go_enter Try.func4, Try.ntmps4
    go_wp2
    go_ret
    exact ⟨rfl, B0.out⟩
  by_cases LR : 1048576 < R.length
  · go_enter Try.func4, Try.ntmps4
    go_wp2
    go_ret
    exact ⟨rfl, B0.out⟩
  have NP : P.length ≤ 1048576 := by omega
  have NR : R.length ≤ 1048576 := by omega
  replace IM := IM NP NR
  have SP := Lib.hid (fun W u0 u1 h0 h1 => specFits n u0 u1 P R W h0 h1 NP NR)
  unfold FitsAfterIs at IM
  have IP := Lib.hid IM
  generalize fitI n P R 0 = x at SP IP
  generalize fitI n P R 1 = y at SP IP
  have TP := Lib.hid (fun W h => toInts (.slice aP P.length kP) P W h NP)
  have EP := Lib.hid (fun W a b (h : IntsAt W a P) h' => eqInts_same a b P W h h' (by omega))
  have TR := Lib.hid (fun W h => toBools (.slice aR R.length kR) R W h NR)
  have ER := Lib.hid (fun W a b (h : BoolsAt W a R) h' => eqBools_same a b R W h h' (by omega))
  have hok : (x != x) = false := by simp
  have hok1 : (y != y) = false := by simp
  clear IM NP NR
  generalize hnP : P.length = nP at HP TP LP
  generalize hnR : R.length = nR at HR TR LR
  clear hnP hnR
  go_enter Try.func4, Try.ntmps4
  go_wp2_with fail
  refine (TP.out _ (HP.out.below B0.out)).mono ?_
  rintro e w1 ⟨uPP, rfl, -, o, bb⟩
  obtain ⟨gPP, nPP, qPP, rfl⟩ := o.form
  have IPP : Hid (∀ k, Value.ownBlock (.slice gPP nPP qPP) = some k → w.heap.size ≤ k ∧ k < w1.heap.size) := fun k hk => o.blk k hk
  have PP1 := Lib.hid o
  clear o
  have B1 := Lib.hid (below_up B0.out bb)
  have D1 : Hid (w.heap.size ≤ w1.heap.size) := bb.size
  clear bb B0
  go_wp2_with fail
  refine (TR.out _ (HR.out.below B1.out)).mono ?_
  rintro e w2 ⟨uPR, rfl, -, o, bb⟩
  obtain ⟨gPR, nPR, qPR, rfl⟩ := o.form
  have IPR : Hid (∀ k, Value.ownBlock (.slice gPR nPR qPR) = some k → w1.heap.size ≤ k ∧ k < w2.heap.size) := fun k hk => o.blk k hk
  have PR2 := Lib.hid o
  clear o
  have B2 := Lib.hid (below_up B1.out bb)
  have D2 : Hid (w1.heap.size ≤ w2.heap.size) := bb.size
  have PP2 := Lib.hid (PP1.out.below bb)
  clear bb B1 PP1
  go_wp2_with fail
  refine (SP.out _ _ _ PP2.out.reads PR2.out.reads).mono ?_
  rintro e w3 ⟨rfl, bb⟩
  have B3 := Lib.hid (below_up B2.out bb)
  have D3 : Hid (w2.heap.size ≤ w3.heap.size) := bb.size
  clear bb B2 PP2 PR2
  go_wp2_with fail
  refine (TP.out _ (HP.out.below B3.out)).mono ?_
  rintro e w4 ⟨uXP, rfl, -, o, bb⟩
  obtain ⟨gXP, nXP, qXP, rfl⟩ := o.form
  have IXP : Hid (∀ k, Value.ownBlock (.slice gXP nXP qXP) = some k → w3.heap.size ≤ k ∧ k < w4.heap.size) := fun k hk => o.blk k hk
  have XP4 := Lib.hid o
  clear o
  have B4 := Lib.hid (below_up B3.out bb)
  have D4 : Hid (w3.heap.size ≤ w4.heap.size) := bb.size
  clear bb B3
  go_wp2_with fail
  refine (TR.out _ (HR.out.below B4.out)).mono ?_
  rintro e w5 ⟨uXR, rfl, -, o, bb⟩
  obtain ⟨gXR, nXR, qXR, rfl⟩ := o.form
  have IXR : Hid (∀ k, Value.ownBlock (.slice gXR nXR qXR) = some k → w4.heap.size ≤ k ∧ k < w5.heap.size) := fun k hk => o.blk k hk
  have XR5 := Lib.hid o
  clear o
  have B5 := Lib.hid (below_up B4.out bb)
  have D5 : Hid (w4.heap.size ≤ w5.heap.size) := bb.size
  have XP5 := Lib.hid (XP4.out.below bb)
  clear bb B4 XP4
  go_wp2_with fail
  refine (IP.out _ _ _ XP5.out.reads XR5.out.reads).mono ?_
  rintro e w6 ⟨rfl, bb⟩
  have B6 := Lib.hid (below_up B5.out bb)
  have D6 : Hid (w5.heap.size ≤ w6.heap.size) := bb.size
  have XP6 := Lib.hid (XP5.out.below bb)
  have XR6 := Lib.hid (XR5.out.below bb)
  clear bb B5 XP5 XR5
  go_wp2_with fail
  refine (TP.out _ (HP.out.below B6.out)).mono ?_
  rintro e w7 ⟨uY, rfl, -, o, bb⟩
  obtain ⟨gY, nY, qY, rfl⟩ := o.form
  have IY : Hid (∀ k, Value.ownBlock (.slice gY nY qY) = some k → w6.heap.size ≤ k ∧ k < w7.heap.size) := fun k hk => o.blk k hk
  have Y7 := Lib.hid o
  clear o
  have B7 := Lib.hid (below_up B6.out bb)
  have D7 : Hid (w6.heap.size ≤ w7.heap.size) := bb.size
  have XP7 := Lib.hid (XP6.out.below bb)
  have XR7 := Lib.hid (XR6.out.below bb)
  clear bb B6 XP6 XR6
  go_wp2_with fail
  refine (EP.out _ _ _ XP7.out.reads Y7.out.reads).mono ?_
  rintro e w8 ⟨rfl, bb⟩
  have B8 := Lib.hid (below_up B7.out bb)
  have D8 : Hid (w7.heap.size ≤ w8.heap.size) := bb.size
  have XR8 := Lib.hid (XR7.out.below bb)
  clear bb B7 XP7 XR7 Y7
  go_wp2_with fail
  refine (TR.out _ (HR.out.below B8.out)).mono ?_
  rintro e w9 ⟨uY, rfl, -, o, bb⟩
  obtain ⟨gY, nY, qY, rfl⟩ := o.form
  have IY : Hid (∀ k, Value.ownBlock (.slice gY nY qY) = some k → w8.heap.size ≤ k ∧ k < w9.heap.size) := fun k hk => o.blk k hk
  have Y9 := Lib.hid o
  clear o
  have B9 := Lib.hid (below_up B8.out bb)
  have D9 : Hid (w8.heap.size ≤ w9.heap.size) := bb.size
  have XR9 := Lib.hid (XR8.out.below bb)
  clear bb B8 XR8
  go_wp2_with fail
  refine (ER.out _ _ _ XR9.out.reads Y9.out.reads).mono ?_
  rintro e w10 ⟨rfl, bb⟩
  have B10 := Lib.hid (below_up B9.out bb)
  have D10 : Hid (w9.heap.size ≤ w10.heap.size) := bb.size
  clear bb B9 XR9 Y9
  go_wp2
  go_ret
  exact ⟨rfl, B10.out⟩

set_option maxRecDepth 100000 in
set_option maxHeartbeats 3200000 in
theorem lawIsFound (n : Int) (P : List Int) (R : List Bool) (w : World) (vP : Value) (vR : Value) (cP : IntsAt w vP P) (cR : BoolsAt w vR R) (IM : P.length ≤ 1048576 → R.length ≤ 1048576 → IsFoundIs 22 n P R) :
    Calls Try.prog 5 #[.int .i64 n, vP, vR] w fun e w' => e = .returned (.bool true) ∧ Below w.heap.size w w' := by
  have HP := Lib.hid cP
  have HR := Lib.hid cR
  have B0 := Lib.hid (Below.refl w.heap.size w)
  obtain ⟨aP, kP, rfl, -⟩ := cP
  obtain ⟨aR, kR, rfl, -⟩ := cR
  by_cases LP : 1048576 < P.length
  · go_enter Try.func5, Try.ntmps5
    go_wp2
    go_ret
    exact ⟨rfl, B0.out⟩
  by_cases LR : 1048576 < R.length
  · go_enter Try.func5, Try.ntmps5
    go_wp2
    go_ret
    exact ⟨rfl, B0.out⟩
  have NP : P.length ≤ 1048576 := by omega
  have NR : R.length ≤ 1048576 := by omega
  replace IM := IM NP NR
  have SP := Lib.hid (fun W u0 u1 h0 h1 => specFound n u0 u1 P R W h0 h1 NP NR)
  unfold IsFoundIs at IM
  have IP := Lib.hid IM
  generalize foundB n P R = r at SP IP
  have TP := Lib.hid (fun W h => toInts (.slice aP P.length kP) P W h NP)
  have EP := Lib.hid (fun W a b (h : IntsAt W a P) h' => eqInts_same a b P W h h' (by omega))
  have TR := Lib.hid (fun W h => toBools (.slice aR R.length kR) R W h NR)
  have ER := Lib.hid (fun W a b (h : BoolsAt W a R) h' => eqBools_same a b R W h h' (by omega))
  have hok : (r != r) = false := by simp
  clear IM NP NR
  generalize hnP : P.length = nP at HP TP LP
  generalize hnR : R.length = nR at HR TR LR
  clear hnP hnR
  go_enter Try.func5, Try.ntmps5
  go_wp2_with fail
  refine (TP.out _ (HP.out.below B0.out)).mono ?_
  rintro e w1 ⟨uPP, rfl, -, o, bb⟩
  obtain ⟨gPP, nPP, qPP, rfl⟩ := o.form
  have IPP : Hid (∀ k, Value.ownBlock (.slice gPP nPP qPP) = some k → w.heap.size ≤ k ∧ k < w1.heap.size) := fun k hk => o.blk k hk
  have PP1 := Lib.hid o
  clear o
  have B1 := Lib.hid (below_up B0.out bb)
  have D1 : Hid (w.heap.size ≤ w1.heap.size) := bb.size
  clear bb B0
  go_wp2_with fail
  refine (TR.out _ (HR.out.below B1.out)).mono ?_
  rintro e w2 ⟨uPR, rfl, -, o, bb⟩
  obtain ⟨gPR, nPR, qPR, rfl⟩ := o.form
  have IPR : Hid (∀ k, Value.ownBlock (.slice gPR nPR qPR) = some k → w1.heap.size ≤ k ∧ k < w2.heap.size) := fun k hk => o.blk k hk
  have PR2 := Lib.hid o
  clear o
  have B2 := Lib.hid (below_up B1.out bb)
  have D2 : Hid (w1.heap.size ≤ w2.heap.size) := bb.size
  have PP2 := Lib.hid (PP1.out.below bb)
  clear bb B1 PP1
  go_wp2_with fail
  refine (SP.out _ _ _ PP2.out.reads PR2.out.reads).mono ?_
  rintro e w3 ⟨rfl, bb⟩
  have B3 := Lib.hid (below_up B2.out bb)
  have D3 : Hid (w2.heap.size ≤ w3.heap.size) := bb.size
  clear bb B2 PP2 PR2
  go_wp2_with fail
  refine (TP.out _ (HP.out.below B3.out)).mono ?_
  rintro e w4 ⟨uXP, rfl, -, o, bb⟩
  obtain ⟨gXP, nXP, qXP, rfl⟩ := o.form
  have IXP : Hid (∀ k, Value.ownBlock (.slice gXP nXP qXP) = some k → w3.heap.size ≤ k ∧ k < w4.heap.size) := fun k hk => o.blk k hk
  have XP4 := Lib.hid o
  clear o
  have B4 := Lib.hid (below_up B3.out bb)
  have D4 : Hid (w3.heap.size ≤ w4.heap.size) := bb.size
  clear bb B3
  go_wp2_with fail
  refine (TR.out _ (HR.out.below B4.out)).mono ?_
  rintro e w5 ⟨uXR, rfl, -, o, bb⟩
  obtain ⟨gXR, nXR, qXR, rfl⟩ := o.form
  have IXR : Hid (∀ k, Value.ownBlock (.slice gXR nXR qXR) = some k → w4.heap.size ≤ k ∧ k < w5.heap.size) := fun k hk => o.blk k hk
  have XR5 := Lib.hid o
  clear o
  have B5 := Lib.hid (below_up B4.out bb)
  have D5 : Hid (w4.heap.size ≤ w5.heap.size) := bb.size
  have XP5 := Lib.hid (XP4.out.below bb)
  clear bb B4 XP4
  go_wp2_with fail
  refine (IP.out _ _ _ XP5.out.reads XR5.out.reads).mono ?_
  rintro e w6 ⟨rfl, bb⟩
  have B6 := Lib.hid (below_up B5.out bb)
  have D6 : Hid (w5.heap.size ≤ w6.heap.size) := bb.size
  have XP6 := Lib.hid (XP5.out.below bb)
  have XR6 := Lib.hid (XR5.out.below bb)
  clear bb B5 XP5 XR5
  go_wp2_with fail
  refine (TP.out _ (HP.out.below B6.out)).mono ?_
  rintro e w7 ⟨uY, rfl, -, o, bb⟩
  obtain ⟨gY, nY, qY, rfl⟩ := o.form
  have IY : Hid (∀ k, Value.ownBlock (.slice gY nY qY) = some k → w6.heap.size ≤ k ∧ k < w7.heap.size) := fun k hk => o.blk k hk
  have Y7 := Lib.hid o
  clear o
  have B7 := Lib.hid (below_up B6.out bb)
  have D7 : Hid (w6.heap.size ≤ w7.heap.size) := bb.size
  have XP7 := Lib.hid (XP6.out.below bb)
  have XR7 := Lib.hid (XR6.out.below bb)
  clear bb B6 XP6 XR6
  go_wp2_with fail
  refine (EP.out _ _ _ XP7.out.reads Y7.out.reads).mono ?_
  rintro e w8 ⟨rfl, bb⟩
  have B8 := Lib.hid (below_up B7.out bb)
  have D8 : Hid (w7.heap.size ≤ w8.heap.size) := bb.size
  have XR8 := Lib.hid (XR7.out.below bb)
  clear bb B7 XP7 XR7 Y7
  go_wp2_with fail
  refine (TR.out _ (HR.out.below B8.out)).mono ?_
  rintro e w9 ⟨uY, rfl, -, o, bb⟩
  obtain ⟨gY, nY, qY, rfl⟩ := o.form
  have IY : Hid (∀ k, Value.ownBlock (.slice gY nY qY) = some k → w8.heap.size ≤ k ∧ k < w9.heap.size) := fun k hk => o.blk k hk
  have Y9 := Lib.hid o
  clear o
  have B9 := Lib.hid (below_up B8.out bb)
  have D9 : Hid (w8.heap.size ≤ w9.heap.size) := bb.size
  have XR9 := Lib.hid (XR8.out.below bb)
  clear bb B8 XR8
  go_wp2_with fail
  refine (ER.out _ _ _ XR9.out.reads Y9.out.reads).mono ?_
  rintro e w10 ⟨rfl, bb⟩
  have B10 := Lib.hid (below_up B9.out bb)
  have D10 : Hid (w9.heap.size ≤ w10.heap.size) := bb.size
  clear bb B9 XR9 Y9
  go_wp2
  go_ret
  exact ⟨rfl, B10.out⟩

set_option maxRecDepth 100000 in
set_option maxHeartbeats 3200000 in
theorem lawWeightOf (a : Int) (b : Int) (q : Int) (w : World)   (IM : WeightOfIs 24 a b q) :
    Calls Try.prog 6 #[.int .i64 a, .int .i64 b, .int .i64 q] w fun e w' => e = .returned (.bool true) ∧ Below w.heap.size w w' := by
  have B0 := Lib.hid (Below.refl w.heap.size w)
  have SP := Lib.hid (fun W  => specWeightOf a b q W)
  unfold WeightOfIs at IM
  have IP := Lib.hid IM
  generalize wtI a b q = r at SP IP
  clear IM
  go_enter Try.func6, Try.ntmps6
  go_wp2_with fail
  refine (SP.out _  ).mono ?_
  rintro e w1 ⟨rfl, rfl⟩
  go_wp2_with fail
  refine (IP.out _  ).mono ?_
  rintro e w1 ⟨rfl, bb⟩
  have B1 := Lib.hid (below_up B0.out bb)
  have D1 : Hid (w.heap.size ≤ w1.heap.size) := bb.size
  clear bb B0
  go_wp2
  go_ret
  exact ⟨rfl, B1.out⟩

set_option maxRecDepth 100000 in
set_option maxHeartbeats 3200000 in
theorem lawCanWin (a : Int) (b : Int) (q : Int) (w : World)   (IM : CanWinIs 26 a b q) :
    Calls Try.prog 7 #[.int .i64 a, .int .i64 b, .int .i64 q] w fun e w' => e = .returned (.bool true) ∧ Below w.heap.size w w' := by
  have B0 := Lib.hid (Below.refl w.heap.size w)
  have SP := Lib.hid (fun W  => specCanWin a b q W)
  unfold CanWinIs at IM
  have IP := Lib.hid IM
  generalize canR a b q = r at SP IP
  have hok : (r != r) = false := by simp
  clear IM
  go_enter Try.func7, Try.ntmps7
  go_wp2_with fail
  refine (SP.out _  ).mono ?_
  rintro e w1 ⟨rfl, rfl⟩
  go_wp2_with fail
  refine (IP.out _  ).mono ?_
  rintro e w1 ⟨rfl, bb⟩
  have B1 := Lib.hid (below_up B0.out bb)
  have D1 : Hid (w.heap.size ≤ w1.heap.size) := bb.size
  clear bb B0
  go_wp2
  go_ret
  exact ⟨rfl, B1.out⟩

set_option maxRecDepth 100000 in
set_option maxHeartbeats 3200000 in
theorem lawFirstAsk (a : Int) (b : Int) (q : Int) (w : World)   (IM : FirstAskIs 28 a b q) :
    Calls Try.prog 8 #[.int .i64 a, .int .i64 b, .int .i64 q] w fun e w' => e = .returned (.bool true) ∧ Below w.heap.size w w' := by
  have B0 := Lib.hid (Below.refl w.heap.size w)
  have SP := Lib.hid (fun W  => specFirstAsk a b q W)
  unfold FirstAskIs at IM
  have IP := Lib.hid IM
  unfold Asks at SP
  generalize fstO (askO a b q) = x at SP IP
  generalize sndO (askO a b q) = y at SP IP
  generalize (askO a b q).isSome = t at SP IP
  have hok : (x != x) = false := by simp
  have hok1 : (y != y) = false := by simp
  have hok2 : (t != t) = false := by simp
  clear IM
  go_enter Try.func8, Try.ntmps8
  go_wp2_with fail
  refine (SP.out _  ).mono ?_
  rintro e w1 ⟨rfl, rfl⟩
  go_wp2_with fail
  refine (IP.out _  ).mono ?_
  rintro e w1 ⟨rfl, bb⟩
  have B1 := Lib.hid (below_up B0.out bb)
  have D1 : Hid (w.heap.size ≤ w1.heap.size) := bb.size
  clear bb B0
  go_wp2
  go_ret
  exact ⟨rfl, B1.out⟩

set_option maxRecDepth 100000 in
set_option maxHeartbeats 3200000 in
theorem lawFewestAsks (n : Int) (w : World)   (IM : FewestAsksIs 30 n) :
    Calls Try.prog 9 #[.int .i64 n] w fun e w' => e = .returned (.bool true) ∧ Below w.heap.size w w' := by
  have B0 := Lib.hid (Below.refl w.heap.size w)
  have SP := Lib.hid (fun W  => specFewestAsks n W)
  unfold FewestAsksIs at IM
  have IP := Lib.hid IM
  generalize asksI n = r at SP IP
  clear IM
  go_enter Try.func9, Try.ntmps9
  go_wp2_with fail
  refine (SP.out _  ).mono ?_
  rintro e w1 ⟨rfl, rfl⟩
  go_wp2_with fail
  refine (IP.out _  ).mono ?_
  rintro e w1 ⟨rfl, bb⟩
  have B1 := Lib.hid (below_up B0.out bb)
  have D1 : Hid (w.heap.size ≤ w1.heap.size) := bb.size
  clear bb B0
  go_wp2
  go_ret
  exact ⟨rfl, B1.out⟩

end Go.Proofs.Ytnpmkoeceihepaa
