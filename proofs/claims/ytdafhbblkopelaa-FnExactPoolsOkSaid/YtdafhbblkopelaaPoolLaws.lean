/- The walks of the exact laws of PoolsOk, TestPools, CountItems, ConsistentSets, SurelyGood and SurelyBad round the contracts of the program's functions: each returns true for every argument. Condition: the slices that came in read as integers and as truth values. -/
import Derived.Test.YtdafhbblkopelaaSetsSpec
namespace Go.Proofs.Ytdafhbblkopelaa
open Go.RowKit

/-- The contracts of the program's functions. -/
def PoolsOkIs (f : FuncId) (n : Int) (P : List Int) : Prop := ∀ W vP, IntsAt W vP P → Calls Try.prog f #[.int .i64 n, vP] W fun e w' => e = .returned (.bool (poolsB n P)) ∧ Below W.heap.size W w'
def TestPoolsIs (f : FuncId) (n : Int) (P : List Int) (bad : Int) : Prop := ∀ W vP, IntsAt W vP P → Calls Try.prog f #[.int .i64 n, vP, .int .i64 bad] W (TestsR n P bad W)
def ConsistentSetsIs (f : FuncId) (n : Int) (P : List Int) (R : List Bool) (most : Int) : Prop := ∀ W vP vR, IntsAt W vP P → BoolsAt W vR R → Calls Try.prog f #[.int .i64 n, vP, vR, .int .i64 most] W (ListsI2 (consR n P R most) W)
def SurelyGoodIs (f : FuncId) (n : Int) (P : List Int) (R : List Bool) : Prop := ∀ W vP vR, IntsAt W vP P → BoolsAt W vR R → Calls Try.prog f #[.int .i64 n, vP, vR] W fun e w' => e = .returned (.int .i64 (goodR n P R)) ∧ Below W.heap.size W w'
def SurelyBadIs (f : FuncId) (n : Int) (P : List Int) (R : List Bool) : Prop := ∀ W vP vR, IntsAt W vP P → BoolsAt W vR R → Calls Try.prog f #[.int .i64 n, vP, vR] W fun e w' => e = .returned (.int .i64 (badR n P R)) ∧ Below W.heap.size W w'
def CountItemsIs (f : FuncId) (s : Int) : Prop := ∀ W, Calls Try.prog f #[.int .i64 s] W fun e w' => e = .returned (.int .i64 (cntI s)) ∧ Below W.heap.size W w'
theorem testR_len (n : Int) (P : List Int) (bad : Int) : (testR n P bad).length ≤ 12 := by
  unfold testR
  split
  · rename_i h
    unfold testsB at h
    rw [Bool.and_eq_true] at h
    rw [resL_len]
    exact (pools_in h.1).2.1
  · simp
theorem consR_len (n : Int) (P : List Int) (R : List Bool) (most : Int) : (consR n P R most).length ≤ 1024 := by
  unfold consR
  split
  · rename_i h
    obtain ⟨⟨h1, h2⟩, -⟩ := pools_in h
    unfold consL
    refine Nat.le_trans (List.length_filter_le _ _) ?_
    rw [List.length_map, List.length_range]
    have : n.toNat ≤ 10 := by omega
    exact Nat.le_trans (Nat.pow_le_pow_right (by decide) this) (by decide)
  · simp

set_option maxHeartbeats 1600000 in
theorem lawCountItems (s : Int) (h1 : s ≤ 9223372036854775807) (IM : CountItemsIs 20 s) (w : World) :
    Calls Try.prog 5 #[.int .i64 s] w fun e w' => e = .returned (.bool true) ∧ Below w.heap.size w w' := by
  have C1 := Lib.hid (specCount s h1)
  have C2 := Lib.hid IM
  unfold CountItemsIs at C2
  generalize cntI s = r at C1 C2
  go_enter Try.func5, Try.ntmps5
  go_wp2_with fail
  refine (C1.out _).mono ?_
  rintro e w1 ⟨rfl, rfl⟩
  go_wp2_with fail
  refine (C2.out _).mono ?_
  rintro e w2 ⟨rfl, b2⟩
  have B2 := Lib.hid b2
  clear b2
  go_wp2
  go_ret
  exact ⟨rfl, B2.out⟩

set_option maxRecDepth 100000 in
set_option maxHeartbeats 3200000 in
theorem lawPoolsOk (n : Int) (P : List Int) (w : World) (vP : Value) (cP : IntsAt w vP P) (IM : P.length ≤ 1048576 → PoolsOkIs 11 n P) :
    Calls Try.prog 3 #[.int .i64 n, vP] w fun e w' => e = .returned (.bool true) ∧ Below w.heap.size w w' := by
  have HP := Lib.hid cP
  have B0 := Lib.hid (Below.refl w.heap.size w)
  obtain ⟨aP, kP, rfl, -⟩ := cP
  by_cases LP : 1048576 < P.length
  · go_enter Try.func3, Try.ntmps3
    go_wp2
    go_ret
    exact ⟨rfl, B0.out⟩
  have NP : P.length ≤ 1048576 := by omega
  replace IM := IM NP
  have SP := Lib.hid (fun W u0 h0 => specPoolsOk n u0 P W h0 (by unfold maxLen; omega))
  unfold PoolsOkIs at IM
  have IP := Lib.hid IM
  generalize poolsB n P = r at SP IP
  have TP := Lib.hid (fun W h => toInts (.slice aP P.length kP) P W h NP)
  have EP := Lib.hid (fun W a b (h : IntsAt W a P) h' => eqInts_same a b P W h h' (by omega))
  have hok : (r != r) = false := by simp
  clear IM NP
  generalize hnP : P.length = nP at HP TP LP
  clear hnP
  go_enter Try.func3, Try.ntmps3
  go_wp2_with fail
  refine (TP.out _ (HP.out.below B0.out)).mono ?_
  rintro e w1 ⟨uPP, rfl, -, o, bb⟩
  obtain ⟨gPP, nPP, qPP, rfl⟩ := o.form
  have IPP : Hid (∀ k, Value.ownBlock (.slice gPP nPP qPP) = some k → w.heap.size ≤ k ∧ k < w1.heap.size) := fun k hk => o.blk k hk
  have PP1 := Lib.hid o
  clear o
  have B1 := Lib.hid (below_up B0.out bb)
  have D1 : Hid (w.heap.size ≤ w1.heap.size) := bb.size
  clear bb B0
  go_wp2_with fail
  refine (SP.out _ _ PP1.out.reads).mono ?_
  rintro e w2 ⟨rfl, rfl⟩
  clear PP1
  go_wp2_with fail
  refine (TP.out _ (HP.out.below B1.out)).mono ?_
  rintro e w2 ⟨uXP, rfl, -, o, bb⟩
  obtain ⟨gXP, nXP, qXP, rfl⟩ := o.form
  have IXP : Hid (∀ k, Value.ownBlock (.slice gXP nXP qXP) = some k → w1.heap.size ≤ k ∧ k < w2.heap.size) := fun k hk => o.blk k hk
  have XP2 := Lib.hid o
  clear o
  have B2 := Lib.hid (below_up B1.out bb)
  have D2 : Hid (w1.heap.size ≤ w2.heap.size) := bb.size
  clear bb B1
  go_wp2_with fail
  refine (IP.out _ _ XP2.out.reads).mono ?_
  rintro e w3 ⟨rfl, bb⟩
  have B3 := Lib.hid (below_up B2.out bb)
  have D3 : Hid (w2.heap.size ≤ w3.heap.size) := bb.size
  have XP3 := Lib.hid (XP2.out.below bb)
  clear bb B2 XP2
  go_wp2_with fail
  refine (TP.out _ (HP.out.below B3.out)).mono ?_
  rintro e w4 ⟨uY, rfl, -, o, bb⟩
  obtain ⟨gY, nY, qY, rfl⟩ := o.form
  have IY : Hid (∀ k, Value.ownBlock (.slice gY nY qY) = some k → w3.heap.size ≤ k ∧ k < w4.heap.size) := fun k hk => o.blk k hk
  have Y4 := Lib.hid o
  clear o
  have B4 := Lib.hid (below_up B3.out bb)
  have D4 : Hid (w3.heap.size ≤ w4.heap.size) := bb.size
  have XP4 := Lib.hid (XP3.out.below bb)
  clear bb B3 XP3
  go_wp2_with fail
  refine (EP.out _ _ _ XP4.out.reads Y4.out.reads).mono ?_
  rintro e w5 ⟨rfl, bb⟩
  have B5 := Lib.hid (below_up B4.out bb)
  have D5 : Hid (w4.heap.size ≤ w5.heap.size) := bb.size
  clear bb B4 XP4 Y4
  go_wp2
  go_ret
  exact ⟨rfl, B5.out⟩

set_option maxRecDepth 100000 in
set_option maxHeartbeats 3200000 in
theorem lawTestPools (n : Int) (P : List Int) (bad : Int) (w : World) (vP : Value) (cP : IntsAt w vP P) (IM : P.length ≤ 1048576 → TestPoolsIs 14 n P bad) :
    Calls Try.prog 4 #[.int .i64 n, vP, .int .i64 bad] w fun e w' => e = .returned (.bool true) ∧ Below w.heap.size w w' := by
  have HP := Lib.hid cP
  have B0 := Lib.hid (Below.refl w.heap.size w)
  obtain ⟨aP, kP, rfl, -⟩ := cP
  by_cases LP : 1048576 < P.length
  · go_enter Try.func4, Try.ntmps4
    go_wp2
    go_ret
    exact ⟨rfl, B0.out⟩
  have NP : P.length ≤ 1048576 := by omega
  replace IM := IM NP
  have SP := Lib.hid (fun W u0 h0 => specTestPools n u0 P bad W h0 NP)
  unfold TestPoolsIs at IM
  have IP := Lib.hid IM
  unfold TestsR at SP IP
  have hF := testR_len n P bad
  generalize testsB n P bad = t at SP IP
  generalize testR n P bad = F at SP IP hF
  have TP := Lib.hid (fun W h => toInts (.slice aP P.length kP) P W h NP)
  have EP := Lib.hid (fun W a b (h : IntsAt W a P) h' => eqInts_same a b P W h h' (by omega))
  have MP := Lib.hid (fun W B a (h : Own W B a P) => markInts B a 1 P W h (by omega) (by omega) (by omega))
  obtain ⟨qP, hqP⟩ : ∃ q, (1 : Int) + (P.length : Int) = q := ⟨_, rfl⟩
  rw [hqP] at MP
  have lqP : 1 ≤ qP ∧ qP ≤ 10000000 := by omega
  have kneg : ¬ qP < 0 := by omega
  have EL := Lib.hid (fun W a b (h : BoolsAt W a F) h' => eqBools_same a b F W h h' (by omega))
  have ML := Lib.hid (fun W B a (h : OwnB W B a F) => markBools B a 1 F W h (by omega) (by omega) (by omega))
  have HL := Lib.hid (fun W a h => heldBools a 1 F.length W h (by omega) (by omega) (by omega))
  obtain ⟨kf, hkf⟩ : ∃ kf, (1 : Int) + (F.length : Int) = kf := ⟨_, rfl⟩
  rw [hkf] at ML HL
  have kf0 : 0 ≤ kf := by omega
  have hok : (t != t) = false := by simp
  clear IM NP hkf hF hqP lqP
  generalize hnP : P.length = nP at HP TP LP
  clear hnP
  go_enter Try.func4, Try.ntmps4
  go_wp2_with fail
  refine (TP.out _ (HP.out.below B0.out)).mono ?_
  rintro e w1 ⟨uPP, rfl, -, o, bb⟩
  obtain ⟨gPP, nPP, qPP, rfl⟩ := o.form
  have IPP : Hid (∀ k, Value.ownBlock (.slice gPP nPP qPP) = some k → w.heap.size ≤ k ∧ k < w1.heap.size) := fun k hk => o.blk k hk
  have PP1 := Lib.hid o
  clear o
  have B1 := Lib.hid (below_up B0.out bb)
  have D1 : Hid (w.heap.size ≤ w1.heap.size) := bb.size
  clear bb B0
  go_wp2_with fail
  refine (SP.out _ _ PP1.out.reads).mono ?_
  rintro e w2 ⟨uW, rfl, o, bb⟩
  obtain ⟨gW, nW, qW, rfl⟩ := o.form
  have IW : Hid (∀ k, Value.ownBlock (.slice gW nW qW) = some k → w1.heap.size ≤ k ∧ k < w2.heap.size) := fun k hk => o.blk k hk
  have W2 := Lib.hid o
  clear o
  have B2 := Lib.hid (below_up B1.out bb)
  have D2 : Hid (w1.heap.size ≤ w2.heap.size) := bb.size
  clear bb B1 PP1
  go_wp2_with fail
  refine (TP.out _ (HP.out.below B2.out)).mono ?_
  rintro e w3 ⟨uXP, rfl, -, o, bb⟩
  obtain ⟨gXP, nXP, qXP, rfl⟩ := o.form
  have IXP : Hid (∀ k, Value.ownBlock (.slice gXP nXP qXP) = some k → w2.heap.size ≤ k ∧ k < w3.heap.size) := fun k hk => o.blk k hk
  have XP3 := Lib.hid o
  clear o
  have B3 := Lib.hid (below_up B2.out bb)
  have D3 : Hid (w2.heap.size ≤ w3.heap.size) := bb.size
  have W3 := Lib.hid (W2.out.below bb)
  clear bb B2 W2
  go_wp2_with fail
  refine (IP.out _ _ XP3.out.reads).mono ?_
  rintro e w4 ⟨uG, rfl, o, bb⟩
  obtain ⟨gG, nG, qG, rfl⟩ := o.form
  have IG : Hid (∀ k, Value.ownBlock (.slice gG nG qG) = some k → w3.heap.size ≤ k ∧ k < w4.heap.size) := fun k hk => o.blk k hk
  have G4 := Lib.hid o
  clear o
  have B4 := Lib.hid (below_up B3.out bb)
  have D4 : Hid (w3.heap.size ≤ w4.heap.size) := bb.size
  have W4 := Lib.hid (W3.out.below bb)
  have XP4 := Lib.hid (XP3.out.below bb)
  clear bb B3 W3 XP3
  go_wp2_with fail
  refine (EL.out _ _ _ G4.out.reads W4.out.reads).mono ?_
  rintro e w5 ⟨rfl, bb⟩
  have B5 := Lib.hid (below_up B4.out bb)
  have D5 : Hid (w4.heap.size ≤ w5.heap.size) := bb.size
  have W5 := Lib.hid (W4.out.below bb)
  have XP5 := Lib.hid (XP4.out.below bb)
  have G5 := Lib.hid (G4.out.below bb)
  clear bb B4 W4 XP4 G4
  go_wp2_with fail
  refine (TP.out _ (HP.out.below B5.out)).mono ?_
  rintro e w6 ⟨uY, rfl, -, o, bb⟩
  obtain ⟨gY, nY, qY, rfl⟩ := o.form
  have IY : Hid (∀ k, Value.ownBlock (.slice gY nY qY) = some k → w5.heap.size ≤ k ∧ k < w6.heap.size) := fun k hk => o.blk k hk
  have Y6 := Lib.hid o
  clear o
  have B6 := Lib.hid (below_up B5.out bb)
  have D6 : Hid (w5.heap.size ≤ w6.heap.size) := bb.size
  have W6 := Lib.hid (W5.out.below bb)
  have XP6 := Lib.hid (XP5.out.below bb)
  have G6 := Lib.hid (G5.out.below bb)
  clear bb B5 W5 XP5 G5
  go_wp2_with fail
  refine (EP.out _ _ _ XP6.out.reads Y6.out.reads).mono ?_
  rintro e w7 ⟨rfl, bb⟩
  have B7 := Lib.hid (below_up B6.out bb)
  have D7 : Hid (w6.heap.size ≤ w7.heap.size) := bb.size
  have W7 := Lib.hid (W6.out.below bb)
  have XP7 := Lib.hid (XP6.out.below bb)
  have G7 := Lib.hid (G6.out.below bb)
  clear bb B6 W6 XP6 G6 Y6
  go_wp2_with fail
  refine (MP.out _ _ _ XP7.out).mono ?_
  rintro e w8 ⟨rfl, oI, gI⟩
  have tI := Only.of_grown gI
  have B8 : Hid (Below w.heap.size w w8) := B7.out.trans (tI.below B7.out.size fun k hk => by have := IXP.out k hk; have := D1.out; have := D2.out; have := D3.out; have := D4.out; have := D5.out; have := D6.out; have := D7.out; omega)
  have D8 : Hid (w7.heap.size ≤ w8.heap.size) := tI.size
  have W8 := Lib.hid (W7.out.only tI fun k hk e => by have := IW.out k hk; have := IXP.out k e; have := D1.out; have := D2.out; have := D3.out; have := D4.out; have := D5.out; have := D6.out; have := D7.out; omega)
  have G8 := Lib.hid (G7.out.only tI fun k hk e => by have := IG.out k hk; have := IXP.out k e; have := D1.out; have := D2.out; have := D3.out; have := D4.out; have := D5.out; have := D6.out; have := D7.out; omega)
  clear oI gI tI B7 W7 XP7 G7
  go_wp2_with fail
  refine (EL.out _ _ _ G8.out.reads W8.out.reads).mono ?_
  rintro e w9 ⟨rfl, bb⟩
  have B9 := Lib.hid (below_up B8.out bb)
  have D9 : Hid (w8.heap.size ≤ w9.heap.size) := bb.size
  have W9 := Lib.hid (W8.out.below bb)
  have G9 := Lib.hid (G8.out.below bb)
  clear bb B8 W8 G8
  go_wp2_with fail
  refine (ML.out _ _ _ G9.out).mono ?_
  rintro e w10 ⟨rfl, oI, gI⟩
  have tI := Only.of_grown gI
  have B10 : Hid (Below w.heap.size w w10) := B9.out.trans (tI.below B9.out.size fun k hk => by have := IG.out k hk; have := D1.out; have := D2.out; have := D3.out; have := D4.out; have := D5.out; have := D6.out; have := D7.out; have := D8.out; have := D9.out; omega)
  have D10 : Hid (w9.heap.size ≤ w10.heap.size) := tI.size
  have W10 := Lib.hid (W9.out.only tI fun k hk e => by have := IW.out k hk; have := IG.out k e; have := D1.out; have := D2.out; have := D3.out; have := D4.out; have := D5.out; have := D6.out; have := D7.out; have := D8.out; have := D9.out; omega)
  have G10 : Hid (BoolsAt w10 (.slice gG nG qG) (bmarks 1 F.length)) := BoolsAt.of_owns_n oI (bmarks_length _ _)
  clear oI gI tI B9 W9 G9
  go_wp2_with fail
  refine (HL.out _ _ G10.out).mono ?_
  rintro e w11 ⟨rfl, rfl⟩
  go_wp2_with fail
  refine (TP.out _ (HP.out.below B10.out)).mono ?_
  rintro e w11 ⟨uZP, rfl, -, o, bb⟩
  obtain ⟨gZP, nZP, qZP, rfl⟩ := o.form
  have IZP : Hid (∀ k, Value.ownBlock (.slice gZP nZP qZP) = some k → w10.heap.size ≤ k ∧ k < w11.heap.size) := fun k hk => o.blk k hk
  have ZP11 := Lib.hid o
  clear o
  have B11 := Lib.hid (below_up B10.out bb)
  have D11 : Hid (w10.heap.size ≤ w11.heap.size) := bb.size
  have W11 := Lib.hid (W10.out.below bb)
  have G11 := Lib.hid (G10.out.below bb)
  clear bb B10 W10 G10
  go_wp2_with fail
  refine (IP.out _ _ ZP11.out.reads).mono ?_
  rintro e w12 ⟨uH, rfl, o, bb⟩
  obtain ⟨gH, nH, qH, rfl⟩ := o.form
  have IH : Hid (∀ k, Value.ownBlock (.slice gH nH qH) = some k → w11.heap.size ≤ k ∧ k < w12.heap.size) := fun k hk => o.blk k hk
  have H12 := Lib.hid o
  clear o
  have B12 := Lib.hid (below_up B11.out bb)
  have D12 : Hid (w11.heap.size ≤ w12.heap.size) := bb.size
  have W12 := Lib.hid (W11.out.below bb)
  have G12 := Lib.hid (G11.out.below bb)
  clear bb B11 W11 G11 ZP11
  go_wp2_with fail
  refine (EL.out _ _ _ H12.out.reads W12.out.reads).mono ?_
  rintro e w13 ⟨rfl, bb⟩
  have B13 := Lib.hid (below_up B12.out bb)
  have D13 : Hid (w12.heap.size ≤ w13.heap.size) := bb.size
  have G13 := Lib.hid (G12.out.below bb)
  clear bb B12 W12 G12 H12
  go_wp2_with fail
  refine (HL.out _ _ G13.out).mono ?_
  rintro e w14 ⟨rfl, rfl⟩
  go_wp2
  go_ret
  exact ⟨rfl, B13.out⟩

set_option maxRecDepth 100000 in
set_option maxHeartbeats 3200000 in
theorem lawConsistentSets (n : Int) (P : List Int) (R : List Bool) (most : Int) (w : World) (vP : Value) (vR : Value) (cP : IntsAt w vP P) (cR : BoolsAt w vR R) (IM : P.length ≤ 1048576 → R.length ≤ 1048576 → ConsistentSetsIs 23 n P R most) :
    Calls Try.prog 6 #[.int .i64 n, vP, vR, .int .i64 most] w fun e w' => e = .returned (.bool true) ∧ Below w.heap.size w w' := by
  have HP := Lib.hid cP
  have HR := Lib.hid cR
  have B0 := Lib.hid (Below.refl w.heap.size w)
  obtain ⟨aP, kP, rfl, -⟩ := cP
  obtain ⟨aR, kR, rfl, -⟩ := cR
  by_cases LP : 1048576 < P.length
  · go_enter Try.func6, Try.ntmps6
    go_wp2
    go_ret
    exact ⟨rfl, B0.out⟩
  by_cases LR : 1048576 < R.length
  · go_enter Try.func6, Try.ntmps6
    go_wp2
    go_ret
    exact ⟨rfl, B0.out⟩
  have NP : P.length ≤ 1048576 := by omega
  have NR : R.length ≤ 1048576 := by omega
  replace IM := IM NP NR
  have SP := Lib.hid (fun W u0 u1 h0 h1 => specCons n u0 u1 P R most W h0 h1 NP)
  unfold ConsistentSetsIs at IM
  have IP := Lib.hid IM
  unfold ListsI2 at SP IP
  have hF := consR_len n P R most
  generalize consR n P R most = F at SP IP hF
  have TP := Lib.hid (fun W h => toInts (.slice aP P.length kP) P W h NP)
  have EP := Lib.hid (fun W a b (h : IntsAt W a P) h' => eqInts_same a b P W h h' (by omega))
  have TR := Lib.hid (fun W h => toBools (.slice aR R.length kR) R W h NR)
  have ER := Lib.hid (fun W a b (h : BoolsAt W a R) h' => eqBools_same a b R W h h' (by omega))
  have MP := Lib.hid (fun W B a (h : Own W B a P) => markInts B a 1 P W h (by omega) (by omega) (by omega))
  obtain ⟨qP, hqP⟩ : ∃ q, (1 : Int) + (P.length : Int) = q := ⟨_, rfl⟩
  rw [hqP] at MP
  have lqP : 1 ≤ qP ∧ qP ≤ 10000000 := by omega
  have MR := Lib.hid (fun W B a (h : OwnB W B a R) => markBools B a qP R W h (by omega) (by omega) (by omega))
  obtain ⟨qR, hqR⟩ : ∃ q, (qP : Int) + (R.length : Int) = q := ⟨_, rfl⟩
  rw [hqR] at MR
  have lqR : 1 ≤ qR ∧ qR ≤ 10000000 := by omega
  have kneg : ¬ qR < 0 := by omega
  have EL := Lib.hid (fun W a b (h : IntsAt W a F) h' => eqInts_same a b F W h h' (by omega))
  have ML := Lib.hid (fun W B a (h : Own W B a F) => markInts B a 1 F W h (by omega) (by omega) (by omega))
  have HL := Lib.hid (fun W a h => heldInts a 1 F.length W h (by omega) (by omega) (by omega))
  obtain ⟨kf, hkf⟩ : ∃ kf, (1 : Int) + (F.length : Int) = kf := ⟨_, rfl⟩
  rw [hkf] at ML HL
  have kf0 : 0 ≤ kf := by omega
  clear IM NP NR hkf hF hqP hqR lqP lqR
  generalize hnP : P.length = nP at HP TP LP
  generalize hnR : R.length = nR at HR TR LR
  clear hnP hnR
  go_enter Try.func6, Try.ntmps6
  go_wp2_with fail
  refine (TP.out _ (HP.out.below B0.out)).mono ?_
  rintro e w1 ⟨uPP, rfl, -, o, bb⟩
  obtain ⟨gPP, nPP, qPP, rfl⟩ := o.form
  have IPP : Hid (∀ k, Value.ownBlock (.slice gPP nPP qPP) = some k → w.heap.size ≤ k ∧ k < w1.heap.size) := fun k hk => o.blk k hk
  have PP1 := Lib.hid o
  clear o
  have B1 := Lib.hid (below_up B0.out bb)
  have D1 : Hid (w.heap.size ≤ w1.heap.size) := bb.size
  clear bb B0
  go_wp2_with fail
  refine (TR.out _ (HR.out.below B1.out)).mono ?_
  rintro e w2 ⟨uPR, rfl, -, o, bb⟩
  obtain ⟨gPR, nPR, qPR, rfl⟩ := o.form
  have IPR : Hid (∀ k, Value.ownBlock (.slice gPR nPR qPR) = some k → w1.heap.size ≤ k ∧ k < w2.heap.size) := fun k hk => o.blk k hk
  have PR2 := Lib.hid o
  clear o
  have B2 := Lib.hid (below_up B1.out bb)
  have D2 : Hid (w1.heap.size ≤ w2.heap.size) := bb.size
  have PP2 := Lib.hid (PP1.out.below bb)
  clear bb B1 PP1
  go_wp2_with fail
  refine (SP.out _ _ _ PP2.out.reads PR2.out.reads).mono ?_
  rintro e w3 ⟨uW, rfl, o, bb⟩
  obtain ⟨gW, nW, qW, rfl⟩ := o.form
  have IW : Hid (∀ k, Value.ownBlock (.slice gW nW qW) = some k → w2.heap.size ≤ k ∧ k < w3.heap.size) := fun k hk => o.blk k hk
  have W3 := Lib.hid o
  clear o
  have B3 := Lib.hid (below_up B2.out bb)
  have D3 : Hid (w2.heap.size ≤ w3.heap.size) := bb.size
  clear bb B2 PP2 PR2
  go_wp2_with fail
  refine (TP.out _ (HP.out.below B3.out)).mono ?_
  rintro e w4 ⟨uXP, rfl, -, o, bb⟩
  obtain ⟨gXP, nXP, qXP, rfl⟩ := o.form
  have IXP : Hid (∀ k, Value.ownBlock (.slice gXP nXP qXP) = some k → w3.heap.size ≤ k ∧ k < w4.heap.size) := fun k hk => o.blk k hk
  have XP4 := Lib.hid o
  clear o
  have B4 := Lib.hid (below_up B3.out bb)
  have D4 : Hid (w3.heap.size ≤ w4.heap.size) := bb.size
  have W4 := Lib.hid (W3.out.below bb)
  clear bb B3 W3
  go_wp2_with fail
  refine (TR.out _ (HR.out.below B4.out)).mono ?_
  rintro e w5 ⟨uXR, rfl, -, o, bb⟩
  obtain ⟨gXR, nXR, qXR, rfl⟩ := o.form
  have IXR : Hid (∀ k, Value.ownBlock (.slice gXR nXR qXR) = some k → w4.heap.size ≤ k ∧ k < w5.heap.size) := fun k hk => o.blk k hk
  have XR5 := Lib.hid o
  clear o
  have B5 := Lib.hid (below_up B4.out bb)
  have D5 : Hid (w4.heap.size ≤ w5.heap.size) := bb.size
  have W5 := Lib.hid (W4.out.below bb)
  have XP5 := Lib.hid (XP4.out.below bb)
  clear bb B4 W4 XP4
  go_wp2_with fail
  refine (IP.out _ _ _ XP5.out.reads XR5.out.reads).mono ?_
  rintro e w6 ⟨uG, rfl, o, bb⟩
  obtain ⟨gG, nG, qG, rfl⟩ := o.form
  have IG : Hid (∀ k, Value.ownBlock (.slice gG nG qG) = some k → w5.heap.size ≤ k ∧ k < w6.heap.size) := fun k hk => o.blk k hk
  have G6 := Lib.hid o
  clear o
  have B6 := Lib.hid (below_up B5.out bb)
  have D6 : Hid (w5.heap.size ≤ w6.heap.size) := bb.size
  have W6 := Lib.hid (W5.out.below bb)
  have XP6 := Lib.hid (XP5.out.below bb)
  have XR6 := Lib.hid (XR5.out.below bb)
  clear bb B5 W5 XP5 XR5
  go_wp2_with fail
  refine (EL.out _ _ _ G6.out.reads W6.out.reads).mono ?_
  rintro e w7 ⟨rfl, bb⟩
  have B7 := Lib.hid (below_up B6.out bb)
  have D7 : Hid (w6.heap.size ≤ w7.heap.size) := bb.size
  have W7 := Lib.hid (W6.out.below bb)
  have XP7 := Lib.hid (XP6.out.below bb)
  have XR7 := Lib.hid (XR6.out.below bb)
  have G7 := Lib.hid (G6.out.below bb)
  clear bb B6 W6 XP6 XR6 G6
  go_wp2_with fail
  refine (TP.out _ (HP.out.below B7.out)).mono ?_
  rintro e w8 ⟨uY, rfl, -, o, bb⟩
  obtain ⟨gY, nY, qY, rfl⟩ := o.form
  have IY : Hid (∀ k, Value.ownBlock (.slice gY nY qY) = some k → w7.heap.size ≤ k ∧ k < w8.heap.size) := fun k hk => o.blk k hk
  have Y8 := Lib.hid o
  clear o
  have B8 := Lib.hid (below_up B7.out bb)
  have D8 : Hid (w7.heap.size ≤ w8.heap.size) := bb.size
  have W8 := Lib.hid (W7.out.below bb)
  have XP8 := Lib.hid (XP7.out.below bb)
  have XR8 := Lib.hid (XR7.out.below bb)
  have G8 := Lib.hid (G7.out.below bb)
  clear bb B7 W7 XP7 XR7 G7
  go_wp2_with fail
  refine (EP.out _ _ _ XP8.out.reads Y8.out.reads).mono ?_
  rintro e w9 ⟨rfl, bb⟩
  have B9 := Lib.hid (below_up B8.out bb)
  have D9 : Hid (w8.heap.size ≤ w9.heap.size) := bb.size
  have W9 := Lib.hid (W8.out.below bb)
  have XP9 := Lib.hid (XP8.out.below bb)
  have XR9 := Lib.hid (XR8.out.below bb)
  have G9 := Lib.hid (G8.out.below bb)
  clear bb B8 W8 XP8 XR8 G8 Y8
  go_wp2_with fail
  refine (TR.out _ (HR.out.below B9.out)).mono ?_
  rintro e w10 ⟨uY, rfl, -, o, bb⟩
  obtain ⟨gY, nY, qY, rfl⟩ := o.form
  have IY : Hid (∀ k, Value.ownBlock (.slice gY nY qY) = some k → w9.heap.size ≤ k ∧ k < w10.heap.size) := fun k hk => o.blk k hk
  have Y10 := Lib.hid o
  clear o
  have B10 := Lib.hid (below_up B9.out bb)
  have D10 : Hid (w9.heap.size ≤ w10.heap.size) := bb.size
  have W10 := Lib.hid (W9.out.below bb)
  have XP10 := Lib.hid (XP9.out.below bb)
  have XR10 := Lib.hid (XR9.out.below bb)
  have G10 := Lib.hid (G9.out.below bb)
  clear bb B9 W9 XP9 XR9 G9
  go_wp2_with fail
  refine (ER.out _ _ _ XR10.out.reads Y10.out.reads).mono ?_
  rintro e w11 ⟨rfl, bb⟩
  have B11 := Lib.hid (below_up B10.out bb)
  have D11 : Hid (w10.heap.size ≤ w11.heap.size) := bb.size
  have W11 := Lib.hid (W10.out.below bb)
  have XP11 := Lib.hid (XP10.out.below bb)
  have XR11 := Lib.hid (XR10.out.below bb)
  have G11 := Lib.hid (G10.out.below bb)
  clear bb B10 W10 XP10 XR10 G10 Y10
  go_wp2_with fail
  refine (MP.out _ _ _ XP11.out).mono ?_
  rintro e w12 ⟨rfl, oI, gI⟩
  have tI := Only.of_grown gI
  have B12 : Hid (Below w.heap.size w w12) := B11.out.trans (tI.below B11.out.size fun k hk => by have := IXP.out k hk; have := D1.out; have := D2.out; have := D3.out; have := D4.out; have := D5.out; have := D6.out; have := D7.out; have := D8.out; have := D9.out; have := D10.out; have := D11.out; omega)
  have D12 : Hid (w11.heap.size ≤ w12.heap.size) := tI.size
  have W12 := Lib.hid (W11.out.only tI fun k hk e => by have := IW.out k hk; have := IXP.out k e; have := D1.out; have := D2.out; have := D3.out; have := D4.out; have := D5.out; have := D6.out; have := D7.out; have := D8.out; have := D9.out; have := D10.out; have := D11.out; omega)
  have XR12 := Lib.hid (XR11.out.only tI fun k hk e => by have := IXR.out k hk; have := IXP.out k e; have := D1.out; have := D2.out; have := D3.out; have := D4.out; have := D5.out; have := D6.out; have := D7.out; have := D8.out; have := D9.out; have := D10.out; have := D11.out; omega)
  have G12 := Lib.hid (G11.out.only tI fun k hk e => by have := IG.out k hk; have := IXP.out k e; have := D1.out; have := D2.out; have := D3.out; have := D4.out; have := D5.out; have := D6.out; have := D7.out; have := D8.out; have := D9.out; have := D10.out; have := D11.out; omega)
  clear oI gI tI B11 W11 XP11 XR11 G11
  go_wp2_with fail
  refine (MR.out _ _ _ XR12.out).mono ?_
  rintro e w13 ⟨rfl, oI, gI⟩
  have tI := Only.of_grown gI
  have B13 : Hid (Below w.heap.size w w13) := B12.out.trans (tI.below B12.out.size fun k hk => by have := IXR.out k hk; have := D1.out; have := D2.out; have := D3.out; have := D4.out; have := D5.out; have := D6.out; have := D7.out; have := D8.out; have := D9.out; have := D10.out; have := D11.out; have := D12.out; omega)
  have D13 : Hid (w12.heap.size ≤ w13.heap.size) := tI.size
  have W13 := Lib.hid (W12.out.only tI fun k hk e => by have := IW.out k hk; have := IXR.out k e; have := D1.out; have := D2.out; have := D3.out; have := D4.out; have := D5.out; have := D6.out; have := D7.out; have := D8.out; have := D9.out; have := D10.out; have := D11.out; have := D12.out; omega)
  have G13 := Lib.hid (G12.out.only tI fun k hk e => by have := IG.out k hk; have := IXR.out k e; have := D1.out; have := D2.out; have := D3.out; have := D4.out; have := D5.out; have := D6.out; have := D7.out; have := D8.out; have := D9.out; have := D10.out; have := D11.out; have := D12.out; omega)
  clear oI gI tI B12 W12 XR12 G12
  go_wp2_with fail
  refine (EL.out _ _ _ G13.out.reads W13.out.reads).mono ?_
  rintro e w14 ⟨rfl, bb⟩
  have B14 := Lib.hid (below_up B13.out bb)
  have D14 : Hid (w13.heap.size ≤ w14.heap.size) := bb.size
  have W14 := Lib.hid (W13.out.below bb)
  have G14 := Lib.hid (G13.out.below bb)
  clear bb B13 W13 G13
  go_wp2_with fail
  refine (ML.out _ _ _ G14.out).mono ?_
  rintro e w15 ⟨rfl, oI, gI⟩
  have tI := Only.of_grown gI
  have B15 : Hid (Below w.heap.size w w15) := B14.out.trans (tI.below B14.out.size fun k hk => by have := IG.out k hk; have := D1.out; have := D2.out; have := D3.out; have := D4.out; have := D5.out; have := D6.out; have := D7.out; have := D8.out; have := D9.out; have := D10.out; have := D11.out; have := D12.out; have := D13.out; have := D14.out; omega)
  have D15 : Hid (w14.heap.size ≤ w15.heap.size) := tI.size
  have W15 := Lib.hid (W14.out.only tI fun k hk e => by have := IW.out k hk; have := IG.out k e; have := D1.out; have := D2.out; have := D3.out; have := D4.out; have := D5.out; have := D6.out; have := D7.out; have := D8.out; have := D9.out; have := D10.out; have := D11.out; have := D12.out; have := D13.out; have := D14.out; omega)
  have G15 : Hid (IntsAt w15 (.slice gG nG qG) (imarks 1 F.length)) := IntsAt.of_owns_n oI (imarks_length _ _)
  clear oI gI tI B14 W14 G14
  go_wp2_with fail
  refine (HL.out _ _ G15.out).mono ?_
  rintro e w16 ⟨rfl, rfl⟩
  go_wp2_with fail
  refine (TP.out _ (HP.out.below B15.out)).mono ?_
  rintro e w16 ⟨uZP, rfl, -, o, bb⟩
  obtain ⟨gZP, nZP, qZP, rfl⟩ := o.form
  have IZP : Hid (∀ k, Value.ownBlock (.slice gZP nZP qZP) = some k → w15.heap.size ≤ k ∧ k < w16.heap.size) := fun k hk => o.blk k hk
  have ZP16 := Lib.hid o
  clear o
  have B16 := Lib.hid (below_up B15.out bb)
  have D16 : Hid (w15.heap.size ≤ w16.heap.size) := bb.size
  have W16 := Lib.hid (W15.out.below bb)
  have G16 := Lib.hid (G15.out.below bb)
  clear bb B15 W15 G15
  go_wp2_with fail
  refine (TR.out _ (HR.out.below B16.out)).mono ?_
  rintro e w17 ⟨uZR, rfl, -, o, bb⟩
  obtain ⟨gZR, nZR, qZR, rfl⟩ := o.form
  have IZR : Hid (∀ k, Value.ownBlock (.slice gZR nZR qZR) = some k → w16.heap.size ≤ k ∧ k < w17.heap.size) := fun k hk => o.blk k hk
  have ZR17 := Lib.hid o
  clear o
  have B17 := Lib.hid (below_up B16.out bb)
  have D17 : Hid (w16.heap.size ≤ w17.heap.size) := bb.size
  have W17 := Lib.hid (W16.out.below bb)
  have G17 := Lib.hid (G16.out.below bb)
  have ZP17 := Lib.hid (ZP16.out.below bb)
  clear bb B16 W16 G16 ZP16
  go_wp2_with fail
  refine (IP.out _ _ _ ZP17.out.reads ZR17.out.reads).mono ?_
  rintro e w18 ⟨uH, rfl, o, bb⟩
  obtain ⟨gH, nH, qH, rfl⟩ := o.form
  have IH : Hid (∀ k, Value.ownBlock (.slice gH nH qH) = some k → w17.heap.size ≤ k ∧ k < w18.heap.size) := fun k hk => o.blk k hk
  have H18 := Lib.hid o
  clear o
  have B18 := Lib.hid (below_up B17.out bb)
  have D18 : Hid (w17.heap.size ≤ w18.heap.size) := bb.size
  have W18 := Lib.hid (W17.out.below bb)
  have G18 := Lib.hid (G17.out.below bb)
  clear bb B17 W17 G17 ZP17 ZR17
  go_wp2_with fail
  refine (EL.out _ _ _ H18.out.reads W18.out.reads).mono ?_
  rintro e w19 ⟨rfl, bb⟩
  have B19 := Lib.hid (below_up B18.out bb)
  have D19 : Hid (w18.heap.size ≤ w19.heap.size) := bb.size
  have G19 := Lib.hid (G18.out.below bb)
  clear bb B18 W18 G18 H18
  go_wp2_with fail
  refine (HL.out _ _ G19.out).mono ?_
  rintro e w20 ⟨rfl, rfl⟩
  go_wp2
  go_ret
  exact ⟨rfl, B19.out⟩

set_option maxRecDepth 100000 in
set_option maxHeartbeats 3200000 in
theorem lawSurelyGood (n : Int) (P : List Int) (R : List Bool) (w : World) (vP : Value) (vR : Value) (cP : IntsAt w vP P) (cR : BoolsAt w vR R) (IM : P.length ≤ 1048576 → R.length ≤ 1048576 → SurelyGoodIs 26 n P R) :
    Calls Try.prog 7 #[.int .i64 n, vP, vR] w fun e w' => e = .returned (.bool true) ∧ Below w.heap.size w w' := by
  have HP := Lib.hid cP
  have HR := Lib.hid cR
  have B0 := Lib.hid (Below.refl w.heap.size w)
  obtain ⟨aP, kP, rfl, -⟩ := cP
  obtain ⟨aR, kR, rfl, -⟩ := cR
  by_cases LP : 1048576 < P.length
  · go_enter Try.func7, Try.ntmps7
    go_wp2
    go_ret
    exact ⟨rfl, B0.out⟩
  by_cases LR : 1048576 < R.length
  · go_enter Try.func7, Try.ntmps7
    go_wp2
    go_ret
    exact ⟨rfl, B0.out⟩
  have NP : P.length ≤ 1048576 := by omega
  have NR : R.length ≤ 1048576 := by omega
  replace IM := IM NP NR
  have SP := Lib.hid (fun W u0 u1 h0 h1 => specGood n u0 u1 P R W h0 h1 NP NR)
  unfold SurelyGoodIs at IM
  have IP := Lib.hid IM
  generalize goodR n P R = r at SP IP
  have TP := Lib.hid (fun W h => toInts (.slice aP P.length kP) P W h NP)
  have EP := Lib.hid (fun W a b (h : IntsAt W a P) h' => eqInts_same a b P W h h' (by omega))
  have TR := Lib.hid (fun W h => toBools (.slice aR R.length kR) R W h NR)
  have ER := Lib.hid (fun W a b (h : BoolsAt W a R) h' => eqBools_same a b R W h h' (by omega))
  clear IM NP NR
  generalize hnP : P.length = nP at HP TP LP
  generalize hnR : R.length = nR at HR TR LR
  clear hnP hnR
  go_enter Try.func7, Try.ntmps7
  go_wp2_with fail
  refine (TP.out _ (HP.out.below B0.out)).mono ?_
  rintro e w1 ⟨uPP, rfl, -, o, bb⟩
  obtain ⟨gPP, nPP, qPP, rfl⟩ := o.form
  have IPP : Hid (∀ k, Value.ownBlock (.slice gPP nPP qPP) = some k → w.heap.size ≤ k ∧ k < w1.heap.size) := fun k hk => o.blk k hk
  have PP1 := Lib.hid o
  clear o
  have B1 := Lib.hid (below_up B0.out bb)
  have D1 : Hid (w.heap.size ≤ w1.heap.size) := bb.size
  clear bb B0
  go_wp2_with fail
  refine (TR.out _ (HR.out.below B1.out)).mono ?_
  rintro e w2 ⟨uPR, rfl, -, o, bb⟩
  obtain ⟨gPR, nPR, qPR, rfl⟩ := o.form
  have IPR : Hid (∀ k, Value.ownBlock (.slice gPR nPR qPR) = some k → w1.heap.size ≤ k ∧ k < w2.heap.size) := fun k hk => o.blk k hk
  have PR2 := Lib.hid o
  clear o
  have B2 := Lib.hid (below_up B1.out bb)
  have D2 : Hid (w1.heap.size ≤ w2.heap.size) := bb.size
  have PP2 := Lib.hid (PP1.out.below bb)
  clear bb B1 PP1
  go_wp2_with fail
  refine (SP.out _ _ _ PP2.out.reads PR2.out.reads).mono ?_
  rintro e w3 ⟨rfl, rfl⟩
  clear PP2 PR2
  go_wp2_with fail
  refine (TP.out _ (HP.out.below B2.out)).mono ?_
  rintro e w3 ⟨uXP, rfl, -, o, bb⟩
  obtain ⟨gXP, nXP, qXP, rfl⟩ := o.form
  have IXP : Hid (∀ k, Value.ownBlock (.slice gXP nXP qXP) = some k → w2.heap.size ≤ k ∧ k < w3.heap.size) := fun k hk => o.blk k hk
  have XP3 := Lib.hid o
  clear o
  have B3 := Lib.hid (below_up B2.out bb)
  have D3 : Hid (w2.heap.size ≤ w3.heap.size) := bb.size
  clear bb B2
  go_wp2_with fail
  refine (TR.out _ (HR.out.below B3.out)).mono ?_
  rintro e w4 ⟨uXR, rfl, -, o, bb⟩
  obtain ⟨gXR, nXR, qXR, rfl⟩ := o.form
  have IXR : Hid (∀ k, Value.ownBlock (.slice gXR nXR qXR) = some k → w3.heap.size ≤ k ∧ k < w4.heap.size) := fun k hk => o.blk k hk
  have XR4 := Lib.hid o
  clear o
  have B4 := Lib.hid (below_up B3.out bb)
  have D4 : Hid (w3.heap.size ≤ w4.heap.size) := bb.size
  have XP4 := Lib.hid (XP3.out.below bb)
  clear bb B3 XP3
  go_wp2_with fail
  refine (IP.out _ _ _ XP4.out.reads XR4.out.reads).mono ?_
  rintro e w5 ⟨rfl, bb⟩
  have B5 := Lib.hid (below_up B4.out bb)
  have D5 : Hid (w4.heap.size ≤ w5.heap.size) := bb.size
  have XP5 := Lib.hid (XP4.out.below bb)
  have XR5 := Lib.hid (XR4.out.below bb)
  clear bb B4 XP4 XR4
  go_wp2_with fail
  refine (TP.out _ (HP.out.below B5.out)).mono ?_
  rintro e w6 ⟨uY, rfl, -, o, bb⟩
  obtain ⟨gY, nY, qY, rfl⟩ := o.form
  have IY : Hid (∀ k, Value.ownBlock (.slice gY nY qY) = some k → w5.heap.size ≤ k ∧ k < w6.heap.size) := fun k hk => o.blk k hk
  have Y6 := Lib.hid o
  clear o
  have B6 := Lib.hid (below_up B5.out bb)
  have D6 : Hid (w5.heap.size ≤ w6.heap.size) := bb.size
  have XP6 := Lib.hid (XP5.out.below bb)
  have XR6 := Lib.hid (XR5.out.below bb)
  clear bb B5 XP5 XR5
  go_wp2_with fail
  refine (EP.out _ _ _ XP6.out.reads Y6.out.reads).mono ?_
  rintro e w7 ⟨rfl, bb⟩
  have B7 := Lib.hid (below_up B6.out bb)
  have D7 : Hid (w6.heap.size ≤ w7.heap.size) := bb.size
  have XR7 := Lib.hid (XR6.out.below bb)
  clear bb B6 XP6 XR6 Y6
  go_wp2_with fail
  refine (TR.out _ (HR.out.below B7.out)).mono ?_
  rintro e w8 ⟨uY, rfl, -, o, bb⟩
  obtain ⟨gY, nY, qY, rfl⟩ := o.form
  have IY : Hid (∀ k, Value.ownBlock (.slice gY nY qY) = some k → w7.heap.size ≤ k ∧ k < w8.heap.size) := fun k hk => o.blk k hk
  have Y8 := Lib.hid o
  clear o
  have B8 := Lib.hid (below_up B7.out bb)
  have D8 : Hid (w7.heap.size ≤ w8.heap.size) := bb.size
  have XR8 := Lib.hid (XR7.out.below bb)
  clear bb B7 XR7
  go_wp2_with fail
  refine (ER.out _ _ _ XR8.out.reads Y8.out.reads).mono ?_
  rintro e w9 ⟨rfl, bb⟩
  have B9 := Lib.hid (below_up B8.out bb)
  have D9 : Hid (w8.heap.size ≤ w9.heap.size) := bb.size
  clear bb B8 XR8 Y8
  go_wp2
  go_ret
  exact ⟨rfl, B9.out⟩

set_option maxRecDepth 100000 in
set_option maxHeartbeats 3200000 in
theorem lawSurelyBad (n : Int) (P : List Int) (R : List Bool) (w : World) (vP : Value) (vR : Value) (cP : IntsAt w vP P) (cR : BoolsAt w vR R) (IM : P.length ≤ 1048576 → R.length ≤ 1048576 → SurelyBadIs 28 n P R) :
    Calls Try.prog 8 #[.int .i64 n, vP, vR] w fun e w' => e = .returned (.bool true) ∧ Below w.heap.size w w' := by
  have HP := Lib.hid cP
  have HR := Lib.hid cR
  have B0 := Lib.hid (Below.refl w.heap.size w)
  obtain ⟨aP, kP, rfl, -⟩ := cP
  obtain ⟨aR, kR, rfl, -⟩ := cR
  by_cases LP : 1048576 < P.length
  · go_enter Try.func8, Try.ntmps8
    go_wp2
    go_ret
    exact ⟨rfl, B0.out⟩
  by_cases LR : 1048576 < R.length
  · go_enter Try.func8, Try.ntmps8
    go_wp2
    go_ret
    exact ⟨rfl, B0.out⟩
  have NP : P.length ≤ 1048576 := by omega
  have NR : R.length ≤ 1048576 := by omega
  replace IM := IM NP NR
  have SP := Lib.hid (fun W u0 u1 h0 h1 => specBad n u0 u1 P R W h0 h1 NP NR)
  unfold SurelyBadIs at IM
  have IP := Lib.hid IM
  generalize badR n P R = r at SP IP
  have TP := Lib.hid (fun W h => toInts (.slice aP P.length kP) P W h NP)
  have EP := Lib.hid (fun W a b (h : IntsAt W a P) h' => eqInts_same a b P W h h' (by omega))
  have TR := Lib.hid (fun W h => toBools (.slice aR R.length kR) R W h NR)
  have ER := Lib.hid (fun W a b (h : BoolsAt W a R) h' => eqBools_same a b R W h h' (by omega))
  clear IM NP NR
  generalize hnP : P.length = nP at HP TP LP
  generalize hnR : R.length = nR at HR TR LR
  clear hnP hnR
  go_enter Try.func8, Try.ntmps8
  go_wp2_with fail
  refine (TP.out _ (HP.out.below B0.out)).mono ?_
  rintro e w1 ⟨uPP, rfl, -, o, bb⟩
  obtain ⟨gPP, nPP, qPP, rfl⟩ := o.form
  have IPP : Hid (∀ k, Value.ownBlock (.slice gPP nPP qPP) = some k → w.heap.size ≤ k ∧ k < w1.heap.size) := fun k hk => o.blk k hk
  have PP1 := Lib.hid o
  clear o
  have B1 := Lib.hid (below_up B0.out bb)
  have D1 : Hid (w.heap.size ≤ w1.heap.size) := bb.size
  clear bb B0
  go_wp2_with fail
  refine (TR.out _ (HR.out.below B1.out)).mono ?_
  rintro e w2 ⟨uPR, rfl, -, o, bb⟩
  obtain ⟨gPR, nPR, qPR, rfl⟩ := o.form
  have IPR : Hid (∀ k, Value.ownBlock (.slice gPR nPR qPR) = some k → w1.heap.size ≤ k ∧ k < w2.heap.size) := fun k hk => o.blk k hk
  have PR2 := Lib.hid o
  clear o
  have B2 := Lib.hid (below_up B1.out bb)
  have D2 : Hid (w1.heap.size ≤ w2.heap.size) := bb.size
  have PP2 := Lib.hid (PP1.out.below bb)
  clear bb B1 PP1
  go_wp2_with fail
  refine (SP.out _ _ _ PP2.out.reads PR2.out.reads).mono ?_
  rintro e w3 ⟨rfl, rfl⟩
  clear PP2 PR2
  go_wp2_with fail
  refine (TP.out _ (HP.out.below B2.out)).mono ?_
  rintro e w3 ⟨uXP, rfl, -, o, bb⟩
  obtain ⟨gXP, nXP, qXP, rfl⟩ := o.form
  have IXP : Hid (∀ k, Value.ownBlock (.slice gXP nXP qXP) = some k → w2.heap.size ≤ k ∧ k < w3.heap.size) := fun k hk => o.blk k hk
  have XP3 := Lib.hid o
  clear o
  have B3 := Lib.hid (below_up B2.out bb)
  have D3 : Hid (w2.heap.size ≤ w3.heap.size) := bb.size
  clear bb B2
  go_wp2_with fail
  refine (TR.out _ (HR.out.below B3.out)).mono ?_
  rintro e w4 ⟨uXR, rfl, -, o, bb⟩
  obtain ⟨gXR, nXR, qXR, rfl⟩ := o.form
  have IXR : Hid (∀ k, Value.ownBlock (.slice gXR nXR qXR) = some k → w3.heap.size ≤ k ∧ k < w4.heap.size) := fun k hk => o.blk k hk
  have XR4 := Lib.hid o
  clear o
  have B4 := Lib.hid (below_up B3.out bb)
  have D4 : Hid (w3.heap.size ≤ w4.heap.size) := bb.size
  have XP4 := Lib.hid (XP3.out.below bb)
  clear bb B3 XP3
  go_wp2_with fail
  refine (IP.out _ _ _ XP4.out.reads XR4.out.reads).mono ?_
  rintro e w5 ⟨rfl, bb⟩
  have B5 := Lib.hid (below_up B4.out bb)
  have D5 : Hid (w4.heap.size ≤ w5.heap.size) := bb.size
  have XP5 := Lib.hid (XP4.out.below bb)
  have XR5 := Lib.hid (XR4.out.below bb)
  clear bb B4 XP4 XR4
  go_wp2_with fail
  refine (TP.out _ (HP.out.below B5.out)).mono ?_
  rintro e w6 ⟨uY, rfl, -, o, bb⟩
  obtain ⟨gY, nY, qY, rfl⟩ := o.form
  have IY : Hid (∀ k, Value.ownBlock (.slice gY nY qY) = some k → w5.heap.size ≤ k ∧ k < w6.heap.size) := fun k hk => o.blk k hk
  have Y6 := Lib.hid o
  clear o
  have B6 := Lib.hid (below_up B5.out bb)
  have D6 : Hid (w5.heap.size ≤ w6.heap.size) := bb.size
  have XP6 := Lib.hid (XP5.out.below bb)
  have XR6 := Lib.hid (XR5.out.below bb)
  clear bb B5 XP5 XR5
  go_wp2_with fail
  refine (EP.out _ _ _ XP6.out.reads Y6.out.reads).mono ?_
  rintro e w7 ⟨rfl, bb⟩
  have B7 := Lib.hid (below_up B6.out bb)
  have D7 : Hid (w6.heap.size ≤ w7.heap.size) := bb.size
  have XR7 := Lib.hid (XR6.out.below bb)
  clear bb B6 XP6 XR6 Y6
  go_wp2_with fail
  refine (TR.out _ (HR.out.below B7.out)).mono ?_
  rintro e w8 ⟨uY, rfl, -, o, bb⟩
  obtain ⟨gY, nY, qY, rfl⟩ := o.form
  have IY : Hid (∀ k, Value.ownBlock (.slice gY nY qY) = some k → w7.heap.size ≤ k ∧ k < w8.heap.size) := fun k hk => o.blk k hk
  have Y8 := Lib.hid o
  clear o
  have B8 := Lib.hid (below_up B7.out bb)
  have D8 : Hid (w7.heap.size ≤ w8.heap.size) := bb.size
  have XR8 := Lib.hid (XR7.out.below bb)
  clear bb B7 XR7
  go_wp2_with fail
  refine (ER.out _ _ _ XR8.out.reads Y8.out.reads).mono ?_
  rintro e w9 ⟨rfl, bb⟩
  have B9 := Lib.hid (below_up B8.out bb)
  have D9 : Hid (w8.heap.size ≤ w9.heap.size) := bb.size
  clear bb B8 XR8 Y8
  go_wp2
  go_ret
  exact ⟨rfl, B9.out⟩

end Go.Proofs.Ytdafhbblkopelaa
