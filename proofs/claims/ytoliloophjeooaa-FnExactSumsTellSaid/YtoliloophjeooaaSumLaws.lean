/- The walks of the exact laws of SumPools, IsDetecting, DecodeSums, SumsTell, FirstDetecting and FewestSums round the contracts of the program's functions: each returns true for every argument. Condition: the slices that came in read as integers. -/
import Derived.Test.YtoliloophjeooaaSumTell
import Derived.Test.YtoliloophjeooaaSumFirst
namespace Go.Proofs.Ytoliloophjeooaa
open Go.RowKit

/-- The contracts of the program's functions. -/
def SumPoolsIs (f : FuncId) (n : Int) (P : List Int) (b : Int) : Prop := ∀ W vP, IntsAt W vP P → Calls Try.prog f #[.int .i64 n, vP, .int .i64 b] W (GivesS (sumO n P b) (testsB n P b) W)
def IsDetectingIs (f : FuncId) (n : Int) (P : List Int) : Prop := ∀ W vP, IntsAt W vP P → Calls Try.prog f #[.int .i64 n, vP] W fun e w' => e = .returned (.bool (detB n P)) ∧ Below W.heap.size W w'
def DecodeSumsIs (f : FuncId) (n : Int) (P : List Int) (S : List Int) : Prop := ∀ W vP vS, IntsAt W vP P → IntsAt W vS S → Calls Try.prog f #[.int .i64 n, vP, vS] W (ListsS (decS n P S) W)
def SumsTellIs (f : FuncId) (n : Int) (P : List Int) : Prop := ∀ W vP, IntsAt W vP P → Calls Try.prog f #[.int .i64 n, vP] W fun e w' => e = .returned (.int .i64 (tellI n P)) ∧ Below W.heap.size W w'
def FirstDetectingIs (f : FuncId) (n : Int) : Prop := ∀ W, Calls Try.prog f #[.int .i64 n] W (GivesS (firstL n) (firstB n) W)
def FewestSumsIs (f : FuncId) (n : Int) : Prop := ∀ W, Calls Try.prog f #[.int .i64 n] W fun e w' => e = .returned (.int .i64 (fewS n)) ∧ Below W.heap.size W w'

set_option maxRecDepth 100000 in
set_option maxHeartbeats 3200000 in
theorem lawSumPools (n : Int) (P : List Int) (b : Int) (w : World) (vP : Value) (cP : IntsAt w vP P) (IM : P.length ≤ 1048576 → SumPoolsIs 13 n P b) :
    Calls Try.prog 3 #[.int .i64 n, vP, .int .i64 b] w fun e w' => e = .returned (.bool true) ∧ Below w.heap.size w w' := by
  have HP := Lib.hid cP
  have B0 := Lib.hid (Below.refl w.heap.size w)
  obtain ⟨aP, kP, rfl, -⟩ := cP
  by_cases LP : 1048576 < P.length
  · go_enter Try.func3, Try.ntmps3
    go_wp2
    go_ret
    exact ⟨rfl, B0.out⟩
  have NP : P.length ≤ 1048576 := by omega
  replace IM := IM NP
  have SP := Lib.hid (fun W u0 h0 => specSumPools n u0 P b W h0 NP)
  unfold SumPoolsIs at IM
  have IP := Lib.hid IM
  unfold GivesS at SP IP
  have hF := sumO_len n P b
  generalize sumO n P b = F at SP IP hF
  generalize testsB n P b = t at SP IP
  have TP := Lib.hid (fun W h => toInts (.slice aP P.length kP) P W h NP)
  have EP := Lib.hid (fun W a b (h : IntsAt W a P) h' => eqInts_same a b P W h h' (by omega))
  have MP := Lib.hid (fun W B a (h : Own W B a P) => markInts B a 1 P W h (by omega) (by omega) (by omega))
  obtain ⟨qP, hqP⟩ : ∃ q, (1 : Int) + (P.length : Int) = q := ⟨_, rfl⟩
  rw [hqP] at MP
  have lqP : 1 ≤ qP ∧ qP ≤ 10000000 := by omega
  have kneg : ¬ qP < 0 := by omega
  have EL := Lib.hid (fun W a b (h : IntsAt W a F) h' => eqInts_same a b F W h h' (by omega))
  have ML := Lib.hid (fun W B a (h : Own W B a F) => markInts B a 1 F W h (by omega) (by omega) (by omega))
  have HL := Lib.hid (fun W a h => heldInts a 1 F.length W h (by omega) (by omega) (by omega))
  obtain ⟨kf, hkf⟩ : ∃ kf, (1 : Int) + (F.length : Int) = kf := ⟨_, rfl⟩
  rw [hkf] at ML HL
  have kf0 : 0 ≤ kf := by omega
  have hok : (t != t) = false := by simp
  clear IM NP hkf hF hqP lqP
  generalize hnP : P.length = nP at HP TP LP
  clear hnP
  go_enter Try.func3, Try.ntmps3
  go_wp2_with fail
  refine (TP.out _ (HP.out.below B0.out)).mono ?_
  rintro e w1 ⟨uPP, rfl, -, o, bb⟩
  obtain ⟨gPP, nPP, qPP, rfl⟩ := o.form
  have IPP : Hid (∀ k, Value.ownBlock (.slice gPP nPP qPP) = some k → w.heap.size ≤ k ∧ k < w1.heap.size) := fun k hk => o.blk k hk
  have PP1 := Lib.hid o
  clear o
  have B1 := Lib.hid (below_up B0.out bb)
  have D1 : Hid (w.heap.size ≤ w1.heap.size) := bb.size
  clear bb B0
  go_wp2_with fail
  refine (SP.out _ _ PP1.out.reads).mono ?_
  rintro e w2 ⟨uW, rfl, o, bb⟩
  obtain ⟨gW, nW, qW, rfl⟩ := o.form
  have IW : Hid (∀ k, Value.ownBlock (.slice gW nW qW) = some k → w1.heap.size ≤ k ∧ k < w2.heap.size) := fun k hk => o.blk k hk
  have W2 := Lib.hid o
  clear o
  have B2 := Lib.hid (below_up B1.out bb)
  have D2 : Hid (w1.heap.size ≤ w2.heap.size) := bb.size
  clear bb B1 PP1
  go_wp2_with fail
  refine (TP.out _ (HP.out.below B2.out)).mono ?_
  rintro e w3 ⟨uXP, rfl, -, o, bb⟩
  obtain ⟨gXP, nXP, qXP, rfl⟩ := o.form
  have IXP : Hid (∀ k, Value.ownBlock (.slice gXP nXP qXP) = some k → w2.heap.size ≤ k ∧ k < w3.heap.size) := fun k hk => o.blk k hk
  have XP3 := Lib.hid o
  clear o
  have B3 := Lib.hid (below_up B2.out bb)
  have D3 : Hid (w2.heap.size ≤ w3.heap.size) := bb.size
  have W3 := Lib.hid (W2.out.below bb)
  clear bb B2 W2
  go_wp2_with fail
  refine (IP.out _ _ XP3.out.reads).mono ?_
  rintro e w4 ⟨uG, rfl, o, bb⟩
  obtain ⟨gG, nG, qG, rfl⟩ := o.form
  have IG : Hid (∀ k, Value.ownBlock (.slice gG nG qG) = some k → w3.heap.size ≤ k ∧ k < w4.heap.size) := fun k hk => o.blk k hk
  have G4 := Lib.hid o
  clear o
  have B4 := Lib.hid (below_up B3.out bb)
  have D4 : Hid (w3.heap.size ≤ w4.heap.size) := bb.size
  have W4 := Lib.hid (W3.out.below bb)
  have XP4 := Lib.hid (XP3.out.below bb)
  clear bb B3 W3 XP3
  go_wp2_with fail
  refine (EL.out _ _ _ G4.out.reads W4.out.reads).mono ?_
  rintro e w5 ⟨rfl, bb⟩
  have B5 := Lib.hid (below_up B4.out bb)
  have D5 : Hid (w4.heap.size ≤ w5.heap.size) := bb.size
  have W5 := Lib.hid (W4.out.below bb)
  have XP5 := Lib.hid (XP4.out.below bb)
  have G5 := Lib.hid (G4.out.below bb)
  clear bb B4 W4 XP4 G4
  go_wp2_with fail
  refine (TP.out _ (HP.out.below B5.out)).mono ?_
  rintro e w6 ⟨uY, rfl, -, o, bb⟩
  obtain ⟨gY, nY, qY, rfl⟩ := o.form
  have IY : Hid (∀ k, Value.ownBlock (.slice gY nY qY) = some k → w5.heap.size ≤ k ∧ k < w6.heap.size) := fun k hk => o.blk k hk
  have Y6 := Lib.hid o
  clear o
  have B6 := Lib.hid (below_up B5.out bb)
  have D6 : Hid (w5.heap.size ≤ w6.heap.size) := bb.size
  have W6 := Lib.hid (W5.out.below bb)
  have XP6 := Lib.hid (XP5.out.below bb)
  have G6 := Lib.hid (G5.out.below bb)
  clear bb B5 W5 XP5 G5
  go_wp2_with fail
  refine (EP.out _ _ _ XP6.out.reads Y6.out.reads).mono ?_
  rintro e w7 ⟨rfl, bb⟩
  have B7 := Lib.hid (below_up B6.out bb)
  have D7 : Hid (w6.heap.size ≤ w7.heap.size) := bb.size
  have W7 := Lib.hid (W6.out.below bb)
  have XP7 := Lib.hid (XP6.out.below bb)
  have G7 := Lib.hid (G6.out.below bb)
  clear bb B6 W6 XP6 G6 Y6
  go_wp2_with fail
  refine (MP.out _ _ _ XP7.out).mono ?_
  rintro e w8 ⟨rfl, oI, gI⟩
  have tI := Only.of_grown gI
  have B8 : Hid (Below w.heap.size w w8) := B7.out.trans (tI.below B7.out.size fun k hk => by have := IXP.out k hk; have := D1.out; have := D2.out; have := D3.out; have := D4.out; have := D5.out; have := D6.out; have := D7.out; omega)
  have D8 : Hid (w7.heap.size ≤ w8.heap.size) := tI.size
  have W8 := Lib.hid (W7.out.only tI fun k hk e => by have := IW.out k hk; have := IXP.out k e; have := D1.out; have := D2.out; have := D3.out; have := D4.out; have := D5.out; have := D6.out; have := D7.out; omega)
  have G8 := Lib.hid (G7.out.only tI fun k hk e => by have := IG.out k hk; have := IXP.out k e; have := D1.out; have := D2.out; have := D3.out; have := D4.out; have := D5.out; have := D6.out; have := D7.out; omega)
  clear oI gI tI B7 W7 XP7 G7
  go_wp2_with fail
  refine (EL.out _ _ _ G8.out.reads W8.out.reads).mono ?_
  rintro e w9 ⟨rfl, bb⟩
  have B9 := Lib.hid (below_up B8.out bb)
  have D9 : Hid (w8.heap.size ≤ w9.heap.size) := bb.size
  have W9 := Lib.hid (W8.out.below bb)
  have G9 := Lib.hid (G8.out.below bb)
  clear bb B8 W8 G8
  go_wp2_with fail
  refine (ML.out _ _ _ G9.out).mono ?_
  rintro e w10 ⟨rfl, oI, gI⟩
  have tI := Only.of_grown gI
  have B10 : Hid (Below w.heap.size w w10) := B9.out.trans (tI.below B9.out.size fun k hk => by have := IG.out k hk; have := D1.out; have := D2.out; have := D3.out; have := D4.out; have := D5.out; have := D6.out; have := D7.out; have := D8.out; have := D9.out; omega)
  have D10 : Hid (w9.heap.size ≤ w10.heap.size) := tI.size
  have W10 := Lib.hid (W9.out.only tI fun k hk e => by have := IW.out k hk; have := IG.out k e; have := D1.out; have := D2.out; have := D3.out; have := D4.out; have := D5.out; have := D6.out; have := D7.out; have := D8.out; have := D9.out; omega)
  have G10 : Hid (IntsAt w10 (.slice gG nG qG) (imarks 1 F.length)) := IntsAt.of_owns_n oI (imarks_length _ _)
  clear oI gI tI B9 W9 G9
  go_wp2_with fail
  refine (HL.out _ _ G10.out).mono ?_
  rintro e w11 ⟨rfl, rfl⟩
  go_wp2_with fail
  refine (TP.out _ (HP.out.below B10.out)).mono ?_
  rintro e w11 ⟨uZP, rfl, -, o, bb⟩
  obtain ⟨gZP, nZP, qZP, rfl⟩ := o.form
  have IZP : Hid (∀ k, Value.ownBlock (.slice gZP nZP qZP) = some k → w10.heap.size ≤ k ∧ k < w11.heap.size) := fun k hk => o.blk k hk
  have ZP11 := Lib.hid o
  clear o
  have B11 := Lib.hid (below_up B10.out bb)
  have D11 : Hid (w10.heap.size ≤ w11.heap.size) := bb.size
  have W11 := Lib.hid (W10.out.below bb)
  have G11 := Lib.hid (G10.out.below bb)
  clear bb B10 W10 G10
  go_wp2_with fail
  refine (IP.out _ _ ZP11.out.reads).mono ?_
  rintro e w12 ⟨uH, rfl, o, bb⟩
  obtain ⟨gH, nH, qH, rfl⟩ := o.form
  have IH : Hid (∀ k, Value.ownBlock (.slice gH nH qH) = some k → w11.heap.size ≤ k ∧ k < w12.heap.size) := fun k hk => o.blk k hk
  have H12 := Lib.hid o
  clear o
  have B12 := Lib.hid (below_up B11.out bb)
  have D12 : Hid (w11.heap.size ≤ w12.heap.size) := bb.size
  have W12 := Lib.hid (W11.out.below bb)
  have G12 := Lib.hid (G11.out.below bb)
  clear bb B11 W11 G11 ZP11
  go_wp2_with fail
  refine (EL.out _ _ _ H12.out.reads W12.out.reads).mono ?_
  rintro e w13 ⟨rfl, bb⟩
  have B13 := Lib.hid (below_up B12.out bb)
  have D13 : Hid (w12.heap.size ≤ w13.heap.size) := bb.size
  have G13 := Lib.hid (G12.out.below bb)
  clear bb B12 W12 G12 H12
  go_wp2_with fail
  refine (HL.out _ _ G13.out).mono ?_
  rintro e w14 ⟨rfl, rfl⟩
  go_wp2
  go_ret
  exact ⟨rfl, B13.out⟩

set_option maxRecDepth 100000 in
set_option maxHeartbeats 3200000 in
theorem lawIsDetecting (n : Int) (P : List Int) (w : World) (vP : Value) (cP : IntsAt w vP P) (IM : P.length ≤ 1048576 → IsDetectingIs 20 n P) :
    Calls Try.prog 5 #[.int .i64 n, vP] w fun e w' => e = .returned (.bool true) ∧ Below w.heap.size w w' := by
  have HP := Lib.hid cP
  have B0 := Lib.hid (Below.refl w.heap.size w)
  obtain ⟨aP, kP, rfl, -⟩ := cP
  by_cases LP : 1048576 < P.length
  · go_enter Try.func5, Try.ntmps5
    go_wp2
    go_ret
    exact ⟨rfl, B0.out⟩
  have NP : P.length ≤ 1048576 := by omega
  replace IM := IM NP
  have SP := Lib.hid (fun W u0 h0 => specIsDetecting n u0 P W h0 NP)
  unfold IsDetectingIs at IM
  have IP := Lib.hid IM
  generalize detB n P = r at SP IP
  have TP := Lib.hid (fun W h => toInts (.slice aP P.length kP) P W h NP)
  have EP := Lib.hid (fun W a b (h : IntsAt W a P) h' => eqInts_same a b P W h h' (by omega))
  have hok : (r != r) = false := by simp
  clear IM NP
  generalize hnP : P.length = nP at HP TP LP
  clear hnP
  go_enter Try.func5, Try.ntmps5
  go_wp2_with fail
  refine (TP.out _ (HP.out.below B0.out)).mono ?_
  rintro e w1 ⟨uPP, rfl, -, o, bb⟩
  obtain ⟨gPP, nPP, qPP, rfl⟩ := o.form
  have IPP : Hid (∀ k, Value.ownBlock (.slice gPP nPP qPP) = some k → w.heap.size ≤ k ∧ k < w1.heap.size) := fun k hk => o.blk k hk
  have PP1 := Lib.hid o
  clear o
  have B1 := Lib.hid (below_up B0.out bb)
  have D1 : Hid (w.heap.size ≤ w1.heap.size) := bb.size
  clear bb B0
  go_wp2_with fail
  refine (SP.out _ _ PP1.out.reads).mono ?_
  rintro e w2 ⟨rfl, bb⟩
  have B2 := Lib.hid (below_up B1.out bb)
  have D2 : Hid (w1.heap.size ≤ w2.heap.size) := bb.size
  clear bb B1 PP1
  go_wp2_with fail
  refine (TP.out _ (HP.out.below B2.out)).mono ?_
  rintro e w3 ⟨uXP, rfl, -, o, bb⟩
  obtain ⟨gXP, nXP, qXP, rfl⟩ := o.form
  have IXP : Hid (∀ k, Value.ownBlock (.slice gXP nXP qXP) = some k → w2.heap.size ≤ k ∧ k < w3.heap.size) := fun k hk => o.blk k hk
  have XP3 := Lib.hid o
  clear o
  have B3 := Lib.hid (below_up B2.out bb)
  have D3 : Hid (w2.heap.size ≤ w3.heap.size) := bb.size
  clear bb B2
  go_wp2_with fail
  refine (IP.out _ _ XP3.out.reads).mono ?_
  rintro e w4 ⟨rfl, bb⟩
  have B4 := Lib.hid (below_up B3.out bb)
  have D4 : Hid (w3.heap.size ≤ w4.heap.size) := bb.size
  have XP4 := Lib.hid (XP3.out.below bb)
  clear bb B3 XP3
  go_wp2_with fail
  refine (TP.out _ (HP.out.below B4.out)).mono ?_
  rintro e w5 ⟨uY, rfl, -, o, bb⟩
  obtain ⟨gY, nY, qY, rfl⟩ := o.form
  have IY : Hid (∀ k, Value.ownBlock (.slice gY nY qY) = some k → w4.heap.size ≤ k ∧ k < w5.heap.size) := fun k hk => o.blk k hk
  have Y5 := Lib.hid o
  clear o
  have B5 := Lib.hid (below_up B4.out bb)
  have D5 : Hid (w4.heap.size ≤ w5.heap.size) := bb.size
  have XP5 := Lib.hid (XP4.out.below bb)
  clear bb B4 XP4
  go_wp2_with fail
  refine (EP.out _ _ _ XP5.out.reads Y5.out.reads).mono ?_
  rintro e w6 ⟨rfl, bb⟩
  have B6 := Lib.hid (below_up B5.out bb)
  have D6 : Hid (w5.heap.size ≤ w6.heap.size) := bb.size
  clear bb B5 XP5 Y5
  go_wp2
  go_ret
  exact ⟨rfl, B6.out⟩

set_option maxRecDepth 100000 in
set_option maxHeartbeats 3200000 in
theorem lawDecodeSums (n : Int) (P : List Int) (S : List Int) (w : World) (vP : Value) (vS : Value) (cP : IntsAt w vP P) (cS : IntsAt w vS S) (IM : P.length ≤ 1048576 → S.length ≤ 1048576 → DecodeSumsIs 22 n P S) :
    Calls Try.prog 6 #[.int .i64 n, vP, vS] w fun e w' => e = .returned (.bool true) ∧ Below w.heap.size w w' := by
  have HP := Lib.hid cP
  have HS := Lib.hid cS
  have B0 := Lib.hid (Below.refl w.heap.size w)
  obtain ⟨aP, kP, rfl, -⟩ := cP
  obtain ⟨aS, kS, rfl, -⟩ := cS
  by_cases LP : 1048576 < P.length
  · go_enter Try.func6, Try.ntmps6
    go_wp2
    go_ret
    exact ⟨rfl, B0.out⟩
  by_cases LS : 1048576 < S.length
  · go_enter Try.func6, Try.ntmps6
    go_wp2
    go_ret
    exact ⟨rfl, B0.out⟩
  have NP : P.length ≤ 1048576 := by omega
  have NS : S.length ≤ 1048576 := by omega
  replace IM := IM NP NS
  have SP := Lib.hid (fun W u0 u1 h0 h1 => specDecodeSums n u0 u1 P S W h0 h1 NP NS)
  unfold DecodeSumsIs at IM
  have IP := Lib.hid IM
  unfold ListsS at SP IP
  have hF := decS_len n P S
  generalize decS n P S = F at SP IP hF
  have TP := Lib.hid (fun W h => toInts (.slice aP P.length kP) P W h NP)
  have EP := Lib.hid (fun W a b (h : IntsAt W a P) h' => eqInts_same a b P W h h' (by omega))
  have TS := Lib.hid (fun W h => toInts (.slice aS S.length kS) S W h NS)
  have ES := Lib.hid (fun W a b (h : IntsAt W a S) h' => eqInts_same a b S W h h' (by omega))
  have MP := Lib.hid (fun W B a (h : Own W B a P) => markInts B a 1 P W h (by omega) (by omega) (by omega))
  obtain ⟨qP, hqP⟩ : ∃ q, (1 : Int) + (P.length : Int) = q := ⟨_, rfl⟩
  rw [hqP] at MP
  have lqP : 1 ≤ qP ∧ qP ≤ 10000000 := by omega
  have MS := Lib.hid (fun W B a (h : Own W B a S) => markInts B a qP S W h (by omega) (by omega) (by omega))
  obtain ⟨qS, hqS⟩ : ∃ q, (qP : Int) + (S.length : Int) = q := ⟨_, rfl⟩
  rw [hqS] at MS
  have lqS : 1 ≤ qS ∧ qS ≤ 10000000 := by omega
  have kneg : ¬ qS < 0 := by omega
  have EL := Lib.hid (fun W a b (h : IntsAt W a F) h' => eqInts_same a b F W h h' (by omega))
  have ML := Lib.hid (fun W B a (h : Own W B a F) => markInts B a 1 F W h (by omega) (by omega) (by omega))
  have HL := Lib.hid (fun W a h => heldInts a 1 F.length W h (by omega) (by omega) (by omega))
  obtain ⟨kf, hkf⟩ : ∃ kf, (1 : Int) + (F.length : Int) = kf := ⟨_, rfl⟩
  rw [hkf] at ML HL
  have kf0 : 0 ≤ kf := by omega
  clear IM NP NS hkf hF hqP hqS lqP lqS
  generalize hnP : P.length = nP at HP TP LP
  generalize hnS : S.length = nS at HS TS LS
  clear hnP hnS
  go_enter Try.func6, Try.ntmps6
  go_wp2_with fail
  refine (TP.out _ (HP.out.below B0.out)).mono ?_
  rintro e w1 ⟨uPP, rfl, -, o, bb⟩
  obtain ⟨gPP, nPP, qPP, rfl⟩ := o.form
  have IPP : Hid (∀ k, Value.ownBlock (.slice gPP nPP qPP) = some k → w.heap.size ≤ k ∧ k < w1.heap.size) := fun k hk => o.blk k hk
  have PP1 := Lib.hid o
  clear o
  have B1 := Lib.hid (below_up B0.out bb)
  have D1 : Hid (w.heap.size ≤ w1.heap.size) := bb.size
  clear bb B0
  go_wp2_with fail
  refine (TS.out _ (HS.out.below B1.out)).mono ?_
  rintro e w2 ⟨uPS, rfl, -, o, bb⟩
  obtain ⟨gPS, nPS, qPS, rfl⟩ := o.form
  have IPS : Hid (∀ k, Value.ownBlock (.slice gPS nPS qPS) = some k → w1.heap.size ≤ k ∧ k < w2.heap.size) := fun k hk => o.blk k hk
  have PS2 := Lib.hid o
  clear o
  have B2 := Lib.hid (below_up B1.out bb)
  have D2 : Hid (w1.heap.size ≤ w2.heap.size) := bb.size
  have PP2 := Lib.hid (PP1.out.below bb)
  clear bb B1 PP1
  go_wp2_with fail
  refine (SP.out _ _ _ PP2.out.reads PS2.out.reads).mono ?_
  rintro e w3 ⟨uW, rfl, o, bb⟩
  obtain ⟨gW, nW, qW, rfl⟩ := o.form
  have IW : Hid (∀ k, Value.ownBlock (.slice gW nW qW) = some k → w2.heap.size ≤ k ∧ k < w3.heap.size) := fun k hk => o.blk k hk
  have W3 := Lib.hid o
  clear o
  have B3 := Lib.hid (below_up B2.out bb)
  have D3 : Hid (w2.heap.size ≤ w3.heap.size) := bb.size
  clear bb B2 PP2 PS2
  go_wp2_with fail
  refine (TP.out _ (HP.out.below B3.out)).mono ?_
  rintro e w4 ⟨uXP, rfl, -, o, bb⟩
  obtain ⟨gXP, nXP, qXP, rfl⟩ := o.form
  have IXP : Hid (∀ k, Value.ownBlock (.slice gXP nXP qXP) = some k → w3.heap.size ≤ k ∧ k < w4.heap.size) := fun k hk => o.blk k hk
  have XP4 := Lib.hid o
  clear o
  have B4 := Lib.hid (below_up B3.out bb)
  have D4 : Hid (w3.heap.size ≤ w4.heap.size) := bb.size
  have W4 := Lib.hid (W3.out.below bb)
  clear bb B3 W3
  go_wp2_with fail
  refine (TS.out _ (HS.out.below B4.out)).mono ?_
  rintro e w5 ⟨uXS, rfl, -, o, bb⟩
  obtain ⟨gXS, nXS, qXS, rfl⟩ := o.form
  have IXS : Hid (∀ k, Value.ownBlock (.slice gXS nXS qXS) = some k → w4.heap.size ≤ k ∧ k < w5.heap.size) := fun k hk => o.blk k hk
  have XS5 := Lib.hid o
  clear o
  have B5 := Lib.hid (below_up B4.out bb)
  have D5 : Hid (w4.heap.size ≤ w5.heap.size) := bb.size
  have W5 := Lib.hid (W4.out.below bb)
  have XP5 := Lib.hid (XP4.out.below bb)
  clear bb B4 W4 XP4
  go_wp2_with fail
  refine (IP.out _ _ _ XP5.out.reads XS5.out.reads).mono ?_
  rintro e w6 ⟨uG, rfl, o, bb⟩
  obtain ⟨gG, nG, qG, rfl⟩ := o.form
  have IG : Hid (∀ k, Value.ownBlock (.slice gG nG qG) = some k → w5.heap.size ≤ k ∧ k < w6.heap.size) := fun k hk => o.blk k hk
  have G6 := Lib.hid o
  clear o
  have B6 := Lib.hid (below_up B5.out bb)
  have D6 : Hid (w5.heap.size ≤ w6.heap.size) := bb.size
  have W6 := Lib.hid (W5.out.below bb)
  have XP6 := Lib.hid (XP5.out.below bb)
  have XS6 := Lib.hid (XS5.out.below bb)
  clear bb B5 W5 XP5 XS5
  go_wp2_with fail
  refine (EL.out _ _ _ G6.out.reads W6.out.reads).mono ?_
  rintro e w7 ⟨rfl, bb⟩
  have B7 := Lib.hid (below_up B6.out bb)
  have D7 : Hid (w6.heap.size ≤ w7.heap.size) := bb.size
  have W7 := Lib.hid (W6.out.below bb)
  have XP7 := Lib.hid (XP6.out.below bb)
  have XS7 := Lib.hid (XS6.out.below bb)
  have G7 := Lib.hid (G6.out.below bb)
  clear bb B6 W6 XP6 XS6 G6
  go_wp2_with fail
  refine (TP.out _ (HP.out.below B7.out)).mono ?_
  rintro e w8 ⟨uY, rfl, -, o, bb⟩
  obtain ⟨gY, nY, qY, rfl⟩ := o.form
  have IY : Hid (∀ k, Value.ownBlock (.slice gY nY qY) = some k → w7.heap.size ≤ k ∧ k < w8.heap.size) := fun k hk => o.blk k hk
  have Y8 := Lib.hid o
  clear o
  have B8 := Lib.hid (below_up B7.out bb)
  have D8 : Hid (w7.heap.size ≤ w8.heap.size) := bb.size
  have W8 := Lib.hid (W7.out.below bb)
  have XP8 := Lib.hid (XP7.out.below bb)
  have XS8 := Lib.hid (XS7.out.below bb)
  have G8 := Lib.hid (G7.out.below bb)
  clear bb B7 W7 XP7 XS7 G7
  go_wp2_with fail
  refine (EP.out _ _ _ XP8.out.reads Y8.out.reads).mono ?_
  rintro e w9 ⟨rfl, bb⟩
  have B9 := Lib.hid (below_up B8.out bb)
  have D9 : Hid (w8.heap.size ≤ w9.heap.size) := bb.size
  have W9 := Lib.hid (W8.out.below bb)
  have XP9 := Lib.hid (XP8.out.below bb)
  have XS9 := Lib.hid (XS8.out.below bb)
  have G9 := Lib.hid (G8.out.below bb)
  clear bb B8 W8 XP8 XS8 G8 Y8
  go_wp2_with fail
  refine (TS.out _ (HS.out.below B9.out)).mono ?_
  rintro e w10 ⟨uY, rfl, -, o, bb⟩
  obtain ⟨gY, nY, qY, rfl⟩ := o.form
  have IY : Hid (∀ k, Value.ownBlock (.slice gY nY qY) = some k → w9.heap.size ≤ k ∧ k < w10.heap.size) := fun k hk => o.blk k hk
  have Y10 := Lib.hid o
  clear o
  have B10 := Lib.hid (below_up B9.out bb)
  have D10 : Hid (w9.heap.size ≤ w10.heap.size) := bb.size
  have W10 := Lib.hid (W9.out.below bb)
  have XP10 := Lib.hid (XP9.out.below bb)
  have XS10 := Lib.hid (XS9.out.below bb)
  have G10 := Lib.hid (G9.out.below bb)
  clear bb B9 W9 XP9 XS9 G9
  go_wp2_with fail
  refine (ES.out _ _ _ XS10.out.reads Y10.out.reads).mono ?_
  rintro e w11 ⟨rfl, bb⟩
  have B11 := Lib.hid (below_up B10.out bb)
  have D11 : Hid (w10.heap.size ≤ w11.heap.size) := bb.size
  have W11 := Lib.hid (W10.out.below bb)
  have XP11 := Lib.hid (XP10.out.below bb)
  have XS11 := Lib.hid (XS10.out.below bb)
  have G11 := Lib.hid (G10.out.below bb)
  clear bb B10 W10 XP10 XS10 G10 Y10
  go_wp2_with fail
  refine (MP.out _ _ _ XP11.out).mono ?_
  rintro e w12 ⟨rfl, oI, gI⟩
  have tI := Only.of_grown gI
  have B12 : Hid (Below w.heap.size w w12) := B11.out.trans (tI.below B11.out.size fun k hk => by have := IXP.out k hk; have := D1.out; have := D2.out; have := D3.out; have := D4.out; have := D5.out; have := D6.out; have := D7.out; have := D8.out; have := D9.out; have := D10.out; have := D11.out; omega)
  have D12 : Hid (w11.heap.size ≤ w12.heap.size) := tI.size
  have W12 := Lib.hid (W11.out.only tI fun k hk e => by have := IW.out k hk; have := IXP.out k e; have := D1.out; have := D2.out; have := D3.out; have := D4.out; have := D5.out; have := D6.out; have := D7.out; have := D8.out; have := D9.out; have := D10.out; have := D11.out; omega)
  have XS12 := Lib.hid (XS11.out.only tI fun k hk e => by have := IXS.out k hk; have := IXP.out k e; have := D1.out; have := D2.out; have := D3.out; have := D4.out; have := D5.out; have := D6.out; have := D7.out; have := D8.out; have := D9.out; have := D10.out; have := D11.out; omega)
  have G12 := Lib.hid (G11.out.only tI fun k hk e => by have := IG.out k hk; have := IXP.out k e; have := D1.out; have := D2.out; have := D3.out; have := D4.out; have := D5.out; have := D6.out; have := D7.out; have := D8.out; have := D9.out; have := D10.out; have := D11.out; omega)
  clear oI gI tI B11 W11 XP11 XS11 G11
  go_wp2_with fail
  refine (MS.out _ _ _ XS12.out).mono ?_
  rintro e w13 ⟨rfl, oI, gI⟩
  have tI := Only.of_grown gI
  have B13 : Hid (Below w.heap.size w w13) := B12.out.trans (tI.below B12.out.size fun k hk => by have := IXS.out k hk; have := D1.out; have := D2.out; have := D3.out; have := D4.out; have := D5.out; have := D6.out; have := D7.out; have := D8.out; have := D9.out; have := D10.out; have := D11.out; have := D12.out; omega)
  have D13 : Hid (w12.heap.size ≤ w13.heap.size) := tI.size
  have W13 := Lib.hid (W12.out.only tI fun k hk e => by have := IW.out k hk; have := IXS.out k e; have := D1.out; have := D2.out; have := D3.out; have := D4.out; have := D5.out; have := D6.out; have := D7.out; have := D8.out; have := D9.out; have := D10.out; have := D11.out; have := D12.out; omega)
  have G13 := Lib.hid (G12.out.only tI fun k hk e => by have := IG.out k hk; have := IXS.out k e; have := D1.out; have := D2.out; have := D3.out; have := D4.out; have := D5.out; have := D6.out; have := D7.out; have := D8.out; have := D9.out; have := D10.out; have := D11.out; have := D12.out; omega)
  clear oI gI tI B12 W12 XS12 G12
  go_wp2_with fail
  refine (EL.out _ _ _ G13.out.reads W13.out.reads).mono ?_
  rintro e w14 ⟨rfl, bb⟩
  have B14 := Lib.hid (below_up B13.out bb)
  have D14 : Hid (w13.heap.size ≤ w14.heap.size) := bb.size
  have W14 := Lib.hid (W13.out.below bb)
  have G14 := Lib.hid (G13.out.below bb)
  clear bb B13 W13 G13
  go_wp2_with fail
  refine (ML.out _ _ _ G14.out).mono ?_
  rintro e w15 ⟨rfl, oI, gI⟩
  have tI := Only.of_grown gI
  have B15 : Hid (Below w.heap.size w w15) := B14.out.trans (tI.below B14.out.size fun k hk => by have := IG.out k hk; have := D1.out; have := D2.out; have := D3.out; have := D4.out; have := D5.out; have := D6.out; have := D7.out; have := D8.out; have := D9.out; have := D10.out; have := D11.out; have := D12.out; have := D13.out; have := D14.out; omega)
  have D15 : Hid (w14.heap.size ≤ w15.heap.size) := tI.size
  have W15 := Lib.hid (W14.out.only tI fun k hk e => by have := IW.out k hk; have := IG.out k e; have := D1.out; have := D2.out; have := D3.out; have := D4.out; have := D5.out; have := D6.out; have := D7.out; have := D8.out; have := D9.out; have := D10.out; have := D11.out; have := D12.out; have := D13.out; have := D14.out; omega)
  have G15 : Hid (IntsAt w15 (.slice gG nG qG) (imarks 1 F.length)) := IntsAt.of_owns_n oI (imarks_length _ _)
  clear oI gI tI B14 W14 G14
  go_wp2_with fail
  refine (HL.out _ _ G15.out).mono ?_
  rintro e w16 ⟨rfl, rfl⟩
  go_wp2_with fail
  refine (TP.out _ (HP.out.below B15.out)).mono ?_
  rintro e w16 ⟨uZP, rfl, -, o, bb⟩
  obtain ⟨gZP, nZP, qZP, rfl⟩ := o.form
  have IZP : Hid (∀ k, Value.ownBlock (.slice gZP nZP qZP) = some k → w15.heap.size ≤ k ∧ k < w16.heap.size) := fun k hk => o.blk k hk
  have ZP16 := Lib.hid o
  clear o
  have B16 := Lib.hid (below_up B15.out bb)
  have D16 : Hid (w15.heap.size ≤ w16.heap.size) := bb.size
  have W16 := Lib.hid (W15.out.below bb)
  have G16 := Lib.hid (G15.out.below bb)
  clear bb B15 W15 G15
  go_wp2_with fail
  refine (TS.out _ (HS.out.below B16.out)).mono ?_
  rintro e w17 ⟨uZS, rfl, -, o, bb⟩
  obtain ⟨gZS, nZS, qZS, rfl⟩ := o.form
  have IZS : Hid (∀ k, Value.ownBlock (.slice gZS nZS qZS) = some k → w16.heap.size ≤ k ∧ k < w17.heap.size) := fun k hk => o.blk k hk
  have ZS17 := Lib.hid o
  clear o
  have B17 := Lib.hid (below_up B16.out bb)
  have D17 : Hid (w16.heap.size ≤ w17.heap.size) := bb.size
  have W17 := Lib.hid (W16.out.below bb)
  have G17 := Lib.hid (G16.out.below bb)
  have ZP17 := Lib.hid (ZP16.out.below bb)
  clear bb B16 W16 G16 ZP16
  go_wp2_with fail
  refine (IP.out _ _ _ ZP17.out.reads ZS17.out.reads).mono ?_
  rintro e w18 ⟨uH, rfl, o, bb⟩
  obtain ⟨gH, nH, qH, rfl⟩ := o.form
  have IH : Hid (∀ k, Value.ownBlock (.slice gH nH qH) = some k → w17.heap.size ≤ k ∧ k < w18.heap.size) := fun k hk => o.blk k hk
  have H18 := Lib.hid o
  clear o
  have B18 := Lib.hid (below_up B17.out bb)
  have D18 : Hid (w17.heap.size ≤ w18.heap.size) := bb.size
  have W18 := Lib.hid (W17.out.below bb)
  have G18 := Lib.hid (G17.out.below bb)
  clear bb B17 W17 G17 ZP17 ZS17
  go_wp2_with fail
  refine (EL.out _ _ _ H18.out.reads W18.out.reads).mono ?_
  rintro e w19 ⟨rfl, bb⟩
  have B19 := Lib.hid (below_up B18.out bb)
  have D19 : Hid (w18.heap.size ≤ w19.heap.size) := bb.size
  have G19 := Lib.hid (G18.out.below bb)
  clear bb B18 W18 G18 H18
  go_wp2_with fail
  refine (HL.out _ _ G19.out).mono ?_
  rintro e w20 ⟨rfl, rfl⟩
  go_wp2
  go_ret
  exact ⟨rfl, B19.out⟩

set_option maxRecDepth 100000 in
set_option maxHeartbeats 3200000 in
theorem lawSumsTell (n : Int) (P : List Int) (w : World) (vP : Value) (cP : IntsAt w vP P) (IM : P.length ≤ 1048576 → SumsTellIs 18 n P) :
    Calls Try.prog 4 #[.int .i64 n, vP] w fun e w' => e = .returned (.bool true) ∧ Below w.heap.size w w' := by
  have HP := Lib.hid cP
  have B0 := Lib.hid (Below.refl w.heap.size w)
  obtain ⟨aP, kP, rfl, -⟩ := cP
  by_cases LP : 1048576 < P.length
  · go_enter Try.func4, Try.ntmps4
    go_wp2
    go_ret
    exact ⟨rfl, B0.out⟩
  have NP : P.length ≤ 1048576 := by omega
  replace IM := IM NP
  have SP := Lib.hid (fun W u0 h0 => specTell n u0 P W h0 NP)
  unfold SumsTellIs at IM
  have IP := Lib.hid IM
  generalize tellI n P = x at SP IP
  have TP := Lib.hid (fun W h => toInts (.slice aP P.length kP) P W h NP)
  have EP := Lib.hid (fun W a b (h : IntsAt W a P) h' => eqInts_same a b P W h h' (by omega))
  clear IM NP
  generalize hnP : P.length = nP at HP TP LP
  clear hnP
  go_enter Try.func4, Try.ntmps4
  go_wp2_with fail
  refine (TP.out _ (HP.out.below B0.out)).mono ?_
  rintro e w1 ⟨uPP, rfl, -, o, bb⟩
  obtain ⟨gPP, nPP, qPP, rfl⟩ := o.form
  have IPP : Hid (∀ k, Value.ownBlock (.slice gPP nPP qPP) = some k → w.heap.size ≤ k ∧ k < w1.heap.size) := fun k hk => o.blk k hk
  have PP1 := Lib.hid o
  clear o
  have B1 := Lib.hid (below_up B0.out bb)
  have D1 : Hid (w.heap.size ≤ w1.heap.size) := bb.size
  clear bb B0
  go_wp2_with fail
  refine (SP.out _ _ PP1.out.reads).mono ?_
  rintro e w2 ⟨rfl, bb⟩
  have B2 := Lib.hid (below_up B1.out bb)
  have D2 : Hid (w1.heap.size ≤ w2.heap.size) := bb.size
  clear bb B1 PP1
  go_wp2_with fail
  refine (TP.out _ (HP.out.below B2.out)).mono ?_
  rintro e w3 ⟨uXP, rfl, -, o, bb⟩
  obtain ⟨gXP, nXP, qXP, rfl⟩ := o.form
  have IXP : Hid (∀ k, Value.ownBlock (.slice gXP nXP qXP) = some k → w2.heap.size ≤ k ∧ k < w3.heap.size) := fun k hk => o.blk k hk
  have XP3 := Lib.hid o
  clear o
  have B3 := Lib.hid (below_up B2.out bb)
  have D3 : Hid (w2.heap.size ≤ w3.heap.size) := bb.size
  clear bb B2
  go_wp2_with fail
  refine (IP.out _ _ XP3.out.reads).mono ?_
  rintro e w4 ⟨rfl, bb⟩
  have B4 := Lib.hid (below_up B3.out bb)
  have D4 : Hid (w3.heap.size ≤ w4.heap.size) := bb.size
  have XP4 := Lib.hid (XP3.out.below bb)
  clear bb B3 XP3
  go_wp2_with fail
  refine (TP.out _ (HP.out.below B4.out)).mono ?_
  rintro e w5 ⟨uY, rfl, -, o, bb⟩
  obtain ⟨gY, nY, qY, rfl⟩ := o.form
  have IY : Hid (∀ k, Value.ownBlock (.slice gY nY qY) = some k → w4.heap.size ≤ k ∧ k < w5.heap.size) := fun k hk => o.blk k hk
  have Y5 := Lib.hid o
  clear o
  have B5 := Lib.hid (below_up B4.out bb)
  have D5 : Hid (w4.heap.size ≤ w5.heap.size) := bb.size
  have XP5 := Lib.hid (XP4.out.below bb)
  clear bb B4 XP4
  go_wp2_with fail
  refine (EP.out _ _ _ XP5.out.reads Y5.out.reads).mono ?_
  rintro e w6 ⟨rfl, bb⟩
  have B6 := Lib.hid (below_up B5.out bb)
  have D6 : Hid (w5.heap.size ≤ w6.heap.size) := bb.size
  clear bb B5 XP5 Y5
  go_wp2
  go_ret
  exact ⟨rfl, B6.out⟩

set_option maxRecDepth 100000 in
set_option maxHeartbeats 3200000 in
theorem lawFirstDetecting (n : Int) (w : World)   (IM : FirstDetectingIs 24 n) :
    Calls Try.prog 7 #[.int .i64 n] w fun e w' => e = .returned (.bool true) ∧ Below w.heap.size w w' := by
  have B0 := Lib.hid (Below.refl w.heap.size w)
  have SP := Lib.hid (fun W  => specFirstD n W)
  unfold FirstDetectingIs at IM
  have IP := Lib.hid IM
  unfold GivesS at SP IP
  have hF := firstL_len n
  generalize firstL n = F at SP IP hF
  generalize firstB n = t at SP IP
  have EL := Lib.hid (fun W a b (h : IntsAt W a F) h' => eqInts_same a b F W h h' (by omega))
  have ML := Lib.hid (fun W B a (h : Own W B a F) => markInts B a 1 F W h (by omega) (by omega) (by omega))
  have HL := Lib.hid (fun W a h => heldInts a 1 F.length W h (by omega) (by omega) (by omega))
  obtain ⟨kf, hkf⟩ : ∃ kf, (1 : Int) + (F.length : Int) = kf := ⟨_, rfl⟩
  rw [hkf] at ML HL
  have kf0 : 0 ≤ kf := by omega
  have hok : (t != t) = false := by simp
  clear IM hkf hF
  go_enter Try.func7, Try.ntmps7
  go_wp2_with fail
  refine (SP.out _  ).mono ?_
  rintro e w1 ⟨uW, rfl, o, bb⟩
  obtain ⟨gW, nW, qW, rfl⟩ := o.form
  have IW : Hid (∀ k, Value.ownBlock (.slice gW nW qW) = some k → w.heap.size ≤ k ∧ k < w1.heap.size) := fun k hk => o.blk k hk
  have W1 := Lib.hid o
  clear o
  have B1 := Lib.hid (below_up B0.out bb)
  have D1 : Hid (w.heap.size ≤ w1.heap.size) := bb.size
  clear bb B0
  go_wp2_with fail
  refine (IP.out _  ).mono ?_
  rintro e w2 ⟨uG, rfl, o, bb⟩
  obtain ⟨gG, nG, qG, rfl⟩ := o.form
  have IG : Hid (∀ k, Value.ownBlock (.slice gG nG qG) = some k → w1.heap.size ≤ k ∧ k < w2.heap.size) := fun k hk => o.blk k hk
  have G2 := Lib.hid o
  clear o
  have B2 := Lib.hid (below_up B1.out bb)
  have D2 : Hid (w1.heap.size ≤ w2.heap.size) := bb.size
  have W2 := Lib.hid (W1.out.below bb)
  clear bb B1 W1
  go_wp2_with fail
  refine (EL.out _ _ _ G2.out.reads W2.out.reads).mono ?_
  rintro e w3 ⟨rfl, bb⟩
  have B3 := Lib.hid (below_up B2.out bb)
  have D3 : Hid (w2.heap.size ≤ w3.heap.size) := bb.size
  have W3 := Lib.hid (W2.out.below bb)
  have G3 := Lib.hid (G2.out.below bb)
  clear bb B2 W2 G2
  go_wp2_with fail
  refine (ML.out _ _ _ G3.out).mono ?_
  rintro e w4 ⟨rfl, oI, gI⟩
  have tI := Only.of_grown gI
  have B4 : Hid (Below w.heap.size w w4) := B3.out.trans (tI.below B3.out.size fun k hk => by have := IG.out k hk; have := D1.out; have := D2.out; have := D3.out; omega)
  have D4 : Hid (w3.heap.size ≤ w4.heap.size) := tI.size
  have W4 := Lib.hid (W3.out.only tI fun k hk e => by have := IW.out k hk; have := IG.out k e; have := D1.out; have := D2.out; have := D3.out; omega)
  have G4 : Hid (IntsAt w4 (.slice gG nG qG) (imarks 1 F.length)) := IntsAt.of_owns_n oI (imarks_length _ _)
  clear oI gI tI B3 W3 G3
  go_wp2_with fail
  refine (HL.out _ _ G4.out).mono ?_
  rintro e w5 ⟨rfl, rfl⟩
  go_wp2_with fail
  refine (IP.out _  ).mono ?_
  rintro e w5 ⟨uH, rfl, o, bb⟩
  obtain ⟨gH, nH, qH, rfl⟩ := o.form
  have IH : Hid (∀ k, Value.ownBlock (.slice gH nH qH) = some k → w4.heap.size ≤ k ∧ k < w5.heap.size) := fun k hk => o.blk k hk
  have H5 := Lib.hid o
  clear o
  have B5 := Lib.hid (below_up B4.out bb)
  have D5 : Hid (w4.heap.size ≤ w5.heap.size) := bb.size
  have W5 := Lib.hid (W4.out.below bb)
  have G5 := Lib.hid (G4.out.below bb)
  clear bb B4 W4 G4
  go_wp2_with fail
  refine (EL.out _ _ _ H5.out.reads W5.out.reads).mono ?_
  rintro e w6 ⟨rfl, bb⟩
  have B6 := Lib.hid (below_up B5.out bb)
  have D6 : Hid (w5.heap.size ≤ w6.heap.size) := bb.size
  have G6 := Lib.hid (G5.out.below bb)
  clear bb B5 W5 G5 H5
  go_wp2_with fail
  refine (HL.out _ _ G6.out).mono ?_
  rintro e w7 ⟨rfl, rfl⟩
  go_wp2
  go_ret
  exact ⟨rfl, B6.out⟩

set_option maxRecDepth 100000 in
set_option maxHeartbeats 3200000 in
theorem lawFewestSums (n : Int) (w : World)   (IM : FewestSumsIs 26 n) :
    Calls Try.prog 8 #[.int .i64 n] w fun e w' => e = .returned (.bool true) ∧ Below w.heap.size w w' := by
  have B0 := Lib.hid (Below.refl w.heap.size w)
  have SP := Lib.hid (fun W  => specFewS n W)
  unfold FewestSumsIs at IM
  have IP := Lib.hid IM
  generalize fewS n = x at SP IP
  clear IM
  go_enter Try.func8, Try.ntmps8
  go_wp2_with fail
  refine (SP.out _  ).mono ?_
  rintro e w1 ⟨rfl, bb⟩
  have B1 := Lib.hid (below_up B0.out bb)
  have D1 : Hid (w.heap.size ≤ w1.heap.size) := bb.size
  clear bb B0
  go_wp2_with fail
  refine (IP.out _  ).mono ?_
  rintro e w2 ⟨rfl, bb⟩
  have B2 := Lib.hid (below_up B1.out bb)
  have D2 : Hid (w1.heap.size ≤ w2.heap.size) := bb.size
  clear bb B1
  go_wp2
  go_ret
  exact ⟨rfl, B2.out⟩

end Go.Proofs.Ytoliloophjeooaa
