/- The walks of the exact laws of ExtendDetecting round the contracts of the program's functions: each returns true for every argument. Condition: the slices that came in read as integers. -/
import Derived.Test.YtoliloophjeooaaSumExt
namespace Go.Proofs.Ytoliloophjeooaa
open Go.RowKit

/-- The contracts of the program's functions. -/
def ExtendDetectingIs (f : FuncId) (n : Int) (P : List Int) : Prop := ∀ W vP, IntsAt W vP P → Calls Try.prog f #[.int .i64 n, vP] W (GivesS (extL n P) (extB n P) W)

set_option maxRecDepth 100000 in
set_option maxHeartbeats 3200000 in
theorem lawExtendDetecting (n : Int) (P : List Int) (w : World) (vP : Value) (cP : IntsAt w vP P) (IM : P.length ≤ 1048576 → ExtendDetectingIs 28 n P) :
    Calls Try.prog 9 #[.int .i64 n, vP] w fun e w' => e = .returned (.bool true) ∧ Below w.heap.size w w' := by
  have HP := Lib.hid cP
  have B0 := Lib.hid (Below.refl w.heap.size w)
  obtain ⟨aP, kP, rfl, -⟩ := cP
  by_cases LP : 1048576 < P.length
  · go_enter Try.func9, Try.ntmps9
    go_wp2
    go_ret
    exact ⟨rfl, B0.out⟩
  have NP : P.length ≤ 1048576 := by omega
  replace IM := IM NP
  have SP := Lib.hid (fun W u0 h0 => specExtend n u0 P W h0 NP)
  unfold ExtendDetectingIs at IM
  have IP := Lib.hid IM
  unfold GivesS at SP IP
  have hF := extL_len n P
  generalize extL n P = F at SP IP hF
  generalize extB n P = t at SP IP
  have TP := Lib.hid (fun W h => toInts (.slice aP P.length kP) P W h NP)
  have EP := Lib.hid (fun W a b (h : IntsAt W a P) h' => eqInts_same a b P W h h' (by omega))
  have MP := Lib.hid (fun W B a (h : Own W B a P) => markInts B a 1 P W h (by omega) (by omega) (by omega))
  obtain ⟨qP, hqP⟩ : ∃ q, (1 : Int) + (P.length : Int) = q := ⟨_, rfl⟩
  rw [hqP] at MP
  have lqP : 1 ≤ qP ∧ qP ≤ 10000000 := by omega
  have kneg : ¬ qP < 0 := by omega
  have EL := Lib.hid (fun W a b (h : IntsAt W a F) h' => eqInts_same a b F W h h' (by omega))
  have ML := Lib.hid (fun W B a (h : Own W B a F) => markInts B a 1 F W h (by omega) (by omega) (by omega))
  have HL := Lib.hid (fun W a h => heldInts a 1 F.length W h (by omega) (by omega) (by omega))
  obtain ⟨kf, hkf⟩ : ∃ kf, (1 : Int) + (F.length : Int) = kf := ⟨_, rfl⟩
  rw [hkf] at ML HL
  have kf0 : 0 ≤ kf := by omega
  have hok : (t != t) = false := by simp
  clear IM NP hkf hF hqP lqP
  generalize hnP : P.length = nP at HP TP LP
  clear hnP
  go_enter Try.func9, Try.ntmps9
  go_wp2_with fail
  refine (TP.out _ (HP.out.below B0.out)).mono ?_
  rintro e w1 ⟨uPP, rfl, -, o, bb⟩
  obtain ⟨gPP, nPP, qPP, rfl⟩ := o.form
  have IPP : Hid (∀ k, Value.ownBlock (.slice gPP nPP qPP) = some k → w.heap.size ≤ k ∧ k < w1.heap.size) := fun k hk => o.blk k hk
  have PP1 := Lib.hid o
  clear o
  have B1 := Lib.hid (below_up B0.out bb)
  have D1 : Hid (w.heap.size ≤ w1.heap.size) := bb.size
  clear bb B0
  go_wp2_with fail
  refine (SP.out _ _ PP1.out.reads).mono ?_
  rintro e w2 ⟨uW, rfl, o, bb⟩
  obtain ⟨gW, nW, qW, rfl⟩ := o.form
  have IW : Hid (∀ k, Value.ownBlock (.slice gW nW qW) = some k → w1.heap.size ≤ k ∧ k < w2.heap.size) := fun k hk => o.blk k hk
  have W2 := Lib.hid o
  clear o
  have B2 := Lib.hid (below_up B1.out bb)
  have D2 : Hid (w1.heap.size ≤ w2.heap.size) := bb.size
  clear bb B1 PP1
  go_wp2_with fail
  refine (TP.out _ (HP.out.below B2.out)).mono ?_
  rintro e w3 ⟨uXP, rfl, -, o, bb⟩
  obtain ⟨gXP, nXP, qXP, rfl⟩ := o.form
  have IXP : Hid (∀ k, Value.ownBlock (.slice gXP nXP qXP) = some k → w2.heap.size ≤ k ∧ k < w3.heap.size) := fun k hk => o.blk k hk
  have XP3 := Lib.hid o
  clear o
  have B3 := Lib.hid (below_up B2.out bb)
  have D3 : Hid (w2.heap.size ≤ w3.heap.size) := bb.size
  have W3 := Lib.hid (W2.out.below bb)
  clear bb B2 W2
  go_wp2_with fail
  refine (IP.out _ _ XP3.out.reads).mono ?_
  rintro e w4 ⟨uG, rfl, o, bb⟩
  obtain ⟨gG, nG, qG, rfl⟩ := o.form
  have IG : Hid (∀ k, Value.ownBlock (.slice gG nG qG) = some k → w3.heap.size ≤ k ∧ k < w4.heap.size) := fun k hk => o.blk k hk
  have G4 := Lib.hid o
  clear o
  have B4 := Lib.hid (below_up B3.out bb)
  have D4 : Hid (w3.heap.size ≤ w4.heap.size) := bb.size
  have W4 := Lib.hid (W3.out.below bb)
  have XP4 := Lib.hid (XP3.out.below bb)
  clear bb B3 W3 XP3
  go_wp2_with fail
  refine (EL.out _ _ _ G4.out.reads W4.out.reads).mono ?_
  rintro e w5 ⟨rfl, bb⟩
  have B5 := Lib.hid (below_up B4.out bb)
  have D5 : Hid (w4.heap.size ≤ w5.heap.size) := bb.size
  have W5 := Lib.hid (W4.out.below bb)
  have XP5 := Lib.hid (XP4.out.below bb)
  have G5 := Lib.hid (G4.out.below bb)
  clear bb B4 W4 XP4 G4
  go_wp2_with fail
  refine (TP.out _ (HP.out.below B5.out)).mono ?_
  rintro e w6 ⟨uY, rfl, -, o, bb⟩
  obtain ⟨gY, nY, qY, rfl⟩ := o.form
  have IY : Hid (∀ k, Value.ownBlock (.slice gY nY qY) = some k → w5.heap.size ≤ k ∧ k < w6.heap.size) := fun k hk => o.blk k hk
  have Y6 := Lib.hid o
  clear o
  have B6 := Lib.hid (below_up B5.out bb)
  have D6 : Hid (w5.heap.size ≤ w6.heap.size) := bb.size
  have W6 := Lib.hid (W5.out.below bb)
  have XP6 := Lib.hid (XP5.out.below bb)
  have G6 := Lib.hid (G5.out.below bb)
  clear bb B5 W5 XP5 G5
  go_wp2_with fail
  refine (EP.out _ _ _ XP6.out.reads Y6.out.reads).mono ?_
  rintro e w7 ⟨rfl, bb⟩
  have B7 := Lib.hid (below_up B6.out bb)
  have D7 : Hid (w6.heap.size ≤ w7.heap.size) := bb.size
  have W7 := Lib.hid (W6.out.below bb)
  have XP7 := Lib.hid (XP6.out.below bb)
  have G7 := Lib.hid (G6.out.below bb)
  clear bb B6 W6 XP6 G6 Y6
  go_wp2_with fail
  refine (MP.out _ _ _ XP7.out).mono ?_
  rintro e w8 ⟨rfl, oI, gI⟩
  have tI := Only.of_grown gI
  have B8 : Hid (Below w.heap.size w w8) := B7.out.trans (tI.below B7.out.size fun k hk => by have := IXP.out k hk; have := D1.out; have := D2.out; have := D3.out; have := D4.out; have := D5.out; have := D6.out; have := D7.out; omega)
  have D8 : Hid (w7.heap.size ≤ w8.heap.size) := tI.size
  have W8 := Lib.hid (W7.out.only tI fun k hk e => by have := IW.out k hk; have := IXP.out k e; have := D1.out; have := D2.out; have := D3.out; have := D4.out; have := D5.out; have := D6.out; have := D7.out; omega)
  have G8 := Lib.hid (G7.out.only tI fun k hk e => by have := IG.out k hk; have := IXP.out k e; have := D1.out; have := D2.out; have := D3.out; have := D4.out; have := D5.out; have := D6.out; have := D7.out; omega)
  clear oI gI tI B7 W7 XP7 G7
  go_wp2_with fail
  refine (EL.out _ _ _ G8.out.reads W8.out.reads).mono ?_
  rintro e w9 ⟨rfl, bb⟩
  have B9 := Lib.hid (below_up B8.out bb)
  have D9 : Hid (w8.heap.size ≤ w9.heap.size) := bb.size
  have W9 := Lib.hid (W8.out.below bb)
  have G9 := Lib.hid (G8.out.below bb)
  clear bb B8 W8 G8
  go_wp2_with fail
  refine (ML.out _ _ _ G9.out).mono ?_
  rintro e w10 ⟨rfl, oI, gI⟩
  have tI := Only.of_grown gI
  have B10 : Hid (Below w.heap.size w w10) := B9.out.trans (tI.below B9.out.size fun k hk => by have := IG.out k hk; have := D1.out; have := D2.out; have := D3.out; have := D4.out; have := D5.out; have := D6.out; have := D7.out; have := D8.out; have := D9.out; omega)
  have D10 : Hid (w9.heap.size ≤ w10.heap.size) := tI.size
  have W10 := Lib.hid (W9.out.only tI fun k hk e => by have := IW.out k hk; have := IG.out k e; have := D1.out; have := D2.out; have := D3.out; have := D4.out; have := D5.out; have := D6.out; have := D7.out; have := D8.out; have := D9.out; omega)
  have G10 : Hid (IntsAt w10 (.slice gG nG qG) (imarks 1 F.length)) := IntsAt.of_owns_n oI (imarks_length _ _)
  clear oI gI tI B9 W9 G9
  go_wp2_with fail
  refine (HL.out _ _ G10.out).mono ?_
  rintro e w11 ⟨rfl, rfl⟩
  go_wp2_with fail
  refine (TP.out _ (HP.out.below B10.out)).mono ?_
  rintro e w11 ⟨uZP, rfl, -, o, bb⟩
  obtain ⟨gZP, nZP, qZP, rfl⟩ := o.form
  have IZP : Hid (∀ k, Value.ownBlock (.slice gZP nZP qZP) = some k → w10.heap.size ≤ k ∧ k < w11.heap.size) := fun k hk => o.blk k hk
  have ZP11 := Lib.hid o
  clear o
  have B11 := Lib.hid (below_up B10.out bb)
  have D11 : Hid (w10.heap.size ≤ w11.heap.size) := bb.size
  have W11 := Lib.hid (W10.out.below bb)
  have G11 := Lib.hid (G10.out.below bb)
  clear bb B10 W10 G10
  go_wp2_with fail
  refine (IP.out _ _ ZP11.out.reads).mono ?_
  rintro e w12 ⟨uH, rfl, o, bb⟩
  obtain ⟨gH, nH, qH, rfl⟩ := o.form
  have IH : Hid (∀ k, Value.ownBlock (.slice gH nH qH) = some k → w11.heap.size ≤ k ∧ k < w12.heap.size) := fun k hk => o.blk k hk
  have H12 := Lib.hid o
  clear o
  have B12 := Lib.hid (below_up B11.out bb)
  have D12 : Hid (w11.heap.size ≤ w12.heap.size) := bb.size
  have W12 := Lib.hid (W11.out.below bb)
  have G12 := Lib.hid (G11.out.below bb)
  clear bb B11 W11 G11 ZP11
  go_wp2_with fail
  refine (EL.out _ _ _ H12.out.reads W12.out.reads).mono ?_
  rintro e w13 ⟨rfl, bb⟩
  have B13 := Lib.hid (below_up B12.out bb)
  have D13 : Hid (w12.heap.size ≤ w13.heap.size) := bb.size
  have G13 := Lib.hid (G12.out.below bb)
  clear bb B12 W12 G12 H12
  go_wp2_with fail
  refine (HL.out _ _ G13.out).mono ?_
  rintro e w14 ⟨rfl, rfl⟩
  go_wp2
  go_ret
  exact ⟨rfl, B13.out⟩

end Go.Proofs.Ytoliloophjeooaa
