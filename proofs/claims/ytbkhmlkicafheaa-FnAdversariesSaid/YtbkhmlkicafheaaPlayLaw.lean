/- The walk of the exact law of PlayAgainst round the contract of the program's function: the law returns true for every argument. Condition: the slice that came in reads as picks. -/
import Derived.Test.YtbkhmlkicafheaaPlaySpec
import Derived.Test.YtbkhmlkicafheaaAfterLaw
import Derived.Test.YtbkhmlkicafheaaGSearch
namespace Go.Proofs.Ytbkhmlkicafheaa
open Go.RowKit

/-- The contract of a function that plays against an adversary. -/
def PlayIs (f : FuncId) (s : SD) (P : List PD) : Prop := ∀ W v, PicksAt W v P → Calls Try.prog f #[stateV s, v] W (Plays (playR s P) W)
theorem outsR_len (s : SD) (P : List PD) : (outsR (playR s P)).length ≤ 10 := by
  unfold playR
  split
  · rename_i h
    rw [Bool.and_eq_true, decide_eq_true_eq] at h
    cases hp : playO s P with
    | none => simp [outsR]
    | some r =>
      obtain ⟨-, h2, -⟩ := playO_valid h.1 hp
      have := h.2
      simp only [outsR]
      omega
  · simp [outsR]

set_option maxRecDepth 100000 in
set_option maxHeartbeats 6400000 in
theorem lawPlayAgainst (s : SD) (w : World) (v : Value) (P : List PD) (cp : PicksAt w v P) (cm : P.length ≤ maxLen) (IM : PlayIs 24 s P) :
    Calls Try.prog 6 #[stateV s, v] w fun e w' => e = .returned (.bool true) ∧ Below w.heap.size w w' := by
  have SZ := Lib.hid (fun W h => szPicks v P W h cm)
  have H0 := Lib.hid cp
  have T := Lib.hid (toStateL s)
  have P0 := Lib.hid (StateAt.new w 27 s)
  have B0 := Lib.hid (alloc_below w (.cells #[.int .i64 s.b, .int .i64 s.h, .int .i64 s.l, .int .i64 s.g] 27))
  obtain ⟨a0, k0, rfl, -⟩ := cp
  unfold PlayIs at IM
  have IP := Lib.hid IM
  have SP := Lib.hid (fun W v h => specPlay s v P W h)
  unfold Plays at IP SP
  have hF := outsR_len s P
  generalize (playR s P).isSome = ok at SP IP
  generalize lastR (playR s P) = t at SP IP
  generalize outsR (playR s P) = F at SP IP hF
  have ES := Lib.hid (eqStateL t)
  clear cm IM
  generalize hX0 : w.alloc (.cells #[.int .i64 s.b, .int .i64 s.h, .int .i64 s.l, .int .i64 s.g] 27) = X0 at P0 B0
  unfold stateV at T SP IP ES ⊢
  go_enter Try.func6, Try.ntmps6
  go_wp2_with fail
  refine (SZ.out _ (H0.out.below B0.out)).mono ?_
  rintro e w1 ⟨r, rfl, hr, bb⟩
  have B1 := Lib.hid (below_up B0.out bb)
  have P1 := Lib.hid (P0.out.below bb)
  clear bb hX0 P0 B0
  by_cases hneg : r < 0
  · go_wp2
    go_ret
    exact ⟨rfl, B1.out⟩
  · obtain ⟨r0, r1, hsz⟩ : 0 ≤ r ∧ r ≤ 1048576 ∧ P.length ≤ 1048576 := by
      unfold SzK at hr
      rcases hr with h | h
      · omega
      · exact h
    have TP := Lib.hid (fun W h => toPicks (.slice a0 P.length k0) P W h hsz)
    have EQ := Lib.hid (fun W a b h h' => eqPicks a b P W h h' hsz)
    have MK := Lib.hid (fun W lo hi u hu => markPicks lo hi u P W hu hsz)
    have EL := Lib.hid (fun W a b (h : IntsAt W a F) h' => eqInts_same a b F W h h' (by omega))
    have ML := Lib.hid (fun W B a (h : Own W B a F) => markInts B a 1 F W h (by omega) (by omega) (by omega))
    have HL := Lib.hid (fun W a h => heldInts a 1 F.length W h (by omega) (by omega) (by omega))
    obtain ⟨kf, hkf⟩ : ∃ kf, (1 : Int) + (F.length : Int) = kf := ⟨_, rfl⟩
    rw [hkf] at ML HL
    have kf0 : 0 ≤ kf := by omega
    have hok : (ok != ok) = false := by simp
    clear hr hsz hkf hF r1
    generalize P.length = n at H0 TP SZ
    obtain ⟨e0, e1, e2, e3, -⟩ := P1.out
    go_wp2_with fail
    refine (T.out _).mono ?_
    rintro e w2 ⟨rfl, bb⟩
    have B2 := Lib.hid (below_up B1.out bb)
    have P2 := Lib.hid (P1.out.below bb)
    clear bb e0 e1 e2 e3 P1 B1
    go_wp2_with fail
    refine (TP.out _ (H0.out.below B2.out)).mono ?_
    rintro e w3 ⟨u3, rfl, o3, bb⟩
    obtain ⟨g3, n3, q3, rfl⟩ := o3.form
    have B3 := Lib.hid (below_up B2.out bb)
    have P3 := Lib.hid (P2.out.below bb)
    have R3 := Lib.hid o3.reads
    clear o3 bb P2 B2
    go_wp2_with fail
    refine (SP.out _ _ R3.out).mono ?_
    rintro e w4 ⟨u4, rfl, o4, bb⟩
    obtain ⟨g4, n4, q4, rfl⟩ := o4.form
    have aa := alloc_below w4 (.cells #[.int .i64 t.b, .int .i64 t.h, .int .i64 t.l, .int .i64 t.g] 32)
    have S5 := Lib.hid (StateAt.new w4 32 t)
    have B5 := Lib.hid (below_up (below_up B3.out bb) aa)
    have P5 := Lib.hid ((P3.out.below bb).below aa)
    have W5 := Lib.hid (o4.below aa)
    obtain ⟨d4, hd4⟩ : ∃ d, w4.heap.size = d := ⟨_, rfl⟩
    have WB : Hid (∀ k, Value.ownBlock (.slice g4 n4 q4) = some k → k < d4) := fun k hk => by rw [← hd4]; exact (o4.blk k hk).2
    have D5 : Hid (d4 < (w4.alloc (.cells #[.int .i64 t.b, .int .i64 t.h, .int .i64 t.l, .int .i64 t.g] 32)).heap.size) := by unfold Hid; rw [← hd4]; simp
    have DW : Hid (w.heap.size < d4) := by have := (P3.out.below bb).lt; unfold Hid; omega
    rw [hd4] at S5
    generalize hX5 : w4.alloc (.cells #[.int .i64 t.b, .int .i64 t.h, .int .i64 t.l, .int .i64 t.g] 32) = w5 at S5 B5 P5 W5 D5
    clear o4 bb aa R3 P3 B3
    go_wp2_with fail
    clear hX5
    refine (TP.out _ (H0.out.below B5.out)).mono ?_
    rintro e w6 ⟨u6, rfl, o6, bb⟩
    have X6 := Lib.hid o6.all
    obtain ⟨g6, n6, q6, rfl⟩ := o6.form
    have B6 := Lib.hid (below_up B5.out bb)
    have P6 := Lib.hid (P5.out.below bb)
    have S6 := Lib.hid (S5.out.below bb)
    have W6 := Lib.hid (W5.out.below bb)
    have D6 : Hid (w5.heap.size ≤ w6.heap.size) := bb.size
    clear o6 bb B5 P5 S5 W5
    obtain ⟨e0, e1, e2, e3, -⟩ := P6.out
    go_wp2_with fail
    refine (T.out _).mono ?_
    rintro e w7 ⟨rfl, bb⟩
    have B7 := Lib.hid (below_up B6.out bb)
    have P7 := Lib.hid (P6.out.below bb)
    have S7 := Lib.hid (S6.out.below bb)
    have W7 := Lib.hid (W6.out.below bb)
    have X7 := Lib.hid (X6.out.below bb)
    have D7 : Hid (w6.heap.size ≤ w7.heap.size) := bb.size
    clear bb e0 e1 e2 e3 P6 B6 S6 W6 X6
    go_wp2_with fail
    refine (IP.out _ _ X7.out.reads).mono ?_
    rintro e w8 ⟨u8, rfl, o8, bb⟩
    obtain ⟨g8, n8, q8, rfl⟩ := o8.form
    have aa := alloc_below w8 (.cells #[.int .i64 t.b, .int .i64 t.h, .int .i64 t.l, .int .i64 t.g] 32)
    have V9 := Lib.hid (StateAt.new w8 32 t)
    have B9 := Lib.hid (below_up (below_up B7.out bb) aa)
    have P9 := Lib.hid ((P7.out.below bb).below aa)
    have S9 := Lib.hid ((S7.out.below bb).below aa)
    have W9 := Lib.hid ((W7.out.below bb).below aa)
    have X9 := Lib.hid ((X7.out.below bb).below aa)
    have G9 := Lib.hid (o8.below aa)
    obtain ⟨d8, hd8⟩ : ∃ d, w8.heap.size = d := ⟨_, rfl⟩
    have D8 : Hid (w7.heap.size ≤ d8) := by unfold Hid; rw [← hd8]; exact bb.size
    have GB : Hid (∀ k, Value.ownBlock (.slice g8 n8 q8) = some k → w7.heap.size ≤ k ∧ k < d8) := fun k hk => by rw [← hd8]; exact o8.blk k hk
    have D9 : Hid (d8 < (w8.alloc (.cells #[.int .i64 t.b, .int .i64 t.h, .int .i64 t.l, .int .i64 t.g] 32)).heap.size) := by unfold Hid; rw [← hd8]; simp
    rw [hd8] at V9
    generalize hX9 : w8.alloc (.cells #[.int .i64 t.b, .int .i64 t.h, .int .i64 t.l, .int .i64 t.g] 32) = w9 at V9 B9 P9 S9 W9 X9 G9 D9
    clear o8 bb aa P7 B7 S7 W7 X7
    go_wp2_with fail
    clear hX9
    refine (EL.out _ _ _ G9.out.reads W9.out.reads).mono ?_
    rintro e wA ⟨rfl, bb⟩
    have BA := Lib.hid (below_up B9.out bb)
    have PA := Lib.hid (P9.out.below bb)
    have SA := Lib.hid (S9.out.below bb)
    have WA := Lib.hid (W9.out.below bb)
    have XA := Lib.hid (X9.out.below bb)
    have GA := Lib.hid (G9.out.below bb)
    have VA := Lib.hid (V9.out.below bb)
    clear bb B9 P9 S9 W9 X9 G9 V9
    obtain ⟨e0, e1, e2, e3, -⟩ := SA.out
    obtain ⟨f0, f1, f2, f3, -⟩ := VA.out
    go_wp2_with fail
    refine (ES.out _).mono ?_
    rintro e wC ⟨rfl, bb⟩
    have BC := Lib.hid (below_up BA.out bb)
    have PC := Lib.hid (PA.out.below bb)
    have SC := Lib.hid (SA.out.below bb)
    have WC := Lib.hid (WA.out.below bb)
    have XC := Lib.hid (XA.out.below bb)
    have GC := Lib.hid (GA.out.below bb)
    have VC := Lib.hid (VA.out.below bb)
    clear bb BA PA SA WA XA GA VA e0 e1 e2 e3 f0 f1 f2 f3
    go_wp2_with fail
    refine (TP.out _ (H0.out.below BC.out)).mono ?_
    rintro e wD ⟨uD, rfl, oD, bb⟩
    obtain ⟨gD, nD, qD, rfl⟩ := oD.form
    have BD := Lib.hid (below_up BC.out bb)
    have PD := Lib.hid (PC.out.below bb)
    have SD := Lib.hid (SC.out.below bb)
    have WD := Lib.hid (WC.out.below bb)
    have XD := Lib.hid (XC.out.below bb)
    have GD := Lib.hid (GC.out.below bb)
    have VD := Lib.hid (VC.out.below bb)
    have YD := Lib.hid oD.reads
    clear bb BC PC SC WC XC GC VC oD
    go_wp2_with fail
    refine (EQ.out _ _ _ XD.out.reads YD.out).mono ?_
    rintro e wE ⟨rfl, bb⟩
    have BE := Lib.hid (below_up BD.out bb)
    have PE := Lib.hid (PD.out.below bb)
    have SE := Lib.hid (SD.out.below bb)
    have WE := Lib.hid (WD.out.below bb)
    have XE := Lib.hid (XD.out.below bb)
    have GE := Lib.hid (GD.out.below bb)
    have VE := Lib.hid (VD.out.below bb)
    clear bb BD PD SD WD XD GD VD YD
    go_wp2_with fail
    refine (MK.out _ _ _ _ XE.out).mono ?_
    rintro e wF ⟨rF, rfl, pF, tF⟩
    have BF : Hid (Below w.heap.size w wF) := BE.out.trans (tF.below BE.out.size fun k hk => by have := DW.out; have := D5.out; omega)
    have PF := Lib.hid (PE.out.only tF (by have := DW.out; have := D5.out; omega))
    have SF := Lib.hid (SE.out.only tF (by have := D5.out; omega))
    have WF := Lib.hid (WE.out.only tF fun k hk e => by have := WB.out k hk; have := D5.out; omega)
    have GF := Lib.hid (GE.out.only tF fun k hk e => by have := GB.out k hk; have := D7.out; omega)
    have VF := Lib.hid (VE.out.only tF (by have := D7.out; have := D8.out; omega))
    have pF' : ¬ rF < 0 := by omega
    clear tF BE PE SE WE XE GE VE
    go_wp2_with fail
    refine (EL.out _ _ _ GF.out.reads WF.out.reads).mono ?_
    rintro e wG ⟨rfl, bb⟩
    have BG := Lib.hid (below_up BF.out bb)
    have PG := Lib.hid (PF.out.below bb)
    have SG := Lib.hid (SF.out.below bb)
    have WG := Lib.hid (WF.out.below bb)
    have GG := Lib.hid (GF.out.below bb)
    have VG := Lib.hid (VF.out.below bb)
    clear bb BF PF SF WF GF VF
    obtain ⟨e0, e1, e2, e3, -⟩ := SG.out
    obtain ⟨f0, f1, f2, f3, -⟩ := VG.out
    go_wp2_with fail
    refine (ES.out _).mono ?_
    rintro e wH ⟨rfl, bb⟩
    have BH := Lib.hid (below_up BG.out bb)
    have PH := Lib.hid (PG.out.below bb)
    have SH := Lib.hid (SG.out.below bb)
    have WH := Lib.hid (WG.out.below bb)
    have GH := Lib.hid (GG.out.below bb)
    clear bb BG PG SG WG GG VG e0 e1 e2 e3 f0 f1 f2 f3
    go_wp2_with fail
    refine (ML.out _ _ _ GH.out).mono ?_
    rintro e wI ⟨rfl, oI, gI⟩
    have tI := Only.of_grown gI
    have BI : Hid (Below w.heap.size w wI) := BH.out.trans (tI.below BH.out.size fun k hk => by have := GB.out k hk; have := DW.out; have := D5.out; have := D6.out; have := D7.out; omega)
    have PI := Lib.hid (PH.out.only tI fun e => by have := GB.out _ e; have := DW.out; have := D5.out; have := D6.out; have := D7.out; omega)
    have SI := Lib.hid (SH.out.only tI fun e => by have := GB.out _ e; have := D5.out; have := D6.out; have := D7.out; omega)
    have WI := Lib.hid (WH.out.only tI fun k hk e => by have := WB.out k hk; have := GB.out k e; have := D5.out; have := D6.out; have := D7.out; omega)
    have GI : Hid (IntsAt wI (.slice g8 n8 q8) (imarks 1 F.length)) := IntsAt.of_owns_n oI (imarks_length _ _)
    clear oI gI tI BH PH SH WH GH
    go_wp2_with fail
    refine (HL.out _ _ GI.out).mono ?_
    rintro e wJ ⟨rfl, rfl⟩
    obtain ⟨e0, e1, e2, e3, -⟩ := PI.out
    go_wp2_with fail
    refine (T.out _).mono ?_
    rintro e wK ⟨rfl, bb⟩
    have BK := Lib.hid (below_up BI.out bb)
    have SK := Lib.hid (SI.out.below bb)
    have WK := Lib.hid (WI.out.below bb)
    have GK := Lib.hid (GI.out.below bb)
    clear bb e0 e1 e2 e3 BI PI SI WI GI
    go_wp2_with fail
    refine (TP.out _ (H0.out.below BK.out)).mono ?_
    rintro e wL ⟨uL, rfl, oL, bb⟩
    obtain ⟨gL, nL, qL, rfl⟩ := oL.form
    have BL := Lib.hid (below_up BK.out bb)
    have SL := Lib.hid (SK.out.below bb)
    have WL := Lib.hid (WK.out.below bb)
    have GL := Lib.hid (GK.out.below bb)
    have YL := Lib.hid oL.reads
    clear bb oL BK SK WK GK
    go_wp2_with fail
    refine (IP.out _ _ YL.out).mono ?_
    rintro e wM ⟨uM, rfl, oM, bb⟩
    obtain ⟨gM, nM, qM, rfl⟩ := oM.form
    have aa := alloc_below wM (.cells #[.int .i64 t.b, .int .i64 t.h, .int .i64 t.l, .int .i64 t.g] 32)
    have VN := Lib.hid (StateAt.new wM 32 t)
    have BN := Lib.hid (below_up (below_up BL.out bb) aa)
    have SN := Lib.hid ((SL.out.below bb).below aa)
    have WN := Lib.hid ((WL.out.below bb).below aa)
    have GN := Lib.hid ((GL.out.below bb).below aa)
    have IN := Lib.hid (oM.below aa).reads
    generalize hXN : wM.alloc (.cells #[.int .i64 t.b, .int .i64 t.h, .int .i64 t.l, .int .i64 t.g] 32) = wN at VN BN SN WN GN IN
    clear bb aa oM BL SL WL GL YL
    go_wp2_with fail
    clear hXN
    refine (EL.out _ _ _ IN.out WN.out.reads).mono ?_
    rintro e wO ⟨rfl, bb⟩
    have BO := Lib.hid (below_up BN.out bb)
    have SO := Lib.hid (SN.out.below bb)
    have GO := Lib.hid (GN.out.below bb)
    have VO := Lib.hid (VN.out.below bb)
    clear bb BN SN WN GN IN VN
    obtain ⟨e0, e1, e2, e3, -⟩ := SO.out
    obtain ⟨f0, f1, f2, f3, -⟩ := VO.out
    go_wp2_with fail
    refine (ES.out _).mono ?_
    rintro e wP ⟨rfl, bb⟩
    have BP := Lib.hid (below_up BO.out bb)
    have GP := Lib.hid (GO.out.below bb)
    clear bb e0 e1 e2 e3 f0 f1 f2 f3 BO SO GO VO
    go_wp2_with fail
    refine (HL.out _ _ GP.out).mono ?_
    rintro e wQ ⟨rfl, rfl⟩
    go_wp2
    go_ret
    exact ⟨rfl, BP.out⟩
end Go.Proofs.Ytbkhmlkicafheaa
