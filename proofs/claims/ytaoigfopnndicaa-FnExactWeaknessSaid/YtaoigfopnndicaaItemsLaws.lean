/- The walks of the exact laws of DecodeItems, SinglePools and BitPools round the contracts of the program's functions: each returns true for every argument. Condition: the slices that came in read as integers and as truth values. -/
import Derived.Test.YtaoigfopnndicaaItemsSpec
namespace Go.Proofs.Ytaoigfopnndicaa
open Go.RowKit

theorem singO_len (n : Int) : (singO n).length ≤ 20 := by
  unfold singO
  split
  · rename_i h
    unfold itemsB at h
    rw [Bool.and_eq_true, decide_eq_true_eq, decide_eq_true_eq] at h
    rw [singK_len]
    omega
  · simp
theorem bitsO_len (n : Int) : (bitsO n).length ≤ 20 := by
  unfold bitsO
  split
  · rw [bitsK_len]
    have := bitN_is n
    omega
  · simp
/-- The contracts of the program's functions. -/
def DecodeItemsIs (f : FuncId) (n : Int) (P : List Int) (R : List Bool) : Prop := ∀ W vP vR, IntsAt W vP P → BoolsAt W vR R → Calls Try.prog f #[.int .i64 n, vP, vR] W fun e w' => e = .returned (.tuple #[.int .i64 (decV n P R), .bool (decB n P R)]) ∧ Below W.heap.size W w'
def SinglePoolsIs (f : FuncId) (n : Int) : Prop := ∀ W, Calls Try.prog f #[.int .i64 n] W (Gives (singO n) (itemsB n) W)
def BitPoolsIs (f : FuncId) (n : Int) : Prop := ∀ W, Calls Try.prog f #[.int .i64 n] W (Gives (bitsO n) (itemsB n) W)

set_option maxRecDepth 100000 in
set_option maxHeartbeats 3200000 in
theorem lawDecodeItems (n : Int) (P : List Int) (R : List Bool) (w : World) (vP : Value) (vR : Value) (cP : IntsAt w vP P) (cR : BoolsAt w vR R) (IM : P.length ≤ 1048576 → R.length ≤ 1048576 → DecodeItemsIs 29 n P R) :
    Calls Try.prog 9 #[.int .i64 n, vP, vR] w fun e w' => e = .returned (.bool true) ∧ Below w.heap.size w w' := by
  have HP := Lib.hid cP
  have HR := Lib.hid cR
  have B0 := Lib.hid (Below.refl w.heap.size w)
  obtain ⟨aP, kP, rfl, -⟩ := cP
  obtain ⟨aR, kR, rfl, -⟩ := cR
  by_cases LP : 1048576 < P.length
  · go_enter Try.func9, Try.ntmps9
    go_wp2
    go_ret
    exact ⟨rfl, B0.out⟩
  by_cases LR : 1048576 < R.length
  · go_enter Try.func9, Try.ntmps9
    go_wp2
    go_ret
    exact ⟨rfl, B0.out⟩
  have NP : P.length ≤ 1048576 := by omega
  have NR : R.length ≤ 1048576 := by omega
  replace IM := IM NP NR
  have SP := Lib.hid (fun W u0 u1 h0 h1 => specDecodeItems n u0 u1 P R W h0 h1 NP NR)
  unfold DecodeItemsIs at IM
  have IP := Lib.hid IM
  generalize decV n P R = x at SP IP
  generalize decB n P R = b at SP IP
  have TP := Lib.hid (fun W h => toInts (.slice aP P.length kP) P W h NP)
  have EP := Lib.hid (fun W a b (h : IntsAt W a P) h' => eqInts_same a b P W h h' (by omega))
  have TR := Lib.hid (fun W h => toBools (.slice aR R.length kR) R W h NR)
  have ER := Lib.hid (fun W a b (h : BoolsAt W a R) h' => eqBools_same a b R W h h' (by omega))
  have hok : (b != b) = false := by simp
  clear IM NP NR
  generalize hnP : P.length = nP at HP TP LP
  generalize hnR : R.length = nR at HR TR LR
  clear hnP hnR
  go_enter Try.func9, Try.ntmps9
  go_wp2_with fail
  refine (TP.out _ (HP.out.below B0.out)).mono ?_
  rintro e w1 ⟨uPP, rfl, -, o, bb⟩
  obtain ⟨gPP, nPP, qPP, rfl⟩ := o.form
  have IPP : Hid (∀ k, Value.ownBlock (.slice gPP nPP qPP) = some k → w.heap.size ≤ k ∧ k < w1.heap.size) := fun k hk => o.blk k hk
  have PP1 := Lib.hid o
  clear o
  have B1 := Lib.hid (below_up B0.out bb)
  have D1 : Hid (w.heap.size ≤ w1.heap.size) := bb.size
  clear bb B0
  go_wp2_with fail
  refine (TR.out _ (HR.out.below B1.out)).mono ?_
  rintro e w2 ⟨uPR, rfl, -, o, bb⟩
  obtain ⟨gPR, nPR, qPR, rfl⟩ := o.form
  have IPR : Hid (∀ k, Value.ownBlock (.slice gPR nPR qPR) = some k → w1.heap.size ≤ k ∧ k < w2.heap.size) := fun k hk => o.blk k hk
  have PR2 := Lib.hid o
  clear o
  have B2 := Lib.hid (below_up B1.out bb)
  have D2 : Hid (w1.heap.size ≤ w2.heap.size) := bb.size
  have PP2 := Lib.hid (PP1.out.below bb)
  clear bb B1 PP1
  go_wp2_with fail
  refine (SP.out _ _ _ PP2.out.reads PR2.out.reads).mono ?_
  rintro e w3 ⟨rfl, bb⟩
  have B3 := Lib.hid (below_up B2.out bb)
  have D3 : Hid (w2.heap.size ≤ w3.heap.size) := bb.size
  clear bb B2 PP2 PR2
  go_wp2_with fail
  refine (TP.out _ (HP.out.below B3.out)).mono ?_
  rintro e w4 ⟨uXP, rfl, -, o, bb⟩
  obtain ⟨gXP, nXP, qXP, rfl⟩ := o.form
  have IXP : Hid (∀ k, Value.ownBlock (.slice gXP nXP qXP) = some k → w3.heap.size ≤ k ∧ k < w4.heap.size) := fun k hk => o.blk k hk
  have XP4 := Lib.hid o
  clear o
  have B4 := Lib.hid (below_up B3.out bb)
  have D4 : Hid (w3.heap.size ≤ w4.heap.size) := bb.size
  clear bb B3
  go_wp2_with fail
  refine (TR.out _ (HR.out.below B4.out)).mono ?_
  rintro e w5 ⟨uXR, rfl, -, o, bb⟩
  obtain ⟨gXR, nXR, qXR, rfl⟩ := o.form
  have IXR : Hid (∀ k, Value.ownBlock (.slice gXR nXR qXR) = some k → w4.heap.size ≤ k ∧ k < w5.heap.size) := fun k hk => o.blk k hk
  have XR5 := Lib.hid o
  clear o
  have B5 := Lib.hid (below_up B4.out bb)
  have D5 : Hid (w4.heap.size ≤ w5.heap.size) := bb.size
  have XP5 := Lib.hid (XP4.out.below bb)
  clear bb B4 XP4
  go_wp2_with fail
  refine (IP.out _ _ _ XP5.out.reads XR5.out.reads).mono ?_
  rintro e w6 ⟨rfl, bb⟩
  have B6 := Lib.hid (below_up B5.out bb)
  have D6 : Hid (w5.heap.size ≤ w6.heap.size) := bb.size
  have XP6 := Lib.hid (XP5.out.below bb)
  have XR6 := Lib.hid (XR5.out.below bb)
  clear bb B5 XP5 XR5
  go_wp2_with fail
  refine (TP.out _ (HP.out.below B6.out)).mono ?_
  rintro e w7 ⟨uY, rfl, -, o, bb⟩
  obtain ⟨gY, nY, qY, rfl⟩ := o.form
  have IY : Hid (∀ k, Value.ownBlock (.slice gY nY qY) = some k → w6.heap.size ≤ k ∧ k < w7.heap.size) := fun k hk => o.blk k hk
  have Y7 := Lib.hid o
  clear o
  have B7 := Lib.hid (below_up B6.out bb)
  have D7 : Hid (w6.heap.size ≤ w7.heap.size) := bb.size
  have XP7 := Lib.hid (XP6.out.below bb)
  have XR7 := Lib.hid (XR6.out.below bb)
  clear bb B6 XP6 XR6
  go_wp2_with fail
  refine (EP.out _ _ _ XP7.out.reads Y7.out.reads).mono ?_
  rintro e w8 ⟨rfl, bb⟩
  have B8 := Lib.hid (below_up B7.out bb)
  have D8 : Hid (w7.heap.size ≤ w8.heap.size) := bb.size
  have XR8 := Lib.hid (XR7.out.below bb)
  clear bb B7 XP7 XR7 Y7
  go_wp2_with fail
  refine (TR.out _ (HR.out.below B8.out)).mono ?_
  rintro e w9 ⟨uY, rfl, -, o, bb⟩
  obtain ⟨gY, nY, qY, rfl⟩ := o.form
  have IY : Hid (∀ k, Value.ownBlock (.slice gY nY qY) = some k → w8.heap.size ≤ k ∧ k < w9.heap.size) := fun k hk => o.blk k hk
  have Y9 := Lib.hid o
  clear o
  have B9 := Lib.hid (below_up B8.out bb)
  have D9 : Hid (w8.heap.size ≤ w9.heap.size) := bb.size
  have XR9 := Lib.hid (XR8.out.below bb)
  clear bb B8 XR8
  go_wp2_with fail
  refine (ER.out _ _ _ XR9.out.reads Y9.out.reads).mono ?_
  rintro e w10 ⟨rfl, bb⟩
  have B10 := Lib.hid (below_up B9.out bb)
  have D10 : Hid (w9.heap.size ≤ w10.heap.size) := bb.size
  clear bb B9 XR9 Y9
  go_wp2
  go_ret
  exact ⟨rfl, B10.out⟩

set_option maxRecDepth 100000 in
set_option maxHeartbeats 3200000 in
theorem lawSinglePools (n : Int) (w : World)   (IM : SinglePoolsIs 13 n) :
    Calls Try.prog 8 #[.int .i64 n] w fun e w' => e = .returned (.bool true) ∧ Below w.heap.size w w' := by
  have B0 := Lib.hid (Below.refl w.heap.size w)
  have SP := Lib.hid (fun W  => specSinglePools n W)
  unfold SinglePoolsIs at IM
  have IP := Lib.hid IM
  unfold Gives at SP IP
  have hF := singO_len n
  generalize singO n = F at SP IP hF
  generalize itemsB n = t at SP IP
  have EL := Lib.hid (fun W a b (h : IntsAt W a F) h' => eqInts_same a b F W h h' (by omega))
  have ML := Lib.hid (fun W B a (h : Own W B a F) => markInts B a 1 F W h (by omega) (by omega) (by omega))
  have HL := Lib.hid (fun W a h => heldInts a 1 F.length W h (by omega) (by omega) (by omega))
  obtain ⟨kf, hkf⟩ : ∃ kf, (1 : Int) + (F.length : Int) = kf := ⟨_, rfl⟩
  rw [hkf] at ML HL
  have kf0 : 0 ≤ kf := by omega
  have hok : (t != t) = false := by simp
  clear IM hkf hF
  go_enter Try.func8, Try.ntmps8
  go_wp2_with fail
  refine (SP.out _  ).mono ?_
  rintro e w1 ⟨uW, rfl, o, bb⟩
  obtain ⟨gW, nW, qW, rfl⟩ := o.form
  have IW : Hid (∀ k, Value.ownBlock (.slice gW nW qW) = some k → w.heap.size ≤ k ∧ k < w1.heap.size) := fun k hk => o.blk k hk
  have W1 := Lib.hid o
  clear o
  have B1 := Lib.hid (below_up B0.out bb)
  have D1 : Hid (w.heap.size ≤ w1.heap.size) := bb.size
  clear bb B0
  go_wp2_with fail
  refine (IP.out _  ).mono ?_
  rintro e w2 ⟨uG, rfl, o, bb⟩
  obtain ⟨gG, nG, qG, rfl⟩ := o.form
  have IG : Hid (∀ k, Value.ownBlock (.slice gG nG qG) = some k → w1.heap.size ≤ k ∧ k < w2.heap.size) := fun k hk => o.blk k hk
  have G2 := Lib.hid o
  clear o
  have B2 := Lib.hid (below_up B1.out bb)
  have D2 : Hid (w1.heap.size ≤ w2.heap.size) := bb.size
  have W2 := Lib.hid (W1.out.below bb)
  clear bb B1 W1
  go_wp2_with fail
  refine (EL.out _ _ _ G2.out.reads W2.out.reads).mono ?_
  rintro e w3 ⟨rfl, bb⟩
  have B3 := Lib.hid (below_up B2.out bb)
  have D3 : Hid (w2.heap.size ≤ w3.heap.size) := bb.size
  have W3 := Lib.hid (W2.out.below bb)
  have G3 := Lib.hid (G2.out.below bb)
  clear bb B2 W2 G2
  go_wp2_with fail
  refine (ML.out _ _ _ G3.out).mono ?_
  rintro e w4 ⟨rfl, oI, gI⟩
  have tI := Only.of_grown gI
  have B4 : Hid (Below w.heap.size w w4) := B3.out.trans (tI.below B3.out.size fun k hk => by have := IG.out k hk; have := D1.out; have := D2.out; have := D3.out; omega)
  have D4 : Hid (w3.heap.size ≤ w4.heap.size) := tI.size
  have W4 := Lib.hid (W3.out.only tI fun k hk e => by have := IW.out k hk; have := IG.out k e; have := D1.out; have := D2.out; have := D3.out; omega)
  have G4 : Hid (IntsAt w4 (.slice gG nG qG) (imarks 1 F.length)) := IntsAt.of_owns_n oI (imarks_length _ _)
  clear oI gI tI B3 W3 G3
  go_wp2_with fail
  refine (HL.out _ _ G4.out).mono ?_
  rintro e w5 ⟨rfl, rfl⟩
  go_wp2_with fail
  refine (IP.out _  ).mono ?_
  rintro e w5 ⟨uH, rfl, o, bb⟩
  obtain ⟨gH, nH, qH, rfl⟩ := o.form
  have IH : Hid (∀ k, Value.ownBlock (.slice gH nH qH) = some k → w4.heap.size ≤ k ∧ k < w5.heap.size) := fun k hk => o.blk k hk
  have H5 := Lib.hid o
  clear o
  have B5 := Lib.hid (below_up B4.out bb)
  have D5 : Hid (w4.heap.size ≤ w5.heap.size) := bb.size
  have W5 := Lib.hid (W4.out.below bb)
  have G5 := Lib.hid (G4.out.below bb)
  clear bb B4 W4 G4
  go_wp2_with fail
  refine (EL.out _ _ _ H5.out.reads W5.out.reads).mono ?_
  rintro e w6 ⟨rfl, bb⟩
  have B6 := Lib.hid (below_up B5.out bb)
  have D6 : Hid (w5.heap.size ≤ w6.heap.size) := bb.size
  have G6 := Lib.hid (G5.out.below bb)
  clear bb B5 W5 G5 H5
  go_wp2_with fail
  refine (HL.out _ _ G6.out).mono ?_
  rintro e w7 ⟨rfl, rfl⟩
  go_wp2
  go_ret
  exact ⟨rfl, B6.out⟩

set_option maxRecDepth 100000 in
set_option maxHeartbeats 3200000 in
theorem lawBitPools (n : Int) (w : World)   (IM : BitPoolsIs 12 n) :
    Calls Try.prog 7 #[.int .i64 n] w fun e w' => e = .returned (.bool true) ∧ Below w.heap.size w w' := by
  have B0 := Lib.hid (Below.refl w.heap.size w)
  have SP := Lib.hid (fun W  => specBitPools n W)
  unfold BitPoolsIs at IM
  have IP := Lib.hid IM
  unfold Gives at SP IP
  have hF := bitsO_len n
  generalize bitsO n = F at SP IP hF
  generalize itemsB n = t at SP IP
  have EL := Lib.hid (fun W a b (h : IntsAt W a F) h' => eqInts_same a b F W h h' (by omega))
  have ML := Lib.hid (fun W B a (h : Own W B a F) => markInts B a 1 F W h (by omega) (by omega) (by omega))
  have HL := Lib.hid (fun W a h => heldInts a 1 F.length W h (by omega) (by omega) (by omega))
  obtain ⟨kf, hkf⟩ : ∃ kf, (1 : Int) + (F.length : Int) = kf := ⟨_, rfl⟩
  rw [hkf] at ML HL
  have kf0 : 0 ≤ kf := by omega
  have hok : (t != t) = false := by simp
  clear IM hkf hF
  go_enter Try.func7, Try.ntmps7
  go_wp2_with fail
  refine (SP.out _  ).mono ?_
  rintro e w1 ⟨uW, rfl, o, bb⟩
  obtain ⟨gW, nW, qW, rfl⟩ := o.form
  have IW : Hid (∀ k, Value.ownBlock (.slice gW nW qW) = some k → w.heap.size ≤ k ∧ k < w1.heap.size) := fun k hk => o.blk k hk
  have W1 := Lib.hid o
  clear o
  have B1 := Lib.hid (below_up B0.out bb)
  have D1 : Hid (w.heap.size ≤ w1.heap.size) := bb.size
  clear bb B0
  go_wp2_with fail
  refine (IP.out _  ).mono ?_
  rintro e w2 ⟨uG, rfl, o, bb⟩
  obtain ⟨gG, nG, qG, rfl⟩ := o.form
  have IG : Hid (∀ k, Value.ownBlock (.slice gG nG qG) = some k → w1.heap.size ≤ k ∧ k < w2.heap.size) := fun k hk => o.blk k hk
  have G2 := Lib.hid o
  clear o
  have B2 := Lib.hid (below_up B1.out bb)
  have D2 : Hid (w1.heap.size ≤ w2.heap.size) := bb.size
  have W2 := Lib.hid (W1.out.below bb)
  clear bb B1 W1
  go_wp2_with fail
  refine (EL.out _ _ _ G2.out.reads W2.out.reads).mono ?_
  rintro e w3 ⟨rfl, bb⟩
  have B3 := Lib.hid (below_up B2.out bb)
  have D3 : Hid (w2.heap.size ≤ w3.heap.size) := bb.size
  have W3 := Lib.hid (W2.out.below bb)
  have G3 := Lib.hid (G2.out.below bb)
  clear bb B2 W2 G2
  go_wp2_with fail
  refine (ML.out _ _ _ G3.out).mono ?_
  rintro e w4 ⟨rfl, oI, gI⟩
  have tI := Only.of_grown gI
  have B4 : Hid (Below w.heap.size w w4) := B3.out.trans (tI.below B3.out.size fun k hk => by have := IG.out k hk; have := D1.out; have := D2.out; have := D3.out; omega)
  have D4 : Hid (w3.heap.size ≤ w4.heap.size) := tI.size
  have W4 := Lib.hid (W3.out.only tI fun k hk e => by have := IW.out k hk; have := IG.out k e; have := D1.out; have := D2.out; have := D3.out; omega)
  have G4 : Hid (IntsAt w4 (.slice gG nG qG) (imarks 1 F.length)) := IntsAt.of_owns_n oI (imarks_length _ _)
  clear oI gI tI B3 W3 G3
  go_wp2_with fail
  refine (HL.out _ _ G4.out).mono ?_
  rintro e w5 ⟨rfl, rfl⟩
  go_wp2_with fail
  refine (IP.out _  ).mono ?_
  rintro e w5 ⟨uH, rfl, o, bb⟩
  obtain ⟨gH, nH, qH, rfl⟩ := o.form
  have IH : Hid (∀ k, Value.ownBlock (.slice gH nH qH) = some k → w4.heap.size ≤ k ∧ k < w5.heap.size) := fun k hk => o.blk k hk
  have H5 := Lib.hid o
  clear o
  have B5 := Lib.hid (below_up B4.out bb)
  have D5 : Hid (w4.heap.size ≤ w5.heap.size) := bb.size
  have W5 := Lib.hid (W4.out.below bb)
  have G5 := Lib.hid (G4.out.below bb)
  clear bb B4 W4 G4
  go_wp2_with fail
  refine (EL.out _ _ _ H5.out.reads W5.out.reads).mono ?_
  rintro e w6 ⟨rfl, bb⟩
  have B6 := Lib.hid (below_up B5.out bb)
  have D6 : Hid (w5.heap.size ≤ w6.heap.size) := bb.size
  have G6 := Lib.hid (G5.out.below bb)
  clear bb B5 W5 G5 H5
  go_wp2_with fail
  refine (HL.out _ _ G6.out).mono ?_
  rintro e w7 ⟨rfl, rfl⟩
  go_wp2
  go_ret
  exact ⟨rfl, B6.out⟩

end Go.Proofs.Ytaoigfopnndicaa
