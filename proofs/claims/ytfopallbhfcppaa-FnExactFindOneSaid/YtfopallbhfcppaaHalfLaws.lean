/- The walks of the exact laws of FindOne, FindAll, CountHalving, WorstHalving, SkipTests and OneByOne round the contracts of the program's functions: each returns true for every argument. No condition. -/
import Derived.Test.YtfopallbhfcppaaHalfOne
import Derived.Test.YtfopallbhfcppaaHalfAll
namespace Go.Proofs.Ytfopallbhfcppaa
open Go.RowKit

/-- The contracts of the program's functions. -/
def FindOneIs (f : FuncId) (n b : Int) : Prop := ∀ W, Calls Try.prog f #[.int .i64 n, .int .i64 b] W (Finds (oneL n b) (oneK n b) (okOne n b) W)
def FindAllIs (f : FuncId) (n b : Int) : Prop := ∀ W, Calls Try.prog f #[.int .i64 n, .int .i64 b] W (Finds (allL n b) (allV n b) (okAll n b) W)
def CountHalvingIs (f : FuncId) (n b : Int) : Prop := ∀ W, Calls Try.prog f #[.int .i64 n, .int .i64 b] W fun e w' => e = .returned (.int .i64 (cntH n b)) ∧ Below W.heap.size W w'
def WorstHalvingIs (f : FuncId) (n d : Int) : Prop := ∀ W, Calls Try.prog f #[.int .i64 n, .int .i64 d] W fun e w' => e = .returned (.int .i64 (worstH n d)) ∧ Below W.heap.size W w'
def SkipTestsIs (f : FuncId) (n b : Int) : Prop := ∀ W, Calls Try.prog f #[.int .i64 n, .int .i64 b] W fun e w' => e = .returned (.int .i64 (skipH n b)) ∧ Below W.heap.size W w'
def OneByOneIs (f : FuncId) (n d : Int) : Prop := ∀ W, Calls Try.prog f #[.int .i64 n, .int .i64 d] W fun e w' => e = .returned (.bool (oneB n d)) ∧ Below W.heap.size W w'

set_option maxRecDepth 100000 in
set_option maxHeartbeats 3200000 in
theorem lawFindOne (n : Int) (b : Int) (w : World)   (IM : FindOneIs 20 n b) :
    Calls Try.prog 5 #[.int .i64 n, .int .i64 b] w fun e w' => e = .returned (.bool true) ∧ Below w.heap.size w w' := by
  have B0 := Lib.hid (Below.refl w.heap.size w)
  have SP := Lib.hid (fun W  => specFindOne n b W)
  unfold FindOneIs at IM
  have IP := Lib.hid IM
  unfold Finds at SP IP
  have hF := oneL_len n b
  generalize oneL n b = F at SP IP hF
  generalize oneK n b = k at SP IP
  generalize okOne n b = t at SP IP
  have EL := Lib.hid (fun W a b (h : IntsAt W a F) h' => eqInts_same a b F W h h' (by omega))
  have ML := Lib.hid (fun W B a (h : Own W B a F) => markInts B a 1 F W h (by omega) (by omega) (by omega))
  have HL := Lib.hid (fun W a h => heldInts a 1 F.length W h (by omega) (by omega) (by omega))
  obtain ⟨kf, hkf⟩ : ∃ kf, (1 : Int) + (F.length : Int) = kf := ⟨_, rfl⟩
  rw [hkf] at ML HL
  have kf0 : 0 ≤ kf := by omega
  have hok : (k != k) = false := by simp
  have hok1 : (t != t) = false := by simp
  clear IM hkf hF
  go_enter Try.func5, Try.ntmps5
  go_wp2_with fail
  refine (SP.out _  ).mono ?_
  rintro e w1 ⟨uW, rfl, o, bb⟩
  obtain ⟨gW, nW, qW, rfl⟩ := o.form
  have IW : Hid (∀ k, Value.ownBlock (.slice gW nW qW) = some k → w.heap.size ≤ k ∧ k < w1.heap.size) := fun k hk => o.blk k hk
  have W1 := Lib.hid o
  clear o
  have B1 := Lib.hid (below_up B0.out bb)
  have D1 : Hid (w.heap.size ≤ w1.heap.size) := bb.size
  clear bb B0
  go_wp2_with fail
  refine (IP.out _  ).mono ?_
  rintro e w2 ⟨uG, rfl, o, bb⟩
  obtain ⟨gG, nG, qG, rfl⟩ := o.form
  have IG : Hid (∀ k, Value.ownBlock (.slice gG nG qG) = some k → w1.heap.size ≤ k ∧ k < w2.heap.size) := fun k hk => o.blk k hk
  have G2 := Lib.hid o
  clear o
  have B2 := Lib.hid (below_up B1.out bb)
  have D2 : Hid (w1.heap.size ≤ w2.heap.size) := bb.size
  have W2 := Lib.hid (W1.out.below bb)
  clear bb B1 W1
  go_wp2_with fail
  refine (EL.out _ _ _ G2.out.reads W2.out.reads).mono ?_
  rintro e w3 ⟨rfl, bb⟩
  have B3 := Lib.hid (below_up B2.out bb)
  have D3 : Hid (w2.heap.size ≤ w3.heap.size) := bb.size
  have W3 := Lib.hid (W2.out.below bb)
  have G3 := Lib.hid (G2.out.below bb)
  clear bb B2 W2 G2
  go_wp2_with fail
  refine (ML.out _ _ _ G3.out).mono ?_
  rintro e w4 ⟨rfl, oI, gI⟩
  have tI := Only.of_grown gI
  have B4 : Hid (Below w.heap.size w w4) := B3.out.trans (tI.below B3.out.size fun k hk => by have := IG.out k hk; have := D1.out; have := D2.out; have := D3.out; omega)
  have D4 : Hid (w3.heap.size ≤ w4.heap.size) := tI.size
  have W4 := Lib.hid (W3.out.only tI fun k hk e => by have := IW.out k hk; have := IG.out k e; have := D1.out; have := D2.out; have := D3.out; omega)
  have G4 : Hid (IntsAt w4 (.slice gG nG qG) (imarks 1 F.length)) := IntsAt.of_owns_n oI (imarks_length _ _)
  clear oI gI tI B3 W3 G3
  go_wp2_with fail
  refine (HL.out _ _ G4.out).mono ?_
  rintro e w5 ⟨rfl, rfl⟩
  go_wp2_with fail
  refine (IP.out _  ).mono ?_
  rintro e w5 ⟨uH, rfl, o, bb⟩
  obtain ⟨gH, nH, qH, rfl⟩ := o.form
  have IH : Hid (∀ k, Value.ownBlock (.slice gH nH qH) = some k → w4.heap.size ≤ k ∧ k < w5.heap.size) := fun k hk => o.blk k hk
  have H5 := Lib.hid o
  clear o
  have B5 := Lib.hid (below_up B4.out bb)
  have D5 : Hid (w4.heap.size ≤ w5.heap.size) := bb.size
  have W5 := Lib.hid (W4.out.below bb)
  have G5 := Lib.hid (G4.out.below bb)
  clear bb B4 W4 G4
  go_wp2_with fail
  refine (EL.out _ _ _ H5.out.reads W5.out.reads).mono ?_
  rintro e w6 ⟨rfl, bb⟩
  have B6 := Lib.hid (below_up B5.out bb)
  have D6 : Hid (w5.heap.size ≤ w6.heap.size) := bb.size
  have G6 := Lib.hid (G5.out.below bb)
  clear bb B5 W5 G5 H5
  go_wp2_with fail
  refine (HL.out _ _ G6.out).mono ?_
  rintro e w7 ⟨rfl, rfl⟩
  go_wp2
  go_ret
  exact ⟨rfl, B6.out⟩

set_option maxRecDepth 100000 in
set_option maxHeartbeats 3200000 in
theorem lawFindAll (n : Int) (b : Int) (w : World)   (IM : FindAllIs 16 n b) :
    Calls Try.prog 6 #[.int .i64 n, .int .i64 b] w fun e w' => e = .returned (.bool true) ∧ Below w.heap.size w w' := by
  have B0 := Lib.hid (Below.refl w.heap.size w)
  have SP := Lib.hid (fun W  => specFindAll n b W)
  unfold FindAllIs at IM
  have IP := Lib.hid IM
  unfold Finds at SP IP
  have hF := allL_len n b
  generalize allL n b = F at SP IP hF
  generalize allV n b = k at SP IP
  generalize okAll n b = t at SP IP
  have EL := Lib.hid (fun W a b (h : IntsAt W a F) h' => eqInts_same a b F W h h' (by omega))
  have ML := Lib.hid (fun W B a (h : Own W B a F) => markInts B a 1 F W h (by omega) (by omega) (by omega))
  have HL := Lib.hid (fun W a h => heldInts a 1 F.length W h (by omega) (by omega) (by omega))
  obtain ⟨kf, hkf⟩ : ∃ kf, (1 : Int) + (F.length : Int) = kf := ⟨_, rfl⟩
  rw [hkf] at ML HL
  have kf0 : 0 ≤ kf := by omega
  have hok : (k != k) = false := by simp
  have hok1 : (t != t) = false := by simp
  clear IM hkf hF
  go_enter Try.func6, Try.ntmps6
  go_wp2_with fail
  refine (SP.out _  ).mono ?_
  rintro e w1 ⟨uW, rfl, o, bb⟩
  obtain ⟨gW, nW, qW, rfl⟩ := o.form
  have IW : Hid (∀ k, Value.ownBlock (.slice gW nW qW) = some k → w.heap.size ≤ k ∧ k < w1.heap.size) := fun k hk => o.blk k hk
  have W1 := Lib.hid o
  clear o
  have B1 := Lib.hid (below_up B0.out bb)
  have D1 : Hid (w.heap.size ≤ w1.heap.size) := bb.size
  clear bb B0
  go_wp2_with fail
  refine (IP.out _  ).mono ?_
  rintro e w2 ⟨uG, rfl, o, bb⟩
  obtain ⟨gG, nG, qG, rfl⟩ := o.form
  have IG : Hid (∀ k, Value.ownBlock (.slice gG nG qG) = some k → w1.heap.size ≤ k ∧ k < w2.heap.size) := fun k hk => o.blk k hk
  have G2 := Lib.hid o
  clear o
  have B2 := Lib.hid (below_up B1.out bb)
  have D2 : Hid (w1.heap.size ≤ w2.heap.size) := bb.size
  have W2 := Lib.hid (W1.out.below bb)
  clear bb B1 W1
  go_wp2_with fail
  refine (EL.out _ _ _ G2.out.reads W2.out.reads).mono ?_
  rintro e w3 ⟨rfl, bb⟩
  have B3 := Lib.hid (below_up B2.out bb)
  have D3 : Hid (w2.heap.size ≤ w3.heap.size) := bb.size
  have W3 := Lib.hid (W2.out.below bb)
  have G3 := Lib.hid (G2.out.below bb)
  clear bb B2 W2 G2
  go_wp2_with fail
  refine (ML.out _ _ _ G3.out).mono ?_
  rintro e w4 ⟨rfl, oI, gI⟩
  have tI := Only.of_grown gI
  have B4 : Hid (Below w.heap.size w w4) := B3.out.trans (tI.below B3.out.size fun k hk => by have := IG.out k hk; have := D1.out; have := D2.out; have := D3.out; omega)
  have D4 : Hid (w3.heap.size ≤ w4.heap.size) := tI.size
  have W4 := Lib.hid (W3.out.only tI fun k hk e => by have := IW.out k hk; have := IG.out k e; have := D1.out; have := D2.out; have := D3.out; omega)
  have G4 : Hid (IntsAt w4 (.slice gG nG qG) (imarks 1 F.length)) := IntsAt.of_owns_n oI (imarks_length _ _)
  clear oI gI tI B3 W3 G3
  go_wp2_with fail
  refine (HL.out _ _ G4.out).mono ?_
  rintro e w5 ⟨rfl, rfl⟩
  go_wp2_with fail
  refine (IP.out _  ).mono ?_
  rintro e w5 ⟨uH, rfl, o, bb⟩
  obtain ⟨gH, nH, qH, rfl⟩ := o.form
  have IH : Hid (∀ k, Value.ownBlock (.slice gH nH qH) = some k → w4.heap.size ≤ k ∧ k < w5.heap.size) := fun k hk => o.blk k hk
  have H5 := Lib.hid o
  clear o
  have B5 := Lib.hid (below_up B4.out bb)
  have D5 : Hid (w4.heap.size ≤ w5.heap.size) := bb.size
  have W5 := Lib.hid (W4.out.below bb)
  have G5 := Lib.hid (G4.out.below bb)
  clear bb B4 W4 G4
  go_wp2_with fail
  refine (EL.out _ _ _ H5.out.reads W5.out.reads).mono ?_
  rintro e w6 ⟨rfl, bb⟩
  have B6 := Lib.hid (below_up B5.out bb)
  have D6 : Hid (w5.heap.size ≤ w6.heap.size) := bb.size
  have G6 := Lib.hid (G5.out.below bb)
  clear bb B5 W5 G5 H5
  go_wp2_with fail
  refine (HL.out _ _ G6.out).mono ?_
  rintro e w7 ⟨rfl, rfl⟩
  go_wp2
  go_ret
  exact ⟨rfl, B6.out⟩

set_option maxRecDepth 100000 in
set_option maxHeartbeats 3200000 in
theorem lawCountHalving (n : Int) (b : Int) (w : World)   (IM : CountHalvingIs 17 n b) :
    Calls Try.prog 7 #[.int .i64 n, .int .i64 b] w fun e w' => e = .returned (.bool true) ∧ Below w.heap.size w w' := by
  have B0 := Lib.hid (Below.refl w.heap.size w)
  have SP := Lib.hid (fun W  => specCountH n b W)
  unfold CountHalvingIs at IM
  have IP := Lib.hid IM
  generalize cntH n b = c at SP IP
  clear IM
  go_enter Try.func7, Try.ntmps7
  go_wp2_with fail
  refine (SP.out _  ).mono ?_
  rintro e w1 ⟨rfl, bb⟩
  have B1 := Lib.hid (below_up B0.out bb)
  have D1 : Hid (w.heap.size ≤ w1.heap.size) := bb.size
  clear bb B0
  go_wp2_with fail
  refine (IP.out _  ).mono ?_
  rintro e w2 ⟨rfl, bb⟩
  have B2 := Lib.hid (below_up B1.out bb)
  have D2 : Hid (w1.heap.size ≤ w2.heap.size) := bb.size
  clear bb B1
  go_wp2
  go_ret
  exact ⟨rfl, B2.out⟩

set_option maxRecDepth 100000 in
set_option maxHeartbeats 3200000 in
theorem lawWorstHalving (n : Int) (d : Int) (w : World)   (IM : WorstHalvingIs 21 n d) :
    Calls Try.prog 8 #[.int .i64 n, .int .i64 d] w fun e w' => e = .returned (.bool true) ∧ Below w.heap.size w w' := by
  have B0 := Lib.hid (Below.refl w.heap.size w)
  have SP := Lib.hid (fun W  => specWorstH n d W)
  unfold WorstHalvingIs at IM
  have IP := Lib.hid IM
  generalize worstH n d = c at SP IP
  clear IM
  go_enter Try.func8, Try.ntmps8
  go_wp2_with fail
  refine (SP.out _  ).mono ?_
  rintro e w1 ⟨rfl, bb⟩
  have B1 := Lib.hid (below_up B0.out bb)
  have D1 : Hid (w.heap.size ≤ w1.heap.size) := bb.size
  clear bb B0
  go_wp2_with fail
  refine (IP.out _  ).mono ?_
  rintro e w2 ⟨rfl, bb⟩
  have B2 := Lib.hid (below_up B1.out bb)
  have D2 : Hid (w1.heap.size ≤ w2.heap.size) := bb.size
  clear bb B1
  go_wp2
  go_ret
  exact ⟨rfl, B2.out⟩

set_option maxRecDepth 100000 in
set_option maxHeartbeats 3200000 in
theorem lawSkipTests (n : Int) (b : Int) (w : World)   (IM : SkipTestsIs 19 n b) :
    Calls Try.prog 9 #[.int .i64 n, .int .i64 b] w fun e w' => e = .returned (.bool true) ∧ Below w.heap.size w w' := by
  have B0 := Lib.hid (Below.refl w.heap.size w)
  have SP := Lib.hid (fun W  => specSkipTests n b W)
  unfold SkipTestsIs at IM
  have IP := Lib.hid IM
  generalize skipH n b = c at SP IP
  clear IM
  go_enter Try.func9, Try.ntmps9
  go_wp2_with fail
  refine (SP.out _  ).mono ?_
  rintro e w1 ⟨rfl, bb⟩
  have B1 := Lib.hid (below_up B0.out bb)
  have D1 : Hid (w.heap.size ≤ w1.heap.size) := bb.size
  clear bb B0
  go_wp2_with fail
  refine (IP.out _  ).mono ?_
  rintro e w2 ⟨rfl, bb⟩
  have B2 := Lib.hid (below_up B1.out bb)
  have D2 : Hid (w1.heap.size ≤ w2.heap.size) := bb.size
  clear bb B1
  go_wp2
  go_ret
  exact ⟨rfl, B2.out⟩

set_option maxRecDepth 100000 in
set_option maxHeartbeats 3200000 in
theorem lawOneByOne (n : Int) (d : Int) (w : World)   (IM : OneByOneIs 22 n d) :
    Calls Try.prog 10 #[.int .i64 n, .int .i64 d] w fun e w' => e = .returned (.bool true) ∧ Below w.heap.size w w' := by
  have B0 := Lib.hid (Below.refl w.heap.size w)
  have SP := Lib.hid (fun W  => specOneByOne n d W)
  unfold OneByOneIs at IM
  have IP := Lib.hid IM
  generalize oneB n d = r at SP IP
  have hok : (r != r) = false := by simp
  clear IM
  go_enter Try.func10, Try.ntmps10
  go_wp2_with fail
  refine (SP.out _  ).mono ?_
  rintro e w1 ⟨rfl, bb⟩
  have B1 := Lib.hid (below_up B0.out bb)
  have D1 : Hid (w.heap.size ≤ w1.heap.size) := bb.size
  clear bb B0
  go_wp2_with fail
  refine (IP.out _  ).mono ?_
  rintro e w2 ⟨rfl, bb⟩
  have B2 := Lib.hid (below_up B1.out bb)
  have D2 : Hid (w1.heap.size ≤ w2.heap.size) := bb.size
  clear bb B1
  go_wp2
  go_ret
  exact ⟨rfl, B2.out⟩

end Go.Proofs.Ytfopallbhfcppaa
