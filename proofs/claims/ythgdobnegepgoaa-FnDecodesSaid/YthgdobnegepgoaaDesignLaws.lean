/- The walks of the exact laws of DesignOk, SignsOf, CountSigns, DesignSolves and SpareWeighing round the contracts of the program's functions: each law returns true for every argument. Condition: the list that came in reads as weighings. -/
import Derived.Test.YthgdobnegepgoaaSpareSpec
import Derived.Test.YthgdobnegepgoaaCameWds
import Derived.Test.YthgdobnegepgoaaMarkWds
namespace Go.Proofs.Ythgdobnegepgoaa
open Go.RowKit

/-- The contract of a function that answers as DesignOk does. -/
def DesignOkIs (f : FuncId) (P : List WD) (m : Int) : Prop :=
  ∀ W v, WdsAt W v P → Calls Try.prog f #[v, .int .i64 m] W fun e w' => e = .returned (.bool (designB P m)) ∧ Below W.heap.size W w'

set_option maxHeartbeats 1600000 in
theorem lawDesignOk (IM : ∀ (P : List WD) (m : Int), P.length + sumW P ≤ 1048576 → wfW m → DesignOkIs 16 P m)
    (w : World) (v : Value) (P : List WD) (cp : CameWds w v P) (m : Int) (wm : (Lit.int .i64 m).wf = true) :
    Calls Try.prog 4 #[v, .int .i64 m] w fun e w' => e = .returned (.bool true) ∧ Below w.heap.size w w' := by
  have SZ := Lib.hid (szWds v P w cp.reads cp.2.1 cp.lens)
  have H0 := Lib.hid cp.reads
  obtain ⟨a0, c0, rfl, -⟩ := cp.reads
  clear cp
  go_enter Try.func4, Try.ntmps4
  go_wp2_with fail
  refine SZ.out.mono ?_
  rintro e w1 ⟨r, rfl, hr, b1⟩
  have B1 := Lib.hid b1
  have H1 := Lib.hid (H0.out.below b1)
  clear b1
  by_cases hneg : r < 0
  · go_wp2
    go_ret
    exact ⟨rfl, B1.out⟩
  · obtain ⟨r0, r1, hsz⟩ : 0 ≤ r ∧ r ≤ 1048576 ∧ P.length + sumW P ≤ 1048576 := by
      rcases hr with h | h
      · omega
      · exact h
    have T := Lib.hid (fun W h => toWds (.slice a0 P.length c0) P W h (sizesW_len hsz) (SzW.lists hsz))
    have SP := Lib.hid (fun W u hu => specDesignOk u P m W hu (sizesW_len hsz) (SzW.lists hsz))
    have IP := Lib.hid (IM P m hsz wm)
    have EQ := Lib.hid (fun W a b h h' => eqWds a b P W h h' (sizesW_len hsz) (SzW.lists hsz))
    unfold DesignOkIs at IP
    generalize designB P m = t at SP IP
    generalize P.length = k at H0 H1 T SZ
    clear hr hsz r1 SZ H0
    go_wp2_with fail
    refine (T.out _ H1.out).mono ?_
    rintro e w2 ⟨u2, rfl, o2, b2⟩
    have B2 := Lib.hid (below_up B1.out b2)
    have H2 := Lib.hid (H1.out.below b2)
    obtain ⟨g2, n2, c2, rfl⟩ := o2.form
    have R2 := Lib.hid o2.reads
    clear o2
    clear b2
    go_wp2_with fail
    refine (SP.out _ _ R2.out).mono ?_
    rintro e w3 ⟨rfl, b3⟩
    have B3 := Lib.hid (below_up B2.out b3)
    have H3 := Lib.hid (H2.out.below b3)
    have R3 := Lib.hid (R2.out.below b3)
    clear b3
    go_wp2_with fail
    refine (T.out _ H3.out).mono ?_
    rintro e w4 ⟨u4, rfl, o4, b4⟩
    have B4 := Lib.hid (below_up B3.out b4)
    have H4 := Lib.hid (H3.out.below b4)
    obtain ⟨g4, n4, c4, rfl⟩ := o4.form
    have X4 := Lib.hid o4.reads
    clear o4
    clear b4
    go_wp2_with fail
    refine (IP.out _ _ X4.out).mono ?_
    rintro e w5 ⟨rfl, b5⟩
    have B5 := Lib.hid (below_up B4.out b5)
    have H5 := Lib.hid (H4.out.below b5)
    have X5 := Lib.hid (X4.out.below b5)
    clear b5
    cases t
    all_goals
      go_wp2_with fail
      refine (T.out _ H5.out).mono ?_
      rintro e w6 ⟨u6, rfl, o6, b6⟩
      have B6 := Lib.hid (below_up B5.out b6)
      have H6 := Lib.hid (H5.out.below b6)
      have X6 := Lib.hid (X5.out.below b6)
      obtain ⟨g6, n6, c6, rfl⟩ := o6.form
      have Y6 := Lib.hid o6.reads
      clear o6
      clear b6
      go_wp2_with fail
      refine (EQ.out _ _ _ X6.out Y6.out).mono ?_
      rintro e w7 ⟨rfl, b7⟩
      have B7 := Lib.hid (below_up B6.out b7)
      have H7 := Lib.hid (H6.out.below b7)
      have X7 := Lib.hid (X6.out.below b7)
      have Y7 := Lib.hid (Y6.out.below b7)
      clear b7
      go_wp2
      go_ret
      exact ⟨rfl, B7.out⟩

/-- The contract of a function that answers as CountSigns does. -/
def CountSignsIs (f : FuncId) (P : List WD) (n : Int) (h l z : Bool) : Prop :=
  ∀ W v, WdsAt W v P → Calls Try.prog f #[probV n h l z, v] W fun e w' => e = .returned (.int .i64 (cntR P n h l z)) ∧ Below W.heap.size W w'

set_option maxHeartbeats 1600000 in
theorem lawCountSigns (IM : ∀ (P : List WD) (n : Int) (h l z : Bool), P.length + sumW P ≤ 1048576 → wfW n → CountSignsIs 20 P n h l z)
    (w : World) (n : Int) (wn : (Lit.int .i64 n).wf = true) (h l z : Bool) (v : Value) (P : List WD) (cp : CameWds w v P) :
    Calls Try.prog 6 #[probV n h l z, v] w fun e w' => e = .returned (.bool true) ∧ Below w.heap.size w w' := by
  have P0 := Lib.hid (ProbAt.new w 50 n h l z)
  have B0 := Lib.hid (alloc_below w (.cells #[.int .i64 n, .bool h, .bool l, .bool z] 50))
  unfold probV
  generalize hX0 : w.alloc (.cells #[.int .i64 n, .bool h, .bool l, .bool z] 50) = X0 at P0 B0
  have H0 := Lib.hid (cp.reads.below B0.out)
  have SZ := Lib.hid (szWds v P X0 H0.out cp.2.1 cp.lens)
  obtain ⟨a0, c0, rfl, -⟩ := cp.reads
  clear cp
  go_enter Try.func6, Try.ntmps6
  go_wp2_with fail
  refine SZ.out.mono ?_
  rintro e w1 ⟨r, rfl, hr, b1⟩
  have B1 := Lib.hid (below_up B0.out b1)
  have H1 := Lib.hid (H0.out.below b1)
  have P1 := Lib.hid (P0.out.below b1)
  clear b1 hX0
  by_cases hneg : r < 0
  · go_wp2
    go_ret
    exact ⟨rfl, B1.out⟩
  · obtain ⟨r0, r1, hsz⟩ : 0 ≤ r ∧ r ≤ 1048576 ∧ P.length + sumW P ≤ 1048576 := by
      rcases hr with h | h
      · omega
      · exact h
    have T := Lib.hid (fun W h => toWds (.slice a0 P.length c0) P W h (sizesW_len hsz) (SzW.lists hsz))
    have SP := Lib.hid (fun W u hu => specCount u P n h l z W hu (sizesW_len hsz) (SzW.lists hsz))
    have IP := Lib.hid (IM P n h l z hsz wn)
    have EQ := Lib.hid (fun W a b h h' => eqWds a b P W h h' (sizesW_len hsz) (SzW.lists hsz))
    have TP := Lib.hid (fun W => toProb n h l z W)
    unfold probV at TP SP
    unfold CountSignsIs probV at IP
    generalize cntR P n h l z = t at SP IP
    generalize P.length = k at H0 H1 T SZ
    clear hr hsz r1 SZ H0 P0
    obtain ⟨p0, p1, p2, p3, -⟩ := P1.out
    go_wp2_with fail
    clear p0 p1 p2 p3
    refine (TP.out _).mono ?_
    rintro e w2 ⟨rfl, b2⟩
    have B2 := Lib.hid (below_up B1.out b2)
    have H2 := Lib.hid (H1.out.below b2)
    have P2 := Lib.hid (P1.out.below b2)
    clear b2
    go_wp2_with fail
    refine (T.out _ H2.out).mono ?_
    rintro e w3 ⟨u3, rfl, o3, b3⟩
    have B3 := Lib.hid (below_up B2.out b3)
    have H3 := Lib.hid (H2.out.below b3)
    have P3 := Lib.hid (P2.out.below b3)
    obtain ⟨g3, n3, c3, rfl⟩ := o3.form
    have R3 := Lib.hid o3.reads
    clear o3
    clear b3
    go_wp2_with fail
    refine (SP.out _ _ R3.out).mono ?_
    rintro e w4 ⟨rfl, b4⟩
    have B4 := Lib.hid (below_up B3.out b4)
    have H4 := Lib.hid (H3.out.below b4)
    have P4 := Lib.hid (P3.out.below b4)
    have R4 := Lib.hid (R3.out.below b4)
    clear b4
    go_wp2_with fail
    refine (T.out _ H4.out).mono ?_
    rintro e w5 ⟨u5, rfl, o5, b5⟩
    have B5 := Lib.hid (below_up B4.out b5)
    have H5 := Lib.hid (H4.out.below b5)
    have P5 := Lib.hid (P4.out.below b5)
    obtain ⟨g5, n5, c5, rfl⟩ := o5.form
    have X5 := Lib.hid o5.reads
    clear o5
    clear b5
    obtain ⟨p0, p1, p2, p3, -⟩ := P5.out
    go_wp2_with fail
    clear p0 p1 p2 p3
    refine (TP.out _).mono ?_
    rintro e w6 ⟨rfl, b6⟩
    have B6 := Lib.hid (below_up B5.out b6)
    have H6 := Lib.hid (H5.out.below b6)
    have P6 := Lib.hid (P5.out.below b6)
    have X6 := Lib.hid (X5.out.below b6)
    clear b6
    go_wp2_with fail
    refine (IP.out _ _ X6.out).mono ?_
    rintro e w7 ⟨rfl, b7⟩
    have B7 := Lib.hid (below_up B6.out b7)
    have H7 := Lib.hid (H6.out.below b7)
    have P7 := Lib.hid (P6.out.below b7)
    have X7 := Lib.hid (X6.out.below b7)
    clear b7
    go_wp2_with fail
    refine (T.out _ H7.out).mono ?_
    rintro e w8 ⟨u8, rfl, o8, b8⟩
    have B8 := Lib.hid (below_up B7.out b8)
    have H8 := Lib.hid (H7.out.below b8)
    have P8 := Lib.hid (P7.out.below b8)
    have X8 := Lib.hid (X7.out.below b8)
    obtain ⟨g8, n8, c8, rfl⟩ := o8.form
    have Y8 := Lib.hid o8.reads
    clear o8
    clear b8
    go_wp2_with fail
    refine (EQ.out _ _ _ X8.out Y8.out).mono ?_
    rintro e w9 ⟨rfl, b9⟩
    have B9 := Lib.hid (below_up B8.out b9)
    have H9 := Lib.hid (H8.out.below b9)
    have P9 := Lib.hid (P8.out.below b9)
    have X9 := Lib.hid (X8.out.below b9)
    have Y9 := Lib.hid (Y8.out.below b9)
    clear b9
    go_wp2
    go_ret
    exact ⟨rfl, B9.out⟩

/-- The contract of a function that answers as DesignSolves does. -/
def DesignSolvesIs (f : FuncId) (P : List WD) (n : Int) (h l z : Bool) : Prop :=
  ∀ W v, WdsAt W v P → Calls Try.prog f #[probV n h l z, v] W fun e w' => e = .returned (.bool (dsolB P n h l z)) ∧ Below W.heap.size W w'

set_option maxHeartbeats 1600000 in
theorem lawDesignSolves (IM : ∀ (P : List WD) (n : Int) (h l z : Bool), P.length + sumW P ≤ 1048576 → wfW n → DesignSolvesIs 14 P n h l z)
    (w : World) (n : Int) (wn : (Lit.int .i64 n).wf = true) (h l z : Bool) (v : Value) (P : List WD) (cp : CameWds w v P) :
    Calls Try.prog 7 #[probV n h l z, v] w fun e w' => e = .returned (.bool true) ∧ Below w.heap.size w w' := by
  have P0 := Lib.hid (ProbAt.new w 50 n h l z)
  have B0 := Lib.hid (alloc_below w (.cells #[.int .i64 n, .bool h, .bool l, .bool z] 50))
  unfold probV
  generalize hX0 : w.alloc (.cells #[.int .i64 n, .bool h, .bool l, .bool z] 50) = X0 at P0 B0
  have H0 := Lib.hid (cp.reads.below B0.out)
  have SZ := Lib.hid (szWds v P X0 H0.out cp.2.1 cp.lens)
  obtain ⟨a0, c0, rfl, -⟩ := cp.reads
  clear cp
  go_enter Try.func7, Try.ntmps7
  go_wp2_with fail
  refine SZ.out.mono ?_
  rintro e w1 ⟨r, rfl, hr, b1⟩
  have B1 := Lib.hid (below_up B0.out b1)
  have H1 := Lib.hid (H0.out.below b1)
  have P1 := Lib.hid (P0.out.below b1)
  clear b1 hX0
  by_cases hneg : r < 0
  · go_wp2
    go_ret
    exact ⟨rfl, B1.out⟩
  · obtain ⟨r0, r1, hsz⟩ : 0 ≤ r ∧ r ≤ 1048576 ∧ P.length + sumW P ≤ 1048576 := by
      rcases hr with h | h
      · omega
      · exact h
    have T := Lib.hid (fun W h => toWds (.slice a0 P.length c0) P W h (sizesW_len hsz) (SzW.lists hsz))
    have SP := Lib.hid (fun W u hu => specSolvesD u P n h l z W hu (sizesW_len hsz) (SzW.lists hsz))
    have IP := Lib.hid (IM P n h l z hsz wn)
    have EQ := Lib.hid (fun W a b h h' => eqWds a b P W h h' (sizesW_len hsz) (SzW.lists hsz))
    have TP := Lib.hid (fun W => toProb n h l z W)
    unfold probV at TP SP
    unfold DesignSolvesIs probV at IP
    generalize dsolB P n h l z = t at SP IP
    generalize P.length = k at H0 H1 T SZ
    clear hr hsz r1 SZ H0 P0
    obtain ⟨p0, p1, p2, p3, -⟩ := P1.out
    go_wp2_with fail
    clear p0 p1 p2 p3
    refine (TP.out _).mono ?_
    rintro e w2 ⟨rfl, b2⟩
    have B2 := Lib.hid (below_up B1.out b2)
    have H2 := Lib.hid (H1.out.below b2)
    have P2 := Lib.hid (P1.out.below b2)
    clear b2
    go_wp2_with fail
    refine (T.out _ H2.out).mono ?_
    rintro e w3 ⟨u3, rfl, o3, b3⟩
    have B3 := Lib.hid (below_up B2.out b3)
    have H3 := Lib.hid (H2.out.below b3)
    have P3 := Lib.hid (P2.out.below b3)
    obtain ⟨g3, n3, c3, rfl⟩ := o3.form
    have R3 := Lib.hid o3.reads
    clear o3
    clear b3
    go_wp2_with fail
    refine (SP.out _ _ R3.out).mono ?_
    rintro e w4 ⟨rfl, b4⟩
    have B4 := Lib.hid (below_up B3.out b4)
    have H4 := Lib.hid (H3.out.below b4)
    have P4 := Lib.hid (P3.out.below b4)
    have R4 := Lib.hid (R3.out.below b4)
    clear b4
    go_wp2_with fail
    refine (T.out _ H4.out).mono ?_
    rintro e w5 ⟨u5, rfl, o5, b5⟩
    have B5 := Lib.hid (below_up B4.out b5)
    have H5 := Lib.hid (H4.out.below b5)
    have P5 := Lib.hid (P4.out.below b5)
    obtain ⟨g5, n5, c5, rfl⟩ := o5.form
    have X5 := Lib.hid o5.reads
    clear o5
    clear b5
    obtain ⟨p0, p1, p2, p3, -⟩ := P5.out
    go_wp2_with fail
    clear p0 p1 p2 p3
    refine (TP.out _).mono ?_
    rintro e w6 ⟨rfl, b6⟩
    have B6 := Lib.hid (below_up B5.out b6)
    have H6 := Lib.hid (H5.out.below b6)
    have P6 := Lib.hid (P5.out.below b6)
    have X6 := Lib.hid (X5.out.below b6)
    clear b6
    go_wp2_with fail
    refine (IP.out _ _ X6.out).mono ?_
    rintro e w7 ⟨rfl, b7⟩
    have B7 := Lib.hid (below_up B6.out b7)
    have H7 := Lib.hid (H6.out.below b7)
    have P7 := Lib.hid (P6.out.below b7)
    have X7 := Lib.hid (X6.out.below b7)
    clear b7
    cases t
    all_goals
      go_wp2_with fail
      refine (T.out _ H7.out).mono ?_
      rintro e w8 ⟨u8, rfl, o8, b8⟩
      have B8 := Lib.hid (below_up B7.out b8)
      have H8 := Lib.hid (H7.out.below b8)
      have P8 := Lib.hid (P7.out.below b8)
      have X8 := Lib.hid (X7.out.below b8)
      obtain ⟨g8, n8, c8, rfl⟩ := o8.form
      have Y8 := Lib.hid o8.reads
      clear o8
      clear b8
      go_wp2_with fail
      refine (EQ.out _ _ _ X8.out Y8.out).mono ?_
      rintro e w9 ⟨rfl, b9⟩
      have B9 := Lib.hid (below_up B8.out b9)
      have H9 := Lib.hid (H8.out.below b9)
      have P9 := Lib.hid (P8.out.below b9)
      have X9 := Lib.hid (X8.out.below b9)
      have Y9 := Lib.hid (Y8.out.below b9)
      clear b9
      go_wp2
      go_ret
      exact ⟨rfl, B9.out⟩

/-- The contract of a function that answers as SpareWeighing does. -/
def SpareWeighingIs (f : FuncId) (P : List WD) (n : Int) (h l z : Bool) : Prop :=
  ∀ W v, WdsAt W v P → Calls Try.prog f #[probV n h l z, v] W fun e w' => e = .returned (.int .i64 (spareR P n h l z)) ∧ Below W.heap.size W w'

set_option maxHeartbeats 1600000 in
theorem lawSpareWeighing (IM : ∀ (P : List WD) (n : Int) (h l z : Bool), P.length + sumW P ≤ 1048576 → wfW n → SpareWeighingIs 39 P n h l z)
    (w : World) (n : Int) (wn : (Lit.int .i64 n).wf = true) (h l z : Bool) (v : Value) (P : List WD) (cp : CameWds w v P) :
    Calls Try.prog 10 #[probV n h l z, v] w fun e w' => e = .returned (.bool true) ∧ Below w.heap.size w w' := by
  have P0 := Lib.hid (ProbAt.new w 50 n h l z)
  have B0 := Lib.hid (alloc_below w (.cells #[.int .i64 n, .bool h, .bool l, .bool z] 50))
  unfold probV
  generalize hX0 : w.alloc (.cells #[.int .i64 n, .bool h, .bool l, .bool z] 50) = X0 at P0 B0
  have H0 := Lib.hid (cp.reads.below B0.out)
  have SZ := Lib.hid (szWds v P X0 H0.out cp.2.1 cp.lens)
  obtain ⟨a0, c0, rfl, -⟩ := cp.reads
  clear cp
  go_enter Try.func10, Try.ntmps10
  go_wp2_with fail
  refine SZ.out.mono ?_
  rintro e w1 ⟨r, rfl, hr, b1⟩
  have B1 := Lib.hid (below_up B0.out b1)
  have H1 := Lib.hid (H0.out.below b1)
  have P1 := Lib.hid (P0.out.below b1)
  clear b1 hX0
  by_cases hneg : r < 0
  · go_wp2
    go_ret
    exact ⟨rfl, B1.out⟩
  · obtain ⟨r0, r1, hsz⟩ : 0 ≤ r ∧ r ≤ 1048576 ∧ P.length + sumW P ≤ 1048576 := by
      rcases hr with h | h
      · omega
      · exact h
    have T := Lib.hid (fun W h => toWds (.slice a0 P.length c0) P W h (sizesW_len hsz) (SzW.lists hsz))
    have SP := Lib.hid (fun W u hu => specSpare u P n h l z W hu (sizesW_len hsz) (SzW.lists hsz))
    have IP := Lib.hid (IM P n h l z hsz wn)
    have EQ := Lib.hid (fun W a b h h' => eqWds a b P W h h' (sizesW_len hsz) (SzW.lists hsz))
    have TP := Lib.hid (fun W => toProb n h l z W)
    unfold probV at TP SP
    unfold SpareWeighingIs probV at IP
    generalize spareR P n h l z = t at SP IP
    generalize P.length = k at H0 H1 T SZ
    clear hr hsz r1 SZ H0 P0
    obtain ⟨p0, p1, p2, p3, -⟩ := P1.out
    go_wp2_with fail
    clear p0 p1 p2 p3
    refine (TP.out _).mono ?_
    rintro e w2 ⟨rfl, b2⟩
    have B2 := Lib.hid (below_up B1.out b2)
    have H2 := Lib.hid (H1.out.below b2)
    have P2 := Lib.hid (P1.out.below b2)
    clear b2
    go_wp2_with fail
    refine (T.out _ H2.out).mono ?_
    rintro e w3 ⟨u3, rfl, o3, b3⟩
    have B3 := Lib.hid (below_up B2.out b3)
    have H3 := Lib.hid (H2.out.below b3)
    have P3 := Lib.hid (P2.out.below b3)
    obtain ⟨g3, n3, c3, rfl⟩ := o3.form
    have R3 := Lib.hid o3.reads
    clear o3
    clear b3
    go_wp2_with fail
    refine (SP.out _ _ R3.out).mono ?_
    rintro e w4 ⟨rfl, b4⟩
    have B4 := Lib.hid (below_up B3.out b4)
    have H4 := Lib.hid (H3.out.below b4)
    have P4 := Lib.hid (P3.out.below b4)
    have R4 := Lib.hid (R3.out.below b4)
    clear b4
    go_wp2_with fail
    refine (T.out _ H4.out).mono ?_
    rintro e w5 ⟨u5, rfl, o5, b5⟩
    have B5 := Lib.hid (below_up B4.out b5)
    have H5 := Lib.hid (H4.out.below b5)
    have P5 := Lib.hid (P4.out.below b5)
    obtain ⟨g5, n5, c5, rfl⟩ := o5.form
    have X5 := Lib.hid o5.reads
    clear o5
    clear b5
    obtain ⟨p0, p1, p2, p3, -⟩ := P5.out
    go_wp2_with fail
    clear p0 p1 p2 p3
    refine (TP.out _).mono ?_
    rintro e w6 ⟨rfl, b6⟩
    have B6 := Lib.hid (below_up B5.out b6)
    have H6 := Lib.hid (H5.out.below b6)
    have P6 := Lib.hid (P5.out.below b6)
    have X6 := Lib.hid (X5.out.below b6)
    clear b6
    go_wp2_with fail
    refine (IP.out _ _ X6.out).mono ?_
    rintro e w7 ⟨rfl, b7⟩
    have B7 := Lib.hid (below_up B6.out b7)
    have H7 := Lib.hid (H6.out.below b7)
    have P7 := Lib.hid (P6.out.below b7)
    have X7 := Lib.hid (X6.out.below b7)
    clear b7
    go_wp2_with fail
    refine (T.out _ H7.out).mono ?_
    rintro e w8 ⟨u8, rfl, o8, b8⟩
    have B8 := Lib.hid (below_up B7.out b8)
    have H8 := Lib.hid (H7.out.below b8)
    have P8 := Lib.hid (P7.out.below b8)
    have X8 := Lib.hid (X7.out.below b8)
    obtain ⟨g8, n8, c8, rfl⟩ := o8.form
    have Y8 := Lib.hid o8.reads
    clear o8
    clear b8
    go_wp2_with fail
    refine (EQ.out _ _ _ X8.out Y8.out).mono ?_
    rintro e w9 ⟨rfl, b9⟩
    have B9 := Lib.hid (below_up B8.out b9)
    have H9 := Lib.hid (H8.out.below b9)
    have P9 := Lib.hid (P8.out.below b9)
    have X9 := Lib.hid (X8.out.below b9)
    have Y9 := Lib.hid (Y8.out.below b9)
    clear b9
    go_wp2
    go_ret
    exact ⟨rfl, B9.out⟩

/-- The contract of a function that tells the signs of a case. -/
def SignsIs (f : FuncId) (P : List WD) (m c : Int) : Prop :=
  ∀ W v, WdsAt W v P → Calls Try.prog f #[v, .int .i64 m, .int .i64 c] W (SignsR P m c W)

set_option maxRecDepth 100000 in
set_option maxHeartbeats 3200000 in
theorem lawSignsOf (IM : ∀ (P : List WD) (m c : Int), P.length + sumW P ≤ 1048576 → wfW m → wfW c → SignsIs 17 P m c)
    (w : World) (v : Value) (P : List WD) (cp : CameWds w v P) (m : Int) (wm : (Lit.int .i64 m).wf = true) (c : Int) (wc : (Lit.int .i64 c).wf = true) :
    Calls Try.prog 5 #[v, .int .i64 m, .int .i64 c] w fun e w' => e = .returned (.bool true) ∧ Below w.heap.size w w' := by
  have SZ := Lib.hid (szWds v P w cp.reads cp.2.1 cp.lens)
  have H0 := Lib.hid cp.reads
  obtain ⟨c0, c1⟩ := rangeW wc
  obtain ⟨a0, k0, rfl, -⟩ := cp.reads
  clear cp
  go_enter Try.func5, Try.ntmps5
  go_wp2_with fail
  refine SZ.out.mono ?_
  rintro e w1 ⟨r, rfl, hr, b1⟩
  have B1 := Lib.hid b1
  clear b1
  by_cases hneg : r < 0
  · go_wp2
    go_ret
    exact ⟨rfl, B1.out⟩
  · obtain ⟨r0, r1, hsz⟩ : 0 ≤ r ∧ r ≤ 1048576 ∧ P.length + sumW P ≤ 1048576 := by
      rcases hr with h | h
      · omega
      · exact h
    have T := Lib.hid (fun W h => toWds (.slice a0 P.length k0) P W h (sizesW_len hsz) (SzW.lists hsz))
    have SP := Lib.hid (fun W u hu => specSignsOf u P m c W hu (sizesW_len hsz) (SzW.lists hsz) c0 c1)
    have IP := Lib.hid (IM P m c hsz wm wc)
    have EQ := Lib.hid (fun W a b h h' => eqWds a b P W h h' (sizesW_len hsz) (SzW.lists hsz))
    obtain ⟨sw, hsw⟩ : ∃ sw, (1 : Int) + (sumW P : Int) = sw := ⟨_, rfl⟩
    have MK := Lib.hid (fun W lo hi u hu => markWds lo hi u P W hu hsz)
    rw [hsw] at MK
    have hs0 : ¬ sw < 0 := by omega
    clear hsw
    have hF := sgR_len P m c
    unfold SignsIs at IP
    unfold SignsR at SP IP
    generalize sokB P m c = t at SP IP
    generalize sgR P m c = F at SP IP hF
    have EL := Lib.hid (fun W a b (h : IntsAt W a F) h' => eqInts_same a b F W h h' (by omega))
    have ML := Lib.hid (fun W B a (h : Own W B a F) => markInts B a 1 F W h (by omega) (by omega) (by omega))
    have HL := Lib.hid (fun W a h => heldInts a 1 F.length W h (by omega) (by omega) (by omega))
    obtain ⟨kf, hkf⟩ : ∃ kf, (1 : Int) + (F.length : Int) = kf := ⟨_, rfl⟩
    rw [hkf] at ML HL
    have kf0 : 0 ≤ kf := by omega
    generalize P.length = n at H0 T SZ
    clear hr hsz r1 SZ hkf hF
    cases t
    all_goals
      go_wp2_with fail
      refine (T.out _ (H0.out.below B1.out)).mono ?_
      rintro e w2 ⟨u2, rfl, o2, b2⟩
      obtain ⟨g2, n2, q2, rfl⟩ := o2.form
      have B2 := Lib.hid (below_up B1.out b2)
      have R2 := Lib.hid o2.reads
      clear o2 b2
      go_wp2_with fail
      refine (SP.out _ _ R2.out).mono ?_
      rintro e w3 ⟨u3, rfl, o3, b3⟩
      obtain ⟨g3, n3, q3, rfl⟩ := o3.form
      have B3 := Lib.hid (below_up B2.out b3)
      have W3 := Lib.hid o3
      have WB : Hid (Blk (· < w3.heap.size) (.slice g3 n3 q3)) := fun k hk => (o3.blk k hk).2
      clear o3 b3 R2
      go_wp2_with fail
      refine (T.out _ (H0.out.below B3.out)).mono ?_
      rintro e w4 ⟨u4, rfl, o4, b4⟩
      have X4 := Lib.hid o4.all
      obtain ⟨g4, n4, q4, rfl⟩ := o4.form
      have B4 := Lib.hid (below_up B3.out b4)
      have W4 := Lib.hid (W3.out.below b4)
      have S4 : Hid (w3.heap.size ≤ w4.heap.size) := b4.size
      clear o4 b4
      go_wp2_with fail
      refine (IP.out _ _ X4.out.reads).mono ?_
      rintro e w5 ⟨u5, rfl, o5, b5⟩
      obtain ⟨g5, n5, q5, rfl⟩ := o5.form
      have B5 := Lib.hid (below_up B4.out b5)
      have W5 := Lib.hid (W4.out.below b5)
      have X5 := Lib.hid (X4.out.below b5)
      have G5 := Lib.hid o5
      have GB : Hid (Blk (w4.heap.size ≤ ·) (.slice g5 n5 q5)) := fun k hk => (o5.blk k hk).1
      clear o5 b5
      go_wp2_with fail
      refine (EL.out _ _ _ G5.out.reads W5.out.reads).mono ?_
      rintro e w6 ⟨rfl, b6⟩
      have B6 := Lib.hid (below_up B5.out b6)
      have W6 := Lib.hid (W5.out.below b6)
      have X6 := Lib.hid (X5.out.below b6)
      have G6 := Lib.hid (G5.out.below b6)
      clear b6
      go_wp2_with fail
      refine (T.out _ (H0.out.below B6.out)).mono ?_
      rintro e w7 ⟨u7, rfl, o7, b7⟩
      obtain ⟨g7, n7, q7, rfl⟩ := o7.form
      have B7 := Lib.hid (below_up B6.out b7)
      have W7 := Lib.hid (W6.out.below b7)
      have X7 := Lib.hid (X6.out.below b7)
      have G7 := Lib.hid (G6.out.below b7)
      have Y7 := Lib.hid o7.reads
      clear o7 b7
      go_wp2_with fail
      refine (EQ.out _ _ _ X7.out.reads Y7.out).mono ?_
      rintro e w8 ⟨rfl, b8⟩
      have B8 := Lib.hid (below_up B7.out b8)
      have W8 := Lib.hid (W7.out.below b8)
      have X8 := Lib.hid (X7.out.below b8)
      have G8 := Lib.hid (G7.out.below b8)
      clear b8 Y7
      go_wp2_with fail
      refine (MK.out _ _ _ _ X8.out).mono ?_
      rintro e w9 ⟨rfl, -, t9⟩
      have B9 : Hid (Below w.heap.size w w9) := B8.out.trans (t9.below B8.out.size fun k hk => by have := B3.out.size; omega)
      have W9 := Lib.hid (W8.out.only t9 fun k hk e => by have := WB.out k hk; omega)
      have G9 := Lib.hid (G8.out.only t9 fun k hk e => by have := GB.out k hk; omega)
      clear t9 X8 X7 X6 X5 X4
      go_wp2_with fail
      refine (EL.out _ _ _ G9.out.reads W9.out.reads).mono ?_
      rintro e wA ⟨rfl, bA⟩
      have BA := Lib.hid (below_up B9.out bA)
      have WA := Lib.hid (W9.out.below bA)
      have GA := Lib.hid (G9.out.below bA)
      clear bA
      go_wp2_with fail
      refine (ML.out _ _ _ GA.out).mono ?_
      rintro e wB ⟨rfl, oB, gB⟩
      have tB := Only.of_grown gB
      have BB : Hid (Below w.heap.size w wB) := BA.out.trans (tB.below BA.out.size fun k hk => by have := GB.out k hk; have := B4.out.size; omega)
      have WBB := Lib.hid (WA.out.only tB fun k hk e => by have := WB.out k hk; have := GB.out k e; have := S4.out; omega)
      have GBB : Hid (IntsAt wB (.slice g5 n5 q5) (imarks 1 F.length)) := IntsAt.of_owns_n oB (imarks_length _ _)
      clear oB gB tB
      go_wp2_with fail
      refine (HL.out _ _ GBB.out).mono ?_
      rintro e wC ⟨rfl, rfl⟩
      go_wp2_with fail
      refine (T.out _ (H0.out.below BB.out)).mono ?_
      rintro e wD ⟨uD, rfl, oD, bD⟩
      obtain ⟨gD, nD, qD, rfl⟩ := oD.form
      have BD := Lib.hid (below_up BB.out bD)
      have WD := Lib.hid (WBB.out.below bD)
      have GD := Lib.hid (GBB.out.below bD)
      have XD := Lib.hid oD.reads
      clear oD bD
      go_wp2_with fail
      refine (IP.out _ _ XD.out).mono ?_
      rintro e wE ⟨uE, rfl, oE, bE⟩
      obtain ⟨gE, nE, qE, rfl⟩ := oE.form
      have BE := Lib.hid (below_up BD.out bE)
      have WE := Lib.hid (WD.out.below bE)
      have GE := Lib.hid (GD.out.below bE)
      have IE := Lib.hid oE.reads
      clear oE bE
      go_wp2_with fail
      refine (EL.out _ _ _ IE.out WE.out.reads).mono ?_
      rintro e wF ⟨rfl, bF⟩
      have BF := Lib.hid (below_up BE.out bF)
      have GF := Lib.hid (GE.out.below bF)
      clear bF
      go_wp2_with fail
      refine (HL.out _ _ GF.out).mono ?_
      rintro e wG ⟨rfl, rfl⟩
      go_wp2
      go_ret
      exact ⟨rfl, BF.out⟩
end Go.Proofs.Ythgdobnegepgoaa
