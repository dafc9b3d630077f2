/- The walks of the exact laws of PlanOk, PlanDepth, SolvesFor, FindsCoin, TotalCost and WorstCase round the contracts of the program's functions: each law returns true for every argument. Condition: the plan that came in reads as nodes. -/
import Derived.Test.YtipbjioghicmlaaPlanVals
import Derived.Test.YtipbjioghicmlaaCameNodes
namespace Go.Proofs.Ytipbjioghicmlaa
open Go.RowKit

theorem range_wf {n : Int} (h : (Lit.int .i64 n).wf = true) : -9223372036854775808 ≤ n ∧ n ≤ 9223372036854775807 := by
  simpa [Lit.wf, IntKind.min, IntKind.max, IntKind.signed, IntKind.bits] using h
theorem sizes_len {P : List ND} (h : P.length + sumP P ≤ 1048576) : P.length ≤ 1048576 := by omega
theorem OwnP.form {w : World} {lo : Nat} {v : Value} {P : List ND} (h : OwnP w lo v P) : ∃ g n c, v = .slice (some ⟨g, 0, none⟩) n c := by
  obtain ⟨g, f, e, _⟩ := h
  exact ⟨g, _, _, e⟩

/-- The contract of a function that answers as PlanOk does. -/
def PlanOkIs (f : FuncId) (P : List ND) (m : Int) : Prop :=
  ∀ W v, NodesAt W v P → Calls Try.prog f #[v, .int .i64 m] W fun e w' => e = .returned (.bool (planB P m)) ∧ Below W.heap.size W w'

set_option maxHeartbeats 1600000 in
theorem lawPlanOk (IM : ∀ (P : List ND) (m : Int), P.length + sumP P ≤ 1048576 → wfI m → PlanOkIs 19 P m)
    (w : World) (v : Value) (P : List ND) (cp : CameNodes w v P) (m : Int) (wm : (Lit.int .i64 m).wf = true) :
    Calls Try.prog 5 #[v, .int .i64 m] w fun e w' => e = .returned (.bool true) ∧ Below w.heap.size w w' := by
  have SZ := Lib.hid (szNodes v P w cp.reads cp.2.1 cp.lens)
  have H0 := Lib.hid cp.reads
  obtain ⟨a0, c0, rfl, -⟩ := cp.reads
  clear cp
  go_enter Try.func5, Try.ntmps5
  go_wp2_with fail
  refine SZ.out.mono ?_
  rintro e w1 ⟨r, rfl, hr, b1⟩
  have B1 := Lib.hid b1
  have H1 := Lib.hid (H0.out.below b1)
  clear b1
  by_cases hneg : r < 0
  · go_wp2
    go_ret
    exact ⟨rfl, B1.out⟩
  · obtain ⟨r0, r1, hsz⟩ : 0 ≤ r ∧ r ≤ 1048576 ∧ P.length + sumP P ≤ 1048576 := by
      rcases hr with h | h
      · omega
      · exact h
    have T := Lib.hid (fun W h => toNodes (.slice a0 P.length c0) P W h (sizes_len hsz) (SzP.lists hsz))
    have SP := Lib.hid (fun W u hu => specPlanOk u P m W hu (sizes_len hsz) (SzP.lists hsz))
    have IP := Lib.hid (IM P m hsz wm)
    have EQ := Lib.hid (fun W a b h h' => eqNodes a b P W h h' (sizes_len hsz) (SzP.lists hsz))
    unfold PlanOkIs at IP
    generalize planB P m = t at SP IP
    generalize P.length = k at H0 H1 T SZ
    clear hr hsz r1 SZ H0
    go_wp2_with fail
    refine (T.out _ H1.out).mono ?_
    rintro e w2 ⟨u2, rfl, o2, b2⟩
    have B2 := Lib.hid (below_up B1.out b2)
    have H2 := Lib.hid (H1.out.below b2)
    obtain ⟨g2, n2, c2, rfl⟩ := o2.form
    have R2 := Lib.hid o2.reads
    clear o2
    clear b2
    go_wp2_with fail
    refine (SP.out _ _ R2.out).mono ?_
    rintro e w3 ⟨rfl, b3⟩
    have B3 := Lib.hid (below_up B2.out b3)
    have H3 := Lib.hid (H2.out.below b3)
    have R3 := Lib.hid (R2.out.below b3)
    clear b3
    go_wp2_with fail
    refine (T.out _ H3.out).mono ?_
    rintro e w4 ⟨u4, rfl, o4, b4⟩
    have B4 := Lib.hid (below_up B3.out b4)
    have H4 := Lib.hid (H3.out.below b4)
    obtain ⟨g4, n4, c4, rfl⟩ := o4.form
    have X4 := Lib.hid o4.reads
    clear o4
    clear b4
    go_wp2_with fail
    refine (IP.out _ _ X4.out).mono ?_
    rintro e w5 ⟨rfl, b5⟩
    have B5 := Lib.hid (below_up B4.out b5)
    have H5 := Lib.hid (H4.out.below b5)
    have X5 := Lib.hid (X4.out.below b5)
    clear b5
    cases t
    all_goals
      go_wp2_with fail
      refine (T.out _ H5.out).mono ?_
      rintro e w6 ⟨u6, rfl, o6, b6⟩
      have B6 := Lib.hid (below_up B5.out b6)
      have H6 := Lib.hid (H5.out.below b6)
      have X6 := Lib.hid (X5.out.below b6)
      obtain ⟨g6, n6, c6, rfl⟩ := o6.form
      have Y6 := Lib.hid o6.reads
      clear o6
      clear b6
      go_wp2_with fail
      refine (EQ.out _ _ _ X6.out Y6.out).mono ?_
      rintro e w7 ⟨rfl, b7⟩
      have B7 := Lib.hid (below_up B6.out b7)
      have H7 := Lib.hid (H6.out.below b7)
      have X7 := Lib.hid (X6.out.below b7)
      have Y7 := Lib.hid (Y6.out.below b7)
      clear b7
      go_wp2
      go_ret
      exact ⟨rfl, B7.out⟩

/-- The contract of a function that answers as PlanDepth does. -/
def PlanDepthIs (f : FuncId) (P : List ND) (m : Int) : Prop :=
  ∀ W v, NodesAt W v P → Calls Try.prog f #[v, .int .i64 m] W fun e w' => e = .returned (.int .i64 (depthR P m)) ∧ Below W.heap.size W w'

set_option maxHeartbeats 1600000 in
theorem lawPlanDepth (IM : ∀ (P : List ND) (m : Int), P.length + sumP P ≤ 1048576 → wfI m → PlanDepthIs 14 P m)
    (w : World) (v : Value) (P : List ND) (cp : CameNodes w v P) (m : Int) (wm : (Lit.int .i64 m).wf = true) :
    Calls Try.prog 7 #[v, .int .i64 m] w fun e w' => e = .returned (.bool true) ∧ Below w.heap.size w w' := by
  have SZ := Lib.hid (szNodes v P w cp.reads cp.2.1 cp.lens)
  have H0 := Lib.hid cp.reads
  obtain ⟨a0, c0, rfl, -⟩ := cp.reads
  clear cp
  go_enter Try.func7, Try.ntmps7
  go_wp2_with fail
  refine SZ.out.mono ?_
  rintro e w1 ⟨r, rfl, hr, b1⟩
  have B1 := Lib.hid b1
  have H1 := Lib.hid (H0.out.below b1)
  clear b1
  by_cases hneg : r < 0
  · go_wp2
    go_ret
    exact ⟨rfl, B1.out⟩
  · obtain ⟨r0, r1, hsz⟩ : 0 ≤ r ∧ r ≤ 1048576 ∧ P.length + sumP P ≤ 1048576 := by
      rcases hr with h | h
      · omega
      · exact h
    have T := Lib.hid (fun W h => toNodes (.slice a0 P.length c0) P W h (sizes_len hsz) (SzP.lists hsz))
    have SP := Lib.hid (fun W u hu => specPlanDepth u P m W hu (sizes_len hsz) (SzP.lists hsz))
    have IP := Lib.hid (IM P m hsz wm)
    have EQ := Lib.hid (fun W a b h h' => eqNodes a b P W h h' (sizes_len hsz) (SzP.lists hsz))
    unfold PlanDepthIs at IP
    generalize depthR P m = t at SP IP
    generalize P.length = k at H0 H1 T SZ
    clear hr hsz r1 SZ H0
    go_wp2_with fail
    refine (T.out _ H1.out).mono ?_
    rintro e w2 ⟨u2, rfl, o2, b2⟩
    have B2 := Lib.hid (below_up B1.out b2)
    have H2 := Lib.hid (H1.out.below b2)
    obtain ⟨g2, n2, c2, rfl⟩ := o2.form
    have R2 := Lib.hid o2.reads
    clear o2
    clear b2
    go_wp2_with fail
    refine (SP.out _ _ R2.out).mono ?_
    rintro e w3 ⟨rfl, b3⟩
    have B3 := Lib.hid (below_up B2.out b3)
    have H3 := Lib.hid (H2.out.below b3)
    have R3 := Lib.hid (R2.out.below b3)
    clear b3
    go_wp2_with fail
    refine (T.out _ H3.out).mono ?_
    rintro e w4 ⟨u4, rfl, o4, b4⟩
    have B4 := Lib.hid (below_up B3.out b4)
    have H4 := Lib.hid (H3.out.below b4)
    obtain ⟨g4, n4, c4, rfl⟩ := o4.form
    have X4 := Lib.hid o4.reads
    clear o4
    clear b4
    go_wp2_with fail
    refine (IP.out _ _ X4.out).mono ?_
    rintro e w5 ⟨rfl, b5⟩
    have B5 := Lib.hid (below_up B4.out b5)
    have H5 := Lib.hid (H4.out.below b5)
    have X5 := Lib.hid (X4.out.below b5)
    clear b5
    go_wp2_with fail
    refine (T.out _ H5.out).mono ?_
    rintro e w6 ⟨u6, rfl, o6, b6⟩
    have B6 := Lib.hid (below_up B5.out b6)
    have H6 := Lib.hid (H5.out.below b6)
    have X6 := Lib.hid (X5.out.below b6)
    obtain ⟨g6, n6, c6, rfl⟩ := o6.form
    have Y6 := Lib.hid o6.reads
    clear o6
    clear b6
    go_wp2_with fail
    refine (EQ.out _ _ _ X6.out Y6.out).mono ?_
    rintro e w7 ⟨rfl, b7⟩
    have B7 := Lib.hid (below_up B6.out b7)
    have H7 := Lib.hid (H6.out.below b7)
    have X7 := Lib.hid (X6.out.below b7)
    have Y7 := Lib.hid (Y6.out.below b7)
    clear b7
    go_wp2
    go_ret
    exact ⟨rfl, B7.out⟩

/-- The contract of a function that answers as SolvesFor does. -/
def SolvesForIs (f : FuncId) (P : List ND) (n : Int) (h l z : Bool) : Prop :=
  ∀ W v, NodesAt W v P → Calls Try.prog f #[probV n h l z, v] W fun e w' => e = .returned (.bool (solvesB P n h l z)) ∧ Below W.heap.size W w'

set_option maxHeartbeats 1600000 in
theorem lawSolvesFor (IM : ∀ (P : List ND) (n : Int) (h l z : Bool), P.length + sumP P ≤ 1048576 → wfI n → SolvesForIs 21 P n h l z)
    (w : World) (n : Int) (wn : (Lit.int .i64 n).wf = true) (h l z : Bool) (v : Value) (P : List ND) (cp : CameNodes w v P) :
    Calls Try.prog 8 #[probV n h l z, v] w fun e w' => e = .returned (.bool true) ∧ Below w.heap.size w w' := by
  have P0 := Lib.hid (ProbAt.new w 53 n h l z)
  have B0 := Lib.hid (alloc_below w (.cells #[.int .i64 n, .bool h, .bool l, .bool z] 53))
  unfold probV
  generalize hX0 : w.alloc (.cells #[.int .i64 n, .bool h, .bool l, .bool z] 53) = X0 at P0 B0
  have H0 := Lib.hid (cp.reads.below B0.out)
  have SZ := Lib.hid (szNodes v P X0 H0.out cp.2.1 cp.lens)
  obtain ⟨a0, c0, rfl, -⟩ := cp.reads
  clear cp
  go_enter Try.func8, Try.ntmps8
  go_wp2_with fail
  refine SZ.out.mono ?_
  rintro e w1 ⟨r, rfl, hr, b1⟩
  have B1 := Lib.hid (below_up B0.out b1)
  have H1 := Lib.hid (H0.out.below b1)
  have P1 := Lib.hid (P0.out.below b1)
  clear b1 hX0
  by_cases hneg : r < 0
  · go_wp2
    go_ret
    exact ⟨rfl, B1.out⟩
  · obtain ⟨r0, r1, hsz⟩ : 0 ≤ r ∧ r ≤ 1048576 ∧ P.length + sumP P ≤ 1048576 := by
      rcases hr with h | h
      · omega
      · exact h
    have T := Lib.hid (fun W h => toNodes (.slice a0 P.length c0) P W h (sizes_len hsz) (SzP.lists hsz))
    have SP := Lib.hid (fun W u hu => specSolvesFor u P n h l z W hu (sizes_len hsz) (SzP.lists hsz) (range_wf wn))
    have IP := Lib.hid (IM P n h l z hsz wn)
    have EQ := Lib.hid (fun W a b h h' => eqNodes a b P W h h' (sizes_len hsz) (SzP.lists hsz))
    have TP := Lib.hid (fun W => toProb n h l z W)
    unfold probV at TP SP
    unfold SolvesForIs probV at IP
    generalize solvesB P n h l z = t at SP IP
    generalize P.length = k at H0 H1 T SZ
    clear hr hsz r1 SZ H0 P0
    obtain ⟨p0, p1, p2, p3, -⟩ := P1.out
    go_wp2_with fail
    clear p0 p1 p2 p3
    refine (TP.out _).mono ?_
    rintro e w2 ⟨rfl, b2⟩
    have B2 := Lib.hid (below_up B1.out b2)
    have H2 := Lib.hid (H1.out.below b2)
    have P2 := Lib.hid (P1.out.below b2)
    clear b2
    go_wp2_with fail
    refine (T.out _ H2.out).mono ?_
    rintro e w3 ⟨u3, rfl, o3, b3⟩
    have B3 := Lib.hid (below_up B2.out b3)
    have H3 := Lib.hid (H2.out.below b3)
    have P3 := Lib.hid (P2.out.below b3)
    obtain ⟨g3, n3, c3, rfl⟩ := o3.form
    have R3 := Lib.hid o3.reads
    clear o3
    clear b3
    go_wp2_with fail
    refine (SP.out _ _ R3.out).mono ?_
    rintro e w4 ⟨rfl, b4⟩
    have B4 := Lib.hid (below_up B3.out b4)
    have H4 := Lib.hid (H3.out.below b4)
    have P4 := Lib.hid (P3.out.below b4)
    have R4 := Lib.hid (R3.out.below b4)
    clear b4
    go_wp2_with fail
    refine (T.out _ H4.out).mono ?_
    rintro e w5 ⟨u5, rfl, o5, b5⟩
    have B5 := Lib.hid (below_up B4.out b5)
    have H5 := Lib.hid (H4.out.below b5)
    have P5 := Lib.hid (P4.out.below b5)
    obtain ⟨g5, n5, c5, rfl⟩ := o5.form
    have X5 := Lib.hid o5.reads
    clear o5
    clear b5
    obtain ⟨p0, p1, p2, p3, -⟩ := P5.out
    go_wp2_with fail
    clear p0 p1 p2 p3
    refine (TP.out _).mono ?_
    rintro e w6 ⟨rfl, b6⟩
    have B6 := Lib.hid (below_up B5.out b6)
    have H6 := Lib.hid (H5.out.below b6)
    have P6 := Lib.hid (P5.out.below b6)
    have X6 := Lib.hid (X5.out.below b6)
    clear b6
    go_wp2_with fail
    refine (IP.out _ _ X6.out).mono ?_
    rintro e w7 ⟨rfl, b7⟩
    have B7 := Lib.hid (below_up B6.out b7)
    have H7 := Lib.hid (H6.out.below b7)
    have P7 := Lib.hid (P6.out.below b7)
    have X7 := Lib.hid (X6.out.below b7)
    clear b7
    cases t
    all_goals
      go_wp2_with fail
      refine (T.out _ H7.out).mono ?_
      rintro e w8 ⟨u8, rfl, o8, b8⟩
      have B8 := Lib.hid (below_up B7.out b8)
      have H8 := Lib.hid (H7.out.below b8)
      have P8 := Lib.hid (P7.out.below b8)
      have X8 := Lib.hid (X7.out.below b8)
      obtain ⟨g8, n8, c8, rfl⟩ := o8.form
      have Y8 := Lib.hid o8.reads
      clear o8
      clear b8
      go_wp2_with fail
      refine (EQ.out _ _ _ X8.out Y8.out).mono ?_
      rintro e w9 ⟨rfl, b9⟩
      have B9 := Lib.hid (below_up B8.out b9)
      have H9 := Lib.hid (H8.out.below b9)
      have P9 := Lib.hid (P8.out.below b9)
      have X9 := Lib.hid (X8.out.below b9)
      have Y9 := Lib.hid (Y8.out.below b9)
      clear b9
      go_wp2
      go_ret
      exact ⟨rfl, B9.out⟩

/-- The contract of a function that answers as FindsCoin does. -/
def FindsCoinIs (f : FuncId) (P : List ND) (n : Int) (h l z : Bool) : Prop :=
  ∀ W v, NodesAt W v P → Calls Try.prog f #[probV n h l z, v] W fun e w' => e = .returned (.bool (findsB P n h l z)) ∧ Below W.heap.size W w'

set_option maxHeartbeats 1600000 in
theorem lawFindsCoin (IM : ∀ (P : List ND) (n : Int) (h l z : Bool), P.length + sumP P ≤ 1048576 → wfI n → FindsCoinIs 22 P n h l z)
    (w : World) (n : Int) (wn : (Lit.int .i64 n).wf = true) (h l z : Bool) (v : Value) (P : List ND) (cp : CameNodes w v P) :
    Calls Try.prog 9 #[probV n h l z, v] w fun e w' => e = .returned (.bool true) ∧ Below w.heap.size w w' := by
  have P0 := Lib.hid (ProbAt.new w 53 n h l z)
  have B0 := Lib.hid (alloc_below w (.cells #[.int .i64 n, .bool h, .bool l, .bool z] 53))
  unfold probV
  generalize hX0 : w.alloc (.cells #[.int .i64 n, .bool h, .bool l, .bool z] 53) = X0 at P0 B0
  have H0 := Lib.hid (cp.reads.below B0.out)
  have SZ := Lib.hid (szNodes v P X0 H0.out cp.2.1 cp.lens)
  obtain ⟨a0, c0, rfl, -⟩ := cp.reads
  clear cp
  go_enter Try.func9, Try.ntmps9
  go_wp2_with fail
  refine SZ.out.mono ?_
  rintro e w1 ⟨r, rfl, hr, b1⟩
  have B1 := Lib.hid (below_up B0.out b1)
  have H1 := Lib.hid (H0.out.below b1)
  have P1 := Lib.hid (P0.out.below b1)
  clear b1 hX0
  by_cases hneg : r < 0
  · go_wp2
    go_ret
    exact ⟨rfl, B1.out⟩
  · obtain ⟨r0, r1, hsz⟩ : 0 ≤ r ∧ r ≤ 1048576 ∧ P.length + sumP P ≤ 1048576 := by
      rcases hr with h | h
      · omega
      · exact h
    have T := Lib.hid (fun W h => toNodes (.slice a0 P.length c0) P W h (sizes_len hsz) (SzP.lists hsz))
    have SP := Lib.hid (fun W u hu => specFindsCoin u P n h l z W hu (sizes_len hsz) (SzP.lists hsz) (range_wf wn))
    have IP := Lib.hid (IM P n h l z hsz wn)
    have EQ := Lib.hid (fun W a b h h' => eqNodes a b P W h h' (sizes_len hsz) (SzP.lists hsz))
    have TP := Lib.hid (fun W => toProb n h l z W)
    unfold probV at TP SP
    unfold FindsCoinIs probV at IP
    generalize findsB P n h l z = t at SP IP
    generalize P.length = k at H0 H1 T SZ
    clear hr hsz r1 SZ H0 P0
    obtain ⟨p0, p1, p2, p3, -⟩ := P1.out
    go_wp2_with fail
    clear p0 p1 p2 p3
    refine (TP.out _).mono ?_
    rintro e w2 ⟨rfl, b2⟩
    have B2 := Lib.hid (below_up B1.out b2)
    have H2 := Lib.hid (H1.out.below b2)
    have P2 := Lib.hid (P1.out.below b2)
    clear b2
    go_wp2_with fail
    refine (T.out _ H2.out).mono ?_
    rintro e w3 ⟨u3, rfl, o3, b3⟩
    have B3 := Lib.hid (below_up B2.out b3)
    have H3 := Lib.hid (H2.out.below b3)
    have P3 := Lib.hid (P2.out.below b3)
    obtain ⟨g3, n3, c3, rfl⟩ := o3.form
    have R3 := Lib.hid o3.reads
    clear o3
    clear b3
    go_wp2_with fail
    refine (SP.out _ _ R3.out).mono ?_
    rintro e w4 ⟨rfl, b4⟩
    have B4 := Lib.hid (below_up B3.out b4)
    have H4 := Lib.hid (H3.out.below b4)
    have P4 := Lib.hid (P3.out.below b4)
    have R4 := Lib.hid (R3.out.below b4)
    clear b4
    go_wp2_with fail
    refine (T.out _ H4.out).mono ?_
    rintro e w5 ⟨u5, rfl, o5, b5⟩
    have B5 := Lib.hid (below_up B4.out b5)
    have H5 := Lib.hid (H4.out.below b5)
    have P5 := Lib.hid (P4.out.below b5)
    obtain ⟨g5, n5, c5, rfl⟩ := o5.form
    have X5 := Lib.hid o5.reads
    clear o5
    clear b5
    obtain ⟨p0, p1, p2, p3, -⟩ := P5.out
    go_wp2_with fail
    clear p0 p1 p2 p3
    refine (TP.out _).mono ?_
    rintro e w6 ⟨rfl, b6⟩
    have B6 := Lib.hid (below_up B5.out b6)
    have H6 := Lib.hid (H5.out.below b6)
    have P6 := Lib.hid (P5.out.below b6)
    have X6 := Lib.hid (X5.out.below b6)
    clear b6
    go_wp2_with fail
    refine (IP.out _ _ X6.out).mono ?_
    rintro e w7 ⟨rfl, b7⟩
    have B7 := Lib.hid (below_up B6.out b7)
    have H7 := Lib.hid (H6.out.below b7)
    have P7 := Lib.hid (P6.out.below b7)
    have X7 := Lib.hid (X6.out.below b7)
    clear b7
    cases t
    all_goals
      go_wp2_with fail
      refine (T.out _ H7.out).mono ?_
      rintro e w8 ⟨u8, rfl, o8, b8⟩
      have B8 := Lib.hid (below_up B7.out b8)
      have H8 := Lib.hid (H7.out.below b8)
      have P8 := Lib.hid (P7.out.below b8)
      have X8 := Lib.hid (X7.out.below b8)
      obtain ⟨g8, n8, c8, rfl⟩ := o8.form
      have Y8 := Lib.hid o8.reads
      clear o8
      clear b8
      go_wp2_with fail
      refine (EQ.out _ _ _ X8.out Y8.out).mono ?_
      rintro e w9 ⟨rfl, b9⟩
      have B9 := Lib.hid (below_up B8.out b9)
      have H9 := Lib.hid (H8.out.below b9)
      have P9 := Lib.hid (P8.out.below b9)
      have X9 := Lib.hid (X8.out.below b9)
      have Y9 := Lib.hid (Y8.out.below b9)
      clear b9
      go_wp2
      go_ret
      exact ⟨rfl, B9.out⟩

/-- The contract of a function that answers as TotalCost does. -/
def TotalCostIs (f : FuncId) (P : List ND) (n : Int) (h l z : Bool) : Prop :=
  ∀ W v, NodesAt W v P → Calls Try.prog f #[probV n h l z, v] W fun e w' => e = .returned (.int .i64 (costR P n h l z)) ∧ Below W.heap.size W w'

set_option maxHeartbeats 1600000 in
theorem lawTotalCost (IM : ∀ (P : List ND) (n : Int) (h l z : Bool), P.length + sumP P ≤ 1048576 → wfI n → TotalCostIs 20 P n h l z)
    (w : World) (n : Int) (wn : (Lit.int .i64 n).wf = true) (h l z : Bool) (v : Value) (P : List ND) (cp : CameNodes w v P) :
    Calls Try.prog 10 #[probV n h l z, v] w fun e w' => e = .returned (.bool true) ∧ Below w.heap.size w w' := by
  have P0 := Lib.hid (ProbAt.new w 53 n h l z)
  have B0 := Lib.hid (alloc_below w (.cells #[.int .i64 n, .bool h, .bool l, .bool z] 53))
  unfold probV
  generalize hX0 : w.alloc (.cells #[.int .i64 n, .bool h, .bool l, .bool z] 53) = X0 at P0 B0
  have H0 := Lib.hid (cp.reads.below B0.out)
  have SZ := Lib.hid (szNodes v P X0 H0.out cp.2.1 cp.lens)
  obtain ⟨a0, c0, rfl, -⟩ := cp.reads
  clear cp
  go_enter Try.func10, Try.ntmps10
  go_wp2_with fail
  refine SZ.out.mono ?_
  rintro e w1 ⟨r, rfl, hr, b1⟩
  have B1 := Lib.hid (below_up B0.out b1)
  have H1 := Lib.hid (H0.out.below b1)
  have P1 := Lib.hid (P0.out.below b1)
  clear b1 hX0
  by_cases hneg : r < 0
  · go_wp2
    go_ret
    exact ⟨rfl, B1.out⟩
  · obtain ⟨r0, r1, hsz⟩ : 0 ≤ r ∧ r ≤ 1048576 ∧ P.length + sumP P ≤ 1048576 := by
      rcases hr with h | h
      · omega
      · exact h
    have T := Lib.hid (fun W h => toNodes (.slice a0 P.length c0) P W h (sizes_len hsz) (SzP.lists hsz))
    have SP := Lib.hid (fun W u hu => specTotalCost u P n h l z W hu (sizes_len hsz) (SzP.lists hsz) (range_wf wn))
    have IP := Lib.hid (IM P n h l z hsz wn)
    have EQ := Lib.hid (fun W a b h h' => eqNodes a b P W h h' (sizes_len hsz) (SzP.lists hsz))
    have TP := Lib.hid (fun W => toProb n h l z W)
    unfold probV at TP SP
    unfold TotalCostIs probV at IP
    generalize costR P n h l z = t at SP IP
    generalize P.length = k at H0 H1 T SZ
    clear hr hsz r1 SZ H0 P0
    obtain ⟨p0, p1, p2, p3, -⟩ := P1.out
    go_wp2_with fail
    clear p0 p1 p2 p3
    refine (TP.out _).mono ?_
    rintro e w2 ⟨rfl, b2⟩
    have B2 := Lib.hid (below_up B1.out b2)
    have H2 := Lib.hid (H1.out.below b2)
    have P2 := Lib.hid (P1.out.below b2)
    clear b2
    go_wp2_with fail
    refine (T.out _ H2.out).mono ?_
    rintro e w3 ⟨u3, rfl, o3, b3⟩
    have B3 := Lib.hid (below_up B2.out b3)
    have H3 := Lib.hid (H2.out.below b3)
    have P3 := Lib.hid (P2.out.below b3)
    obtain ⟨g3, n3, c3, rfl⟩ := o3.form
    have R3 := Lib.hid o3.reads
    clear o3
    clear b3
    go_wp2_with fail
    refine (SP.out _ _ R3.out).mono ?_
    rintro e w4 ⟨rfl, b4⟩
    have B4 := Lib.hid (below_up B3.out b4)
    have H4 := Lib.hid (H3.out.below b4)
    have P4 := Lib.hid (P3.out.below b4)
    have R4 := Lib.hid (R3.out.below b4)
    clear b4
    go_wp2_with fail
    refine (T.out _ H4.out).mono ?_
    rintro e w5 ⟨u5, rfl, o5, b5⟩
    have B5 := Lib.hid (below_up B4.out b5)
    have H5 := Lib.hid (H4.out.below b5)
    have P5 := Lib.hid (P4.out.below b5)
    obtain ⟨g5, n5, c5, rfl⟩ := o5.form
    have X5 := Lib.hid o5.reads
    clear o5
    clear b5
    obtain ⟨p0, p1, p2, p3, -⟩ := P5.out
    go_wp2_with fail
    clear p0 p1 p2 p3
    refine (TP.out _).mono ?_
    rintro e w6 ⟨rfl, b6⟩
    have B6 := Lib.hid (below_up B5.out b6)
    have H6 := Lib.hid (H5.out.below b6)
    have P6 := Lib.hid (P5.out.below b6)
    have X6 := Lib.hid (X5.out.below b6)
    clear b6
    go_wp2_with fail
    refine (IP.out _ _ X6.out).mono ?_
    rintro e w7 ⟨rfl, b7⟩
    have B7 := Lib.hid (below_up B6.out b7)
    have H7 := Lib.hid (H6.out.below b7)
    have P7 := Lib.hid (P6.out.below b7)
    have X7 := Lib.hid (X6.out.below b7)
    clear b7
    go_wp2_with fail
    refine (T.out _ H7.out).mono ?_
    rintro e w8 ⟨u8, rfl, o8, b8⟩
    have B8 := Lib.hid (below_up B7.out b8)
    have H8 := Lib.hid (H7.out.below b8)
    have P8 := Lib.hid (P7.out.below b8)
    have X8 := Lib.hid (X7.out.below b8)
    obtain ⟨g8, n8, c8, rfl⟩ := o8.form
    have Y8 := Lib.hid o8.reads
    clear o8
    clear b8
    go_wp2_with fail
    refine (EQ.out _ _ _ X8.out Y8.out).mono ?_
    rintro e w9 ⟨rfl, b9⟩
    have B9 := Lib.hid (below_up B8.out b9)
    have H9 := Lib.hid (H8.out.below b9)
    have P9 := Lib.hid (P8.out.below b9)
    have X9 := Lib.hid (X8.out.below b9)
    have Y9 := Lib.hid (Y8.out.below b9)
    clear b9
    go_wp2
    go_ret
    exact ⟨rfl, B9.out⟩

/-- The contract of a function that answers as WorstCase does. -/
def WorstCaseIs (f : FuncId) (P : List ND) (n : Int) (h l z : Bool) : Prop :=
  ∀ W v, NodesAt W v P → Calls Try.prog f #[probV n h l z, v] W fun e w' => e = .returned (.tuple #[.int .i64 (worstR P n h l z), .bool (goodB P n h l z)]) ∧ Below W.heap.size W w'

set_option maxHeartbeats 1600000 in
theorem lawWorstCase (IM : ∀ (P : List ND) (n : Int) (h l z : Bool), P.length + sumP P ≤ 1048576 → wfI n → WorstCaseIs 15 P n h l z)
    (w : World) (n : Int) (wn : (Lit.int .i64 n).wf = true) (h l z : Bool) (v : Value) (P : List ND) (cp : CameNodes w v P) :
    Calls Try.prog 11 #[probV n h l z, v] w fun e w' => e = .returned (.bool true) ∧ Below w.heap.size w w' := by
  have P0 := Lib.hid (ProbAt.new w 53 n h l z)
  have B0 := Lib.hid (alloc_below w (.cells #[.int .i64 n, .bool h, .bool l, .bool z] 53))
  unfold probV
  generalize hX0 : w.alloc (.cells #[.int .i64 n, .bool h, .bool l, .bool z] 53) = X0 at P0 B0
  have H0 := Lib.hid (cp.reads.below B0.out)
  have SZ := Lib.hid (szNodes v P X0 H0.out cp.2.1 cp.lens)
  obtain ⟨a0, c0, rfl, -⟩ := cp.reads
  clear cp
  go_enter Try.func11, Try.ntmps11
  go_wp2_with fail
  refine SZ.out.mono ?_
  rintro e w1 ⟨r, rfl, hr, b1⟩
  have B1 := Lib.hid (below_up B0.out b1)
  have H1 := Lib.hid (H0.out.below b1)
  have P1 := Lib.hid (P0.out.below b1)
  clear b1 hX0
  by_cases hneg : r < 0
  · go_wp2
    go_ret
    exact ⟨rfl, B1.out⟩
  · obtain ⟨r0, r1, hsz⟩ : 0 ≤ r ∧ r ≤ 1048576 ∧ P.length + sumP P ≤ 1048576 := by
      rcases hr with h | h
      · omega
      · exact h
    have T := Lib.hid (fun W h => toNodes (.slice a0 P.length c0) P W h (sizes_len hsz) (SzP.lists hsz))
    have SP := Lib.hid (fun W u hu => specWorstCase u P n h l z W hu (sizes_len hsz) (SzP.lists hsz) (range_wf wn))
    have IP := Lib.hid (IM P n h l z hsz wn)
    have EQ := Lib.hid (fun W a b h h' => eqNodes a b P W h h' (sizes_len hsz) (SzP.lists hsz))
    have TP := Lib.hid (fun W => toProb n h l z W)
    unfold probV at TP SP
    unfold WorstCaseIs probV at IP
    generalize worstR P n h l z = t at SP IP
    generalize goodB P n h l z = t2 at SP IP
    generalize P.length = k at H0 H1 T SZ
    clear hr hsz r1 SZ H0 P0
    obtain ⟨p0, p1, p2, p3, -⟩ := P1.out
    go_wp2_with fail
    clear p0 p1 p2 p3
    refine (TP.out _).mono ?_
    rintro e w2 ⟨rfl, b2⟩
    have B2 := Lib.hid (below_up B1.out b2)
    have H2 := Lib.hid (H1.out.below b2)
    have P2 := Lib.hid (P1.out.below b2)
    clear b2
    go_wp2_with fail
    refine (T.out _ H2.out).mono ?_
    rintro e w3 ⟨u3, rfl, o3, b3⟩
    have B3 := Lib.hid (below_up B2.out b3)
    have H3 := Lib.hid (H2.out.below b3)
    have P3 := Lib.hid (P2.out.below b3)
    obtain ⟨g3, n3, c3, rfl⟩ := o3.form
    have R3 := Lib.hid o3.reads
    clear o3
    clear b3
    go_wp2_with fail
    refine (SP.out _ _ R3.out).mono ?_
    rintro e w4 ⟨rfl, b4⟩
    have B4 := Lib.hid (below_up B3.out b4)
    have H4 := Lib.hid (H3.out.below b4)
    have P4 := Lib.hid (P3.out.below b4)
    have R4 := Lib.hid (R3.out.below b4)
    clear b4
    go_wp2_with fail
    refine (T.out _ H4.out).mono ?_
    rintro e w5 ⟨u5, rfl, o5, b5⟩
    have B5 := Lib.hid (below_up B4.out b5)
    have H5 := Lib.hid (H4.out.below b5)
    have P5 := Lib.hid (P4.out.below b5)
    obtain ⟨g5, n5, c5, rfl⟩ := o5.form
    have X5 := Lib.hid o5.reads
    clear o5
    clear b5
    obtain ⟨p0, p1, p2, p3, -⟩ := P5.out
    go_wp2_with fail
    clear p0 p1 p2 p3
    refine (TP.out _).mono ?_
    rintro e w6 ⟨rfl, b6⟩
    have B6 := Lib.hid (below_up B5.out b6)
    have H6 := Lib.hid (H5.out.below b6)
    have P6 := Lib.hid (P5.out.below b6)
    have X6 := Lib.hid (X5.out.below b6)
    clear b6
    go_wp2_with fail
    refine (IP.out _ _ X6.out).mono ?_
    rintro e w7 ⟨rfl, b7⟩
    have B7 := Lib.hid (below_up B6.out b7)
    have H7 := Lib.hid (H6.out.below b7)
    have P7 := Lib.hid (P6.out.below b7)
    have X7 := Lib.hid (X6.out.below b7)
    clear b7
    cases t2
    all_goals
      go_wp2_with fail
      refine (T.out _ H7.out).mono ?_
      rintro e w8 ⟨u8, rfl, o8, b8⟩
      have B8 := Lib.hid (below_up B7.out b8)
      have H8 := Lib.hid (H7.out.below b8)
      have P8 := Lib.hid (P7.out.below b8)
      have X8 := Lib.hid (X7.out.below b8)
      obtain ⟨g8, n8, c8, rfl⟩ := o8.form
      have Y8 := Lib.hid o8.reads
      clear o8
      clear b8
      go_wp2_with fail
      refine (EQ.out _ _ _ X8.out Y8.out).mono ?_
      rintro e w9 ⟨rfl, b9⟩
      have B9 := Lib.hid (below_up B8.out b9)
      have H9 := Lib.hid (H8.out.below b9)
      have P9 := Lib.hid (P8.out.below b9)
      have X9 := Lib.hid (X8.out.below b9)
      have Y9 := Lib.hid (Y8.out.below b9)
      clear b9
      go_wp2
      go_ret
      exact ⟨rfl, B9.out⟩
end Go.Proofs.Ytipbjioghicmlaa
