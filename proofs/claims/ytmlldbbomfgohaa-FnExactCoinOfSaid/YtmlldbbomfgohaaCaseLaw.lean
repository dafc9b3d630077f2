/- The walks of the laws of ProblemOk, CaseOk and CoinOf: each returns true for every argument. -/
import Derived.Test.YtmlldbbomfgohaaCaseOk
namespace Go.Proofs.Ytmlldbbomfgohaa
open Go.RowKit

theorem int_range {n : Int} (h : (Lit.int .i64 n).wf = true) : -9223372036854775808 ≤ n ∧ n ≤ 9223372036854775807 := by
  simpa [Lit.wf, IntKind.min, IntKind.max, IntKind.signed, IntKind.bits] using h

set_option maxHeartbeats 800000 in
theorem walkFnExactProblemOk (n : Int) (_wn : (Lit.int .i64 n).wf = true) (h l z : Bool) (w : World) :
    Calls Try.prog 3 #[probV n h l z] w fun e w' => e = .returned (.bool true) ∧ Below w.heap.size w w' := by
  have T := Lib.hid (fun W => toProb n h l z W)
  have C1 := Lib.hid (fun W => specProblemOk n h l z W)
  have C2 := Lib.hid (fun W => implProblemOk n h l z W)
  generalize probB n h l = b at C1 C2
  unfold probV
  go_enter Try.func3, Try.ntmps3
  go_wp2_with fail
  refine (T.out _).mono ?_
  rintro e w1 ⟨rfl, hb1⟩
  have HB1 := Lib.hid hb1
  have P1 := Lib.hid ((ProbAt.new w 23 n h l z).below hb1)
  clear hb1
  go_wp2_with fail
  refine (C1.out _).mono ?_
  rintro e w2 ⟨rfl, hb2⟩
  have HB2 := Lib.hid hb2
  obtain ⟨e0, e1, e2, e3, e4⟩ := P1.out.below hb2
  clear hb2
  go_wp2_with fail
  refine (T.out _).mono ?_
  rintro e w3 ⟨rfl, hb3⟩
  have HB3 := Lib.hid hb3
  clear hb3
  go_wp2_with fail
  refine (C2.out _).mono ?_
  rintro e w4 ⟨rfl, hb4⟩
  have HB4 := Lib.hid hb4
  clear hb4
  cases b
  all_goals
    go_wp2
    go_ret
    exact ⟨rfl, below_of (below_of (below_of (below_of ((Below.refl _ _).alloc (Nat.le_refl _) _) HB1.out) HB2.out) HB3.out) HB4.out⟩

set_option maxHeartbeats 800000 in
theorem walkFnExactCaseOk (n : Int) (_wn : (Lit.int .i64 n).wf = true) (h l z : Bool) (c : Int) (wc : (Lit.int .i64 c).wf = true) (w : World) :
    Calls Try.prog 4 #[probV n h l z, .int .i64 c] w fun e w' => e = .returned (.bool true) ∧ Below w.heap.size w w' := by
  obtain ⟨c0, c1⟩ := int_range wc
  have T := Lib.hid (fun W => toProb n h l z W)
  have C1 := Lib.hid (fun W => specCaseOk n c h l z W c0 c1)
  have C2 := Lib.hid (fun W => implCaseOk n c h l z W c0 c1)
  generalize caseB n h l z c = b at C1 C2
  clear wc
  unfold probV
  go_enter Try.func4, Try.ntmps4
  go_wp2_with fail
  refine (T.out _).mono ?_
  rintro e w1 ⟨rfl, hb1⟩
  have HB1 := Lib.hid hb1
  have P1 := Lib.hid ((ProbAt.new w 23 n h l z).below hb1)
  clear hb1
  go_wp2_with fail
  refine (C1.out _).mono ?_
  rintro e w2 ⟨rfl, hb2⟩
  have HB2 := Lib.hid hb2
  obtain ⟨e0, e1, e2, e3, e4⟩ := P1.out.below hb2
  clear hb2
  go_wp2_with fail
  refine (T.out _).mono ?_
  rintro e w3 ⟨rfl, hb3⟩
  have HB3 := Lib.hid hb3
  clear hb3
  go_wp2_with fail
  refine (C2.out _).mono ?_
  rintro e w4 ⟨rfl, hb4⟩
  have HB4 := Lib.hid hb4
  clear hb4
  cases b
  all_goals
    go_wp2
    go_ret
    exact ⟨rfl, below_of (below_of (below_of (below_of ((Below.refl _ _).alloc (Nat.le_refl _) _) HB1.out) HB2.out) HB3.out) HB4.out⟩

theorem walkFnExactCoinOf (c : Int) (wc : (Lit.int .i64 c).wf = true) (w : World) :
    Calls Try.prog 6 #[.int .i64 c] w fun e w' => e = .returned (.bool true) ∧ Below w.heap.size w w' := by
  obtain ⟨c0, c1⟩ := int_range wc
  have C1 := Lib.hid (fun W => specCoinOf c W c0 c1)
  have C2 := Lib.hid (fun W => implCoinOf c W c0 c1)
  generalize coinI c = b at C1 C2
  clear wc
  go_enter Try.func6, Try.ntmps6
  go_wp2_with fail
  refine (C1.out _).mono ?_
  rintro e w1 ⟨rfl, rfl⟩
  go_wp2_with fail
  refine (C2.out _).mono ?_
  rintro e w2 ⟨rfl, rfl⟩
  go_wp2
  go_ret
  exact ⟨rfl, Below.refl _ _⟩
end Go.Proofs.Ytmlldbbomfgohaa
