/- The walk of the law of SplitLines: it returns true for all texts. -/
import Derived.Test.YtbncjpcalheiiaaLines
namespace Go.Proofs.Ytbncjpcalheiiaa
open Go.RowKit

set_option maxHeartbeats 1600000 in
theorem walkFnExactSplitLines (a0 : ByteArray) (_w0 : a0.size ≤ maxLen) (w : World) :
    Calls Try.prog 6 #[.string a0] w fun e w' => e = .returned (.bool true) ∧ Below w.heap.size w w' := by
  by_cases hb : (1048576 : Int) < (a0.size : Int)
  · go_enter Try.func6, Try.ntmps6
    go_wp2
    go_ret
    exact ⟨rfl, Below.refl _ _⟩
  have h0 : a0.size ≤ 1048576 := by omega
  have hL := lines_length a0
  have SP := Lib.hid (fun W => specLines a0 W h0)
  have IM := Lib.hid (fun W => implLines a0 W h0)
  unfold Owned at SP IM
  generalize linesOf a0 = L at hL SP IM
  have hLm : L.length ≤ 100000000 := by omega
  clear hL h0
  go_enter Try.func6, Try.ntmps6
  go_wp2_with fail
  refine (SP.out _).mono ?_
  rintro e w1 ⟨v0, rfl, O0, B1⟩
  have S0 := Lib.hid (StrsAt.of_owns O0)
  have X1 := Lib.hid B1
  clear O0 B1
  go_wp2_with fail
  refine (IM.out _).mono ?_
  rintro e w2 ⟨v1, rfl, O1, B2⟩
  have S1 := Lib.hid (StrsAt.of_owns O1)
  have P1 := Lib.hid O1
  have X2 := Lib.hid B2
  clear O1 B2
  go_wp2_with fail
  refine (eqStrs_same v1 v0 L w2 S1.out (S0.out.below X2.out) hLm).mono ?_
  rintro e w3 ⟨rfl, B3⟩
  have X3 := Lib.hid B3
  clear B3
  go_wp2_with fail
  refine (markStrs _ v1 1 L w3 (owns_below P1.out X3.out) (by omega) (by omega) hLm).mono ?_
  rintro e w4 ⟨rfl, O2, G4⟩
  have X4 := Lib.hid (below_of_grown (owns_below P1.out X3.out) (Nat.le_refl _) G4 (Nat.le_trans X2.out.size X3.out.size))
  have S2 := Lib.hid (StrsAt.of_owns_n O2 (marks_length 1 L.length))
  clear O2 G4
  have hn0 : (0 : Int) ≤ (L.length : Int) := by omega
  go_wp2_with fail
  refine (heldStrs v1 1 L.length w4 S2.out (by omega) (by omega) hLm).mono ?_
  rintro e w5 ⟨rfl, B5⟩
  have X5 := Lib.hid B5
  clear B5
  go_wp2_with fail
  refine (IM.out _).mono ?_
  rintro e w6 ⟨v2, rfl, O3, B6⟩
  have S3 := Lib.hid (StrsAt.of_owns O3)
  have X6 := Lib.hid B6
  clear O3 B6
  have Y3 := Lib.hid (X2.out.trans (X3.out.mono X2.out.size))
  have Y4 := Lib.hid (Y3.out.trans X4.out)
  have Y5 := Lib.hid (Y4.out.trans (X5.out.mono Y4.out.size))
  have Y6 := Lib.hid (Y5.out.trans (X6.out.mono Y5.out.size))
  go_wp2_with fail
  refine (eqStrs_same v2 v0 L w6 S3.out (S0.out.below Y6.out) hLm).mono ?_
  rintro e w7 ⟨rfl, B7⟩
  have X7 := Lib.hid B7
  clear B7
  go_wp2_with fail
  have Z6 := Lib.hid (X5.out.trans (X6.out.mono X5.out.size))
  refine (heldStrs v1 1 L.length w7 (S2.out.below (Z6.out.trans (X7.out.mono Z6.out.size))) (by omega) (by omega) hLm).mono ?_
  rintro e w8 ⟨rfl, B8⟩
  have X8 := Lib.hid B8
  clear B8
  go_wp2
  go_ret
  have Y7 := Y6.out.trans (X7.out.mono Y6.out.size)
  have Y8 := Y7.trans (X8.out.mono Y7.size)
  exact ⟨rfl, X1.out.trans (Y8.mono X1.out.size)⟩
end Go.Proofs.Ytbncjpcalheiiaa
