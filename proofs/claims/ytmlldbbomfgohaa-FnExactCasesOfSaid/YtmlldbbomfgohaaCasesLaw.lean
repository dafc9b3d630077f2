/- The walk of the law of CasesOf: it returns true for every problem. -/
import Derived.Test.YtmlldbbomfgohaaCasesOf
namespace Go.Proofs.Ytmlldbbomfgohaa
open Go.RowKit

set_option maxHeartbeats 1600000 in
theorem walkFnExactCasesOf (n : Int) (_wn : (Lit.int .i64 n).wf = true) (h l z : Bool) (w : World) :
    Calls Try.prog 5 #[probV n h l z] w fun e w' => e = .returned (.bool true) ∧ Below w.heap.size w w' := by
  have T := Lib.hid (fun W => toProb n h l z W)
  have SP := Lib.hid (fun W => specCasesOf n h l z W)
  have IM := Lib.hid (fun W => implCasesOf n h l z W)
  have hLm : (casesL n h l z).length ≤ 100000000 := Nat.le_trans (casesIn_len _ _ _) (by omega)
  unfold Lists at SP IM
  generalize casesL n h l z = L at hLm SP IM
  unfold probV
  go_enter Try.func5, Try.ntmps5
  go_wp2_with fail
  refine (T.out _).mono ?_
  rintro e wa ⟨rfl, ba⟩
  have Ya := Lib.hid (((Below.refl w.heap.size w).alloc (Nat.le_refl _) _).trans (ba.mono (by simp)))
  have Pa := Lib.hid ((ProbAt.new w 23 n h l z).below ba)
  clear ba
  go_wp2_with fail
  refine (SP.out _).mono ?_
  rintro e w1 ⟨v0, rfl, O0, B1⟩
  have S0 := Lib.hid (IntsAt.of_owns O0)
  have Y1 := Lib.hid (below_of Ya.out B1)
  obtain ⟨e0, e1, e2, e3, e4⟩ := Pa.out.below B1
  have P1 := Lib.hid (Pa.out.below B1)
  clear O0 B1
  go_wp2_with fail
  clear e0 e1 e2 e3 e4
  refine (T.out _).mono ?_
  rintro e wb ⟨rfl, bb⟩
  have Yb := Lib.hid (below_of Y1.out bb)
  have Sb := Lib.hid (S0.out.below bb)
  have Pb := Lib.hid (P1.out.below bb)
  clear bb
  go_wp2_with fail
  refine (IM.out _).mono ?_
  rintro e w2 ⟨v1, rfl, O1, B2⟩
  have S1 := Lib.hid (IntsAt.of_owns O1)
  have Q1 := Lib.hid O1
  have Y2 := Lib.hid (below_of Yb.out B2)
  have S2 := Lib.hid (Sb.out.below B2)
  have P2 := Lib.hid (Pb.out.below B2)
  have L2 := Lib.hid B2.size
  have Z2 := Lib.hid B2
  have LP := Lib.hid Pb.out.2.2.2.2
  clear O1 B2
  go_wp2_with fail
  refine (eqInts_same v1 v0 L w2 S1.out S2.out hLm).mono ?_
  rintro e w3 ⟨rfl, B3⟩
  have Y3 := Lib.hid (below_of Y2.out B3)
  have S3 := Lib.hid (S2.out.below B3)
  have P3 := Lib.hid (P2.out.below B3)
  have Q3 := Lib.hid (owns_below Q1.out B3)
  have L3 := Lib.hid (Nat.le_trans L2.out B3.size)
  have Z3 := Lib.hid (below_of Z2.out B3)
  clear B3
  go_wp2_with fail
  refine (markInts _ v1 1 L w3 Q3.out (by omega) (by omega) hLm).mono ?_
  rintro e w4 ⟨rfl, O2, G4⟩
  have B4 := below_of_grown Q3.out (Nat.le_refl _) G4 L3.out
  have Y4 := Lib.hid (Y3.out.trans (B4.mono Yb.out.size))
  have P4 := Lib.hid (P3.out.belowN B4 LP.out)
  have M4 := Lib.hid (IntsAt.of_owns_n O2 (imarks_length 1 L.length))
  have S4 := Lib.hid (Sb.out.below (Z3.out.trans B4))
  clear O2 G4 B4
  have hn0 : (0 : Int) ≤ (L.length : Int) := by omega
  go_wp2_with fail
  refine (heldInts v1 1 L.length w4 M4.out (by omega) (by omega) hLm).mono ?_
  rintro e w5 ⟨rfl, rfl⟩
  obtain ⟨e0, e1, e2, e3, e4⟩ := P4.out
  go_wp2_with fail
  clear e0 e1 e2 e3 e4
  refine (T.out _).mono ?_
  rintro e wc ⟨rfl, bc⟩
  have Yc := Lib.hid (below_of Y4.out bc)
  have Mc := Lib.hid (M4.out.below bc)
  have Sc := Lib.hid (S4.out.below bc)
  clear bc
  go_wp2_with fail
  refine (IM.out _).mono ?_
  rintro e w6 ⟨v2, rfl, O6, B6⟩
  have S6 := Lib.hid (IntsAt.of_owns O6)
  have Y6 := Lib.hid (below_of Yc.out B6)
  have M6 := Lib.hid (Mc.out.below B6)
  have S60 := Lib.hid (Sc.out.below B6)
  clear O6 B6
  go_wp2_with fail
  refine (eqInts_same v2 v0 L w6 S6.out S60.out hLm).mono ?_
  rintro e w7 ⟨rfl, B7⟩
  have Y7 := Lib.hid (below_of Y6.out B7)
  have M7 := Lib.hid (M6.out.below B7)
  clear B7
  go_wp2_with fail
  refine (heldInts v1 1 L.length w7 M7.out (by omega) (by omega) hLm).mono ?_
  rintro e w8 ⟨rfl, rfl⟩
  go_wp2
  go_ret
  exact ⟨rfl, Y7.out⟩
end Go.Proofs.Ytmlldbbomfgohaa
