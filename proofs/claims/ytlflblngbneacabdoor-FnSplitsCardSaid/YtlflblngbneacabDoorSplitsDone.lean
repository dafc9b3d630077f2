/- The walk of FnSplits, round the contract of the program's SplitLine. No other condition. -/
import Derived.Test.YtlflblngbneacabDoorSplitsFacts
import Derived.Test.YtlflblngbneacabDoorCasesFacts
import Derived.Test.YtlflblngbneacabDoorMakeProb
import Derived.Test.YtlflblngbneacabDoorMakeW
import Derived.Test.YtlflblngbneacabDoorSplitByImpl
import Derived.Test.YtlflblngbneacabDoorOutcomesLaw
namespace Go.Proofs.YtlflblngbneacabDoor
open Go.RowKit

set_option maxRecDepth 100000 in
set_option maxHeartbeats 16000000 in
theorem walkSplits (w : World) (a : Option Addr) (len cap : Nat) (hB : BytesAt w a len)
    (CSL : ∀ L R l : List Int, L.length ≤ 13 → R.length ≤ 13 → l.length ≤ 27 → (∀ x ∈ l, -9223372036854775808 ≤ x ∧ x ≤ 9223372036854775807) → ∀ W, Below w.heap.size w W → ∀ vl vr vc, IntsAt W vl L → IntsAt W vr R → IntsAt W vc l →
      Calls Tryd.prog 27 #[.agg #[vl, vr], vc] W fun e w' => e = .returned (.string (splitT L R l)) ∧ Below W.heap.size W w') :
    Calls Tryd.prog 5 #[.slice a len cap] w fun e w' => e = .returned (.bool true) ∧ Below w.heap.size w w' := by
  by_cases hbig : (1048576 : Int) < (len : Int)
  · go_enter Tryd.func5, Tryd.ntmps5
    go_wp2
    go_ret
    exact ⟨rfl, Below.refl _ _⟩
  have hl : len ≤ 1048576 := by omega
  have C1 := Lib.hid (specMakeProb w w a len cap hB (Below.refl _ _) hl)
  have CW := Lib.hid (fun W n h h1 h2 => specMakeW w W a len cap n hB h hl h1 h2)
  have HCL := Lib.hid CSL
  clear hB CSL
  go_enter Tryd.func5, Tryd.ntmps5
  go_wp2_with fail
  refine C1.out.mono ?_
  rintro e w1 ⟨n, h, l, z, rfl, hp, n2, n8, b1⟩
  have HSO := Lib.hid (cases_some (z := z) hp)
  have HIN := Lib.hid (fun x (hx : x ∈ casesL n h l z) => cases_in hx)
  have HLE : (casesL n h l z).length ≤ 27 := cases_len n h l z
  have CCA := Lib.hid (fun W => implCasesOf n h l z W)
  have P2 := ProbAt.new w1 30 n h l z
  have A2 := alloc_below w1 (.cells #[.int .i64 n, .bool h, .bool l, .bool z] 30)
  unfold probV at CCA ⊢
  generalize hX2 : w1.alloc (.cells #[.int .i64 n, .bool h, .bool l, .bool z] 30) = X2 at P2 A2
  have PX := Lib.hid P2
  have BX := Lib.hid (below_up b1 A2)
  clear P2 A2 b1 C1 hbig hl hp
  generalize casesL n h l z = K at HSO HIN HLE CCA
  obtain ⟨e0, e1, e2, e3, -⟩ := PX.out
  go_wp2_with fail
  refine (CW.out _ n BX.out (by omega) (by omega)).mono ?_
  rintro e w3 ⟨_, L, R, rfl, ⟨vl, vr, rfl, O1, O2, -, D1, D2⟩, hv, bb⟩
  have hv13 := weigh_13 hv
  obtain ⟨m1, m2⟩ := weigh_len hv
  obtain ⟨ga, ca, rfl, -⟩ := solid_form O1 D1
  obtain ⟨gb, cb, rfl, -⟩ := solid_form O2 D2
  have A4 := alloc_below w3 (.cells #[.slice (some ⟨ga, 0, none⟩) L.length ca, .slice (some ⟨gb, 0, none⟩) R.length cb] 40)
  have T4 := Lib.hid (TwoAt.new w3 40 (.slice (some ⟨ga, 0, none⟩) L.length ca) (.slice (some ⟨gb, 0, none⟩) R.length cb))
  have L4 := Lib.hid (O1.reads.below A4)
  have R4 := Lib.hid (O2.reads.below A4)
  have P4 := Lib.hid ((PX.out.below bb).below A4)
  have B4 := Lib.hid (below_up (below_up BX.out bb) A4)
  generalize hX4 : w3.alloc (.cells #[.slice (some ⟨ga, 0, none⟩) L.length ca, .slice (some ⟨gb, 0, none⟩) R.length cb] 40) = X4 at T4 L4 R4 P4 B4
  clear bb A4 O1 O2 D1 D2 hv e0 e1 e2 e3 PX BX CW hX2
  obtain ⟨e0, e1, e2, e3, -⟩ := P4.out
  go_wp2_with fail
  refine (CCA.out _).mono ?_
  rintro e w5 ⟨v, rfl, ow, bb⟩
  have K5 := IntsAt.of_owns ow
  have CSB := Lib.hid (fun vl vr vc W h1 h2 h3 => implSplitBy vl vr vc L R K W h1 h2 h3 (by omega) (by omega) (by omega) fun x hx => by have := HIN.out x hx; omega)
  have CTE := Lib.hid (fun vl vr vc W h1 h2 h3 => implTells vl vr vc L R K W h1 h2 h3 (by omega) (by omega) (by omega) fun x hx => by have := HIN.out x hx; omega)
  have COU := Lib.hid (fun x (hx : x ∈ K) vl vr W h1 h2 => implOutcome vl vr L R x W h1 h2 (by omega) (by omega) (by have := HIN.out x hx; omega) (by have := HIN.out x hx; omega))
  have CSI := Lib.hid (HCL.out L R K m1 m2 HLE (fun x hx => by have := HIN.out x hx; omega))
  have HSP := Lib.hid (split_some (l := K) hv13)
  have HPS := parts_sum (outI L R) K
  have HHA := Lib.hid (fun x (hx : x ∈ K) => And.intro (parts_less (f := outI L R) hx) (And.intro (parts_even (f := outI L R) hx) (parts_more (f := outI L R) hx)))
  have HO3 := Lib.hid (fun x => outI_three L R x)
  have HMO : mostI (outI L R) K = max (max ((lessL (outI L R) K).length : Int) ((evenL (outI L R) K).length : Int)) ((moreL (outI L R) K).length : Int) := rfl
  unfold Parts at CSB
  generalize splitT L R K = tx at CSI HSP
  generalize outI L R = f at CSB CTE COU HPS HHA HO3 HMO
  generalize mostI f K = mo at CTE HMO
  have T5 := Lib.hid (T4.out.below bb)
  have L5 := Lib.hid (L4.out.below bb)
  have R5 := Lib.hid (R4.out.below bb)
  have B5 := Lib.hid (below_up B4.out bb)
  obtain ⟨gk, ck, rfl, -⟩ := id K5
  replace K5 := Lib.hid K5
  clear bb ow e0 e1 e2 e3 T4 L4 R4 P4 B4 CCA HCL hX4 hv13 HIN
  obtain ⟨e0, e1, -⟩ := T5.out
  go_wp2_with fail
  refine (CSB.out _ _ _ _ L5.out R5.out K5.out).mono ?_
  rintro e w6 ⟨v1, v2, v3, rfl, TH, bb⟩
  have I1 := TH.o1.reads
  have I2 := TH.o2.reads
  have I3 := TH.o3.reads
  have T6 := Lib.hid (T5.out.below bb)
  have L6 := Lib.hid (L5.out.below bb)
  have R6 := Lib.hid (R5.out.below bb)
  have K6 := Lib.hid (K5.out.below bb)
  have B6 := Lib.hid (below_up B5.out bb)
  generalize lessL f K = K1 at I1 HPS HHA HMO
  generalize evenL f K = K2 at I2 HPS HHA HMO
  generalize moreL f K = K3 at I3 HPS HHA HMO
  obtain ⟨g1, c1, rfl, -⟩ := id I1
  obtain ⟨g2, c2, rfl, -⟩ := id I2
  obtain ⟨g3, c3, rfl, -⟩ := id I3
  have CH1 := Lib.hid (fun x W h => lawsHas (.slice g1 K1.length c1) K1 x W h (by omega))
  have CH2 := Lib.hid (fun x W h => lawsHas (.slice g2 K2.length c2) K2 x W h (by omega))
  have CH3 := Lib.hid (fun x W h => lawsHas (.slice g3 K3.length c3) K3 x W h (by omega))
  replace I1 := Lib.hid I1
  replace I2 := Lib.hid I2
  replace I3 := Lib.hid I3
  clear TH bb e0 e1 T5 L5 R5 K5 B5 CSB
  obtain ⟨e0, e1, -⟩ := T6.out
  go_wp2_with fail
  refine (CTE.out _ _ _ _ L6.out R6.out K6.out).mono ?_
  rintro e w7 ⟨rfl, bb⟩
  have T7 := Lib.hid (T6.out.below bb)
  have L7 := Lib.hid (L6.out.below bb)
  have R7 := Lib.hid (R6.out.below bb)
  have K7 := Lib.hid (K6.out.below bb)
  have J1 := Lib.hid (I1.out.below bb)
  have J2 := Lib.hid (I2.out.below bb)
  have J3 := Lib.hid (I3.out.below bb)
  have B7 := Lib.hid (below_up B6.out bb)
  clear bb e0 e1 T6 L6 R6 K6 B6 I1 I2 I3 CTE
  obtain ⟨k, hk⟩ : ∃ k, K.length = k := ⟨_, rfl⟩
  obtain ⟨k1, hk1⟩ : ∃ k, K1.length = k := ⟨_, rfl⟩
  obtain ⟨k2, hk2⟩ : ∃ k, K2.length = k := ⟨_, rfl⟩
  obtain ⟨k3, hk3⟩ : ∃ k, K3.length = k := ⟨_, rfl⟩
  have HK := Lib.hid hk
  have k0 : k ≠ 0 := fun e => HSO.out (List.eq_nil_of_length_eq_zero (by omega))
  rw [hk1, hk2, hk3] at HMO
  rw [hk, hk1, hk2, hk3] at HPS
  rw [hk] at HLE K7 ⊢
  rw [hk1] at J1 CH1 ⊢
  rw [hk2] at J2 CH2 ⊢
  rw [hk3] at J3 CH3 ⊢
  have q0 : ((k : Int) == 0) = false := by simp; omega
  have q1 : ((k1 : Int) + (k2 : Int) + (k3 : Int) != (k : Int)) = false := by
    rw [show (k1 : Int) + (k2 : Int) + (k3 : Int) = (k : Int) by omega]; simp
  have q2 : ¬ 3 * mo < (k : Int) := by rw [HMO]; omega
  have q4 : 0 ≤ mo ∧ mo ≤ 27 := by rw [HMO]; omega
  obtain ⟨q5, q6⟩ := q4
  have r1 : k1 ≤ 27 := by omega
  have r2 : k2 ≤ 27 := by omega
  have r3 : k3 ≤ 27 := by omega
  have hmx : ∃ m : Nat, mo = (m : Int) ∧ ((k1 < k2 ∧ k2 < k3 ∧ m = k3) ∨ (k1 < k2 ∧ ¬ k2 < k3 ∧ m = k2) ∨ (¬ k1 < k2 ∧ k1 < k3 ∧ m = k3) ∨ (¬ k1 < k2 ∧ ¬ k1 < k3 ∧ m = k1)) := by
    rcases Nat.lt_or_ge k1 k2 with o1 | o1
    · rcases Nat.lt_or_ge k2 k3 with o2 | o2
      · exact ⟨k3, by rw [HMO]; omega, .inl ⟨o1, o2, rfl⟩⟩
      · exact ⟨k2, by rw [HMO]; omega, .inr (.inl ⟨o1, by omega, rfl⟩)⟩
    · rcases Nat.lt_or_ge k1 k3 with o2 | o2
      · exact ⟨k3, by rw [HMO]; omega, .inr (.inr (.inl ⟨by omega, o2, rfl⟩))⟩
      · exact ⟨k1, by rw [HMO]; omega, .inr (.inr (.inr ⟨by omega, by omega, rfl⟩))⟩
  clear HMO HPS hk hk1 hk2 hk3 HSO
  obtain ⟨m, rfl, hmx⟩ := hmx
  rcases hmx with ⟨o1, o2, rfl⟩ | ⟨o1, o2, rfl⟩ | ⟨o1, o2, rfl⟩ | ⟨o1, o2, rfl⟩
  all_goals
    go_wp2_with fail
    go_loopw [70] (fun iv wr => ∃ i : Nat, i ≤ k ∧ iv = .int .i64 i ∧ Hid (TwoAt wr w3.heap.size (.slice (some ⟨ga, 0, none⟩) L.length ca) (.slice (some ⟨gb, 0, none⟩) R.length cb)) ∧ Hid (IntsAt wr (.slice (some ⟨ga, 0, none⟩) L.length ca) L) ∧ Hid (IntsAt wr (.slice (some ⟨gb, 0, none⟩) R.length cb) R) ∧ Hid (IntsAt wr (.slice gk k ck) K) ∧ Hid (IntsAt wr (.slice g1 _ c1) K1) ∧ Hid (IntsAt wr (.slice g2 _ c2) K2) ∧ Hid (IntsAt wr (.slice g3 _ c3) K3) ∧ Hid (Below w.heap.size w wr)) (fun iv _ => k - (intOf iv).toNat)
    case atStart => exact ⟨0, Nat.zero_le _, rfl, T7, L7, R7, K7, J1, J2, J3, B7⟩
    case round =>
      clear T7 L7 R7 K7 J1 J2 J3 B7
      obtain ⟨i, hi, rfl, T8, L8, R8, K8, J1, J2, J3, B8⟩ := hrel
      by_cases hlt : i < k
      · have hil : i < K.length := by rw [HK.out]; exact hlt
        have i0 : (0 : Int) ≤ (i : Int) := by omega
        have i1 : (i : Int) < (k : Int) := by omega
        obtain ⟨b1, ox, rfl, gx⟩ : ∃ b o, gk = some ⟨b, o, none⟩ ∧ wr.cell? ⟨b, o + i, none⟩ = some (.int .i64 K[i]) := by
          obtain ⟨_, _, e, h⟩ := K8.out
          injection e with e1 e2 e3
          rcases h with h | ⟨b, o, h, hc⟩
          · rw [h] at hil; simp at hil
          · exact ⟨b, o, by rw [e1, h], hc i hil⟩
        have CO8 := Lib.hid (COU.out K[i] (List.getElem_mem hil))
        obtain ⟨s1, s2, s3⟩ := HHA.out K[i] (List.getElem_mem hil)
        have D1 := Lib.hid (fun W h => CH1.out K[i] W h)
        have D2 := Lib.hid (fun W h => CH2.out K[i] W h)
        have D3 := Lib.hid (fun W h => CH3.out K[i] W h)
        rw [s1] at D1
        rw [s2] at D2
        rw [s3] at D3
        have ho := HO3.out K[i]
        generalize f K[i] = o at CO8 D1 D2 D3 ho
        clear s1 s2 s3
        generalize K[i] = x at gx CO8 D1 D2 D3
        clear hil
        obtain ⟨e0, e1, -⟩ := T8.out
        rcases ho with rfl | rfl | rfl
        all_goals
          go_wp2_with fail
          refine (CO8.out _ _ _ L8.out R8.out).mono ?_
          rintro e w9 ⟨rfl, bb⟩
          have T9 := Lib.hid (T8.out.below bb)
          have L9 := Lib.hid (L8.out.below bb)
          have R9 := Lib.hid (R8.out.below bb)
          have K9 := Lib.hid (K8.out.below bb)
          have M1 := Lib.hid (J1.out.below bb)
          have M2 := Lib.hid (J2.out.below bb)
          have M3 := Lib.hid (J3.out.below bb)
          have B9 := Lib.hid (below_up B8.out bb)
          clear bb e0 e1 gx T8 L8 R8 K8 J1 J2 J3 B8
          go_wp2_with fail
          refine (D1.out _ M1.out).mono ?_
          rintro e w10 ⟨rfl, rfl⟩
          go_wp2_with fail
          refine (D2.out _ M2.out).mono ?_
          rintro e w10 ⟨rfl, rfl⟩
          go_wp2_with fail
          refine (D3.out _ M3.out).mono ?_
          rintro e w10 ⟨rfl, rfl⟩
          go_wp2
          go_roundw
          case rel => exact ⟨i + 1, by omega, by go_num, T9, L9, R9, K9, M1, M2, M3, B9⟩
          case measure => simp [intOf]; omega
      · obtain rfl : i = k := by omega
        obtain ⟨e0, e1, -⟩ := T8.out
        have hsp := HSP.out
        go_wp2_with fail
        refine (CSI.out _ B8.out _ _ _ L8.out R8.out K8.out).mono ?_
        rintro e w9 ⟨rfl, bb⟩
        have B9 := Lib.hid (below_up B8.out bb)
        clear bb
        go_wp2
        go_ret
        exact ⟨rfl, B9.out⟩
end Go.Proofs.YtlflblngbneacabDoor
