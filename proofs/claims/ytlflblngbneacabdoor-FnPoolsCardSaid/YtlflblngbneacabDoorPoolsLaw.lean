/- The walk of FnPools round the contracts of the program's functions: it returns true for every argument. Condition: the slice reads as bytes. -/
import Derived.Test.YtlflblngbneacabDoorPoolsFacts
import Derived.Test.YtlflblngbneacabDoorMakePools
import Derived.Test.YtlflblngbneacabDoorPoolLaws
import Derived.Test.YtlflblngbneacabDoorSignLaws
import Derived.Test.YtlflblngbneacabDoorOutcomesLaw
import Derived.Deep.RegionHeld3
namespace Go.Proofs.YtlflblngbneacabDoor
open Go.RowKit

set_option maxRecDepth 100000 in
set_option maxHeartbeats 6400000 in
theorem walkPools (w : World) (IT : ∀ n P b, P.length ≤ 1048576 → TestPoolsIs 41 n P b) (IC : ∀ n P R most, P.length ≤ 1048576 → R.length ≤ 1048576 → ConsistentSetsIs 42 n P R most)
    (IG : ∀ n P R, P.length ≤ 1048576 → R.length ≤ 1048576 → SurelyGoodIs 43 n P R) (IB : ∀ n P R, P.length ≤ 1048576 → R.length ≤ 1048576 → SurelyBadIs 44 n P R)
    (IP : ∀ n P, P.length ≤ 1048576 → PoolsOkIs 45 n P) (IN : ∀ s, s ≤ 1023 → CountItemsIs 47 s) (IR : ∀ l, l.length ≤ 1048576 → FormatResultsIs 46 l w)
    (a : Option Addr) (len cap : Nat) (hB : BytesAt w a len) :
    Calls Tryd.prog 8 #[.slice a len cap] w fun e w' => e = .returned (.bool true) ∧ Below w.heap.size w w' := by
  by_cases hbig : (1048576 : Int) < (len : Int)
  · go_enter Tryd.func8, Tryd.ntmps8
    go_wp2
    go_ret
    exact ⟨rfl, Below.refl _ _⟩
  have hl : len ≤ 1048576 := by omega
  have C1 := Lib.hid (makeNum_any w w a len cap 1 hB (Below.refl _ _) hl (by omega) (by omega))
  have C3 := Lib.hid (fun V h => makeNum_any w V a len cap 3 hB h hl (by omega) (by omega))
  have CM := Lib.hid (fun V n n1 n7 h => specMakePools w V a len cap 20 n n1 n7 hB h hl (by omega) (by omega))
  have HIT := Lib.hid IT
  have HIC := Lib.hid IC
  have HIG := Lib.hid IG
  have HIB := Lib.hid IB
  have HIP := Lib.hid IP
  have HIN := Lib.hid IN
  have HIR := Lib.hid IR
  clear hB IT IC IG IB IP IN IR
  go_enter Tryd.func8, Tryd.ntmps8
  go_wp2_with fail
  refine C1.out.mono ?_
  rintro e w1 ⟨x, rfl, x0, x1, bb⟩
  have B1 := Lib.hid bb
  clear bb C1 hbig hl
  obtain ⟨n, hn⟩ : ∃ n : Nat, 1 + x % 7 = (n : Int) := ⟨(1 + x % 7).toNat, by omega⟩
  have n1 : 1 ≤ n := by omega
  have n7 : n ≤ 7 := by omega
  have CM1 := Lib.hid (CM.out w1 n n1 n7 B1.out)
  unfold MadePools at CM1
  go_wp2_with fail
  refine CM1.out.mono ?_
  rintro e w2 ⟨v, P, rfl, hv, hp, bb⟩
  have R2 := Lib.hid hv
  have HP := Lib.hid hp
  have B2 := Lib.hid (below_up B1.out bb)
  obtain ⟨ga, gc, rfl, -⟩ := id hv
  obtain ⟨t1, t2, t3⟩ := top_of n1 n7
  clear hv hp bb CM CM1 B1
  have n0 : (0 : Int) ≤ (n : Int) := by omega
  generalize hT : topI (n : Int) + 1 = T at t1
  have T0 : (T == 0) = false := by rw [beq_eq_false_iff_ne]; omega
  have T1 : 0 < T := by omega
  have Tn : ¬ T = 0 := by omega
  have T2 : 0 ≤ T := by omega
  have HT := Lib.hid hT
  clear hT t2 t3 hn
  go_wp2_with fail
  go_region_held3 (fun w' => w2.heap.size ≤ w'.heap.size)
    (first | exact B3.out.size | exact Nat.le_refl _)
    (first
      | (go_at_call 35; refine (C3.out _ B2.out.drew).mono ?_; rintro e w3 ⟨y, rfl, y0, y1, bb⟩; have B3 := Lib.hid (below_up (Below.refl w2.heap.size w2).drew bb); have BW := Lib.hid (below_up B2.out.drew bb); clear bb)
      | fail)
  have hbd : 0 ≤ y.tmod T ∧ y.tmod T < T := ⟨Int.tmod_nonneg _ y0, Int.tmod_lt_of_pos _ T1⟩
  generalize y.tmod T = bd at hbd
  have b1 : bd ≤ topI (n : Int) := by have := HT.out; omega
  have ht := top_in (n := (n : Int)) (by omega)
  have R3 := Lib.hid (R2.out.below B3.out)
  have hpl := (pools_in HP.out).2.1
  have HTB : Hid (∀ z : Int, 0 ≤ z → z ≤ topI (n : Int) → testsB (n : Int) P z = true ∧ testR (n : Int) P z = resL P z) := fun z z0 z1 => by
    have h : testsB (n : Int) P z = true := by
      unfold testsB
      rw [HP.out, decide_eq_true z0, decide_eq_true z1]
      rfl
    exact ⟨h, by unfold testR; rw [if_pos h]⟩
  have HTELL := Lib.hid (pools_tell HP.out hbd.1 (show bd ≤ 1023 by omega))
  have HCM := Lib.hid (cons_mem HP.out hbd.1 b1)
  have HCO : Hid (∀ z ∈ consR (n : Int) P (resL P bd) (n : Int), (0 ≤ z ∧ z ≤ topI (n : Int)) ∧ resL P z = resL P bd ∧ andI z (goodR (n : Int) P (resL P bd)) = 0 ∧ andI z (badR (n : Int) P (resL P bd)) = badR (n : Int) P (resL P bd)) := fun z hz => by
    obtain ⟨h1, h2, h3, h4⟩ := cons_of hz
    have h5 := pools_tell h1 h2 (show z ≤ 1023 by omega)
    rw [h4] at h5
    exact ⟨⟨h2, h3⟩, h4, h5.2.1, h5.2.2.2⟩
  have HCF : Hid ((consR (n : Int) P (resL P bd) (cntI bd)).length ≤ (consR (n : Int) P (resL P bd) (n : Int)).length) := cons_few _ _ _ (by
    obtain ⟨j, rfl⟩ := Int.eq_ofNat_of_zero_le hbd.1
    have hc : ((2 ^ n : Nat) : Int) = (2 : Int) ^ n := by simp
    have e : topI (n : Int) = 2 ^ n - 1 := rfl
    exact cnt_few (by omega) (by omega))
  have HCL : Hid ((consR (n : Int) P (resL P bd) (n : Int)).length ≤ 1024) := by
    have h2 : 2 ^ n ≤ 1024 := Nat.pow_le_pow_right (n := 2) (by decide) (show n ≤ 10 by omega)
    unfold Hid consR
    split
    · unfold consL
      refine Nat.le_trans (List.length_filter_le _ _) ?_
      rw [List.length_map, List.length_range, Int.toNat_natCast]
      exact h2
    · simp
  have CT := Lib.hid (fun z W h => HIT.out (n : Int) P z (by omega) W (.slice ga P.length gc) h)
  have CC := Lib.hid (fun (m : Int) W vR h h' => HIC.out (n : Int) P (resL P bd) m (by omega) (by rw [resL_len]; omega) W (.slice ga P.length gc) vR h h')
  have CG := Lib.hid (fun W vR h h' => HIG.out (n : Int) P (resL P bd) (by omega) (by rw [resL_len]; omega) W (.slice ga P.length gc) vR h h')
  have CB := Lib.hid (fun W vR h h' => HIB.out (n : Int) P (resL P bd) (by omega) (by rw [resL_len]; omega) W (.slice ga P.length gc) vR h h')
  have CP := Lib.hid (fun W h => HIP.out (n : Int) P (by omega) W (.slice ga P.length gc) h)
  have CN := Lib.hid (fun W => HIN.out bd (by omega) W)
  have CR := Lib.hid (HIR.out (resL P bd) (by rw [resL_len]; omega))
  have CH := Lib.hid (fun W v h => lawsHas v (consR (n : Int) P (resL P bd) (n : Int)) bd W h (by have := HCL.out; omega))
  have HRL : Hid ((resL P bd).length = P.length) := resL_len P bd
  rw [HP.out] at CP
  rw [hasI_mem.2 HCM.out] at CH
  unfold TestsR at CT
  unfold ListsI2 at CC
  unfold FormatResultsIs at CR
  have CT1 := Lib.hid (CT.out bd)
  rw [(HTB.out bd hbd.1 b1).1, (HTB.out bd hbd.1 b1).2] at CT1
  have CTZ : Hid (∀ z ∈ consR (n : Int) P (resL P bd) (n : Int), ∀ W, IntsAt W (.slice ga P.length gc) P → Calls Tryd.prog 41 #[.int .i64 (n : Int), .slice ga P.length gc, .int .i64 z] W fun e w' => ∃ u, e = .returned (.tuple #[u, .bool true]) ∧ OwnB w' W.heap.size u (resL P bd) ∧ Below W.heap.size W w') := fun z hz W h => by
    have h1 := HCO.out z hz
    have h2 := HTB.out z h1.1.1 h1.1.2
    have h3 := CT.out z W h
    rwa [h2.1, h2.2, h1.2.1] at h3
  have HZ : Hid (∀ z ∈ consR (n : Int) P (resL P bd) (n : Int), bits .and .i64 z (goodR (n : Int) P (resL P bd)) = 0 ∧ bits .and .i64 z (badR (n : Int) P (resL P bd)) = badR (n : Int) P (resL P bd)) := fun z hz => (HCO.out z hz).2.2
  have k1 : bits .and .i64 (goodR (n : Int) P (resL P bd)) bd = 0 := HTELL.out.1
  have k2 : bits .and .i64 (badR (n : Int) P (resL P bd)) bd = badR (n : Int) P (resL P bd) := HTELL.out.2.2.1
  clear CT HTB HTELL HCM HCO HIT HIC HIG HIB HIP HIN HIR ht
  have CC1 := Lib.hid (CC.out (n : Int))
  have CC2 := Lib.hid (CC.out (cntI bd))
  generalize consR (n : Int) P (resL P bd) (cntI bd) = LD at CC2 HCF
  generalize consR (n : Int) P (resL P bd) (n : Int) = LC at CC1 CTZ HZ HCF HCL CH
  generalize cntI bd = cb at CC2 CN
  generalize goodR (n : Int) P (resL P bd) = G at CG HZ k1
  generalize badR (n : Int) P (resL P bd) = U at CB HZ k2
  generalize resL P bd = RB at CT1 CC1 CC2 CG CB CR CTZ HRL
  generalize ressT RB = rt at CR
  clear CC hbd b1 y0 y1 HT T0 T1 Tn T2 C3 B2 B3
  obtain ⟨m, hm⟩ : ∃ m, P.length = m := ⟨_, rfl⟩
  rw [hm] at HRL R2 R3 CT1 CC1 CC2 CG CB CP CTZ
  rw [hm]
  clear hm hpl HP
  go_wp2_with fail
  refine (CT1.out _ R3.out).mono ?_
  rintro e w4 ⟨u, rfl, ou, bb⟩
  have Q4 := ou.reads
  have R4 := Lib.hid (R3.out.below bb)
  have B4 := Lib.hid (below_up BW.out bb)
  obtain ⟨gr, cr, rfl, -⟩ := id Q4
  have hsl := HRL.out
  rw [hsl] at Q4
  rw [hsl]
  replace Q4 := Lib.hid Q4
  clear ou bb R3 R2 CT1 BW hsl
  go_wp2_with fail
  refine (CC1.out _ _ R4.out Q4.out).mono ?_
  rintro e w5 ⟨u, rfl, ou, bb⟩
  have L5 := Lib.hid ou.reads
  have R5 := Lib.hid (R4.out.below bb)
  have Q5 := Lib.hid (Q4.out.below bb)
  have B5 := Lib.hid (below_up B4.out bb)
  obtain ⟨gl, cl, rfl, -⟩ := ou.reads
  clear ou bb R4 Q4 B4 CC1
  go_wp2_with fail
  refine (CG.out _ _ R5.out Q5.out).mono ?_
  rintro e w6 ⟨rfl, bb⟩
  have L6 := Lib.hid (L5.out.below bb)
  have R6 := Lib.hid (R5.out.below bb)
  have Q6 := Lib.hid (Q5.out.below bb)
  have B6 := Lib.hid (below_up B5.out bb)
  clear bb R5 Q5 L5 B5 CG
  go_wp2_with fail
  refine (CB.out _ _ R6.out Q6.out).mono ?_
  rintro e w7 ⟨rfl, bb⟩
  have L7 := Lib.hid (L6.out.below bb)
  have R7 := Lib.hid (R6.out.below bb)
  have Q7 := Lib.hid (Q6.out.below bb)
  have B7 := Lib.hid (below_up B6.out bb)
  clear bb R6 Q6 L6 B6 CB
  go_wp2_with fail
  refine (CP.out _ R7.out).mono ?_
  rintro e w8 ⟨rfl, bb⟩
  have L8 := Lib.hid (L7.out.below bb)
  have R8 := Lib.hid (R7.out.below bb)
  have Q8 := Lib.hid (Q7.out.below bb)
  have B8 := Lib.hid (below_up B7.out bb)
  clear bb R7 Q7 L7 B7 CP
  go_wp2_with fail
  refine (CH.out _ _ L8.out).mono ?_
  rintro e w8 ⟨rfl, rfl⟩
  clear CH
  have hU : (U != U) = false := by simp
  obtain ⟨q, hq⟩ : ∃ q, LC.length = q := ⟨_, rfl⟩
  have HQ := Lib.hid hq
  rw [hq] at L8 HCF HCL
  rw [hq]
  clear hq
  go_wp2_with fail
  clear k1 k2
  have hq4 : q ≤ 1024 := HCL.out
  go_loopw [79] (fun iv wr => ∃ i : Nat, i ≤ q ∧ iv = .int .i64 i ∧ Hid (Below w.heap.size w wr) ∧ Hid (IntsAt wr (.slice ga m gc) P) ∧ Hid (IntsAt wr (.slice gl q cl) LC) ∧ Hid (BoolsAt wr (.slice gr m cr) RB)) (fun iv _ => q - (intOf iv).toNat)
  case atStart => exact ⟨0, Nat.zero_le _, rfl, B8, R8, L8, Q8⟩
  case round =>
    clear B8 R8 L8 Q8
    obtain ⟨i, hi, rfl, B9, R9, L9, Q9⟩ := hrel
    by_cases hlt : i < q
    · have hil : i < LC.length := by rw [HQ.out]; exact hlt
      have i0 : (0 : Int) ≤ (i : Int) := by omega
      have i1 : (i : Int) < (q : Int) := by omega
      obtain ⟨b1, o1, rfl, e1⟩ : ∃ b o, gl = some ⟨b, o, none⟩ ∧ wr.cell? ⟨b, o + i, none⟩ = some (.int .i64 LC[i]) := by
        obtain ⟨_, _, e, h⟩ := L9.out
        injection e with e1 e2 e3
        rcases h with h | ⟨b, o, h, hc⟩
        · rw [h] at hil; simp at hil
        · exact ⟨b, o, by rw [e1, h], hc i hil⟩
      obtain ⟨k1, k2⟩ := HZ.out LC[i] (List.getElem_mem hil)
      have C9 := Lib.hid (CTZ.out LC[i] (List.getElem_mem hil) wr R9.out)
      generalize LC[i] = z at e1 k1 k2 C9
      clear hil
      go_wp2_with fail
      refine C9.out.mono ?_
      rintro e v1 ⟨u, rfl, ou, bb⟩
      have B10 := Lib.hid (below_up B9.out bb)
      have R10 := Lib.hid (R9.out.below bb)
      have L10 := Lib.hid (L9.out.below bb)
      have Q10 := Lib.hid (Q9.out.below bb)
      have U10 := Lib.hid ou.reads
      obtain ⟨g1, m1, c1, rfl⟩ := ou.form
      clear ou bb B9 R9 L9 Q9 e1 C9
      go_wp2_with fail
      refine (CR.out _ B10.out _ U10.out).mono ?_
      rintro e v2 ⟨rfl, bb⟩
      have B11 := Lib.hid (below_up B10.out bb)
      have R11 := Lib.hid (R10.out.below bb)
      have L11 := Lib.hid (L10.out.below bb)
      have Q11 := Lib.hid (Q10.out.below bb)
      clear bb B10 R10 L10 Q10 U10
      go_wp2_with fail
      refine (CR.out _ B11.out _ Q11.out).mono ?_
      rintro e v3 ⟨rfl, bb⟩
      have B12 := Lib.hid (below_up B11.out bb)
      have R12 := Lib.hid (R11.out.below bb)
      have L12 := Lib.hid (L11.out.below bb)
      have Q12 := Lib.hid (Q11.out.below bb)
      clear bb B11 R11 L11 Q11
      go_wp2
      go_roundw
      case rel => exact ⟨i + 1, by omega, by go_num, B12, R12, L12, Q12⟩
      case measure => simp [intOf]; omega
    · obtain rfl : i = q := by omega
      go_wp2_with fail
      refine (CN.out _).mono ?_
      rintro e v1 ⟨rfl, bb⟩
      have B10 := Lib.hid (below_up B9.out bb)
      have R10 := Lib.hid (R9.out.below bb)
      have Q10 := Lib.hid (Q9.out.below bb)
      clear bb B9 R9 L9 Q9
      go_wp2_with fail
      refine (CC2.out _ _ R10.out Q10.out).mono ?_
      rintro e v2 ⟨u, rfl, ou, bb⟩
      obtain ⟨g9, q9, rfl, -⟩ := ou.reads
      have BF := Lib.hid (below_up B10.out bb)
      have HF := HCF.out
      generalize LD.length = z at HF
      have hle : (z : Int) ≤ (i : Int) := by omega
      clear ou bb HF
      go_wp2
      go_ret
      exact ⟨by first | rfl | exact ret_bool (by simp; omega), BF.out⟩
end Go.Proofs.YtlflblngbneacabDoor
