/- The walk of FnSums round the contracts of the program's functions: it returns true for every argument. Condition: the slice reads as bytes. -/
import Derived.Test.YtoliloophjeooaaSumsFacts
import Derived.Test.YtoliloophjeooaaMakePools
import Derived.Test.YtoliloophjeooaaSumLaws
import Derived.Test.YtoliloophjeooaaPoolLaws
import Derived.Test.YtoliloophjeooaaOutcomesLaw
import Derived.Deep.RegionHeld3
import Derived.Test.YtoliloophjeooaaTakes
namespace Go.Proofs.Ytoliloophjeooaa
open Go.RowKit

set_option maxRecDepth 100000 in
set_option maxHeartbeats 6400000 in
theorem walkSums (IS : ∀ n P b, P.length ≤ 1048576 → SumPoolsIs 13 n P b) (IT : ∀ n P b, P.length ≤ 1048576 → TestPoolsIs 31 n P b)
    (ID : ∀ n P S, P.length ≤ 1048576 → S.length ≤ 1048576 → DecodeSumsIs 22 n P S) (IK : ∀ n P, P.length ≤ 1048576 → IsDetectingIs 20 n P)
    (IL : ∀ n P, P.length ≤ 1048576 → SumsTellIs 18 n P) (IC : ∀ n P R most, P.length ≤ 1048576 → R.length ≤ 1048576 → ConsistentSetsIs 33 n P R most)
    (w : World) (a : Option Addr) (len cap : Nat) (hB : BytesAt w a len) :
    Calls Try.prog 10 #[.slice a len cap] w fun e w' => e = .returned (.bool true) ∧ Below w.heap.size w w' := by
  by_cases hbig : (1048576 : Int) < (len : Int)
  · go_enter Try.func10, Try.ntmps10
    go_wp2
    go_ret
    exact ⟨rfl, Below.refl _ _⟩
  have hl : len ≤ 1048576 := by omega
  have C1 := Lib.hid (makeNum_any w w a len cap 1 hB (Below.refl _ _) hl (by omega) (by omega))
  have C3 := Lib.hid (fun V h => makeNum_any w V a len cap 3 hB h hl (by omega) (by omega))
  have CM := Lib.hid (fun V n n1 n7 h => specMakePools w V a len cap 20 n n1 n7 hB h hl (by omega) (by omega))
  have HIS := Lib.hid IS
  have HIT := Lib.hid IT
  have HID := Lib.hid ID
  have HIK := Lib.hid IK
  have HIL := Lib.hid IL
  have HIC := Lib.hid IC
  clear hB IS IT ID IK IL IC
  go_enter Try.func10, Try.ntmps10
  go_wp2_with fail
  refine C1.out.mono ?_
  rintro e w1 ⟨x, rfl, x0, x1, bb⟩
  have B1 := Lib.hid bb
  clear bb C1 hbig hl
  obtain ⟨n, hn⟩ : ∃ n : Nat, 1 + x % 6 = (n : Int) := ⟨(1 + x % 6).toNat, by omega⟩
  have n1 : 1 ≤ n := by omega
  have n7 : n ≤ 7 := by omega
  have CM1 := Lib.hid (CM.out w1 n n1 n7 B1.out)
  unfold MadePools at CM1
  go_wp2_with fail
  refine CM1.out.mono ?_
  rintro e w2 ⟨v, P, rfl, hv, hp, bb⟩
  have R2 := Lib.hid hv
  have HP := Lib.hid hp
  have B2 := Lib.hid (below_up B1.out bb)
  obtain ⟨ga, gc, rfl, -⟩ := id hv
  obtain ⟨t1, t2, t3⟩ := top_of n1 n7
  clear hv hp bb CM CM1 B1
  have n0 : (0 : Int) ≤ (n : Int) := by omega
  generalize hT : topI (n : Int) + 1 = T at t1
  have T0 : (T == 0) = false := by rw [beq_eq_false_iff_ne]; omega
  have T1 : 0 < T := by omega
  have Tn : ¬ T = 0 := by omega
  have T2 : 0 ≤ T := by omega
  have HT := Lib.hid hT
  clear hT t2 t3 hn
  go_wp2_with fail
  go_region_held3 (fun w' => w2.heap.size ≤ w'.heap.size)
    (first | exact B3.out.size | exact Nat.le_refl _)
    (first
      | (go_at_call 29; refine (C3.out _ B2.out.drew).mono ?_; rintro e w3 ⟨y, rfl, y0, y1, bb⟩; have B3 := Lib.hid (below_up (Below.refl w2.heap.size w2).drew bb); have BW := Lib.hid (below_up B2.out.drew bb); clear bb)
      | fail)
  have hbd : 0 ≤ y.tmod T ∧ y.tmod T < T := ⟨Int.tmod_nonneg _ y0, Int.tmod_lt_of_pos _ T1⟩
  generalize y.tmod T = bd at hbd
  have b1 : bd ≤ topI (n : Int) := by have := HT.out; omega
  have R3 := Lib.hid (R2.out.below B3.out)
  have htb : testsB (n : Int) P bd = true := by
    unfold testsB
    rw [HP.out, decide_eq_true hbd.1, decide_eq_true b1]
    rfl
  have hpl := (pools_in HP.out).2.1
  have CS := Lib.hid (HIS.out (n : Int) P bd (by omega) w3 _ R3.out)
  have CT := Lib.hid (fun W h => HIT.out (n : Int) P bd (by omega) W (.slice ga P.length gc) h)
  have CDD := Lib.hid (fun W vS h h' => HID.out (n : Int) P (sumL P bd) (by omega) (by rw [sumL_len]; omega) W (.slice ga P.length gc) vS h h')
  have CK := Lib.hid (fun W h => HIK.out (n : Int) P (by omega) W (.slice ga P.length gc) h)
  have CL := Lib.hid (fun W h => HIL.out (n : Int) P (by omega) W (.slice ga P.length gc) h)
  have CC := Lib.hid (fun W vR h h' => HIC.out (n : Int) P (resL P bd) (n : Int) (by omega) (by rw [resL_len]; omega) W (.slice ga P.length gc) vR h h')
  have hso : sumO (n : Int) P bd = sumL P bd := by unfold sumO; rw [if_pos htb]
  have hro : testR (n : Int) P bd = resL P bd := by unfold testR; rw [if_pos htb]
  unfold GivesS at CS
  unfold TestsR at CT
  unfold ListsS at CDD
  unfold ListsI2 at CC
  rw [hso, htb] at CS
  rw [hro, htb] at CT
  have hres : resL P bd = (sumL P bd).map fun x => decide (0 < x) := by
    have := top_in (n := (n : Int)) (by omega)
    exact sum_res (pools_in HP.out).2.2 hbd.1 (by omega)
  have HMEM : Hid (hasI (decS (n : Int) P (sumL P bd)) bd = true) := by
    unfold Hid
    rw [hasI_mem]
    unfold decS
    rw [if_pos HP.out]
    obtain ⟨j, rfl⟩ := Int.eq_ofNat_of_zero_le hbd.1
    have hc : ((2 ^ n : Nat) : Int) = (2 : Int) ^ n := by simp
    have e : topI (n : Int) = 2 ^ n - 1 := rfl
    exact decK_mem P _ (by rw [Int.toNat_natCast]; omega) rfl
  have HONE : Hid (detB (n : Int) P = true → (decS (n : Int) P (sumL P bd)).length = 1) := fun hd => by
    unfold detB at hd
    rw [HP.out, Bool.true_and, detF_iff] at hd
    obtain ⟨j, rfl⟩ := Int.eq_ofNat_of_zero_le hbd.1
    have hc : ((2 ^ n : Nat) : Int) = (2 : Int) ^ n := by simp
    have e : topI (n : Int) = 2 ^ n - 1 := rfl
    unfold decS
    rw [if_pos HP.out, decK_one hd (by rw [Int.toNat_natCast]; omega) rfl]
    rfl
  have HTL : Hid ((tellI (n : Int) P == T) = detB (n : Int) P) := by
    unfold Hid
    rw [← tell_det HP.out, ← HT.out]
    have e : topI (n : Int) + 1 = 2 ^ (n : Int).toNat := by rw [Int.toNat_natCast]; unfold topI; rw [Int.toNat_natCast]; omega
    rw [e]
    exact Bool.eq_iff_iff.2 (by simp)
  have HFEW : Hid ((decS (n : Int) P (sumL P bd)).length ≤ (consR (n : Int) P (resL P bd) (n : Int)).length) := dec_few HP.out hbd.1 b1
  have HSL : Hid ((sumL P bd).length = P.length) := sumL_len P bd
  have CH := Lib.hid (fun W v h => lawsHas v (decS (n : Int) P (sumL P bd)) bd W h (by have := decS_len (n : Int) P (sumL P bd); omega))
  have hdl := decS_len (n : Int) P (sumL P bd)
  have HM := Lib.hid HMEM.out
  rw [HMEM.out] at CH
  generalize detB (n : Int) P = d at CK HONE HTL
  generalize tellI (n : Int) P = tl at CL HTL
  generalize decS (n : Int) P (sumL P bd) = L at CDD HONE HFEW CH hdl
  generalize consR (n : Int) P (resL P bd) (n : Int) = LC at CC HFEW
  rw [hres] at CT CC
  generalize sumL P bd = S at CS CT CDD CC HSL
  clear HIS HIT HID HIK HIL HIC HMEM HM hso hro htb hres hbd b1 y0 y1 HT T0 T1 Tn T2 C3 B2 B3
  obtain ⟨m, hm⟩ : ∃ m, P.length = m := ⟨_, rfl⟩
  have HPN := Lib.hid hm
  rw [hm] at HSL hpl R2 R3 CS CT CDD CK CL CC
  rw [hm]
  clear hm
  go_wp2_with fail
  refine CS.out.mono ?_
  rintro e w4 ⟨u, rfl, ou, bb⟩
  have S4 := ou.reads
  have R4 := Lib.hid (R3.out.below bb)
  have B4 := Lib.hid (below_up BW.out bb)
  obtain ⟨gs, cs, rfl, -⟩ := id S4
  have hsl := HSL.out
  rw [hsl] at S4
  rw [hsl]
  replace S4 := Lib.hid S4
  clear ou bb R3 R2 CS BW hsl
  go_wp2_with fail
  refine (CT.out _ R4.out).mono ?_
  rintro e w5 ⟨u, rfl, ou, bb⟩
  have Q5 := ou.reads
  have R5 := Lib.hid (R4.out.below bb)
  have S5 := Lib.hid (S4.out.below bb)
  have B5 := Lib.hid (below_up B4.out bb)
  obtain ⟨gr, cr, rfl, -⟩ := id Q5
  have hsl := HSL.out
  rw [List.length_map, hsl] at Q5
  rw [List.length_map, hsl]
  replace Q5 := Lib.hid Q5
  clear ou bb R4 S4 CT B4 hsl
  go_wp2_with fail
  refine (CDD.out _ _ R5.out S5.out).mono ?_
  rintro e w6 ⟨u, rfl, ou, bb⟩
  have L6 := Lib.hid ou.reads
  have R6 := Lib.hid (R5.out.below bb)
  have S6 := Lib.hid (S5.out.below bb)
  have Q6 := Lib.hid (Q5.out.below bb)
  have B6 := Lib.hid (below_up B5.out bb)
  obtain ⟨gl, cl, rfl, -⟩ := ou.reads
  clear ou bb R5 S5 Q5 CDD B5
  go_wp2_with fail
  refine (CK.out _ R6.out).mono ?_
  rintro e w7 ⟨rfl, bb⟩
  have L7 := Lib.hid (L6.out.below bb)
  have R7 := Lib.hid (R6.out.below bb)
  have S7 := Lib.hid (S6.out.below bb)
  have Q7 := Lib.hid (Q6.out.below bb)
  have B7 := Lib.hid (below_up B6.out bb)
  clear bb R6 S6 Q6 L6 CK B6
  obtain ⟨q, hq⟩ : ∃ q, L.length = q := ⟨_, rfl⟩
  rw [hq] at HONE HFEW L7 hdl
  rw [hq]
  clear hq
  have hne : ((m : Int) != (m : Int)) = false := by simp
  go_wp2_with fail
  cases d with
  | true =>
    have hq1 := HONE.out rfl
    have hte : tl = T := by have := HTL.out; simpa using this
    subst hte
    subst hq1
    have h11 : ((1 : Int) != 1) = false := rfl
    refine wp_region_held_drew (S := (fun w' => w7.heap.size ≤ w'.heap.size)) (by kernel_rfl) (Nat.le_refl _) (fun hS => ?_)
    refine takeYes (i := 0) (oi := ?_) (v := ?_) ?_ ?_ ?_ ?_ ?_ ?_ ?_ hS ?_
    rotate_left 2
    · (simp only [List.getElem?_toArray, List.getElem?_cons_zero]; rfl)
    iterate 3 (· kernel_rfl)
    · rfl
    · (intro w hSw; go_simp; try with_reducible rfl)
    · exact fun _ _ _ h => h
    simp only [Act.put, List.setIfInBounds_toArray, List.set_cons_zero, List.set_cons_succ]
    refine takeYes (i := 1) (oi := ?_) (v := ?_) ?_ ?_ ?_ ?_ ?_ ?_ ?_ hS ?_
    rotate_left 2
    · (simp only [List.getElem?_toArray, List.getElem?_cons_succ, List.getElem?_cons_zero]; rfl)
    iterate 3 (· kernel_rfl)
    · rfl
    · (intro w hSw; go_simp; try with_reducible rfl)
    · exact fun _ _ _ h => h
    simp only [Act.put, List.setIfInBounds_toArray, List.set_cons_zero, List.set_cons_succ]
    refine takeYes (i := 2) (oi := ?_) (v := ?_) ?_ ?_ ?_ ?_ ?_ ?_ ?_ hS ?_
    rotate_left 2
    · (simp only [List.getElem?_toArray, List.getElem?_cons_succ, List.getElem?_cons_zero]; rfl)
    iterate 3 (· kernel_rfl)
    · rfl
    · (intro w hSw; go_simp; try with_reducible rfl)
    · exact fun _ _ _ h => h
    simp only [Act.put, List.setIfInBounds_toArray, List.set_cons_zero, List.set_cons_succ]
    refine takeYes (i := 3) (oi := ?_) (v := ?_) ?_ ?_ ?_ ?_ ?_ ?_ ?_ hS ?_
    rotate_left 2
    · (simp only [List.getElem?_toArray, List.getElem?_cons_succ, List.getElem?_cons_zero]; rfl)
    iterate 3 (· kernel_rfl)
    · rfl
    · (intro w hSw; go_simp; try with_reducible rfl)
    · exact fun _ _ _ h => h
    simp only [Act.put, List.setIfInBounds_toArray, List.set_cons_zero, List.set_cons_succ]
    refine takeYes (i := 4) (oi := ?_) (v := ?_) ?_ ?_ ?_ ?_ ?_ ?_ ?_ hS ?_
    rotate_left 2
    · (simp only [List.getElem?_toArray, List.getElem?_cons_succ, List.getElem?_cons_zero]; rfl)
    iterate 3 (· kernel_rfl)
    · rfl
    · (intro w hSw; go_simp; try with_reducible rfl)
    · exact fun _ _ _ h => h
    simp only [Act.put, List.setIfInBounds_toArray, List.set_cons_zero, List.set_cons_succ]
    refine takeYes (i := 5) (oi := ?_) (v := ?_) ?_ ?_ ?_ ?_ ?_ ?_ ?_ hS ?_
    rotate_left 2
    · (simp only [List.getElem?_toArray, List.getElem?_cons_succ, List.getElem?_cons_zero]; rfl)
    iterate 3 (· kernel_rfl)
    · rfl
    · (intro w hSw; go_simp; try with_reducible rfl)
    · exact fun _ _ _ h => h
    simp only [Act.put, List.setIfInBounds_toArray, List.set_cons_zero, List.set_cons_succ]
    refine takeYes (i := 6) (oi := ?_) (v := ?_) ?_ ?_ ?_ ?_ ?_ ?_ ?_ hS ?_
    rotate_left 2
    · (simp only [List.getElem?_toArray, List.getElem?_cons_succ, List.getElem?_cons_zero]; rfl)
    iterate 3 (· kernel_rfl)
    · rfl
    · (intro w hSw; go_simp; try with_reducible rfl)
    · exact fun _ _ _ h => h
    simp only [Act.put, List.setIfInBounds_toArray, List.set_cons_zero, List.set_cons_succ]
    refine takeYes (i := 7) (oi := ?_) (v := ?_) ?_ ?_ ?_ ?_ ?_ ?_ ?_ hS ?_
    rotate_left 2
    · (simp only [List.getElem?_toArray, List.getElem?_cons_succ, List.getElem?_cons_zero]; rfl)
    iterate 3 (· kernel_rfl)
    · rfl
    · (intro w hSw; go_simp; try with_reducible rfl)
    · exact fun _ _ _ h => h
    simp only [Act.put, List.setIfInBounds_toArray, List.set_cons_zero, List.set_cons_succ]
    refine takeYes (i := 8) (oi := ?_) (v := ?_) ?_ ?_ ?_ ?_ ?_ ?_ ?_ hS ?_
    rotate_left 2
    · (simp only [List.getElem?_toArray, List.getElem?_cons_succ, List.getElem?_cons_zero]; rfl)
    iterate 3 (· kernel_rfl)
    · rfl
    · (intro w hSw; go_simp; try with_reducible rfl)
    · exact fun _ _ _ h => h
    simp only [Act.put, List.setIfInBounds_toArray, List.set_cons_zero, List.set_cons_succ]
    refine takeYes (i := 9) (oi := ?_) (v := ?_) ?_ ?_ ?_ ?_ ?_ ?_ ?_ hS ?_
    rotate_left 2
    · (simp only [List.getElem?_toArray, List.getElem?_cons_succ, List.getElem?_cons_zero]; rfl)
    iterate 3 (· kernel_rfl)
    · rfl
    · (intro w hSw; go_simp; try with_reducible rfl)
    · exact fun _ _ _ h => h
    simp only [Act.put, List.setIfInBounds_toArray, List.set_cons_zero, List.set_cons_succ]
    refine takeYes (i := 10) (oi := ?_) (v := ?_) ?_ ?_ ?_ ?_ ?_ ?_ ?_ hS ?_
    rotate_left 2
    · (simp only [List.getElem?_toArray, List.getElem?_cons_succ, List.getElem?_cons_zero]; rfl)
    iterate 3 (· kernel_rfl)
    · rfl
    · (intro w hSw; go_simp; try with_reducible rfl)
    · exact fun _ _ _ h => h
    simp only [Act.put, List.setIfInBounds_toArray, List.set_cons_zero, List.set_cons_succ]
    refine takeYes (i := 11) (oi := ?_) (v := ?_) ?_ ?_ ?_ ?_ ?_ ?_ ?_ hS ?_
    rotate_left 2
    · (simp only [List.getElem?_toArray, List.getElem?_cons_succ, List.getElem?_cons_zero]; rfl)
    iterate 3 (· kernel_rfl)
    · rfl
    · (intro w hSw; go_simp; try with_reducible rfl)
    · exact fun _ _ _ h => h
    simp only [Act.put, List.setIfInBounds_toArray, List.set_cons_zero, List.set_cons_succ]
    refine takeYes (i := 12) (oi := ?_) (v := ?_) ?_ ?_ ?_ ?_ ?_ ?_ ?_ hS ?_
    rotate_left 2
    · (simp only [List.getElem?_toArray, List.getElem?_cons_succ, List.getElem?_cons_zero]; rfl)
    iterate 3 (· kernel_rfl)
    · rfl
    · (intro w hSw; go_simp; try with_reducible rfl)
    · exact fun _ _ _ h => h
    simp only [Act.put, List.setIfInBounds_toArray, List.set_cons_zero, List.set_cons_succ]
    refine takeYes (i := 13) (oi := ?_) (v := ?_) ?_ ?_ ?_ ?_ ?_ ?_ ?_ hS ?_
    rotate_left 2
    · (simp only [List.getElem?_toArray, List.getElem?_cons_succ, List.getElem?_cons_zero]; rfl)
    iterate 3 (· kernel_rfl)
    · rfl
    · (intro w hSw; go_simp; try with_reducible rfl)
    · exact fun _ _ _ h => h
    simp only [Act.put, List.setIfInBounds_toArray, List.set_cons_zero, List.set_cons_succ]
    refine takeYes (i := 14) (oi := ?_) (v := ?_) ?_ ?_ ?_ ?_ ?_ ?_ ?_ hS ?_
    rotate_left 2
    · (simp only [List.getElem?_toArray, List.getElem?_cons_succ, List.getElem?_cons_zero]; rfl)
    iterate 3 (· kernel_rfl)
    · rfl
    · (intro w hSw; go_simp; try with_reducible rfl)
    · exact fun _ _ _ h => h
    simp only [Act.put, List.setIfInBounds_toArray, List.set_cons_zero, List.set_cons_succ]
    refine takeYes (i := 15) (oi := ?_) (v := ?_) ?_ ?_ ?_ ?_ ?_ ?_ ?_ hS ?_
    rotate_left 2
    · (simp only [List.getElem?_toArray, List.getElem?_cons_succ, List.getElem?_cons_zero]; rfl)
    iterate 3 (· kernel_rfl)
    · rfl
    · (intro w hSw; go_simp; try with_reducible rfl)
    · exact fun _ _ _ h => h
    simp only [Act.put, List.setIfInBounds_toArray, List.set_cons_zero, List.set_cons_succ]
    refine takeYes (i := 16) (oi := ?_) (v := ?_) ?_ ?_ ?_ ?_ ?_ ?_ ?_ hS ?_
    rotate_left 2
    · (simp only [List.getElem?_toArray, List.getElem?_cons_succ, List.getElem?_cons_zero]; rfl)
    iterate 3 (· kernel_rfl)
    · rfl
    · (intro w hSw; go_simp; try with_reducible rfl)
    · exact fun _ _ _ h => h
    simp only [Act.put, List.setIfInBounds_toArray, List.set_cons_zero, List.set_cons_succ]
    refine takeYes (i := 17) (oi := ?_) (v := ?_) ?_ ?_ ?_ ?_ ?_ ?_ ?_ hS ?_
    rotate_left 2
    · (simp only [List.getElem?_toArray, List.getElem?_cons_succ, List.getElem?_cons_zero]; rfl)
    iterate 3 (· kernel_rfl)
    · rfl
    · (intro w hSw; go_simp; try with_reducible rfl)
    · exact fun _ _ _ h => h
    simp only [Act.put, List.setIfInBounds_toArray, List.set_cons_zero, List.set_cons_succ]
    refine takeYes (i := 18) (oi := ?_) (v := ?_) ?_ ?_ ?_ ?_ ?_ ?_ ?_ hS ?_
    rotate_left 2
    · (simp only [List.getElem?_toArray, List.getElem?_cons_succ, List.getElem?_cons_zero]; rfl)
    iterate 3 (· kernel_rfl)
    · rfl
    · (intro w hSw; go_simp; try with_reducible rfl)
    · exact fun _ _ _ h => h
    simp only [Act.put, List.setIfInBounds_toArray, List.set_cons_zero, List.set_cons_succ]
    refine takeYes (i := 19) (oi := ?_) (v := ?_) ?_ ?_ ?_ ?_ ?_ ?_ ?_ hS ?_
    rotate_left 2
    · (simp only [List.getElem?_toArray, List.getElem?_cons_succ, List.getElem?_cons_zero]; rfl)
    iterate 3 (· kernel_rfl)
    · rfl
    · (intro w hSw; go_simp; try with_reducible rfl)
    · exact fun _ _ _ h => h
    simp only [Act.put, List.setIfInBounds_toArray, List.set_cons_zero, List.set_cons_succ]
    refine takeYes (i := 20) (oi := ?_) (v := ?_) ?_ ?_ ?_ ?_ ?_ ?_ ?_ hS ?_
    rotate_left 2
    · (simp only [List.getElem?_toArray, List.getElem?_cons_succ, List.getElem?_cons_zero]; rfl)
    iterate 3 (· kernel_rfl)
    · rfl
    · (intro w hSw; go_simp; try with_reducible rfl)
    · exact fun _ _ _ h => h
    simp only [Act.put, List.setIfInBounds_toArray, List.set_cons_zero, List.set_cons_succ]
    refine takeYes (i := 21) (oi := ?_) (v := ?_) ?_ ?_ ?_ ?_ ?_ ?_ ?_ hS ?_
    rotate_left 2
    · (simp only [List.getElem?_toArray, List.getElem?_cons_succ, List.getElem?_cons_zero]; rfl)
    iterate 3 (· kernel_rfl)
    · rfl
    · (intro w hSw; go_simp; try with_reducible rfl)
    · exact fun _ _ _ h => h
    simp only [Act.put, List.setIfInBounds_toArray, List.set_cons_zero, List.set_cons_succ]
    refine takeYes (i := 22) (oi := ?_) (v := ?_) ?_ ?_ ?_ ?_ ?_ ?_ ?_ hS ?_
    rotate_left 2
    · (simp only [List.getElem?_toArray, List.getElem?_cons_succ, List.getElem?_cons_zero]; rfl)
    iterate 3 (· kernel_rfl)
    · rfl
    · (intro w hSw; go_simp; try with_reducible rfl)
    · exact fun _ _ _ h => h
    simp only [Act.put, List.setIfInBounds_toArray, List.set_cons_zero, List.set_cons_succ]
    refine wpAnyH_ready (rs := [23]) (by kernel_rfl) (by simp) ?_
    refine AllReadyH.cons (o := ?_) ?_ (fun K hK => ?_) AllReadyH.nil
    rotate_left 1
    · (simp only [List.getElem?_toArray, List.getElem?_cons_succ, List.getElem?_cons_zero]; rfl)
    go_simp
    refine (CH.out _ _ (L7.out.below (Below.refl _ _).drew)).mono ?_
    rintro e w8 ⟨rfl, rfl⟩
    refine hK.out _ _ (Nat.le_refl _) (fun hS => ?_)
    clear hK K
    try simp only [Act.put, List.setIfInBounds_toArray, List.set_cons_zero, List.set_cons_succ]
    refine takeYes (i := 24) (oi := ?_) (v := ?_) ?_ ?_ ?_ ?_ ?_ ?_ ?_ hS ?_
    rotate_left 2
    · (simp only [List.getElem?_toArray, List.getElem?_cons_succ, List.getElem?_cons_zero]; rfl)
    iterate 3 (· kernel_rfl)
    · rfl
    · (intro w hSw; go_simp; try with_reducible rfl)
    · exact fun _ _ _ h => h
    simp only [Act.put, List.setIfInBounds_toArray, List.set_cons_zero, List.set_cons_succ]
    refine takeYes (i := 25) (oi := ?_) (v := ?_) ?_ ?_ ?_ ?_ ?_ ?_ ?_ hS ?_
    rotate_left 2
    · (simp only [List.getElem?_toArray, List.getElem?_cons_succ, List.getElem?_cons_zero]; rfl)
    iterate 3 (· kernel_rfl)
    · rfl
    · (intro w hSw; go_simp; try with_reducible rfl)
    · exact fun _ _ _ h => h
    simp only [Act.put, List.setIfInBounds_toArray, List.set_cons_zero, List.set_cons_succ]
    refine takeYes (i := 26) (oi := ?_) (v := ?_) ?_ ?_ ?_ ?_ ?_ ?_ ?_ hS ?_
    rotate_left 2
    · (simp only [List.getElem?_toArray, List.getElem?_cons_succ, List.getElem?_cons_zero]; rfl)
    iterate 3 (· kernel_rfl)
    · rfl
    · (intro w hSw; go_simp; try with_reducible rfl)
    · exact fun _ _ _ h => h
    simp only [Act.put, List.setIfInBounds_toArray, List.set_cons_zero, List.set_cons_succ]
    refine takeYes (i := 27) (oi := ?_) (v := ?_) ?_ ?_ ?_ ?_ ?_ ?_ ?_ hS ?_
    rotate_left 2
    · (simp only [List.getElem?_toArray, List.getElem?_cons_succ, List.getElem?_cons_zero]; rfl)
    iterate 3 (· kernel_rfl)
    · rfl
    · (intro w hSw; go_simp; try with_reducible rfl)
    · exact fun _ _ _ h => h
    simp only [Act.put, List.setIfInBounds_toArray, List.set_cons_zero, List.set_cons_succ]
    refine takeYes (i := 28) (oi := ?_) (v := ?_) ?_ ?_ ?_ ?_ ?_ ?_ ?_ hS ?_
    rotate_left 2
    · (simp only [List.getElem?_toArray, List.getElem?_cons_succ, List.getElem?_cons_zero]; rfl)
    iterate 3 (· kernel_rfl)
    · rfl
    · (intro w hSw; go_simp; try with_reducible rfl)
    · exact fun _ _ _ h => h
    simp only [Act.put, List.setIfInBounds_toArray, List.set_cons_zero, List.set_cons_succ]
    refine takeYes (i := 29) (oi := ?_) (v := ?_) ?_ ?_ ?_ ?_ ?_ ?_ ?_ hS ?_
    rotate_left 2
    · (simp only [List.getElem?_toArray, List.getElem?_cons_succ, List.getElem?_cons_zero]; rfl)
    iterate 3 (· kernel_rfl)
    · rfl
    · (intro w hSw; go_simp; try with_reducible rfl)
    · exact fun _ _ _ h => h
    simp only [Act.put, List.setIfInBounds_toArray, List.set_cons_zero, List.set_cons_succ]
    refine takeYes (i := 30) (oi := ?_) (v := ?_) ?_ ?_ ?_ ?_ ?_ ?_ ?_ hS ?_
    rotate_left 2
    · (simp only [List.getElem?_toArray, List.getElem?_cons_succ, List.getElem?_cons_zero]; rfl)
    iterate 3 (· kernel_rfl)
    · rfl
    · (intro w hSw; go_simp; try with_reducible rfl)
    · exact fun _ _ _ h => h
    simp only [Act.put, List.setIfInBounds_toArray, List.set_cons_zero, List.set_cons_succ]
    refine takeYes (i := 31) (oi := ?_) (v := ?_) ?_ ?_ ?_ ?_ ?_ ?_ ?_ hS ?_
    rotate_left 2
    · (simp only [List.getElem?_toArray, List.getElem?_cons_succ, List.getElem?_cons_zero]; rfl)
    iterate 3 (· kernel_rfl)
    · rfl
    · (intro w hSw; go_simp; try with_reducible rfl)
    · exact fun _ _ _ h => h
    simp only [Act.put, List.setIfInBounds_toArray, List.set_cons_zero, List.set_cons_succ]
    refine takeYes (i := 32) (oi := ?_) (v := ?_) ?_ ?_ ?_ ?_ ?_ ?_ ?_ hS ?_
    rotate_left 2
    · (simp only [List.getElem?_toArray, List.getElem?_cons_succ, List.getElem?_cons_zero]; rfl)
    iterate 3 (· kernel_rfl)
    · rfl
    · (intro w hSw; go_simp; try with_reducible rfl)
    · exact fun _ _ _ h => h
    simp only [Act.put, List.setIfInBounds_toArray, List.set_cons_zero, List.set_cons_succ]
    refine takeYes (i := 33) (oi := ?_) (v := ?_) ?_ ?_ ?_ ?_ ?_ ?_ ?_ hS ?_
    rotate_left 2
    · (simp only [List.getElem?_toArray, List.getElem?_cons_succ, List.getElem?_cons_zero]; rfl)
    iterate 3 (· kernel_rfl)
    · rfl
    · (intro w hSw; go_simp; try with_reducible rfl)
    · exact fun _ _ _ h => h
    simp only [Act.put, List.setIfInBounds_toArray, List.set_cons_zero, List.set_cons_succ]
    refine takeYes (i := 34) (oi := ?_) (v := ?_) ?_ ?_ ?_ ?_ ?_ ?_ ?_ hS ?_
    rotate_left 2
    · (simp only [List.getElem?_toArray, List.getElem?_cons_succ, List.getElem?_cons_zero]; rfl)
    iterate 3 (· kernel_rfl)
    · rfl
    · (intro w hSw; go_simp; try with_reducible rfl)
    · exact fun _ _ _ h => h
    simp only [Act.put, List.setIfInBounds_toArray, List.set_cons_zero, List.set_cons_succ]
    refine takeYes (i := 35) (oi := ?_) (v := ?_) ?_ ?_ ?_ ?_ ?_ ?_ ?_ hS ?_
    rotate_left 2
    · (simp only [List.getElem?_toArray, List.getElem?_cons_succ, List.getElem?_cons_zero]; rfl)
    iterate 3 (· kernel_rfl)
    · rfl
    · (intro w hSw; go_simp; try with_reducible rfl)
    · exact fun _ _ _ h => h
    simp only [Act.put, List.setIfInBounds_toArray, List.set_cons_zero, List.set_cons_succ]
    refine takeYes (i := 36) (oi := ?_) (v := ?_) ?_ ?_ ?_ ?_ ?_ ?_ ?_ hS ?_
    rotate_left 2
    · (simp only [List.getElem?_toArray, List.getElem?_cons_succ, List.getElem?_cons_zero]; rfl)
    iterate 3 (· kernel_rfl)
    · rfl
    · (intro w hSw; go_simp; try with_reducible rfl)
    · exact fun _ _ _ h => h
    simp only [Act.put, List.setIfInBounds_toArray, List.set_cons_zero, List.set_cons_succ]
    refine takeYes (i := 38) (oi := ?_) (v := ?_) ?_ ?_ ?_ ?_ ?_ ?_ ?_ hS ?_
    rotate_left 2
    · (simp only [List.getElem?_toArray, List.getElem?_cons_succ, List.getElem?_cons_zero]; rfl)
    iterate 3 (· kernel_rfl)
    · rfl
    · (intro w hSw; go_simp; try with_reducible rfl)
    · exact fun _ _ _ h => h
    simp only [Act.put, List.setIfInBounds_toArray, List.set_cons_zero, List.set_cons_succ]
    refine takeYes (i := 39) (oi := ?_) (v := ?_) ?_ ?_ ?_ ?_ ?_ ?_ ?_ hS ?_
    rotate_left 2
    · (simp only [List.getElem?_toArray, List.getElem?_cons_succ, List.getElem?_cons_zero]; rfl)
    iterate 3 (· kernel_rfl)
    · rfl
    · (intro w hSw; go_simp; try with_reducible rfl)
    · exact fun _ _ _ h => h
    simp only [Act.put, List.setIfInBounds_toArray, List.set_cons_zero, List.set_cons_succ]
    refine takeYes (i := 41) (oi := ?_) (v := ?_) ?_ ?_ ?_ ?_ ?_ ?_ ?_ hS ?_
    rotate_left 2
    · (simp only [List.getElem?_toArray, List.getElem?_cons_succ, List.getElem?_cons_zero]; rfl)
    iterate 3 (· kernel_rfl)
    · rfl
    · (intro w hSw; go_simp; try with_reducible rfl)
    · exact fun _ _ _ h => h
    simp only [Act.put, List.setIfInBounds_toArray, List.set_cons_zero, List.set_cons_succ]
    refine wpAnyH_ready (rs := [37]) (by kernel_rfl) (by simp) ?_
    refine AllReadyH.cons (o := ?_) ?_ (fun K hK => ?_) AllReadyH.nil
    rotate_left 1
    · (simp only [List.getElem?_toArray, List.getElem?_cons_succ, List.getElem?_cons_zero]; rfl)
    go_simp
    refine (CL.out _ (R7.out.below (Below.refl _ _).drew)).mono ?_
    rintro e w8 ⟨rfl, bb⟩
    have B8 := Lib.hid (below_up (Below.refl w7.heap.size w7).drew bb)
    clear bb
    refine hK.out _ _ B8.out.size (fun hS => ?_)
    clear hK K
    try simp only [Act.put, List.setIfInBounds_toArray, List.set_cons_zero, List.set_cons_succ]
    refine takeYes (i := 40) (oi := ?_) (v := ?_) ?_ ?_ ?_ ?_ ?_ ?_ ?_ hS ?_
    rotate_left 2
    · (simp only [List.getElem?_toArray, List.getElem?_cons_succ, List.getElem?_cons_zero]; rfl)
    iterate 3 (· kernel_rfl)
    · rfl
    · (intro w hSw; go_simp; try with_reducible rfl)
    · exact fun _ _ _ h => h
    simp only [Act.put, List.setIfInBounds_toArray, List.set_cons_zero, List.set_cons_succ]
    refine takeYes (i := 42) (oi := ?_) (v := ?_) ?_ ?_ ?_ ?_ ?_ ?_ ?_ hS ?_
    rotate_left 2
    · (simp only [List.getElem?_toArray, List.getElem?_cons_succ, List.getElem?_cons_zero]; rfl)
    iterate 3 (· kernel_rfl)
    · rfl
    · (intro w hSw; go_simp; try with_reducible rfl)
    · exact fun _ _ _ h => h
    simp only [Act.put, List.setIfInBounds_toArray, List.set_cons_zero, List.set_cons_succ]
    refine takeYes (i := 43) (oi := ?_) (v := ?_) ?_ ?_ ?_ ?_ ?_ ?_ ?_ hS ?_
    rotate_left 2
    · (simp only [List.getElem?_toArray, List.getElem?_cons_succ, List.getElem?_cons_zero]; rfl)
    iterate 3 (· kernel_rfl)
    · rfl
    · (intro w hSw; go_simp; try with_reducible rfl)
    · exact fun _ _ _ h => h
    simp only [Act.put, List.setIfInBounds_toArray, List.set_cons_zero, List.set_cons_succ]
    refine wpAnyH_done (by kernel_rfl) ?_ _
    have R8 := Lib.hid (R7.out.below B8.out)
    have L8 := Lib.hid (L7.out.below B8.out)
    have S8 := Lib.hid (S7.out.below B8.out)
    have Q8 := Lib.hid (Q7.out.below B8.out)
    have BZ := Lib.hid (B7.out.trans (B8.out.mono B7.out.size))
    clear R7 L7 S7 Q7 B7 B8 CH CL hne
    go_wp2_with fail
    go_loopw [96] (fun iv wr => ∃ i : Nat, i ≤ m ∧ iv = .int .i64 i ∧ wr = w8) (fun iv _ => m - (intOf iv).toNat)
    case atStart => exact ⟨0, Nat.zero_le _, rfl, rfl⟩
    case round =>
      obtain ⟨i, hi, rfl, rfl⟩ := hrel
      by_cases hlt : i < m
      · have hil : i < S.length := by rw [HSL.out]; exact hlt
        have i0 : (0 : Int) ≤ (i : Int) := by omega
        have i1 : (i : Int) < (m : Int) := by omega
        obtain ⟨b1, o1, rfl, e1⟩ : ∃ b o, gs = some ⟨b, o, none⟩ ∧ wr.cell? ⟨b, o + i, none⟩ = some (.int .i64 S[i]) := by
          obtain ⟨_, _, e, h⟩ := S8.out
          injection e with e1 e2 e3
          rcases h with h | ⟨b, o, h, hc⟩
          · rw [h] at hil; simp at hil
          · exact ⟨b, o, by rw [e1, h], hc i hil⟩
        obtain ⟨b2, o2, rfl, e2⟩ : ∃ b o, gr = some ⟨b, o, none⟩ ∧ wr.cell? ⟨b, o + i, none⟩ = some (.bool (decide (0 < S[i]))) := by
          obtain ⟨_, _, e, h⟩ := Q8.out
          injection e with e1 e2 e3
          rcases h with h | ⟨b, o, h, hc⟩
          · rw [List.map_eq_nil_iff] at h; rw [h] at hil; simp at hil
          · exact ⟨b, o, by rw [e1, h], by rw [hc i (by rw [List.length_map]; exact hil), List.getElem_map]⟩
        generalize S[i] = z at e1 e2
        clear hil
        by_cases hz : 0 < z
        · rw [decide_eq_true hz] at e2
          go_wp2
          go_roundw
          case rel => exact ⟨i + 1, by omega, by go_num, by first | rfl | trivial⟩
          case measure => simp [intOf]; omega
        · rw [decide_eq_false hz] at e2
          go_wp2
          go_roundw
          case rel => exact ⟨i + 1, by omega, by go_num, by first | rfl | trivial⟩
          case measure => simp [intOf]; omega
      · obtain rfl : i = m := by omega
        have C9 := Lib.hid (CC.out _ _ R8.out Q8.out)
        have HF := HFEW.out
        go_wp2_with fail
        refine C9.out.mono ?_
        rintro e w9 ⟨u, rfl, ou, bb⟩
        obtain ⟨g9, q9, rfl, -⟩ := ou.reads
        have BF := below_up BZ.out bb
        generalize LC.length = z at HF
        have hle : (1 : Int) ≤ (z : Int) := by omega
        replace BF := Lib.hid BF
        clear ou bb HF
        go_wp2
        go_ret
        exact ⟨by first | rfl | exact ret_bool (by simp; omega), BF.out⟩
  | false =>
    have hte : (tl == T) = false := HTL.out
    refine wp_region_held_drew (S := (fun w' => w7.heap.size ≤ w'.heap.size)) (by kernel_rfl) (Nat.le_refl _) (fun hS => ?_)
    refine takeYes (i := 0) (oi := ?_) (v := ?_) ?_ ?_ ?_ ?_ ?_ ?_ ?_ hS ?_
    rotate_left 2
    · (simp only [List.getElem?_toArray, List.getElem?_cons_zero]; rfl)
    iterate 3 (· kernel_rfl)
    · rfl
    · (intro w hSw; go_simp; try with_reducible rfl)
    · exact fun _ _ _ h => h
    simp only [Act.put, List.setIfInBounds_toArray, List.set_cons_zero, List.set_cons_succ]
    refine takeYes (i := 1) (oi := ?_) (v := ?_) ?_ ?_ ?_ ?_ ?_ ?_ ?_ hS ?_
    rotate_left 2
    · (simp only [List.getElem?_toArray, List.getElem?_cons_succ, List.getElem?_cons_zero]; rfl)
    iterate 3 (· kernel_rfl)
    · rfl
    · (intro w hSw; go_simp; try with_reducible rfl)
    · exact fun _ _ _ h => h
    simp only [Act.put, List.setIfInBounds_toArray, List.set_cons_zero, List.set_cons_succ]
    refine takeYes (i := 2) (oi := ?_) (v := ?_) ?_ ?_ ?_ ?_ ?_ ?_ ?_ hS ?_
    rotate_left 2
    · (simp only [List.getElem?_toArray, List.getElem?_cons_succ, List.getElem?_cons_zero]; rfl)
    iterate 3 (· kernel_rfl)
    · rfl
    · (intro w hSw; go_simp; try with_reducible rfl)
    · exact fun _ _ _ h => h
    simp only [Act.put, List.setIfInBounds_toArray, List.set_cons_zero, List.set_cons_succ]
    refine takeYes (i := 3) (oi := ?_) (v := ?_) ?_ ?_ ?_ ?_ ?_ ?_ ?_ hS ?_
    rotate_left 2
    · (simp only [List.getElem?_toArray, List.getElem?_cons_succ, List.getElem?_cons_zero]; rfl)
    iterate 3 (· kernel_rfl)
    · rfl
    · (intro w hSw; go_simp; try with_reducible rfl)
    · exact fun _ _ _ h => h
    simp only [Act.put, List.setIfInBounds_toArray, List.set_cons_zero, List.set_cons_succ]
    refine takeYes (i := 4) (oi := ?_) (v := ?_) ?_ ?_ ?_ ?_ ?_ ?_ ?_ hS ?_
    rotate_left 2
    · (simp only [List.getElem?_toArray, List.getElem?_cons_succ, List.getElem?_cons_zero]; rfl)
    iterate 3 (· kernel_rfl)
    · rfl
    · (intro w hSw; go_simp; try with_reducible rfl)
    · exact fun _ _ _ h => h
    simp only [Act.put, List.setIfInBounds_toArray, List.set_cons_zero, List.set_cons_succ]
    refine takeYes (i := 5) (oi := ?_) (v := ?_) ?_ ?_ ?_ ?_ ?_ ?_ ?_ hS ?_
    rotate_left 2
    · (simp only [List.getElem?_toArray, List.getElem?_cons_succ, List.getElem?_cons_zero]; rfl)
    iterate 3 (· kernel_rfl)
    · rfl
    · (intro w hSw; go_simp; try with_reducible rfl)
    · exact fun _ _ _ h => h
    simp only [Act.put, List.setIfInBounds_toArray, List.set_cons_zero, List.set_cons_succ]
    refine takeYes (i := 6) (oi := ?_) (v := ?_) ?_ ?_ ?_ ?_ ?_ ?_ ?_ hS ?_
    rotate_left 2
    · (simp only [List.getElem?_toArray, List.getElem?_cons_succ, List.getElem?_cons_zero]; rfl)
    iterate 3 (· kernel_rfl)
    · rfl
    · (intro w hSw; go_simp; try with_reducible rfl)
    · exact fun _ _ _ h => h
    simp only [Act.put, List.setIfInBounds_toArray, List.set_cons_zero, List.set_cons_succ]
    refine takeYes (i := 7) (oi := ?_) (v := ?_) ?_ ?_ ?_ ?_ ?_ ?_ ?_ hS ?_
    rotate_left 2
    · (simp only [List.getElem?_toArray, List.getElem?_cons_succ, List.getElem?_cons_zero]; rfl)
    iterate 3 (· kernel_rfl)
    · rfl
    · (intro w hSw; go_simp; try with_reducible rfl)
    · exact fun _ _ _ h => h
    simp only [Act.put, List.setIfInBounds_toArray, List.set_cons_zero, List.set_cons_succ]
    refine takeYes (i := 8) (oi := ?_) (v := ?_) ?_ ?_ ?_ ?_ ?_ ?_ ?_ hS ?_
    rotate_left 2
    · (simp only [List.getElem?_toArray, List.getElem?_cons_succ, List.getElem?_cons_zero]; rfl)
    iterate 3 (· kernel_rfl)
    · rfl
    · (intro w hSw; go_simp; try with_reducible rfl)
    · exact fun _ _ _ h => h
    simp only [Act.put, List.setIfInBounds_toArray, List.set_cons_zero, List.set_cons_succ]
    refine takeYes (i := 9) (oi := ?_) (v := ?_) ?_ ?_ ?_ ?_ ?_ ?_ ?_ hS ?_
    rotate_left 2
    · (simp only [List.getElem?_toArray, List.getElem?_cons_succ, List.getElem?_cons_zero]; rfl)
    iterate 3 (· kernel_rfl)
    · rfl
    · (intro w hSw; go_simp; try with_reducible rfl)
    · exact fun _ _ _ h => h
    simp only [Act.put, List.setIfInBounds_toArray, List.set_cons_zero, List.set_cons_succ]
    refine takeYes (i := 10) (oi := ?_) (v := ?_) ?_ ?_ ?_ ?_ ?_ ?_ ?_ hS ?_
    rotate_left 2
    · (simp only [List.getElem?_toArray, List.getElem?_cons_succ, List.getElem?_cons_zero]; rfl)
    iterate 3 (· kernel_rfl)
    · rfl
    · (intro w hSw; go_simp; try with_reducible rfl)
    · exact fun _ _ _ h => h
    simp only [Act.put, List.setIfInBounds_toArray, List.set_cons_zero, List.set_cons_succ]
    refine takeYes (i := 11) (oi := ?_) (v := ?_) ?_ ?_ ?_ ?_ ?_ ?_ ?_ hS ?_
    rotate_left 2
    · (simp only [List.getElem?_toArray, List.getElem?_cons_succ, List.getElem?_cons_zero]; rfl)
    iterate 3 (· kernel_rfl)
    · rfl
    · (intro w hSw; go_simp; try with_reducible rfl)
    · exact fun _ _ _ h => h
    simp only [Act.put, List.setIfInBounds_toArray, List.set_cons_zero, List.set_cons_succ]
    refine takeYes (i := 12) (oi := ?_) (v := ?_) ?_ ?_ ?_ ?_ ?_ ?_ ?_ hS ?_
    rotate_left 2
    · (simp only [List.getElem?_toArray, List.getElem?_cons_succ, List.getElem?_cons_zero]; rfl)
    iterate 3 (· kernel_rfl)
    · rfl
    · (intro w hSw; go_simp; try with_reducible rfl)
    · exact fun _ _ _ h => h
    simp only [Act.put, List.setIfInBounds_toArray, List.set_cons_zero, List.set_cons_succ]
    refine takeYes (i := 13) (oi := ?_) (v := ?_) ?_ ?_ ?_ ?_ ?_ ?_ ?_ hS ?_
    rotate_left 2
    · (simp only [List.getElem?_toArray, List.getElem?_cons_succ, List.getElem?_cons_zero]; rfl)
    iterate 3 (· kernel_rfl)
    · rfl
    · (intro w hSw; go_simp; try with_reducible rfl)
    · exact fun _ _ _ h => h
    simp only [Act.put, List.setIfInBounds_toArray, List.set_cons_zero, List.set_cons_succ]
    refine takeYes (i := 14) (oi := ?_) (v := ?_) ?_ ?_ ?_ ?_ ?_ ?_ ?_ hS ?_
    rotate_left 2
    · (simp only [List.getElem?_toArray, List.getElem?_cons_succ, List.getElem?_cons_zero]; rfl)
    iterate 3 (· kernel_rfl)
    · rfl
    · (intro w hSw; go_simp; try with_reducible rfl)
    · exact fun _ _ _ h => h
    simp only [Act.put, List.setIfInBounds_toArray, List.set_cons_zero, List.set_cons_succ]
    refine takeYes (i := 15) (oi := ?_) (v := ?_) ?_ ?_ ?_ ?_ ?_ ?_ ?_ hS ?_
    rotate_left 2
    · (simp only [List.getElem?_toArray, List.getElem?_cons_succ, List.getElem?_cons_zero]; rfl)
    iterate 3 (· kernel_rfl)
    · rfl
    · (intro w hSw; go_simp; try with_reducible rfl)
    · exact fun _ _ _ h => h
    simp only [Act.put, List.setIfInBounds_toArray, List.set_cons_zero, List.set_cons_succ]
    refine takeYes (i := 16) (oi := ?_) (v := ?_) ?_ ?_ ?_ ?_ ?_ ?_ ?_ hS ?_
    rotate_left 2
    · (simp only [List.getElem?_toArray, List.getElem?_cons_succ, List.getElem?_cons_zero]; rfl)
    iterate 3 (· kernel_rfl)
    · rfl
    · (intro w hSw; go_simp; try with_reducible rfl)
    · exact fun _ _ _ h => h
    simp only [Act.put, List.setIfInBounds_toArray, List.set_cons_zero, List.set_cons_succ]
    refine takeYes (i := 17) (oi := ?_) (v := ?_) ?_ ?_ ?_ ?_ ?_ ?_ ?_ hS ?_
    rotate_left 2
    · (simp only [List.getElem?_toArray, List.getElem?_cons_succ, List.getElem?_cons_zero]; rfl)
    iterate 3 (· kernel_rfl)
    · rfl
    · (intro w hSw; go_simp; try with_reducible rfl)
    · exact fun _ _ _ h => h
    simp only [Act.put, List.setIfInBounds_toArray, List.set_cons_zero, List.set_cons_succ]
    refine takeYes (i := 18) (oi := ?_) (v := ?_) ?_ ?_ ?_ ?_ ?_ ?_ ?_ hS ?_
    rotate_left 2
    · (simp only [List.getElem?_toArray, List.getElem?_cons_succ, List.getElem?_cons_zero]; rfl)
    iterate 3 (· kernel_rfl)
    · rfl
    · (intro w hSw; go_simp; try with_reducible rfl)
    · exact fun _ _ _ h => h
    simp only [Act.put, List.setIfInBounds_toArray, List.set_cons_zero, List.set_cons_succ]
    refine takeYes (i := 19) (oi := ?_) (v := ?_) ?_ ?_ ?_ ?_ ?_ ?_ ?_ hS ?_
    rotate_left 2
    · (simp only [List.getElem?_toArray, List.getElem?_cons_succ, List.getElem?_cons_zero]; rfl)
    iterate 3 (· kernel_rfl)
    · rfl
    · (intro w hSw; go_simp; try with_reducible rfl)
    · exact fun _ _ _ h => h
    simp only [Act.put, List.setIfInBounds_toArray, List.set_cons_zero, List.set_cons_succ]
    refine takeYes (i := 20) (oi := ?_) (v := ?_) ?_ ?_ ?_ ?_ ?_ ?_ ?_ hS ?_
    rotate_left 2
    · (simp only [List.getElem?_toArray, List.getElem?_cons_succ, List.getElem?_cons_zero]; rfl)
    iterate 3 (· kernel_rfl)
    · rfl
    · (intro w hSw; go_simp; try with_reducible rfl)
    · exact fun _ _ _ h => h
    simp only [Act.put, List.setIfInBounds_toArray, List.set_cons_zero, List.set_cons_succ]
    refine takeYes (i := 21) (oi := ?_) (v := ?_) ?_ ?_ ?_ ?_ ?_ ?_ ?_ hS ?_
    rotate_left 2
    · (simp only [List.getElem?_toArray, List.getElem?_cons_succ, List.getElem?_cons_zero]; rfl)
    iterate 3 (· kernel_rfl)
    · rfl
    · (intro w hSw; go_simp; try with_reducible rfl)
    · exact fun _ _ _ h => h
    simp only [Act.put, List.setIfInBounds_toArray, List.set_cons_zero, List.set_cons_succ]
    refine takeYes (i := 22) (oi := ?_) (v := ?_) ?_ ?_ ?_ ?_ ?_ ?_ ?_ hS ?_
    rotate_left 2
    · (simp only [List.getElem?_toArray, List.getElem?_cons_succ, List.getElem?_cons_zero]; rfl)
    iterate 3 (· kernel_rfl)
    · rfl
    · (intro w hSw; go_simp; try with_reducible rfl)
    · exact fun _ _ _ h => h
    simp only [Act.put, List.setIfInBounds_toArray, List.set_cons_zero, List.set_cons_succ]
    refine wpAnyH_ready (rs := [23]) (by kernel_rfl) (by simp) ?_
    refine AllReadyH.cons (o := ?_) ?_ (fun K hK => ?_) AllReadyH.nil
    rotate_left 1
    · (simp only [List.getElem?_toArray, List.getElem?_cons_succ, List.getElem?_cons_zero]; rfl)
    go_simp
    refine (CH.out _ _ (L7.out.below (Below.refl _ _).drew)).mono ?_
    rintro e w8 ⟨rfl, rfl⟩
    refine hK.out _ _ (Nat.le_refl _) (fun hS => ?_)
    clear hK K
    try simp only [Act.put, List.setIfInBounds_toArray, List.set_cons_zero, List.set_cons_succ]
    refine takeYes (i := 24) (oi := ?_) (v := ?_) ?_ ?_ ?_ ?_ ?_ ?_ ?_ hS ?_
    rotate_left 2
    · (simp only [List.getElem?_toArray, List.getElem?_cons_succ, List.getElem?_cons_zero]; rfl)
    iterate 3 (· kernel_rfl)
    · rfl
    · (intro w hSw; go_simp; try with_reducible rfl)
    · exact fun _ _ _ h => h
    simp only [Act.put, List.setIfInBounds_toArray, List.set_cons_zero, List.set_cons_succ]
    refine takeYes (i := 25) (oi := ?_) (v := ?_) ?_ ?_ ?_ ?_ ?_ ?_ ?_ hS ?_
    rotate_left 2
    · (simp only [List.getElem?_toArray, List.getElem?_cons_succ, List.getElem?_cons_zero]; rfl)
    iterate 3 (· kernel_rfl)
    · rfl
    · (intro w hSw; go_simp; try with_reducible rfl)
    · exact fun _ _ _ h => h
    simp only [Act.put, List.setIfInBounds_toArray, List.set_cons_zero, List.set_cons_succ]
    refine takeYes (i := 26) (oi := ?_) (v := ?_) ?_ ?_ ?_ ?_ ?_ ?_ ?_ hS ?_
    rotate_left 2
    · (simp only [List.getElem?_toArray, List.getElem?_cons_succ, List.getElem?_cons_zero]; rfl)
    iterate 3 (· kernel_rfl)
    · rfl
    · (intro w hSw; go_simp; try with_reducible rfl)
    · exact fun _ _ _ h => h
    simp only [Act.put, List.setIfInBounds_toArray, List.set_cons_zero, List.set_cons_succ]
    refine takeYes (i := 27) (oi := ?_) (v := ?_) ?_ ?_ ?_ ?_ ?_ ?_ ?_ hS ?_
    rotate_left 2
    · (simp only [List.getElem?_toArray, List.getElem?_cons_succ, List.getElem?_cons_zero]; rfl)
    iterate 3 (· kernel_rfl)
    · rfl
    · (intro w hSw; go_simp; try with_reducible rfl)
    · exact fun _ _ _ h => h
    simp only [Act.put, List.setIfInBounds_toArray, List.set_cons_zero, List.set_cons_succ]
    refine takeYes (i := 28) (oi := ?_) (v := ?_) ?_ ?_ ?_ ?_ ?_ ?_ ?_ hS ?_
    rotate_left 2
    · (simp only [List.getElem?_toArray, List.getElem?_cons_succ, List.getElem?_cons_zero]; rfl)
    iterate 3 (· kernel_rfl)
    · rfl
    · (intro w hSw; go_simp; try with_reducible rfl)
    · exact fun _ _ _ h => h
    simp only [Act.put, List.setIfInBounds_toArray, List.set_cons_zero, List.set_cons_succ]
    refine takeNo (i := 29) (oi := ?_) ?_ ?_ ?_ ?_ ?_ ?_ hS ?_
    rotate_left 1
    · (simp only [List.getElem?_toArray, List.getElem?_cons_succ, List.getElem?_cons_zero]; rfl)
    iterate 3 (· kernel_rfl)
    · rfl
    · exact fun _ _ _ h => h
    simp only [Act.put, List.setIfInBounds_toArray, List.set_cons_zero, List.set_cons_succ]
    refine takeNo (i := 30) (oi := ?_) ?_ ?_ ?_ ?_ ?_ ?_ hS ?_
    rotate_left 1
    · (simp only [List.getElem?_toArray, List.getElem?_cons_succ, List.getElem?_cons_zero]; rfl)
    iterate 3 (· kernel_rfl)
    · rfl
    · exact fun _ _ _ h => h
    simp only [Act.put, List.setIfInBounds_toArray, List.set_cons_zero, List.set_cons_succ]
    refine takeNo (i := 31) (oi := ?_) ?_ ?_ ?_ ?_ ?_ ?_ hS ?_
    rotate_left 1
    · (simp only [List.getElem?_toArray, List.getElem?_cons_succ, List.getElem?_cons_zero]; rfl)
    iterate 3 (· kernel_rfl)
    · rfl
    · exact fun _ _ _ h => h
    simp only [Act.put, List.setIfInBounds_toArray, List.set_cons_zero, List.set_cons_succ]
    refine takeYes (i := 32) (oi := ?_) (v := ?_) ?_ ?_ ?_ ?_ ?_ ?_ ?_ hS ?_
    rotate_left 2
    · (simp only [List.getElem?_toArray, List.getElem?_cons_succ, List.getElem?_cons_zero]; rfl)
    iterate 3 (· kernel_rfl)
    · rfl
    · (intro w hSw; go_simp; try with_reducible rfl)
    · exact fun _ _ _ h => h
    simp only [Act.put, List.setIfInBounds_toArray, List.set_cons_zero, List.set_cons_succ]
    refine takeYes (i := 33) (oi := ?_) (v := ?_) ?_ ?_ ?_ ?_ ?_ ?_ ?_ hS ?_
    rotate_left 2
    · (simp only [List.getElem?_toArray, List.getElem?_cons_succ, List.getElem?_cons_zero]; rfl)
    iterate 3 (· kernel_rfl)
    · rfl
    · (intro w hSw; go_simp; try with_reducible rfl)
    · exact fun _ _ _ h => h
    simp only [Act.put, List.setIfInBounds_toArray, List.set_cons_zero, List.set_cons_succ]
    refine takeYes (i := 34) (oi := ?_) (v := ?_) ?_ ?_ ?_ ?_ ?_ ?_ ?_ hS ?_
    rotate_left 2
    · (simp only [List.getElem?_toArray, List.getElem?_cons_succ, List.getElem?_cons_zero]; rfl)
    iterate 3 (· kernel_rfl)
    · rfl
    · (intro w hSw; go_simp; try with_reducible rfl)
    · exact fun _ _ _ h => h
    simp only [Act.put, List.setIfInBounds_toArray, List.set_cons_zero, List.set_cons_succ]
    refine takeYes (i := 35) (oi := ?_) (v := ?_) ?_ ?_ ?_ ?_ ?_ ?_ ?_ hS ?_
    rotate_left 2
    · (simp only [List.getElem?_toArray, List.getElem?_cons_succ, List.getElem?_cons_zero]; rfl)
    iterate 3 (· kernel_rfl)
    · rfl
    · (intro w hSw; go_simp; try with_reducible rfl)
    · exact fun _ _ _ h => h
    simp only [Act.put, List.setIfInBounds_toArray, List.set_cons_zero, List.set_cons_succ]
    refine takeYes (i := 36) (oi := ?_) (v := ?_) ?_ ?_ ?_ ?_ ?_ ?_ ?_ hS ?_
    rotate_left 2
    · (simp only [List.getElem?_toArray, List.getElem?_cons_succ, List.getElem?_cons_zero]; rfl)
    iterate 3 (· kernel_rfl)
    · rfl
    · (intro w hSw; go_simp; try with_reducible rfl)
    · exact fun _ _ _ h => h
    simp only [Act.put, List.setIfInBounds_toArray, List.set_cons_zero, List.set_cons_succ]
    refine takeYes (i := 38) (oi := ?_) (v := ?_) ?_ ?_ ?_ ?_ ?_ ?_ ?_ hS ?_
    rotate_left 2
    · (simp only [List.getElem?_toArray, List.getElem?_cons_succ, List.getElem?_cons_zero]; rfl)
    iterate 3 (· kernel_rfl)
    · rfl
    · (intro w hSw; go_simp; try with_reducible rfl)
    · exact fun _ _ _ h => h
    simp only [Act.put, List.setIfInBounds_toArray, List.set_cons_zero, List.set_cons_succ]
    refine takeYes (i := 39) (oi := ?_) (v := ?_) ?_ ?_ ?_ ?_ ?_ ?_ ?_ hS ?_
    rotate_left 2
    · (simp only [List.getElem?_toArray, List.getElem?_cons_succ, List.getElem?_cons_zero]; rfl)
    iterate 3 (· kernel_rfl)
    · rfl
    · (intro w hSw; go_simp; try with_reducible rfl)
    · exact fun _ _ _ h => h
    simp only [Act.put, List.setIfInBounds_toArray, List.set_cons_zero, List.set_cons_succ]
    refine takeYes (i := 41) (oi := ?_) (v := ?_) ?_ ?_ ?_ ?_ ?_ ?_ ?_ hS ?_
    rotate_left 2
    · (simp only [List.getElem?_toArray, List.getElem?_cons_succ, List.getElem?_cons_zero]; rfl)
    iterate 3 (· kernel_rfl)
    · rfl
    · (intro w hSw; go_simp; try with_reducible rfl)
    · exact fun _ _ _ h => h
    simp only [Act.put, List.setIfInBounds_toArray, List.set_cons_zero, List.set_cons_succ]
    refine wpAnyH_ready (rs := [37]) (by kernel_rfl) (by simp) ?_
    refine AllReadyH.cons (o := ?_) ?_ (fun K hK => ?_) AllReadyH.nil
    rotate_left 1
    · (simp only [List.getElem?_toArray, List.getElem?_cons_succ, List.getElem?_cons_zero]; rfl)
    go_simp
    refine (CL.out _ (R7.out.below (Below.refl _ _).drew)).mono ?_
    rintro e w8 ⟨rfl, bb⟩
    have B8 := Lib.hid (below_up (Below.refl w7.heap.size w7).drew bb)
    clear bb
    refine hK.out _ _ B8.out.size (fun hS => ?_)
    clear hK K
    try simp only [Act.put, List.setIfInBounds_toArray, List.set_cons_zero, List.set_cons_succ]
    refine takeYes (i := 40) (oi := ?_) (v := ?_) ?_ ?_ ?_ ?_ ?_ ?_ ?_ hS ?_
    rotate_left 2
    · (simp only [List.getElem?_toArray, List.getElem?_cons_succ, List.getElem?_cons_zero]; rfl)
    iterate 3 (· kernel_rfl)
    · rfl
    · (intro w hSw; go_simp; try with_reducible rfl)
    · exact fun _ _ _ h => h
    simp only [Act.put, List.setIfInBounds_toArray, List.set_cons_zero, List.set_cons_succ]
    refine takeYes (i := 42) (oi := ?_) (v := ?_) ?_ ?_ ?_ ?_ ?_ ?_ ?_ hS ?_
    rotate_left 2
    · (simp only [List.getElem?_toArray, List.getElem?_cons_succ, List.getElem?_cons_zero]; rfl)
    iterate 3 (· kernel_rfl)
    · rfl
    · (intro w hSw; go_simp; try with_reducible rfl)
    · exact fun _ _ _ h => h
    simp only [Act.put, List.setIfInBounds_toArray, List.set_cons_zero, List.set_cons_succ]
    refine takeYes (i := 43) (oi := ?_) (v := ?_) ?_ ?_ ?_ ?_ ?_ ?_ ?_ hS ?_
    rotate_left 2
    · (simp only [List.getElem?_toArray, List.getElem?_cons_succ, List.getElem?_cons_zero]; rfl)
    iterate 3 (· kernel_rfl)
    · rfl
    · (intro w hSw; go_simp; try with_reducible rfl)
    · exact fun _ _ _ h => h
    simp only [Act.put, List.setIfInBounds_toArray, List.set_cons_zero, List.set_cons_succ]
    refine wpAnyH_done (by kernel_rfl) ?_ _
    have R8 := Lib.hid (R7.out.below B8.out)
    have L8 := Lib.hid (L7.out.below B8.out)
    have S8 := Lib.hid (S7.out.below B8.out)
    have Q8 := Lib.hid (Q7.out.below B8.out)
    have BZ := Lib.hid (B7.out.trans (B8.out.mono B7.out.size))
    clear R7 L7 S7 Q7 B7 B8 CH CL hne
    go_wp2_with fail
    go_loopw [96] (fun iv wr => ∃ i : Nat, i ≤ m ∧ iv = .int .i64 i ∧ wr = w8) (fun iv _ => m - (intOf iv).toNat)
    case atStart => exact ⟨0, Nat.zero_le _, rfl, rfl⟩
    case round =>
      obtain ⟨i, hi, rfl, rfl⟩ := hrel
      by_cases hlt : i < m
      · have hil : i < S.length := by rw [HSL.out]; exact hlt
        have i0 : (0 : Int) ≤ (i : Int) := by omega
        have i1 : (i : Int) < (m : Int) := by omega
        obtain ⟨b1, o1, rfl, e1⟩ : ∃ b o, gs = some ⟨b, o, none⟩ ∧ wr.cell? ⟨b, o + i, none⟩ = some (.int .i64 S[i]) := by
          obtain ⟨_, _, e, h⟩ := S8.out
          injection e with e1 e2 e3
          rcases h with h | ⟨b, o, h, hc⟩
          · rw [h] at hil; simp at hil
          · exact ⟨b, o, by rw [e1, h], hc i hil⟩
        obtain ⟨b2, o2, rfl, e2⟩ : ∃ b o, gr = some ⟨b, o, none⟩ ∧ wr.cell? ⟨b, o + i, none⟩ = some (.bool (decide (0 < S[i]))) := by
          obtain ⟨_, _, e, h⟩ := Q8.out
          injection e with e1 e2 e3
          rcases h with h | ⟨b, o, h, hc⟩
          · rw [List.map_eq_nil_iff] at h; rw [h] at hil; simp at hil
          · exact ⟨b, o, by rw [e1, h], by rw [hc i (by rw [List.length_map]; exact hil), List.getElem_map]⟩
        generalize S[i] = z at e1 e2
        clear hil
        by_cases hz : 0 < z
        · rw [decide_eq_true hz] at e2
          go_wp2
          go_roundw
          case rel => exact ⟨i + 1, by omega, by go_num, by first | rfl | trivial⟩
          case measure => simp [intOf]; omega
        · rw [decide_eq_false hz] at e2
          go_wp2
          go_roundw
          case rel => exact ⟨i + 1, by omega, by go_num, by first | rfl | trivial⟩
          case measure => simp [intOf]; omega
      · obtain rfl : i = m := by omega
        have C9 := Lib.hid (CC.out _ _ R8.out Q8.out)
        have HF := HFEW.out
        go_wp2_with fail
        refine C9.out.mono ?_
        rintro e w9 ⟨u, rfl, ou, bb⟩
        obtain ⟨g9, q9, rfl, -⟩ := ou.reads
        have BF := below_up BZ.out bb
        generalize LC.length = z at HF
        have hle : (q : Int) ≤ (z : Int) := by omega
        replace BF := Lib.hid BF
        clear ou bb HF
        go_wp2
        go_ret
        exact ⟨by first | rfl | exact ret_bool (by simp; omega), BF.out⟩
end Go.Proofs.Ytoliloophjeooaa
