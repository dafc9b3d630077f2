/- The contract of the program's OutcomeOf. Conditions: the sides read as integers and are short enough to be counted; a case that fits Go's int. -/
import Derived.Test.YtlflblngbneacabDoorOkImpl
namespace Go.Proofs.YtlflblngbneacabDoor
open Go.RowKit

theorem ascB_no0 {l : List Int} {n : Int} (h : ascB l n = true) : hasI l 0 = false := by
  simp only [ascB, Bool.and_eq_true, List.all_eq_true, decide_eq_true_eq] at h
  cases hh : hasI l 0 with
  | false => rfl
  | true => have := h.2 0 (hasI_mem.1 hh); omega
theorem outI_valid {L R : List Int} (h : weighB L R 13 = true) (c : Int) : outI L R c = outcI L R c := by
  unfold outI
  cases hi : inB c with
  | true => rw [h]; rfl
  | false =>
    simp only [weighB, sideB, Bool.and_eq_true] at h
    have h1 := ascB_no0 h.1.1.1.2.1
    have h2 := ascB_no0 h.1.1.2.1
    have hq : coinI c = 0 := by unfold coinI; rw [hi]; rfl
    unfold outcI
    rw [hq, h1, h2]
    simp

theorem asLL (v : Value) (w : World) : (Instr.typeAssert (.iface 148 v) 104 148 true).run Tryd.prog w = .ok (.tuple #[v, .bool true]) w := by kernel_rfl
theorem asRL (v : Value) (w : World) : (Instr.typeAssert (.iface 149 v) 104 148 true).run Tryd.prog w = .ok (.tuple #[.slice none 0 0, .bool false]) w := by kernel_rfl
theorem asRR (v : Value) (w : World) : (Instr.typeAssert (.iface 149 v) 104 149 true).run Tryd.prog w = .ok (.tuple #[v, .bool true]) w := by kernel_rfl

theorem heavyL (a : Option Addr) (n c : Nat) (w : World) : Calls Tryd.prog 77 #[.iface 148 (.slice a n c)] w fun e w' => e = .returned (.int .i64 1) ∧ w = w' := by
  have h := asLL
  go_enter Tryd.func77, Tryd.ntmps77
  go_wp2
  go_ret
  exact ⟨rfl, rfl⟩
theorem heavyR (a : Option Addr) (n c : Nat) (w : World) : Calls Tryd.prog 77 #[.iface 149 (.slice a n c)] w fun e w' => e = .returned (.int .i64 (-1)) ∧ w = w' := by
  have h := asRL
  go_enter Tryd.func77, Tryd.ntmps77
  go_wp2
  go_ret
  exact ⟨rfl, rfl⟩

set_option maxHeartbeats 3200000 in
theorem implOutcome (vl vr : Value) (L R : List Int) (c : Int) (w : World) (h1 : IntsAt w vl L) (h2 : IntsAt w vr R) (ml : L.length ≤ 100000000) (mr : R.length ≤ 100000000) (c0 : -9223372036854775808 ≤ c) (c1 : c ≤ 9223372036854775807) :
    Calls Tryd.prog 25 #[.agg #[vl, vr], .int .i64 c] w fun e w' => e = .returned (.int .i64 (outI L R c)) ∧ Below w.heap.size w w' := by
  have C0 := Lib.hid (fun W h h' => implWeighingOk vl vr L R 13 W h h' ml mr)
  have CC := Lib.hid (fun W => implCoinOf c W c0 c1)
  have CK := Lib.hid (fun W => implKind c W)
  have CL := Lib.hid (fun W h => implContains vl L (coinI c) W h ml)
  have CR := Lib.hid (fun W h => implContains vr R (coinI c) W h mr)
  have CS := Lib.hid (fun W => implSides vl vr W)
  have HW : Hid (weighB L R 13 = true → outI L R c = if hasI L (coinI c) = true then (if c < 0 then -1 else 1) else if hasI R (coinI c) = true then (if c < 0 then 1 else -1) else 0) := fun h => outI_valid h c
  have HZ : Hid (weighB L R 13 = false → outI L R c = 0) := fun h => by unfold outI; rw [h]; rfl
  have P1 := Lib.hid (TwoAt.new w 40 vl vr)
  have B1 := Lib.hid (alloc_below w (.cells #[vl, vr] 40))
  generalize hX1 : w.alloc (.cells #[vl, vr] 40) = X1 at P1 B1
  have H1 := Lib.hid (h1.below B1.out)
  have H2 := Lib.hid (h2.below B1.out)
  obtain ⟨e0, e1, -⟩ := P1.out
  generalize outI L R c = r at HW HZ ⊢
  generalize weighB L R 13 = t0 at C0 HW HZ
  generalize hasI L (coinI c) = t1 at CL HW
  generalize hasI R (coinI c) = t2 at CR HW
  generalize coinI c = q at CC CL CR
  obtain ⟨k, hk⟩ : ∃ k, kindI c = k := ⟨_, rfl⟩
  have HK : Hid (k = kindI c) := hk.symm
  rw [hk] at CK
  clear hk
  obtain ⟨al, ca, hvl, -⟩ := h1
  obtain ⟨ar, cb, hvr, -⟩ := h2
  generalize L.length = na at hvl ml
  generalize R.length = nb at hvr mr
  subst hvl
  subst hvr
  cases t0 with
  | false =>
    have HE := Lib.hid (HZ.out rfl)
    clear HW HZ
    go_enter Tryd.func25, Tryd.ntmps25
    go_wp2_with fail
    refine (C0.out _ H1.out H2.out).mono ?_
    rintro e w1 ⟨rfl, b1⟩
    have BY := Lib.hid (below_up B1.out b1)
    clear b1
    go_wp2
    go_ret
    exact ⟨ret_int HE.out.symm, BY.out⟩
  | true =>
    have HE := Lib.hid (HW.out rfl)
    clear HW HZ
    go_enter Tryd.func25, Tryd.ntmps25
    go_wp2_with fail
    refine (C0.out _ H1.out H2.out).mono ?_
    rintro e w1 ⟨rfl, b1⟩
    have BY := Lib.hid (below_up B1.out b1)
    have G1 := Lib.hid (H1.out.below b1)
    have G2 := Lib.hid (H2.out.below b1)
    have Q1 := Lib.hid (P1.out.below b1)
    clear b1 e0 e1 hX1 H1 H2 P1 B1
    obtain ⟨e0, e1, -⟩ := Q1.out
    go_wp2_with fail
    refine (CS.out _).mono ?_
    rintro e w2 ⟨b, rfl, T, -, b2⟩
    have BZ := Lib.hid (below_up BY.out b2)
    have I1 := Lib.hid (G1.out.below b2)
    have I2 := Lib.hid (G2.out.below b2)
    clear b2 e0 e1 G1 G2 Q1 BY
    obtain ⟨s0, s1, -⟩ := T
    go_wp2_with fail
    refine wp_loop_rounds 3 ?_
    have ML := methL
    have MR := methR
    rw [rounds_succ]
    go_wp2_with fail
    refine (coinsL _ _ _ _).mono ?_
    rintro e w3 ⟨rfl, rfl⟩
    go_wp2_with fail
    refine (CC.out _).mono ?_
    rintro e w3 ⟨rfl, rfl⟩
    go_wp2_with fail
    refine (CL.out _ I1.out).mono ?_
    rintro e w3 ⟨rfl, rfl⟩
    cases t1 with
    | true =>
      by_cases hc : c < 0
      · have HF : Hid (r = -1) := by unfold Hid; rw [HE.out, if_pos rfl, if_pos hc]
        obtain rfl : k = 2 := by rw [HK.out]; unfold kindI; rw [if_neg (by omega), if_pos hc]
        clear HE HK
        go_wp2_with fail
        refine (CK.out _).mono ?_
        rintro e w3 ⟨rfl, rfl⟩
        go_wp2_with fail
        refine (heavyL _ _ _ _).mono ?_
        rintro e w3 ⟨rfl, rfl⟩
        go_wp2
        go_ret
        exact ⟨ret_int HF.out.symm, BZ.out⟩
      · have HF : Hid (r = 1) := by unfold Hid; rw [HE.out, if_pos rfl, if_neg hc]
        have hk2 : (k == 2) = false := beq_eq_false_iff_ne.2 (by rw [HK.out]; unfold kindI; rw [if_neg hc]; split <;> omega)
        clear HE HK
        go_wp2_with fail
        refine (CK.out _).mono ?_
        rintro e w3 ⟨rfl, rfl⟩
        go_wp2_with fail
        refine (heavyL _ _ _ _).mono ?_
        rintro e w3 ⟨rfl, rfl⟩
        go_wp2
        go_ret
        exact ⟨ret_int HF.out.symm, BZ.out⟩
    | false =>
      have HG : Hid (r = if t2 = true then (if c < 0 then 1 else -1) else 0) := by unfold Hid; rw [HE.out, if_neg (by decide)]
      clear HE
      go_wp2_with fail
      rw [rounds_succ]
      go_wp2_with fail
      refine (coinsR _ _ _ _).mono ?_
      rintro e w3 ⟨rfl, rfl⟩
      go_wp2_with fail
      refine (CC.out _).mono ?_
      rintro e w3 ⟨rfl, rfl⟩
      go_wp2_with fail
      refine (CR.out _ I2.out).mono ?_
      rintro e w3 ⟨rfl, rfl⟩
      cases t2 with
      | true =>
        by_cases hc : c < 0
        · have HF : Hid (r = 1) := by unfold Hid; rw [HG.out, if_pos rfl, if_pos hc]
          obtain rfl : k = 2 := by rw [HK.out]; unfold kindI; rw [if_neg (by omega), if_pos hc]
          clear HG HK
          go_wp2_with fail
          refine (CK.out _).mono ?_
          rintro e w3 ⟨rfl, rfl⟩
          go_wp2_with fail
          refine (heavyR _ _ _ _).mono ?_
          rintro e w3 ⟨rfl, rfl⟩
          go_wp2
          go_ret
          exact ⟨ret_int HF.out.symm, BZ.out⟩
        · have HF : Hid (r = -1) := by unfold Hid; rw [HG.out, if_pos rfl, if_neg hc]
          have hk2 : (k == 2) = false := beq_eq_false_iff_ne.2 (by rw [HK.out]; unfold kindI; rw [if_neg hc]; split <;> omega)
          clear HG HK
          go_wp2_with fail
          refine (CK.out _).mono ?_
          rintro e w3 ⟨rfl, rfl⟩
          go_wp2_with fail
          refine (heavyR _ _ _ _).mono ?_
          rintro e w3 ⟨rfl, rfl⟩
          go_wp2
          go_ret
          exact ⟨ret_int HF.out.symm, BZ.out⟩
      | false =>
        have HF : Hid (r = 0) := by unfold Hid; rw [HG.out, if_neg (by decide)]
        clear HG HK
        go_wp2_with fail
        rw [rounds_succ]
        go_wp2
        go_ret
        exact ⟨ret_int HF.out.symm, BZ.out⟩
end Go.Proofs.YtlflblngbneacabDoor
