/- The contract of the program's WeighingOk: it tells whether a weighing is valid. Conditions: the sides read as integers and are short enough to be counted. -/
import Derived.Test.YtlflblngbneacabDoorWeighImpl
import Derived.LoopN
namespace Go.Proofs.YtlflblngbneacabDoor
open Go.RowKit

theorem coinsL (a : Option Addr) (n c : Nat) (w : World) : Calls Tryd.prog 205 #[.slice a n c] w fun e w' => e = .returned (.slice a n c) ∧ w = w' := by
  go_enter Tryd.func205, Tryd.ntmps205
  go_wp2
  go_ret
  exact ⟨rfl, rfl⟩
theorem coinsR (a : Option Addr) (n c : Nat) (w : World) : Calls Tryd.prog 207 #[.slice a n c] w fun e w' => e = .returned (.slice a n c) ∧ w = w' := by
  go_enter Tryd.func207, Tryd.ntmps207
  go_wp2
  go_ret
  exact ⟨rfl, rfl⟩

/-- The methods that a side's value has. -/
theorem methL (a : Option Addr) (n c : Nat) (w : World) : (method 371 148 (.slice a n c) "loop.example/g01040/impl.coins").run Tryd.prog w = .ok (205, .slice a n c) w := by kernel_rfl
theorem methR (a : Option Addr) (n c : Nat) (w : World) : (method 371 149 (.slice a n c) "loop.example/g01040/impl.coins").run Tryd.prog w = .ok (207, .slice a n c) w := by kernel_rfl

set_option maxRecDepth 100000 in
set_option maxHeartbeats 3200000 in
theorem implWeighingOk (vl vr : Value) (L R : List Int) (n : Int) (w : World) (h1 : IntsAt w vl L) (h2 : IntsAt w vr R) (ml : L.length ≤ 100000000) (mr : R.length ≤ 100000000) :
    Calls Tryd.prog 73 #[.agg #[vl, vr], .int .i64 n] w fun e w' => e = .returned (.bool (weighB L R n)) ∧ Below w.heap.size w w' := by
  have HW : Hid (weighB L R n = (((((decide (1 ≤ n) && decide (n ≤ 13)) && (ascB L n && decide (0 < L.length))) && (ascB R n && decide (0 < R.length))) && decide (L.length = R.length)) && apartB L R)) := rfl
  have P1 := Lib.hid (TwoAt.new w 40 vl vr)
  have B1 := Lib.hid (alloc_below w (.cells #[vl, vr] 40))
  generalize hX1 : w.alloc (.cells #[vl, vr] 40) = X1 at P1 B1
  have H1 := Lib.hid (h1.below B1.out)
  have H2 := Lib.hid (h2.below B1.out)
  have C1 := Lib.hid (fun W h hq => implAsc vl L n W h ml hq)
  have C2 := Lib.hid (fun W h hq => implAsc vr R n W h mr hq)
  have C3 := Lib.hid (fun x W h => implContains vr R x W h mr)
  have CS := Lib.hid (fun W => implSides vl vr W)
  generalize weighB L R n = r at HW ⊢
  obtain ⟨e0, e1, -⟩ := P1.out
  obtain ⟨al, cl, rfl, hl⟩ := h1
  obtain ⟨ar, cr, rfl, hr⟩ := h2
  clear hl hr
  by_cases g1 : n < 1
  · have HE : Hid (r = false) := by unfold Hid; rw [HW.out, decide_eq_false (show ¬ 1 ≤ n by omega)]; rfl
    clear HW C1 C2 C3 CS
    go_enter Tryd.func73, Tryd.ntmps73
    go_wp2
    go_ret
    exact ⟨ret_bool HE.out.symm, B1.out⟩
  by_cases g2 : 13 < n
  · have HE : Hid (r = false) := by unfold Hid; rw [HW.out, decide_eq_false (show ¬ n ≤ 13 by omega), Bool.and_false]; rfl
    clear HW C1 C2 C3 CS
    go_enter Tryd.func73, Tryd.ntmps73
    go_wp2
    go_ret
    exact ⟨ret_bool HE.out.symm, B1.out⟩
  obtain ⟨a, ha⟩ : ∃ a, L.length = a := ⟨_, rfl⟩
  obtain ⟨b, hb⟩ : ∃ b, R.length = b := ⟨_, rfl⟩
  have HL := Lib.hid ha
  have HD : Hid (r = ((((ascB L n && decide (0 < a)) && (ascB R n && decide (0 < b))) && decide (a = b)) && apartB L R)) := by
    unfold Hid; rw [HW.out, ha, hb, decide_eq_true (show 1 ≤ n by omega), decide_eq_true (show n ≤ 13 by omega)]; rfl
  clear HW
  rw [ha] at C1 CS e0 ml H1 hX1 P1 ⊢
  rw [hb] at C2 C3 CS e1 mr H2 hX1 P1 ⊢
  clear ha hb
  by_cases g3 : a = 0
  · subst g3
    have HE : Hid (r = false) := by unfold Hid; rw [HD.out]; simp
    clear HD C1 C2 C3 CS
    go_enter Tryd.func73, Tryd.ntmps73
    go_wp2
    go_ret
    exact ⟨ret_bool HE.out.symm, B1.out⟩
  have k3 : ((a : Int) == 0) = false := beq_eq_false_iff_ne.2 (by omega)
  by_cases g4 : a = b
  · subst g4
    have k4 : ((a : Int) != (a : Int)) = false := by simp
    have HE : Hid (r = ((ascB L n && ascB R n) && apartB L R)) := by unfold Hid; rw [HD.out, decide_eq_true (show 0 < a by omega)]; simp
    clear HD
    generalize ascB L n = t1 at C1 HE
    generalize ascB R n = t2 at C2 HE
    go_enter Tryd.func73, Tryd.ntmps73
    go_wp2_with fail
    refine (CS.out _).mono ?_
    rintro e w1 ⟨b, rfl, T, hb, b1⟩
    have BY := Lib.hid (below_up B1.out b1)
    have G1 := Lib.hid (H1.out.below b1)
    have G2 := Lib.hid (H2.out.below b1)
    have Q1 := Lib.hid (P1.out.below b1)
    clear b1 e0 e1 hX1 hb
    obtain ⟨s0, s1, -⟩ := T
    go_wp2_with fail
    refine wp_loop_rounds 3 ?_
    have ML := methL
    have MR := methR
    rw [rounds_succ]
    go_wp2_with fail
    refine (coinsL _ _ _ _).mono ?_
    rintro e w2 ⟨rfl, rfl⟩
    go_wp2_with fail
    refine (C1.out _ G1.out (by omega)).mono ?_
    rintro e w2 ⟨rfl, rfl⟩
    cases t1 with
    | false =>
      have HF : Hid (r = false) := HE.out
      clear HE
      go_wp2
      go_ret
      exact ⟨ret_bool HF.out.symm, BY.out⟩
    | true =>
      have HF : Hid (r = (t2 && apartB L R)) := by unfold Hid; rw [HE.out]; rfl
      clear HE
      go_wp2_with fail
      rw [rounds_succ]
      go_wp2_with fail
      refine (coinsR _ _ _ _).mono ?_
      rintro e w2 ⟨rfl, rfl⟩
      go_wp2_with fail
      refine (C2.out _ G2.out (by omega)).mono ?_
      rintro e w2 ⟨rfl, rfl⟩
      cases t2 with
      | false =>
        have HG : Hid (r = false) := HF.out
        clear HF
        go_wp2
        go_ret
        exact ⟨ret_bool HG.out.symm, BY.out⟩
      | true =>
        have HG : Hid (r = apartB L R) := by unfold Hid; rw [HF.out]; rfl
        clear HF
        go_wp2_with fail
        rw [rounds_succ]
        obtain ⟨e0, e1, -⟩ := Q1.out
        go_wp2
        have HC : Hid (∀ i (h : i < L.length), ∃ b o, al = some ⟨b, o, none⟩ ∧ w1.cell? ⟨b, o + i, none⟩ = some (.int .i64 L[i])) := by
          intro i hi
          obtain ⟨a', c', hv, hh⟩ := G1.out
          cases hv
          rcases hh with rfl | ⟨b, o, rfl, hc⟩
          · simp at hi
          · exact ⟨b, o, rfl, hc i hi⟩
        go_loop [8, 46] (fun _ i => ∃ k : Nat, k ≤ a ∧ i = .int .i64 k ∧ Hid (apartB (L.take k) R = true)) (fun _ i => a - (intOf i).toNat)
        case atStart => exact ⟨0, Nat.zero_le _, rfl, by simp [Hid, apartB]⟩
        case round =>
          obtain ⟨k, hk, rfl, HF⟩ := hrel
          by_cases hlt : k < a
          · have hkl : k < L.length := by rw [HL.out]; exact hlt
            obtain ⟨b, o, rfl, e2⟩ := HC.out k hkl
            obtain ⟨x, hx⟩ : ∃ x, L[k] = x := ⟨_, rfl⟩
            rw [hx] at e2
            obtain ⟨t, ht⟩ : ∃ t, hasI R x = t := ⟨_, rfl⟩
            have D := Lib.hid (C3.out x)
            rw [ht] at D
            have i0 : (0 : Int) ≤ (k : Int) := by omega
            have i1 : (k : Int) < (a : Int) := by omega
            cases t with
            | true =>
              have HY : Hid (r = false) := by unfold Hid; rw [HG.out]; exact apart_bad hkl (by rw [hx]; exact ht)
              clear hx hkl ht
              go_wp2_with fail
              refine (D.out _ G2.out).mono ?_
              rintro e w2 ⟨rfl, rfl⟩
              go_wp2
              go_ret
              exact ⟨ret_bool HY.out.symm, BY.out⟩
            | false =>
              have HY : Hid (apartB (L.take (k + 1)) R = true) := apart_step hkl HF.out (by rw [hx]; exact ht)
              clear hx hkl ht
              go_wp2_with fail
              refine (D.out _ G2.out).mono ?_
              rintro e w2 ⟨rfl, rfl⟩
              go_wp2
              go_round
              case rel => exact ⟨k + 1, by omega, by go_num, HY⟩
              case measure => simp [intOf]; omega
          · have HY : Hid (r = true) := by unfold Hid; rw [HG.out]; exact apart_end (by rw [HL.out]; omega) HF.out
            go_wp2
            go_ret
            exact ⟨ret_bool HY.out.symm, BY.out⟩
  · have k4 : ((a : Int) != (b : Int)) = true := by simp; omega
    have HE : Hid (r = false) := by unfold Hid; rw [HD.out, decide_eq_false g4]; simp
    clear HD C1 C2 C3 CS
    go_enter Tryd.func73, Tryd.ntmps73
    go_wp2
    go_ret
    exact ⟨ret_bool HE.out.symm, B1.out⟩
end Go.Proofs.YtlflblngbneacabDoor
