/- The contracts of the program's TestArray, SuspectsOf, IsClear and CountArrayTests, and the walks of the exact laws of these and of ArrayOk. Conditions: the slices read as truth values. -/
import Derived.Test.YtljodgdnimiliaaArrImpl
namespace Go.Proofs.Ytljodgdnimiliaa
open Go.RowKit

/-- What holds while the results are taken: the variable, and the pools of the rows and of the columns. -/
structure TestAt (w0 : World) (B b gr gc R C : Nat) (w : World) : Prop where
  two : TwoAt w b (.slice (some ⟨gr, 0, none⟩) R R) (.slice (some ⟨gc, 0, none⟩) C C)
  row : IntsAt w (.slice (some ⟨gr, 0, none⟩) R R) (rpL R C)
  col : IntsAt w (.slice (some ⟨gc, 0, none⟩) C C) (cpL R C)
  bel : Below B w0 w
  size : B ≤ w.heap.size
theorem TestAt.next {w0 w w' : World} {B b gr gc R C : Nat} (h : TestAt w0 B b gr gc R C w) (hb : Below w.heap.size w w') : TestAt w0 B b gr gc R C w' :=
  ⟨h.two.below hb, h.row.below hb, h.col.below hb, h.bel.trans (hb.mono h.size), Nat.le_trans h.size hb.size⟩
theorem TestAt.drew {w0 w : World} {B b gr gc R C : Nat} (h : TestAt w0 B b gr gc R C w) : TestAt w0 B b gr gc R C w.drew := h.next (Below.refl _ _).drew

theorem okTest_nat (R C : Nat) (bad : Int) : okTest (R : Int) (C : Int) bad = (okArr (R : Int) (C : Int) && poolB ((R * C : Nat) : Int) bad) := rfl

set_option maxRecDepth 100000 in
set_option maxHeartbeats 3200000 in
theorem implTestArray (r c bad : Int) (w : World) :
    Calls Try.prog 14 #[.int .i64 r, .int .i64 c, .int .i64 bad] w (Tests2 (rowL r c bad) (colL r c bad) (okTest r c bad) w) := by
  have CO := Lib.hid (implArrayOk r c w)
  have HX : Hid (rowL r c bad = if okTest r c bad = true then rowR r c bad else []) := rfl
  have HY : Hid (colL r c bad = if okTest r c bad = true then colR r c bad else []) := rfl
  have HB : Hid (okTest r c bad = (okArr r c && badA r c bad)) := rfl
  cases ho : okArr r c with
  | false =>
    rw [ho] at CO
    have HE : Hid (okTest r c bad = false) := by unfold Hid; rw [HB.out, ho]; rfl
    have HE2 : Hid (rowL r c bad = []) := by unfold Hid; rw [HX.out, HE.out]; rfl
    have HE3 : Hid (colL r c bad = []) := by unfold Hid; rw [HY.out, HE.out]; rfl
    clear HX HY HB ho
    go_enter Try.func14, Try.ntmps14
    go_wp2_with fail
    refine CO.out.mono ?_
    rintro e w1 ⟨rfl, rfl⟩
    go_wp2
    go_ret3
    exact Tests2.no HE2.out HE3.out HE.out (Below.refl _ _)
  | true =>
    obtain ⟨⟨r1, r4⟩, c1, c4⟩ := okArr_in ho
    obtain ⟨R, hR⟩ : ∃ R : Nat, r.toNat = R := ⟨_, rfl⟩
    obtain ⟨C, hC⟩ : ∃ C : Nat, c.toNat = C := ⟨_, rfl⟩
    obtain rfl : r = (R : Int) := by omega
    obtain rfl : c = (C : Int) := by omega
    clear hR hC
    obtain ⟨m16, hm⟩ := mul_arr (R := R) (C := C) (by omega) (by omega)
    have HB2 : Hid (okTest (R : Int) (C : Int) bad = poolB ((R * C : Nat) : Int) bad) := by unfold Hid; rw [okTest_nat, ho]; rfl
    have HI : Hid (poolB ((R * C : Nat) : Int) bad = true → 0 ≤ bad ∧ bad ≤ 65535) := fun h => by
      have ht := top_in16 (n := ((R * C : Nat) : Int)) (by omega)
      unfold poolB at h
      simp only [Bool.and_eq_true, decide_eq_true_eq] at h
      omega
    have hRX : rowR (R : Int) (C : Int) bad = rowF R C bad (R * C) := rfl
    have hCY : colR (R : Int) (C : Int) bad = colF C bad (R * C) := rfl
    rw [hRX] at HX
    rw [hCY] at HY
    have hmc : 1 ≤ R * C := by
      have := Nat.mul_le_mul (show 1 ≤ R by omega) (show 1 ≤ C by omega)
      omega
    have CI := Lib.hid (fun W => implIsSet16 ((R * C : Nat) : Int) bad (by omega) (by omega) W)
    have CA := Lib.hid (fun W => implArrayOf R C (by omega) (by omega) (by omega) W)
    have CR : Hid (poolB ((R * C : Nat) : Int) bad = true → ∀ W v, IntsAt W v (rpL R C) → Calls Try.prog 35 #[v, .int .i64 bad] W (ListsB (rowF R C bad (R * C)) W)) := fun h W v hv => by
      have hb := HI.out h
      rw [← row_res m16 hb.1 hb.2]
      exact implResults16 v (rpL R C) bad W hv (by rw [rpL_len]; omega) (rpL_in m16) hb.1 hb.2
    have CC : Hid (poolB ((R * C : Nat) : Int) bad = true → ∀ W v, IntsAt W v (cpL R C) → Calls Try.prog 35 #[v, .int .i64 bad] W (ListsB (colF C bad (R * C)) W)) := fun h W v hv => by
      have hb := HI.out h
      rw [← col_res m16 hb.1 hb.2]
      exact implResults16 v (cpL R C) bad W hv (by rw [cpL_len]; omega) (cpL_in m16) hb.1 hb.2
    rw [ho] at CO
    generalize okTest (R : Int) (C : Int) bad = ok at HX HY HB2 ⊢
    generalize rowL (R : Int) (C : Int) bad = X at HX ⊢
    generalize colL (R : Int) (C : Int) bad = Y at HY ⊢
    generalize rowF R C bad (R * C) = FX at HX CR
    generalize colF C bad (R * C) = FY at HY CC
    clear hRX hCY ho HB HI
    generalize poolB ((R * C : Nat) : Int) bad = ib at CI HB2 CR CC
    generalize R * C = M at m16 hm hmc CI
    cases ib with
    | false =>
      have HE : Hid (ok = false) := HB2.out
      have HE2 : Hid (X = []) := by unfold Hid; rw [HX.out, HE.out]; rfl
      have HE3 : Hid (Y = []) := by unfold Hid; rw [HY.out, HE.out]; rfl
      clear HX HY CR CC CA
      go_enter Try.func14, Try.ntmps14
      go_wp2_with fail
      refine CO.out.mono ?_
      rintro e w1 ⟨rfl, rfl⟩
      go_wp2_with fail
      refine (CI.out _).mono ?_
      rintro e w1 ⟨rfl, rfl⟩
      go_wp2
      go_ret3
      exact Tests2.no HE2.out HE3.out HE.out (Below.refl _ _)
    | true =>
      have HE : Hid (ok = true) := HB2.out
      have HE2 : Hid (X = FX) := by unfold Hid; rw [HX.out, HE.out]; rfl
      have HE3 : Hid (Y = FY) := by unfold Hid; rw [HY.out, HE.out]; rfl
      have CR1 := Lib.hid (CR.out rfl)
      have CC1 := Lib.hid (CC.out rfl)
      clear HX HY CR CC HB2
      unfold ListsB at CR1 CC1
      unfold ArrayGives at CA
      go_enter Try.func14, Try.ntmps14
      go_wp2_with fail
      refine CO.out.mono ?_
      rintro e w1 ⟨rfl, rfl⟩
      go_wp2_with fail
      refine (CI.out _).mono ?_
      rintro e w1 ⟨rfl, rfl⟩
      go_wp2_with fail
      refine (CA.out _).mono ?_
      rintro e w2 ⟨gr, gc, rfl, ir, ic, bb⟩
      have T0 := TwoAt.new w2 41 (.slice (some ⟨gr, 0, none⟩) R R) (.slice (some ⟨gc, 0, none⟩) C C)
      have I0 := ir.below (alloc_below w2 (.cells #[.slice (some ⟨gr, 0, none⟩) R R, .slice (some ⟨gc, 0, none⟩) C C] 41))
      have I1 := ic.below (alloc_below w2 (.cells #[.slice (some ⟨gr, 0, none⟩) R R, .slice (some ⟨gc, 0, none⟩) C C] 41))
      have b0 := below_up bb (alloc_below w2 (.cells #[.slice (some ⟨gr, 0, none⟩) R R, .slice (some ⟨gc, 0, none⟩) C C] 41))
      generalize hX0 : w2.alloc (.cells #[.slice (some ⟨gr, 0, none⟩) R R, .slice (some ⟨gc, 0, none⟩) C C] 41) = X0 at T0 I0 I1 b0
      have P1 : Hid (TestAt w w.heap.size w2.heap.size gr gc R C X0) := ⟨T0, I0, I1, b0, b0.size⟩
      clear T0 I0 I1 b0 ir ic bb
      go_wp2_with fail
      generalize w2.heap.size = b at P1 ⊢
      clear hX0
      go_region_held3 (fun w' => w'.cell? ⟨b, 0, none⟩ = some (.slice (some ⟨gr, 0, none⟩) R R) ∧ w'.cell? ⟨b, 1, none⟩ = some (.slice (some ⟨gc, 0, none⟩) C C) ∧ b < w'.heap.size)
        (first | exact P4.out.two | exact P3.out.two | exact P2.out.two | exact P1.out.drew.two)
        (first
          | (go_at_call_of 35 (Value.slice (some ⟨gr, 0, none⟩) R R); refine (CR1.out _ _ P1.out.drew.row).mono ?_; rintro e w3 ⟨u, rfl, ou, b3⟩; have P2 := Lib.hid (P1.out.drew.next b3); have OU := Lib.hid ou; have ZU := Lib.hid (show w.heap.size ≤ X0.drew.heap.size from P1.out.drew.size); obtain ⟨gu, nu, cu, rfl⟩ := OU.out.form; clear ou b3 P1)
          | (go_at_call_of 35 (Value.slice (some ⟨gc, 0, none⟩) C C); refine (CC1.out _ _ P2.out.col).mono ?_; rintro e w4 ⟨v, rfl, ov, b4⟩; have P3 := Lib.hid (P2.out.next b4); have OV := Lib.hid ov; have OU2 := Lib.hid (OU.out.below b4); have ZV := Lib.hid P2.out.size; have SP := Lib.hid (show Sep (.slice gu nu cu) v from fun k h1 h2 => by have e1 := (OU.out.blk k h1).2; have e2 := (ov.blk k h2).1; omega); obtain ⟨gv, nv, cv, rfl⟩ := OV.out.form; clear ov b4 P2)
          | (go_at_call_of 35 (Value.slice (some ⟨gc, 0, none⟩) C C); refine (CC1.out _ _ P1.out.drew.col).mono ?_; rintro e w3 ⟨v, rfl, ov, b3⟩; have P4 := Lib.hid (P1.out.drew.next b3); have OV := Lib.hid ov; have ZV := Lib.hid (show w.heap.size ≤ X0.drew.heap.size from P1.out.drew.size); obtain ⟨gv, nv, cv, rfl⟩ := OV.out.form; clear ov b3 P1)
          | (go_at_call_of 35 (Value.slice (some ⟨gr, 0, none⟩) R R); refine (CR1.out _ _ P4.out.row).mono ?_; rintro e w4 ⟨u, rfl, ou, b4⟩; have P3 := Lib.hid (P4.out.next b4); have OU := Lib.hid ou; have OV2 := Lib.hid (OV.out.below b4); have ZU := Lib.hid P4.out.size; have SP := Lib.hid (show Sep u (.slice gv nv cv) from fun k h1 h2 => by have e1 := (OV.out.blk k h2).2; have e2 := (ou.blk k h1).1; omega); obtain ⟨gu, nu, cu, rfl⟩ := OU.out.form; clear ou b4 P4)
          | fail)
      all_goals go_wp2
      all_goals go_ret3
      all_goals rw [HE.out]
      all_goals first
        | exact ⟨_, _, rfl, by rw [HE2.out]; exact OU2.out.lower ZU.out, by rw [HE3.out]; exact OV.out.lower ZV.out, SP.out, P3.out.bel⟩
        | exact ⟨_, _, rfl, by rw [HE2.out]; exact OU.out.lower ZU.out, by rw [HE3.out]; exact OV2.out.lower ZV.out, SP.out, P3.out.bel⟩

set_option maxRecDepth 100000 in
set_option maxHeartbeats 3200000 in
theorem implSuspects (r c : Int) (X Y : List Bool) (vX vY : Value) (w : World) (hX : BoolsAt w vX X) (hY : BoolsAt w vY Y) :
    Calls Try.prog 20 #[.int .i64 r, .int .i64 c, vX, vY] w fun e w' => e = .returned (.int .i64 (suspA r c X Y)) ∧ Below w.heap.size w w' := by
  have CF := Lib.hid (implFits r c X Y vX vY w hX hY)
  have HS : Hid (suspA r c X Y = if fitA r c X Y = true then suspF c.toNat X Y (r.toNat * c.toNat) else 0) := rfl
  have GX := Lib.hid hX
  have GY := Lib.hid hY
  obtain ⟨ax, cx, rfl, -⟩ := hX
  obtain ⟨ay, cy, rfl, -⟩ := hY
  cases hf : fitA r c X Y with
  | false =>
    rw [hf] at CF HS
    have HE : Hid (suspA r c X Y = 0) := HS.out
    clear HS hf
    go_enter Try.func20, Try.ntmps20
    go_wp2_with fail
    refine CF.out.mono ?_
    rintro e w1 ⟨rfl, rfl⟩
    go_wp2
    go_ret
    exact ⟨ret_int HE.out.symm, Below.refl _ _⟩
  | true =>
    rw [hf] at CF HS
    rw [fitA_split] at hf
    simp only [Bool.and_eq_true, decide_eq_true_eq] at hf
    obtain ⟨ho, hm, hn⟩ := hf
    obtain ⟨⟨r1, r4⟩, c1, c4⟩ := okArr_in ho
    obtain ⟨R, hR⟩ : ∃ R : Nat, r.toNat = R := ⟨_, rfl⟩
    obtain ⟨C, hC⟩ : ∃ C : Nat, c.toNat = C := ⟨_, rfl⟩
    obtain rfl : r = (R : Int) := by omega
    obtain rfl : c = (C : Int) := by omega
    clear hR hC
    have hXl : X.length = R := by omega
    have hYl : Y.length = C := by omega
    obtain ⟨m16, -⟩ := mul_arr (R := R) (C := C) (by omega) (by omega)
    have HE : Hid (suspA (R : Int) (C : Int) X Y = andI (posF (rpL R C) X R) (posF (cpL R C) Y C)) := by
      unfold Hid
      rw [HS.out]
      exact susp_pos (by omega) (by omega) hXl hYl
    have CA := Lib.hid (fun W => implArrayOf R C (by omega) (by omega) (by omega) W)
    have CR : Hid (∀ W v u, IntsAt W v (rpL R C) → BoolsAt W u X → Calls Try.prog 38 #[v, u] W fun e w' => e = .returned (.int .i64 (posF (rpL R C) X R)) ∧ W = w') := fun W v u hv hu => by
      have h := implPosItems (rpL R C) X v u W hv hu (by rw [rpL_len]; exact hXl) (by rw [rpL_len]; omega)
      rwa [rpL_len] at h
    have CC : Hid (∀ W v u, IntsAt W v (cpL R C) → BoolsAt W u Y → Calls Try.prog 38 #[v, u] W fun e w' => e = .returned (.int .i64 (posF (cpL R C) Y C)) ∧ W = w') := fun W v u hv hu => by
      have h := implPosItems (cpL R C) Y v u W hv hu (by rw [cpL_len]; exact hYl) (by rw [cpL_len]; omega)
      rwa [cpL_len] at h
    generalize posF (rpL R C) X R = p at CR HE
    generalize posF (cpL R C) Y C = q at CC HE
    generalize suspA (R : Int) (C : Int) X Y = s at HE ⊢
    unfold ArrayGives at CA
    rw [hXl] at CF GX ⊢
    rw [hYl] at CF GY ⊢
    clear HS ho hm hn hXl hYl
    go_enter Try.func20, Try.ntmps20
    go_wp2_with fail
    refine CF.out.mono ?_
    rintro e w1 ⟨rfl, rfl⟩
    go_wp2_with fail
    refine (CA.out _).mono ?_
    rintro e w2 ⟨gr, gc, rfl, ir, ic, bb⟩
    have T0 := TwoAt.new w2 41 (.slice (some ⟨gr, 0, none⟩) R R) (.slice (some ⟨gc, 0, none⟩) C C)
    have I0 := ir.below (alloc_below w2 (.cells #[.slice (some ⟨gr, 0, none⟩) R R, .slice (some ⟨gc, 0, none⟩) C C] 41))
    have I1 := ic.below (alloc_below w2 (.cells #[.slice (some ⟨gr, 0, none⟩) R R, .slice (some ⟨gc, 0, none⟩) C C] 41))
    have b0 := below_up bb (alloc_below w2 (.cells #[.slice (some ⟨gr, 0, none⟩) R R, .slice (some ⟨gc, 0, none⟩) C C] 41))
    generalize hX0 : w2.alloc (.cells #[.slice (some ⟨gr, 0, none⟩) R R, .slice (some ⟨gc, 0, none⟩) C C] 41) = X0 at T0 I0 I1 b0
    have CR1 := Lib.hid (fun n => CR.out (X0.drewN n) _ _ (I0.drewN n) ((GX.out.below b0).below (below_drewN (Below.refl _ _) n)))
    have CC1 := Lib.hid (fun n => CC.out (X0.drewN n) _ _ (I1.drewN n) ((GY.out.below b0).below (below_drewN (Below.refl _ _) n)))
    have BB := Lib.hid b0
    obtain ⟨e0, e1, -⟩ := T0
    clear I0 I1 b0 ir ic bb CR CC
    go_wp2_with fail
    go_quiet (first | (go_at_call_of 38 (Value.slice (some ⟨gr, 0, none⟩) R R); exact quiet_of (CR1.out _)) | (go_at_call_of 38 (Value.slice (some ⟨gc, 0, none⟩) C C); exact quiet_of (CC1.out _)) | fail)
    go_wp2
    go_ret
    exact ⟨ret_int HE.out.symm, BB.out.trans (below_drewN (Below.refl _ _) _)⟩

set_option maxRecDepth 100000 in
set_option maxHeartbeats 3200000 in
theorem implIsClear (r c : Int) (X Y : List Bool) (vX vY : Value) (w : World) (hX : BoolsAt w vX X) (hY : BoolsAt w vY Y) :
    Calls Try.prog 22 #[.int .i64 r, .int .i64 c, vX, vY] w fun e w' => e = .returned (.bool (clearA r c X Y)) ∧ Below w.heap.size w w' := by
  have CF := Lib.hid (implFits r c X Y vX vY w hX hY)
  have HS : Hid (clearA r c X Y = (fitA r c X Y && clearF X Y)) := rfl
  have GX := Lib.hid hX
  have GY := Lib.hid hY
  have HL : Hid (fitA r c X Y = true → X.length ≤ 4 ∧ Y.length ≤ 4) := fun hf => by
    rw [fitA_split] at hf
    simp only [Bool.and_eq_true, decide_eq_true_eq] at hf
    obtain ⟨ho, hm, hn⟩ := hf
    have := okArr_in ho
    omega
  obtain ⟨ax, cx, rfl, -⟩ := hX
  obtain ⟨ay, cy, rfl, -⟩ := hY
  generalize clearA r c X Y = t at HS ⊢
  generalize fitA r c X Y = f at CF HS HL
  cases f with
  | false =>
    have HE : Hid (t = false) := HS.out
    clear HS
    go_enter Try.func22, Try.ntmps22
    go_wp2_with fail
    refine CF.out.mono ?_
    rintro e w1 ⟨rfl, rfl⟩
    go_wp2
    go_ret
    exact ⟨ret_bool HE.out.symm, Below.refl _ _⟩
  | true =>
    have hl := HL.out rfl
    have CX := Lib.hid (implCntPos X _ w GX.out (by omega))
    have CY := Lib.hid (implCntPos Y _ w GY.out (by omega))
    have HE : Hid (t = ((decide (0 < trueF X X.length) == decide (0 < trueF Y Y.length)) && (decide (trueF X X.length ≤ 1) || decide (trueF Y Y.length ≤ 1)))) := HS.out
    generalize trueF X X.length = x at CX HE
    generalize trueF Y Y.length = y at CY HE
    clear HS HL hl GX GY
    have key : ∀ a b : Bool, (decide (0 < x) == decide (0 < y)) = a → (a = true → (decide (x ≤ 1)) = b) → Calls Try.prog 22 #[.int .i64 r, .int .i64 c, .slice ax X.length cx, .slice ay Y.length cy] w fun e w' => e = .returned (.bool t) ∧ Below w.heap.size w w' := by
      intro a b ha hb
      rw [ha] at HE
      cases a with
      | false =>
        have HF : Hid (t = false) := HE.out
        clear hb HE
        go_enter Try.func22, Try.ntmps22
        go_wp2_with fail
        refine CF.out.mono ?_
        rintro e w1 ⟨rfl, rfl⟩
        go_wp2_with fail
        refine CX.out.mono ?_
        rintro e w1 ⟨rfl, rfl⟩
        go_wp2_with fail
        refine CY.out.mono ?_
        rintro e w1 ⟨rfl, rfl⟩
        go_wp2
        go_ret
        exact ⟨ret_bool HF.out.symm, Below.refl _ _⟩
      | true =>
        have hb := hb rfl
        rw [hb] at HE
        cases b with
        | true =>
          have HF : Hid (t = true) := HE.out
          have hb2 : x ≤ 1 := of_decide_eq_true hb
          clear HE
          go_enter Try.func22, Try.ntmps22
          go_wp2_with fail
          refine CF.out.mono ?_
          rintro e w1 ⟨rfl, rfl⟩
          go_wp2_with fail
          refine CX.out.mono ?_
          rintro e w1 ⟨rfl, rfl⟩
          go_wp2_with fail
          refine CY.out.mono ?_
          rintro e w1 ⟨rfl, rfl⟩
          go_wp2
          go_ret
          exact ⟨ret_bool HF.out.symm, Below.refl _ _⟩
        | false =>
          have HF : Hid (t = decide (y ≤ 1)) := by unfold Hid; rw [HE.out]; rfl
          have hb2 : ¬ x ≤ 1 := of_decide_eq_false hb
          clear HE
          go_enter Try.func22, Try.ntmps22
          go_wp2_with fail
          refine CF.out.mono ?_
          rintro e w1 ⟨rfl, rfl⟩
          go_wp2_with fail
          refine CX.out.mono ?_
          rintro e w1 ⟨rfl, rfl⟩
          go_wp2_with fail
          refine CY.out.mono ?_
          rintro e w1 ⟨rfl, rfl⟩
          go_wp2
          go_ret
          exact ⟨ret_bool HF.out.symm, Below.refl _ _⟩
    exact key _ _ rfl (fun _ => rfl)

set_option maxRecDepth 100000 in
set_option maxHeartbeats 3200000 in
theorem implCountArr (r c bad : Int) (w : World) :
    Calls Try.prog 24 #[.int .i64 r, .int .i64 c, .int .i64 bad] w fun e w' => e = .returned (.int .i64 (cntA r c bad)) ∧ Below w.heap.size w w' := by
  have CT := Lib.hid (implTestArray r c bad w)
  have HK : Hid (cntA r c bad = if okTest r c bad = true then (if clearF (rowR r c bad) (colR r c bad) = true then r + c else r + c + cntI (suspF c.toNat (rowR r c bad) (colR r c bad) (r.toNat * c.toNat))) else -1) := rfl
  unfold Tests2 at CT
  cases ho : okTest r c bad with
  | false =>
    rw [ho] at CT HK
    have HE : Hid (cntA r c bad = -1) := HK.out
    clear HK
    go_enter Try.func24, Try.ntmps24
    go_wp2_with fail
    refine CT.out.mono ?_
    rintro e w1 ⟨u, v, rfl, ou, ov, -, bb⟩
    obtain ⟨gu, nu, cu, rfl⟩ := ou.form
    obtain ⟨gv, nv, cv, rfl⟩ := ov.form
    have BB := Lib.hid bb
    clear ou ov bb
    go_wp2
    go_ret
    exact ⟨ret_int HE.out.symm, BB.out⟩
  | true =>
    have hx : rowL r c bad = rowR r c bad := by unfold rowL; rw [if_pos ho]
    have hy : colL r c bad = colR r c bad := by unfold colL; rw [if_pos ho]
    have hA : okArr r c = true := by
      have h := ho
      unfold okTest at h
      rw [Bool.and_eq_true] at h
      exact h.1
    obtain ⟨⟨r1, r4⟩, c1, c4⟩ := okArr_in hA
    have hfit : fitA r c (rowR r c bad) (colR r c bad) = true := by
      rw [fitA_split, hA]
      unfold rowR colR
      rw [rowF_len, colF_len, decide_eq_true (by omega), decide_eq_true (by omega)]
      rfl
    rw [ho, hx, hy] at CT
    rw [ho] at HK
    have CI : Hid (∀ W vX vY, BoolsAt W vX (rowR r c bad) → BoolsAt W vY (colR r c bad) → Calls Try.prog 22 #[.int .i64 r, .int .i64 c, vX, vY] W fun e w' => e = .returned (.bool (clearF (rowR r c bad) (colR r c bad))) ∧ Below W.heap.size W w') := fun W vX vY hX hY => by
      have h := implIsClear r c _ _ vX vY W hX hY
      unfold clearA at h
      rwa [hfit] at h
    have CS : Hid (∀ W vX vY, BoolsAt W vX (rowR r c bad) → BoolsAt W vY (colR r c bad) → Calls Try.prog 20 #[.int .i64 r, .int .i64 c, vX, vY] W fun e w' => e = .returned (.int .i64 (suspF c.toNat (rowR r c bad) (colR r c bad) (r.toNat * c.toNat))) ∧ Below W.heap.size W w') := fun W vX vY hX hY => by
      have h := implSuspects r c _ _ vX vY W hX hY
      unfold suspA at h
      rwa [if_pos hfit] at h
    have hsi : suspF c.toNat (rowR r c bad) (colR r c bad) (r.toNat * c.toNat) ≤ 65535 := (suspF_in _ _ _ _ (by have := Nat.mul_le_mul (show r.toNat ≤ 4 by omega) (show c.toNat ≤ 4 by omega); omega)).2
    have CN := Lib.hid (fun W => implCount (suspF c.toNat (rowR r c bad) (colR r c bad) (r.toNat * c.toNat)) (by omega) W)
    have hci := cnt_in (suspF c.toNat (rowR r c bad) (colR r c bad) (r.toNat * c.toNat))
    have hlx : (rowR r c bad).length ≤ 4 := by unfold rowR; rw [rowF_len]; omega
    have hly : (colR r c bad).length ≤ 4 := by unfold colR; rw [colF_len]; omega
    clear hfit hx hy hA ho hsi
    generalize cntA r c bad = k at HK ⊢
    generalize cntI (suspF c.toNat (rowR r c bad) (colR r c bad) (r.toNat * c.toNat)) = n at CN hci HK
    generalize suspF c.toNat (rowR r c bad) (colR r c bad) (r.toNat * c.toNat) = s at CS CN
    generalize rowR r c bad = X at *
    generalize colR r c bad = Y at *
    have w1 : IntKind.i64.wrap (r + c) = r + c := by rw [IntKind.wrap_i64]; omega
    have w2 : IntKind.i64.wrap (r + c + n) = r + c + n := by rw [IntKind.wrap_i64]; omega
    cases hc : clearF X Y with
    | true =>
      rw [hc] at CI HK
      have HE : Hid (k = r + c) := HK.out
      clear HK CS CN hci
      go_enter Try.func24, Try.ntmps24
      go_wp2_with fail
      refine CT.out.mono ?_
      rintro e x1 ⟨u, v, rfl, ou, ov, -, bb⟩
      have RU := Lib.hid ou.reads
      have RV := Lib.hid ov.reads
      obtain ⟨gu, nu, cu, rfl⟩ := ou.form
      obtain ⟨gv, nv, cv, rfl⟩ := ov.form
      have BB := Lib.hid bb
      clear ou ov bb
      go_wp2_with fail
      refine (CI.out _ _ _ RU.out RV.out).mono ?_
      rintro e x2 ⟨rfl, bb⟩
      have B2 := Lib.hid (below_up BB.out bb)
      clear bb
      go_wp2
      go_ret
      exact ⟨ret_int HE.out.symm, B2.out⟩
    | false =>
      rw [hc] at CI HK
      have HE : Hid (k = r + c + n) := HK.out
      clear HK hci
      go_enter Try.func24, Try.ntmps24
      go_wp2_with fail
      refine CT.out.mono ?_
      rintro e x1 ⟨u, v, rfl, ou, ov, -, bb⟩
      have RU := Lib.hid ou.reads
      have RV := Lib.hid ov.reads
      obtain ⟨gu, nu, cu, rfl⟩ := ou.form
      obtain ⟨gv, nv, cv, rfl⟩ := ov.form
      have BB := Lib.hid bb
      clear ou ov bb
      go_wp2_with fail
      refine (CI.out _ _ _ RU.out RV.out).mono ?_
      rintro e x2 ⟨rfl, bb⟩
      have B2 := Lib.hid (below_up BB.out bb)
      have RU2 := Lib.hid (RU.out.below bb)
      have RV2 := Lib.hid (RV.out.below bb)
      clear bb
      go_wp2_with fail
      refine (CS.out _ _ _ RU2.out RV2.out).mono ?_
      rintro e x3 ⟨rfl, bb⟩
      have B3 := Lib.hid (below_up B2.out bb)
      clear bb
      go_wp2_with fail
      refine (CN.out _).mono ?_
      rintro e x4 ⟨rfl, bb⟩
      have B4 := Lib.hid (below_up B3.out bb)
      clear bb
      go_wp2
      go_ret
      exact ⟨ret_int HE.out.symm, B4.out⟩

theorem walkFnExactArrayOk (r : Int) (_ : (Lit.int .i64 r).wf = true) (c : Int) (_ : (Lit.int .i64 c).wf = true) (w : World) :
    Calls Try.prog 3 #[.int .i64 r, .int .i64 c] w fun e w' => e = .returned (.bool true) ∧ Below w.heap.size w w' :=
  lawArrayOk r c w fun W => (implArrayOk r c W).mono fun _ _ h => ⟨h.1, by rw [← h.2]; exact Below.refl _ _⟩
theorem walkFnExactTestArray (r : Int) (_ : (Lit.int .i64 r).wf = true) (c : Int) (_ : (Lit.int .i64 c).wf = true) (b : Int) (_ : (Lit.int .i64 b).wf = true) (w : World) :
    Calls Try.prog 4 #[.int .i64 r, .int .i64 c, .int .i64 b] w fun e w' => e = .returned (.bool true) ∧ Below w.heap.size w w' :=
  lawTestArray r c b w fun W => implTestArray r c b W
theorem walkFnExactCountArrayTests (r : Int) (_ : (Lit.int .i64 r).wf = true) (c : Int) (_ : (Lit.int .i64 c).wf = true) (b : Int) (_ : (Lit.int .i64 b).wf = true) (w : World) :
    Calls Try.prog 7 #[.int .i64 r, .int .i64 c, .int .i64 b] w fun e w' => e = .returned (.bool true) ∧ Below w.heap.size w w' :=
  lawCountArrayTests r c b w fun W => implCountArr r c b W
theorem walkFnExactSuspectsOf (w : World) (r : Int) (_ : (Lit.int .i64 r).wf = true) (c : Int) (_ : (Lit.int .i64 c).wf = true) (vR : Value) (R : List Bool) (cR : CameBools w vR R) (vC : Value) (C : List Bool) (cC : CameBools w vC C) :
    Calls Try.prog 5 #[.int .i64 r, .int .i64 c, vR, vC] w fun e w' => e = .returned (.bool true) ∧ Below w.heap.size w w' :=
  lawSuspectsOf r c R C w vR vC cR.1 cC.1 fun _ _ W vX vY hX hY => implSuspects r c R C vX vY W hX hY
theorem walkFnExactIsClear (w : World) (r : Int) (_ : (Lit.int .i64 r).wf = true) (c : Int) (_ : (Lit.int .i64 c).wf = true) (vR : Value) (R : List Bool) (cR : CameBools w vR R) (vC : Value) (C : List Bool) (cC : CameBools w vC C) :
    Calls Try.prog 6 #[.int .i64 r, .int .i64 c, vR, vC] w fun e w' => e = .returned (.bool true) ∧ Below w.heap.size w w' :=
  lawIsClear r c R C w vR vC cR.1 cC.1 fun _ _ W vX vY hX hY => implIsClear r c R C vX vY W hX hY
end Go.Proofs.Ytljodgdnimiliaa
