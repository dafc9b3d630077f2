/- The contract of the program's FindOne, and the walk of its exact law. No condition. -/
import Derived.Test.YtfopallbhfcppaaIvImpl
import Derived.Test.YtfopallbhfcppaaHalfLaws
import Derived.Test.YtfopallbhfcppaaSureImpl
namespace Go.Proofs.Ytfopallbhfcppaa
open Go.RowKit

theorem andI_swap {x y : Int} (h0 : 0 ≤ x) (h1 : x ≤ 1023) (g0 : 0 ≤ y) (g1 : y ≤ 1023) : andI x y = andI y x := by
  obtain ⟨a, rfl⟩ := Int.eq_ofNat_of_zero_le h0
  obtain ⟨b, rfl⟩ := Int.eq_ofNat_of_zero_le g0
  rw [and_nat (by omega) (by omega), and_nat (by omega) (by omega), Nat.and_comm]

set_option maxHeartbeats 1600000 in
theorem implPos (p bad : Int) (h0 : 0 ≤ p) (h1 : p ≤ 1023) (g0 : 0 ≤ bad) (g1 : bad ≤ 1023) (w : World) :
    Calls Try.prog 48 #[.int .i64 p, .int .i64 bad] w fun e W' => e = .returned (.bool (andI bad p != 0)) ∧ Below w.heap.size w W' := by
  rw [andI_swap g0 g1 h0 h1]
  exact (callsIn_wide (n := 4)).1 (positiveN p bad h0 h1 g0 g1 4 (Nat.le_refl _) w)

theorem okOne_of (n bad : Int) : okOne n bad = (okAll n bad && (bad != 0)) := by
  unfold okOne okAll
  cases itemsB n with
  | false => rfl
  | true =>
    simp only [Bool.true_and]
    rw [Bool.eq_iff_iff]
    simp only [Bool.and_eq_true, decide_eq_true_eq, bne_iff_ne]
    omega

/-- The length of a slice's value. -/
def lenV : Value → Nat
  | .slice _ n _ => n
  | _ => 0

set_option maxRecDepth 100000 in
set_option maxHeartbeats 3200000 in
theorem implFindOne (n bad : Int) (w : World) :
    Calls Try.prog 20 #[.int .i64 n, .int .i64 bad] w (Finds (oneL n bad) (oneK n bad) (okOne n bad) w) := by
  obtain ⟨i0, hi, hz0, hz1, hz2⟩ := info_parts infoIntA
  have CB := Lib.hid (fun W => implBadOk n bad W)
  have HL : Hid (oneL n bad = if okOne n bad = true then (oneF bad 10 0 n.toNat).1 else []) := rfl
  have HK : Hid (oneK n bad = if okOne n bad = true then ((oneF bad 10 0 n.toNat).2 : Int) else 0) := rfl
  have HB : Hid (okOne n bad = (okAll n bad && (bad != 0))) := okOne_of n bad
  have HI : Hid (okAll n bad = true → (1 ≤ n ∧ n ≤ 10) ∧ 0 ≤ bad ∧ bad ≤ 1023) := fun h => by
    have hh := okAll_in h
    have := top_in hh.1.2
    omega
  generalize oneL n bad = L at HL ⊢
  generalize oneK n bad = K at HK ⊢
  generalize okOne n bad = ok at HL HK HB ⊢
  generalize okAll n bad = ib at CB HB HI
  cases ib with
  | false =>
    have HE : Hid (ok = false) := HB.out
    have HE2 : Hid (L = []) := by unfold Hid; rw [HL.out, HE.out]; rfl
    have HE3 : Hid (K = 0) := by unfold Hid; rw [HK.out, HE.out]; rfl
    clear HL HK HB HI
    go_enter Try.func20, Try.ntmps20
    go_wp2_with fail
    refine (CB.out _).mono ?_
    rintro e w1 ⟨rfl, rfl⟩
    go_wp2
    go_ret3
    exact Finds.no HE2.out HE3.out HE.out (Below.refl _ _)
  | true =>
    by_cases hb0 : bad = 0
    · have HE : Hid (ok = false) := by unfold Hid; rw [HB.out, hb0]; rfl
      have HE2 : Hid (L = []) := by unfold Hid; rw [HL.out, HE.out]; rfl
      have HE3 : Hid (K = 0) := by unfold Hid; rw [HK.out, HE.out]; rfl
      clear HL HK HB HI
      subst hb0
      go_enter Try.func20, Try.ntmps20
      go_wp2_with fail
      refine (CB.out _).mono ?_
      rintro e w1 ⟨rfl, rfl⟩
      go_wp2
      go_ret3
      exact Finds.no HE2.out HE3.out HE.out (Below.refl _ _)
    · obtain ⟨⟨n1, n10⟩, g0, g1⟩ := HI.out rfl
      have HE : Hid (ok = true) := by unfold Hid; rw [HB.out]; simpa using hb0
      have HE2 : Hid (L = (oneF bad 10 0 n.toNat).1) := by unfold Hid; rw [HL.out, HE.out]; rfl
      have HE3 : Hid (K = ((oneF bad 10 0 n.toNat).2 : Int)) := by unfold Hid; rw [HK.out, HE.out]; rfl
      have b1 : (bad == 0) = false := by simpa using hb0
      obtain ⟨m, hm⟩ : ∃ m : Nat, n.toNat = m := ⟨_, rfl⟩
      rw [hm] at HE2 HE3
      have hnm : n = (m : Int) := by omega
      subst hnm
      have O1 := Lib.hid (Own.nil w (w.heap.size + 1))
      clear hm HL HK HB HI hb0
      have V1 := VarAt.new w 49 (.int .i64 ((0 : Nat) : Int)) (.int .i64 (m : Int))
      have B1 := alloc_below w (.cells #[.int .i64 ((0 : Nat) : Int), .int .i64 (m : Int)] 49)
      have O2 := O1.out.below B1
      have S1 : (w.alloc (.cells #[.int .i64 ((0 : Nat) : Int), .int .i64 (m : Int)] 49)).heap.size = w.heap.size + 1 := by simp
      simp only [Int.natCast_zero] at V1 B1 O2 S1
      generalize hX : w.alloc (.cells #[.int .i64 0, .int .i64 (m : Int)] 49) = X at V1 B1 O2 S1
      replace V1 : Hid (VarAt X w.heap.size (.int .i64 ((0 : Nat) : Int)) (.int .i64 (m : Int))) := V1
      replace B1 := Lib.hid B1
      replace O2 := Lib.hid O2
      clear S1
      have KI := Lib.hid (fun (a b : Nat) (h : a ≤ b) (hb : b ≤ 10) W => implIsOne a b h hb W)
      have KH := Lib.hid (fun (a b : Nat) (h : a ≤ b) (hb : b ≤ 10) W => implHalves a b h hb W)
      have KP := Lib.hid (fun (a b : Nat) (h : a < b) (hb : b ≤ 10) W => implPool a b h hb W)
      have KB := Lib.hid (fun (p : Int) (h0 : 0 ≤ p) (h1 : p ≤ 1023) W => implPos p bad h0 h1 g0 g1 W)
      unfold ivV at KI KH KP
      clear O1
      go_enter Try.func20, Try.ntmps20
      go_wp2_with fail
      refine (CB.out _).mono ?_
      rintro e w1 ⟨rfl, rfl⟩
      go_wp2_with fail
      go_loopw [7] (fun ov wr => ∃ (f a b : Nat) (S : List Int), a < b ∧ b ≤ m ∧ b - a ≤ f ∧ Hid (L = S ++ (oneF bad f a b).1) ∧ Hid (K = ((oneF bad f a b).2 : Int)) ∧ S.length + (b - a) ≤ 20 ∧ Hid (Own wr (w.heap.size + 1) ov S) ∧ Hid (VarAt wr w.heap.size (.int .i64 (a : Int)) (.int .i64 (b : Int))) ∧ Hid (Below w.heap.size w wr)) (fun ov _ => 20 - lenV ov)
      case atStart => exact ⟨10, 0, m, [], by omega, Nat.le_refl _, by omega, HE2, HE3, by simp; omega, O2, V1, B1⟩
      case round =>
        clear O2 V1 B1 HE2 HE3 hX CB X
        obtain ⟨f, a, b, S, hab, hbm, hf, HX, HY, hS, O2, V2, B2⟩ := hrel
        obtain ⟨g, cc, rfl, -⟩ := O2.out.reads
        have HG : Hid (∀ j, (Value.slice g S.length cc).ownBlock = some j → w.heap.size + 1 ≤ j ∧ j < wr.heap.size) := fun j hj => O2.out.blk j hj
        have hws : w.heap.size + 1 ≤ wr.heap.size := V2.out.1.2.2
        by_cases hlt : (b : Int) - a = 1
        · have hd : decide ((b : Int) - (a : Int) = 1) = true := decide_eq_true hlt
          have CI := Lib.hid (KI.out a b (by omega) (by omega))
          rw [hd] at CI
          rw [oneF_end bad f (a := a) (b := b) (by omega)] at HX HY
          have HX2 : Hid (L = S) := by unfold Hid; rw [HX.out]; simp
          have HY2 : Hid ((a : Int) = K) := HY.out.symm
          clear HX HY KI KH KP KB hlt hd
          obtain ⟨⟨e0, e1, -⟩, -⟩ := V2.out
          go_wp2_with fail
          refine (CI.out _).mono ?_
          rintro e w1 ⟨rfl, bb⟩
          have V3 := Lib.hid (V2.out.below bb)
          have B3 := Lib.hid (below_up B2.out bb)
          have O3 := Lib.hid (O2.out.below bb)
          clear bb e0 e1 V2 B2 O2
          obtain ⟨⟨e0, e1, -⟩, -⟩ := V3.out
          go_wp2_with fail
          go_quiet (fail)
          go_wp2
          go_ret3
          refine Finds.yes HY2.out.symm HE.out ?_ (below_drewN B3.out _)
          rw [HX2.out]
          exact (O3.out.lower (B' := w.heap.size) (by omega)).below (below_drewN (Below.refl _ _) _)
        · have hd : decide ((b : Int) - (a : Int) = 1) = false := decide_eq_false hlt
          have CI := Lib.hid (KI.out a b (by omega) (by omega))
          rw [hd] at CI
          have hq := mid_in (a := a) (b := b) (by omega)
          obtain ⟨f, rfl⟩ : ∃ f', f = f' + 1 := ⟨f - 1, by omega⟩
          have HF : Hid (oneF bad (f + 1) a b = if andI bad (spanI a (midN a b)) = 0 then (spanI a (midN a b) :: (oneF bad f (midN a b) b).1, (oneF bad f (midN a b) b).2) else (spanI a (midN a b) :: (oneF bad f a (midN a b)).1, (oneF bad f a (midN a b)).2)) := by
            unfold Hid
            rw [oneF, if_neg (by omega)]
          have CH := Lib.hid (KH.out a b (by omega) (by omega))
          unfold Halves at CH
          generalize midN a b = q at hq HF CH
          have CP := Lib.hid (KP.out a q (by omega) (by omega))
          have hx := span_in (a := a) (b := q) (by omega) (by omega)
          generalize spanI a q = x at CP HF hx
          have CX := Lib.hid (KB.out x hx.1 hx.2)
          generalize andI bad x = y at CX HF
          clear KI KH KP KB hlt hd hx
          obtain ⟨⟨e0, e1, -⟩, -⟩ := V2.out
          go_wp2_with fail
          refine (CI.out _).mono ?_
          rintro e w1 ⟨rfl, bb⟩
          have V3 := Lib.hid (V2.out.below bb)
          have B3 := Lib.hid (below_up B2.out bb)
          have O3 := Lib.hid (O2.out.below bb)
          have s3 : Hid (wr.heap.size ≤ w1.heap.size) := bb.size
          clear bb e0 e1 V2 B2 O2
          obtain ⟨⟨e0, e1, -⟩, -⟩ := V3.out
          go_wp2_with fail
          refine (CH.out _).mono ?_
          rintro e w2 ⟨k, rfl, T4, hk, bb⟩
          have V4 := Lib.hid (V3.out.below bb)
          have B4 := Lib.hid (below_up B3.out bb)
          have O4 := Lib.hid (O3.out.below bb)
          have T4 := Lib.hid T4
          have HG4 : Hid ((Value.slice g S.length cc).ownBlock ≠ some k) := fun e => by have := (HG.out k e).2; have := s3.out; omega
          have HGw : Hid ((Value.slice g S.length cc).ownBlock ≠ some w.heap.size) := fun e => by have := (HG.out _ e).1; omega
          clear bb e0 e1 V3 B3 O3 hk s3 HG
          obtain ⟨t0, t1, t2, t3, -⟩ := T4.out
          go_wp2_with fail
          refine (CP.out _).mono ?_
          rintro e w3 ⟨rfl, bb⟩
          have V5 := Lib.hid (V4.out.below bb)
          have B5 := Lib.hid (below_up B4.out bb)
          have hown := O4.out.below bb
          have T5 := Lib.hid (T4.out.below bb)
          have hbs : w.heap.size + 1 ≤ w3.heap.size := V5.out.1.2.2
          clear bb t0 t1 t2 t3 V4 B4 O4 T4
          unfold Own at hown
          have HT : Hid (TwoIv (w3.alloc (.cells #[.int .i64 x] 3)) k a q q b) := T5.out.alloc _
          have HV : Hid (VarAt (w3.alloc (.cells #[.int .i64 x] 3)) w.heap.size (.int .i64 (a : Int)) (.int .i64 (b : Int))) := V5.out.alloc _
          go_wp2_with (at_builtin; refine wpList_append_own _ rfl _ _ 24 rfl (w.heap.size + 1) 3 i0 (.int .i64 0) 1 8 Try.underlying24 hi hz0 hz1 hz2 rfl (by decide) _ _ _ rfl (hown.alloc _) ⟨w3.heap.size, 0, none⟩ 1 1 [.int .i64 x] rfl rfl (cell_one_new _ _ _) (by simp [Value.oneCell']) (by unfold maxLen; omega) (by omega) (by simp; omega) ?_; intro v' w5 hown' hg1 _; have hg2 : (w3.alloc (.cells #[.int .i64 x] 3)).grownBy w5 (Value.slice g S.length cc).ownBlock := hg1; have T6 := HT.out.grown hg2 HG4.out; have TT := Lib.hid T6; obtain ⟨t0, t1, t2, t3, -⟩ := T6)
          have B6 := Lib.hid (Below.grown (B5.out.alloc (by omega) _) hg1 (by simp; omega) (fun j hj => Nat.le_trans (Nat.le_succ _) (hown.lt j hj).1))
          have V6 := Lib.hid (HV.out.grown hg2 HGw.out)
          have O6 : Hid (Own w5 (w.heap.size + 1) v' (S ++ [x])) := by unfold Hid Own; simpa using hown'
          clear hown hown' hg1 hg2 HT HV HG4 HGw V5 B5 T5 hbs
          refine (CP.out _).mono ?_
          rintro e w7 ⟨rfl, bb⟩
          have V7 := Lib.hid (V6.out.below bb)
          have B7 := Lib.hid (below_up B6.out bb)
          have O7 := Lib.hid (O6.out.below bb)
          have T7 := Lib.hid (TT.out.below bb)
          clear bb t0 t1 t2 t3 V6 B6 O6 TT
          by_cases hy : y = 0
          ·
            have HX2 : Hid (L = (S ++ [x]) ++ (oneF bad f q b).1) := by unfold Hid; rw [HX.out, HF.out, if_pos hy]; simp
            have HY2 : Hid (K = ((oneF bad f q b).2 : Int)) := by unfold Hid; rw [HY.out, HF.out, if_pos hy]
            have hyb : (y != 0) = false := by simp [hy]
            rw [hyb] at CX
            clear HX HY HF hyb
            obtain ⟨t0, t1, t2, t3, -⟩ := T7.out
            go_wp2_with fail
            refine (CX.out _).mono ?_
            rintro e w8 ⟨rfl, bb⟩
            have V8 := V7.out.below bb
            have B8 := below_up B7.out bb
            have O8 := O7.out.below bb
            have T8 := Lib.hid (T7.out.below bb)
            have V9 := V8.set0 (.int .i64 (q : Int))
            have VA := Lib.hid (V9.set1 (.int .i64 (b : Int)))
            have BA : Hid (Below w.heap.size w ((w8.setCell ⟨w.heap.size, 0, none⟩ (.int .i64 (q : Int))).setCell ⟨w.heap.size, 1, none⟩ (.int .i64 (b : Int)))) := (B8.setCell (p := ⟨w.heap.size, 0, none⟩) (Nat.le_refl _) _).setCell (p := ⟨w.heap.size, 1, none⟩) (Nat.le_refl _) _
            have OA : Hid (Own ((w8.setCell ⟨w.heap.size, 0, none⟩ (.int .i64 (q : Int))).setCell ⟨w.heap.size, 1, none⟩ (.int .i64 (b : Int))) (w.heap.size + 1) v' (S ++ [x])) := (O8.setCell (Nat.lt_succ_self _) _).setCell (Nat.lt_succ_self _) _
            obtain ⟨g1, c1, rfl, -⟩ := O8.reads
            obtain ⟨⟨e0, e1, -⟩, f0, f1⟩ := V8
            obtain ⟨⟨q0, q1, -⟩, k0, k1⟩ := V9
            clear bb t0 t1 t2 t3 V7 B7 O7 T7 B8 O8
            obtain ⟨t0, t1, t2, t3, -⟩ := T8.out
            generalize hU : (w8.setCell ⟨w.heap.size, 0, none⟩ (.int .i64 (q : Int))).setCell ⟨w.heap.size, 1, none⟩ (.int .i64 (b : Int)) = U at VA BA OA
            go_wp2
            go_roundw
            case rel =>
              exact ⟨f, q, b, S ++ [x], by omega, by omega, by omega, HX2, HY2, by simp; omega, by simpa using OA, VA, BA⟩
            case measure => simp [lenV]; omega
          ·
            have HX2 : Hid (L = (S ++ [x]) ++ (oneF bad f a q).1) := by unfold Hid; rw [HX.out, HF.out, if_neg hy]; simp
            have HY2 : Hid (K = ((oneF bad f a q).2 : Int)) := by unfold Hid; rw [HY.out, HF.out, if_neg hy]
            have hyb : (y != 0) = true := by simp [hy]
            rw [hyb] at CX
            clear HX HY HF hyb
            obtain ⟨t0, t1, t2, t3, -⟩ := T7.out
            go_wp2_with fail
            refine (CX.out _).mono ?_
            rintro e w8 ⟨rfl, bb⟩
            have V8 := V7.out.below bb
            have B8 := below_up B7.out bb
            have O8 := O7.out.below bb
            have T8 := Lib.hid (T7.out.below bb)
            have V9 := V8.set0 (.int .i64 (a : Int))
            have VA := Lib.hid (V9.set1 (.int .i64 (q : Int)))
            have BA : Hid (Below w.heap.size w ((w8.setCell ⟨w.heap.size, 0, none⟩ (.int .i64 (a : Int))).setCell ⟨w.heap.size, 1, none⟩ (.int .i64 (q : Int)))) := (B8.setCell (p := ⟨w.heap.size, 0, none⟩) (Nat.le_refl _) _).setCell (p := ⟨w.heap.size, 1, none⟩) (Nat.le_refl _) _
            have OA : Hid (Own ((w8.setCell ⟨w.heap.size, 0, none⟩ (.int .i64 (a : Int))).setCell ⟨w.heap.size, 1, none⟩ (.int .i64 (q : Int))) (w.heap.size + 1) v' (S ++ [x])) := (O8.setCell (Nat.lt_succ_self _) _).setCell (Nat.lt_succ_self _) _
            obtain ⟨g1, c1, rfl, -⟩ := O8.reads
            obtain ⟨⟨e0, e1, -⟩, f0, f1⟩ := V8
            obtain ⟨⟨q0, q1, -⟩, k0, k1⟩ := V9
            clear bb t0 t1 t2 t3 V7 B7 O7 T7 B8 O8
            obtain ⟨t0, t1, t2, t3, -⟩ := T8.out
            generalize hU : (w8.setCell ⟨w.heap.size, 0, none⟩ (.int .i64 (a : Int))).setCell ⟨w.heap.size, 1, none⟩ (.int .i64 (q : Int)) = U at VA BA OA
            go_wp2
            go_roundw
            case rel =>
              exact ⟨f, a, q, S ++ [x], by omega, by omega, by omega, HX2, HY2, by simp; omega, by simpa using OA, VA, BA⟩
            case measure => simp [lenV]; omega

theorem walkFnExactFindOne (n : Int) (_ : (Lit.int .i64 n).wf = true) (b : Int) (_ : (Lit.int .i64 b).wf = true) (w : World) :
    Calls Try.prog 5 #[.int .i64 n, .int .i64 b] w fun e w' => e = .returned (.bool true) ∧ Below w.heap.size w w' :=
  lawFindOne n b w fun W => implFindOne n b W
end Go.Proofs.Ytfopallbhfcppaa
