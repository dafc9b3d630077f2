/- The contract of the model's FindOne. No condition. -/
import Derived.Test.YtfopallbhfcppaaHalfSpec
namespace Go.Proofs.Ytfopallbhfcppaa
open Go.RowKit

set_option maxRecDepth 100000 in
set_option maxHeartbeats 800000 in
theorem specFindOne (n bad : Int) (w : World) :
    Calls Try.prog 23 #[.int .i64 n, .int .i64 bad] w (Finds (oneL n bad) (oneK n bad) (okOne n bad) w) := by
  obtain ⟨i0, hi, hz0, hz1, hz2⟩ := info_parts infoIntA
  have CI : Hid (∀ W, Calls Try.prog 51 #[.int .i64 n, .int .i64 1, .int .i64 10] W fun e w' => e = .returned (.bool (itemsB n)) ∧ W = w') := fun W => l01In_is n 1 10 W
  have CB := Lib.hid (fun W => l01In_is bad 1 (topI n) W)
  have HL : Hid (oneL n bad = if okOne n bad = true then (oneF bad 10 0 n.toNat).1 else []) := rfl
  have HK : Hid (oneK n bad = if okOne n bad = true then ((oneF bad 10 0 n.toNat).2 : Int) else 0) := rfl
  have HB : Hid (okOne n bad = (itemsB n && (decide (1 ≤ bad) && decide (bad ≤ topI n)))) := rfl
  have HI : Hid (itemsB n = true → 1 ≤ n ∧ n ≤ 10) := fun h => by unfold itemsB at h; simpa using h
  have HR := Lib.hid (fun a b h hb W => specRange a b h hb W)
  generalize oneL n bad = L at HL ⊢
  generalize oneK n bad = K at HK ⊢
  generalize okOne n bad = ok at HL HK HB ⊢
  generalize itemsB n = ib at CI HB HI
  cases ib with
  | false =>
    have HE : Hid (ok = false) := HB.out
    have HE2 : Hid (L = []) := by unfold Hid; rw [HL.out, HE.out]; rfl
    have HE3 : Hid (K = 0) := by unfold Hid; rw [HK.out, HE.out]; rfl
    go_enter Try.func23, Try.ntmps23
    go_wp2_with fail
    refine (CI.out _).mono ?_
    rintro e w1 ⟨rfl, rfl⟩
    go_wp2
    go_ret3
    exact Finds.no HE2.out HE3.out HE.out (Below.refl _ _)
  | true =>
    obtain ⟨n1, n10⟩ := HI.out rfl
    obtain ⟨hs1, hs2, hs3, hs4⟩ := shl_top n1 n10
    rw [hs2] at hs1
    have HE0 : Hid (ok = (decide (1 ≤ bad) && decide (bad ≤ topI n))) := HB.out
    clear HB HI
    generalize (decide (1 ≤ bad) && decide (bad ≤ topI n)) = ib at CB HE0
    generalize topI n = T at hs1 hs2 hs3 hs4 CB
    have hT : IntKind.i64.wrap T = T := by rw [IntKind.wrap_i64]; omega
    cases ib with
    | false =>
      have HE : Hid (ok = false) := HE0.out
      have HE2 : Hid (L = []) := by unfold Hid; rw [HL.out, HE.out]; rfl
      have HE3 : Hid (K = 0) := by unfold Hid; rw [HK.out, HE.out]; rfl
      go_enter Try.func23, Try.ntmps23
      go_wp2_with fail
      refine (CI.out _).mono ?_
      rintro e w1 ⟨rfl, rfl⟩
      go_wp2_with fail
      refine (CB.out _).mono ?_
      rintro e w1 ⟨rfl, rfl⟩
      go_wp2
      go_ret3
      exact Finds.no HE2.out HE3.out HE.out (Below.refl _ _)
    | true =>
      have HE : Hid (ok = true) := HE0.out
      have HE2 : Hid (L = (oneF bad 10 0 n.toNat).1) := by unfold Hid; rw [HL.out, HE.out]; rfl
      have HE3 : Hid (K = ((oneF bad 10 0 n.toNat).2 : Int)) := by unfold Hid; rw [HK.out, HE.out]; rfl
      have O1 := Lib.hid (Own.lit w w.heap.size (Nat.le_refl _))
      have B1 := Lib.hid (alloc_below w (.cells #[] 3))
      obtain ⟨m, hm⟩ : ∃ m : Nat, n.toNat = m := ⟨_, rfl⟩
      rw [hm] at HE2 HE3
      have hnm : n = (m : Int) := by omega
      subst hnm
      rw [Int.toNat_natCast] at hs2
      clear hm HL HK HE0
      go_enter Try.func23, Try.ntmps23
      go_wp2_with fail
      refine (CI.out _).mono ?_
      rintro e w1 ⟨rfl, rfl⟩
      go_wp2_with fail
      refine (CB.out _).mono ?_
      rintro e w1 ⟨rfl, rfl⟩
      go_wp2_with fail
      go_loopw [7, 8, 9] (fun ov av bv wr => ∃ (f a b : Nat) (S : List Int), av = .int .i64 a ∧ bv = .int .i64 b ∧ a < b ∧ b ≤ m ∧ b - a ≤ f ∧ Hid (L = S ++ (oneF bad f a b).1) ∧ Hid (K = ((oneF bad f a b).2 : Int)) ∧ S.length + (b - a) ≤ 20 ∧ Hid (Own wr w.heap.size ov S) ∧ Hid (Below w.heap.size w wr)) (fun _ av bv _ => (intOf bv).toNat - (intOf av).toNat)
      case atStart => exact ⟨10, 0, m, [], rfl, rfl, by omega, Nat.le_refl _, by omega, HE2, HE3, by simp; omega, O1, B1⟩
      case round =>
        clear O1 B1 HE2 HE3
        obtain ⟨f, a, b, S, rfl, rfl, hab, hbm, hf, HX, HY, hS, O2, B2⟩ := hrel
        by_cases hlt : 1 < b - a
        · obtain ⟨e1, e2, e3, e4⟩ := half_mid (a := a) (b := b) hlt (by omega)
          have hq := mid_in hlt
          obtain ⟨f, rfl⟩ : ∃ f', f = f' + 1 := ⟨f - 1, by omega⟩
          have HF : Hid (oneF bad (f + 1) a b = if bits .and .i64 bad (spanI a (midN a b)) = 0 then (spanI a (midN a b) :: (oneF bad f (midN a b) b).1, (oneF bad f (midN a b) b).2) else (spanI a (midN a b) :: (oneF bad f a (midN a b)).1, (oneF bad f a (midN a b)).2)) := by
            unfold Hid
            rw [oneF, if_neg (by omega)]
            rfl
          have t1 : (1 : Int) < (b : Int) - (a : Int) := by omega
          generalize midN a b = q at e2 e3 e4 hq HF
          have CR1 := Lib.hid (HR.out a q (by omega) (by omega))
          generalize spanI a q = x at CR1 HF
          obtain ⟨g, mm, cc, rfl⟩ := O2.out.form
          by_cases hx : bits .and .i64 bad x = 0
          · have HX2 : Hid (L = (S ++ [x]) ++ (oneF bad f q b).1) := by unfold Hid; rw [HX.out, HF.out, if_pos hx]; simp
            have HY2 : Hid (K = ((oneF bad f q b).2 : Int)) := by unfold Hid; rw [HY.out, HF.out, if_pos hx]
            clear HX HY HF
            go_wp2_with fail
            refine (CR1.out _).mono ?_
            rintro e w2 ⟨rfl, bb⟩
            have hown2 := O2.out.below bb
            unfold Own at hown2
            have B3 := Lib.hid (below_up B2.out bb)
            have hbs : w.heap.size ≤ w2.heap.size := B3.out.size
            clear bb O2 B2
            go_wp2_with (at_builtin; refine wpList_append_own _ rfl _ _ 24 rfl w.heap.size 3 i0 (.int .i64 0) 1 8 Try.underlying24 hi hz0 hz1 hz2 rfl (by decide) _ _ _ rfl (hown2.alloc _) ⟨w2.heap.size, 0, none⟩ 1 1 [.int .i64 x] rfl rfl (cell_one_new _ _ _) (by simp [Value.oneCell']) (by unfold maxLen; omega) (by omega) (by simp; omega) ?_; intro v' w5 hown' hg1 _)
            have hb2 := Below.grown (B3.out.alloc hbs _) hg1 (by simp; omega) (fun j hj => (hown2.lt j hj).1)
            have O5 : Hid (Own w5 w.heap.size v' (S ++ [x])) := by unfold Hid Own; simpa using hown'
            have B5 := Lib.hid hb2
            clear hown' hg1 hb2 hown2
            go_wp2_with fail
            refine (CR1.out _).mono ?_
            rintro e w6 ⟨rfl, bb⟩
            have O6 := Lib.hid (O5.out.below bb)
            have B6 := Lib.hid (below_up B5.out bb)
            clear bb O5 B5
            go_wp2
            go_roundw
            case rel =>
              refine ⟨f, q, b, S ++ [x], by go_num, rfl, by omega, by omega, by omega, HX2, HY2, by simp; omega, O6, B6⟩
            case measure => simp [intOf]; omega
          · have HX2 : Hid (L = (S ++ [x]) ++ (oneF bad f a q).1) := by unfold Hid; rw [HX.out, HF.out, if_neg hx]; simp
            have HY2 : Hid (K = ((oneF bad f a q).2 : Int)) := by unfold Hid; rw [HY.out, HF.out, if_neg hx]
            clear HX HY HF
            go_wp2_with fail
            refine (CR1.out _).mono ?_
            rintro e w2 ⟨rfl, bb⟩
            have hown2 := O2.out.below bb
            unfold Own at hown2
            have B3 := Lib.hid (below_up B2.out bb)
            have hbs : w.heap.size ≤ w2.heap.size := B3.out.size
            clear bb O2 B2
            go_wp2_with (at_builtin; refine wpList_append_own _ rfl _ _ 24 rfl w.heap.size 3 i0 (.int .i64 0) 1 8 Try.underlying24 hi hz0 hz1 hz2 rfl (by decide) _ _ _ rfl (hown2.alloc _) ⟨w2.heap.size, 0, none⟩ 1 1 [.int .i64 x] rfl rfl (cell_one_new _ _ _) (by simp [Value.oneCell']) (by unfold maxLen; omega) (by omega) (by simp; omega) ?_; intro v' w5 hown' hg1 _)
            have hb2 := Below.grown (B3.out.alloc hbs _) hg1 (by simp; omega) (fun j hj => (hown2.lt j hj).1)
            have O5 : Hid (Own w5 w.heap.size v' (S ++ [x])) := by unfold Hid Own; simpa using hown'
            have B5 := Lib.hid hb2
            clear hown' hg1 hb2 hown2
            go_wp2_with fail
            refine (CR1.out _).mono ?_
            rintro e w6 ⟨rfl, bb⟩
            have O6 := Lib.hid (O5.out.below bb)
            have B6 := Lib.hid (below_up B5.out bb)
            clear bb O5 B5
            go_wp2
            go_roundw
            case rel =>
              refine ⟨f, a, q, S ++ [x], rfl, by go_num, by omega, by omega, by omega, HX2, HY2, by simp; omega, O6, B6⟩
            case measure => simp [intOf]; omega
        · have t1 : ¬ (1 : Int) < (b : Int) - (a : Int) := by omega
          have e1 : IntKind.i64.wrap ((b : Int) - (a : Int)) = (b : Int) - a := by rw [IntKind.wrap_i64]; omega
          have HX2 : Hid (L = S) := by unfold Hid; rw [HX.out, oneF_end _ _ (by omega)]; simp
          have HY2 : Hid (K = (a : Int)) := by unfold Hid; rw [HY.out, oneF_end _ _ (by omega)]
          go_wp2
          go_ret3
          exact Finds.yes HY2.out HE.out (by rw [HX2.out]; exact O2.out) B2.out
end Go.Proofs.Ytfopallbhfcppaa
