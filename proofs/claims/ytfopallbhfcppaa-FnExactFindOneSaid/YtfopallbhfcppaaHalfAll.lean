/- The contract of the model's search for all bad items. No condition. -/
import Derived.Test.YtfopallbhfcppaaHalfSpec
import Derived.RangeFuncBox
namespace Go.Proofs.Ytfopallbhfcppaa
open Go.RowKit

set_option maxRecDepth 100000 in
set_option maxHeartbeats 800000 in
theorem specAll (bad : Int) : ∀ (f a b : Nat), a < b → b ≤ 10 → b - a ≤ f → ∀ (B : Nat) (v : Value) (L : List Int) (w : World), Own w B v L → L.length + 2 * (b - a) ≤ 100 → B ≤ w.heap.size →
    Calls Try.prog 53 #[v, .int .i64 bad, .int .i64 (a : Int), .int .i64 (b : Int)] w fun e w' => ∃ u, e = .returned u ∧ Own w' B u (L ++ allF bad f a b) ∧ Below B w w'
  | 0, a, b, hab, _, hf, _, _, _, _, _, _, _ => by omega
  | f + 1, a, b, hab, hb, hf, B, v, L, w, ho, hL, hBs => by
    obtain ⟨i0, hi, hz0, hz1, hz2⟩ := info_parts infoIntA
    have IH : Hid (∀ (a b : Nat), a < b → b ≤ 10 → b - a ≤ f → ∀ (v : Value) (L : List Int) (w : World), Own w B v L → L.length + 2 * (b - a) ≤ 100 → B ≤ w.heap.size → Calls Try.prog 53 #[v, .int .i64 bad, .int .i64 (a : Int), .int .i64 (b : Int)] w fun e w' => ∃ u, e = .returned u ∧ Own w' B u (L ++ allF bad f a b) ∧ Below B w w') := fun a b h1 h2 h3 v L w => specAll bad f a b h1 h2 h3 B v L w
    have HLN : Hid (∀ (a b : Nat), a < b → (allF bad f a b).length ≤ 2 * (b - a) - 1) := allF_len bad f
    have HF : Hid (allF bad (f + 1) a b = spanI a b :: (if bits .and .i64 bad (spanI a b) = 0 ∨ b - a = 1 then [] else allF bad f a (midN a b) ++ allF bad f (midN a b) b)) := by
      unfold Hid
      rw [allF]
      rfl
    have CR := Lib.hid (fun W => specRange a b (by omega) hb W)
    have e1 : IntKind.i64.wrap ((b : Int) - (a : Int)) = (b : Int) - a := by rw [IntKind.wrap_i64]; omega
    obtain ⟨g, mm, cc, rfl⟩ := ho.form
    generalize spanI a b = x at CR HF
    by_cases hstop : bits .and .i64 bad x = 0 ∨ b - a = 1
    · have HX : Hid (allF bad (f + 1) a b = [x]) := by unfold Hid; rw [HF.out, if_pos hstop]
      clear HF IH HLN
      by_cases hx : bits .and .i64 bad x = 0
      · clear hstop
        go_enter Try.func53, Try.ntmps53
        go_wp2_with fail
        refine (CR.out _).mono ?_
        rintro e w2 ⟨rfl, bb⟩
        have hown2 := ho.below bb
        unfold Own at hown2
        have B3 := Lib.hid (bb.mono hBs)
        have hbs : B ≤ w2.heap.size := Nat.le_trans hBs bb.size
        clear bb ho
        go_wp2_with (at_builtin; refine wpList_append_own _ rfl _ _ 24 rfl B 3 i0 (.int .i64 0) 1 8 Try.underlying24 hi hz0 hz1 hz2 rfl (by decide) _ _ _ rfl (hown2.alloc _) ⟨w2.heap.size, 0, none⟩ 1 1 [.int .i64 x] rfl rfl (cell_one_new _ _ _) (by simp [Value.oneCell']) (by unfold maxLen; omega) (by omega) (by simp; omega) ?_; intro v' w5 hown' hg1 _; obtain ⟨g', cap', rfl⟩ := ownsRow_succ hown')
        have hb2 := Below.grown (B3.out.alloc hbs _) hg1 (by simp; omega) (fun j hj => (hown2.lt j hj).1)
        have O5 : Hid (Own w5 B (.slice (some ⟨g', 0, none⟩) (L.length + 1) cap') (L ++ [x])) := by unfold Hid Own; simpa using hown'
        have hB5 : B ≤ w5.heap.size := Nat.le_trans hBs hb2.size
        have B5 := Lib.hid hb2
        clear hown' hg1 hb2 hown2
        go_wp2_with fail
        refine (CR.out _).mono ?_
        rintro e w6 ⟨rfl, bb⟩
        have O6 := Lib.hid (O5.out.below bb)
        have B6 := Lib.hid (B5.out.trans (bb.mono hB5))
        clear bb O5 B5
        go_wp2
        go_ret
        exact ⟨_, rfl, by rw [HX.out]; exact O6.out, B6.out⟩
      · have h1 : (b : Int) - (a : Int) = 1 := by omega
        clear hstop
        go_enter Try.func53, Try.ntmps53
        go_wp2_with fail
        refine (CR.out _).mono ?_
        rintro e w2 ⟨rfl, bb⟩
        have hown2 := ho.below bb
        unfold Own at hown2
        have B3 := Lib.hid (bb.mono hBs)
        have hbs : B ≤ w2.heap.size := Nat.le_trans hBs bb.size
        clear bb ho
        go_wp2_with (at_builtin; refine wpList_append_own _ rfl _ _ 24 rfl B 3 i0 (.int .i64 0) 1 8 Try.underlying24 hi hz0 hz1 hz2 rfl (by decide) _ _ _ rfl (hown2.alloc _) ⟨w2.heap.size, 0, none⟩ 1 1 [.int .i64 x] rfl rfl (cell_one_new _ _ _) (by simp [Value.oneCell']) (by unfold maxLen; omega) (by omega) (by simp; omega) ?_; intro v' w5 hown' hg1 _; obtain ⟨g', cap', rfl⟩ := ownsRow_succ hown')
        have hb2 := Below.grown (B3.out.alloc hbs _) hg1 (by simp; omega) (fun j hj => (hown2.lt j hj).1)
        have O5 : Hid (Own w5 B (.slice (some ⟨g', 0, none⟩) (L.length + 1) cap') (L ++ [x])) := by unfold Hid Own; simpa using hown'
        have hB5 : B ≤ w5.heap.size := Nat.le_trans hBs hb2.size
        have B5 := Lib.hid hb2
        clear hown' hg1 hb2 hown2
        go_wp2_with fail
        refine (CR.out _).mono ?_
        rintro e w6 ⟨rfl, bb⟩
        have O6 := Lib.hid (O5.out.below bb)
        have B6 := Lib.hid (B5.out.trans (bb.mono hB5))
        clear bb O5 B5
        go_wp2
        go_ret
        exact ⟨_, rfl, by rw [HX.out]; exact O6.out, B6.out⟩
    · have hx : ¬ bits .and .i64 bad x = 0 := fun h => hstop (.inl h)
      have h1 : ¬ (b : Int) - (a : Int) = 1 := fun h => hstop (.inr (by omega))
      have hxB : (bits .and .i64 bad x == 0) = false := by simpa using hx
      have h1B : ((b : Int) - (a : Int) == 1) = false := by rw [beq_eq_false_iff_ne]; exact h1
      have HX : Hid (allF bad (f + 1) a b = x :: (allF bad f a (midN a b) ++ allF bad f (midN a b) b)) := by unfold Hid; rw [HF.out, if_neg hstop]
      obtain ⟨-, e2, e3, e4⟩ := half_mid (a := a) (b := b) (by omega) hb
      have hq := mid_in (a := a) (b := b) (by omega)
      clear hstop HF
      generalize midN a b = q at e2 e3 e4 hq HX
      have I1 := Lib.hid (IH.out a q hq.1 (by omega) (by omega))
      have I2 := Lib.hid (IH.out q b hq.2 hb (by omega))
      have l1 := HLN.out a q hq.1
      clear IH HLN
      generalize allF bad f a q = L1 at I1 HX l1
      generalize allF bad f q b = L2 at I2 HX
      go_enter Try.func53, Try.ntmps53
      go_wp2_with fail
      refine (CR.out _).mono ?_
      rintro e w2 ⟨rfl, bb⟩
      have hown2 := ho.below bb
      unfold Own at hown2
      have B3 := Lib.hid (bb.mono hBs)
      have hbs : B ≤ w2.heap.size := Nat.le_trans hBs bb.size
      clear bb ho
      go_wp2_with (at_builtin; refine wpList_append_own _ rfl _ _ 24 rfl B 3 i0 (.int .i64 0) 1 8 Try.underlying24 hi hz0 hz1 hz2 rfl (by decide) _ _ _ rfl (hown2.alloc _) ⟨w2.heap.size, 0, none⟩ 1 1 [.int .i64 x] rfl rfl (cell_one_new _ _ _) (by simp [Value.oneCell']) (by unfold maxLen; omega) (by omega) (by simp; omega) ?_; intro v' w5 hown' hg1 _; obtain ⟨g', cap', rfl⟩ := ownsRow_succ hown')
      have hb2 := Below.grown (B3.out.alloc hbs _) hg1 (by simp; omega) (fun j hj => (hown2.lt j hj).1)
      have O5 : Hid (Own w5 B (.slice (some ⟨g', 0, none⟩) (L.length + 1) cap') (L ++ [x])) := by unfold Hid Own; simpa using hown'
      have hB5 : B ≤ w5.heap.size := Nat.le_trans hBs hb2.size
      have B5 := Lib.hid hb2
      clear hown' hg1 hb2 hown2
      go_wp2_with fail
      refine (CR.out _).mono ?_
      rintro e w6 ⟨rfl, bb⟩
      have O1 := Lib.hid (O5.out.below bb)
      have B1 := Lib.hid (B5.out.trans (bb.mono hB5))
      have hB1 : B ≤ w6.heap.size := Nat.le_trans hB5 bb.size
      clear bb O5 B5
      go_wp2_with fail
      refine (I1.out _ _ _ O1.out (by simp; omega) hB1).mono ?_
      rintro e w7 ⟨u7, rfl, o7, b7⟩
      have O7 := Lib.hid o7
      have B7 := Lib.hid (B1.out.trans b7)
      have hB7 : B ≤ w7.heap.size := Nat.le_trans hBs B7.out.size
      clear o7 b7
      go_wp2_with fail
      refine (I2.out _ _ _ O7.out (by simp; omega) hB7).mono ?_
      rintro e w8 ⟨u8, rfl, o8, b8⟩
      have O8 := Lib.hid o8
      have B8 := Lib.hid (B7.out.trans b8)
      obtain ⟨g8, n8, c8, rfl⟩ := O8.out.form
      clear o8 b8
      go_wp2
      go_ret
      exact ⟨_, rfl, by rw [HX.out]; have := O8.out; simpa using this, B8.out⟩

set_option maxRecDepth 100000 in
set_option maxHeartbeats 1600000 in
theorem specFindAll (n bad : Int) (w : World) :
    Calls Try.prog 27 #[.int .i64 n, .int .i64 bad] w (Finds (allL n bad) (allV n bad) (okAll n bad) w) := by
  have CI : Hid (∀ W, Calls Try.prog 51 #[.int .i64 n, .int .i64 1, .int .i64 10] W fun e w' => e = .returned (.bool (itemsB n)) ∧ W = w') := fun W => l01In_is n 1 10 W
  have CB := Lib.hid (fun W => l01In_is bad 0 (topI n) W)
  have HL : Hid (allL n bad = if okAll n bad = true then allF bad 10 0 n.toNat else []) := rfl
  have HK : Hid (allV n bad = if okAll n bad = true then bad else 0) := rfl
  have HB : Hid (okAll n bad = (itemsB n && (decide (0 ≤ bad) && decide (bad ≤ topI n)))) := rfl
  have HI : Hid (itemsB n = true → 1 ≤ n ∧ n ≤ 10) := fun h => by unfold itemsB at h; simpa using h
  generalize allL n bad = L at HL ⊢
  generalize allV n bad = K at HK ⊢
  generalize okAll n bad = ok at HL HK HB ⊢
  generalize itemsB n = ib at CI HB HI
  cases ib with
  | false =>
    have HE : Hid (ok = false) := HB.out
    have HE2 : Hid (L = []) := by unfold Hid; rw [HL.out, HE.out]; rfl
    have HE3 : Hid (K = 0) := by unfold Hid; rw [HK.out, HE.out]; rfl
    go_enter Try.func27, Try.ntmps27
    go_wp2_with fail
    refine (CI.out _).mono ?_
    rintro e w1 ⟨rfl, rfl⟩
    go_wp2
    go_ret3
    exact Finds.no HE2.out HE3.out HE.out (Below.refl _ _)
  | true =>
    obtain ⟨n1, n10⟩ := HI.out rfl
    obtain ⟨hs1, hs2, hs3, hs4⟩ := shl_top n1 n10
    rw [hs2] at hs1
    have HE0 : Hid (ok = (decide (0 ≤ bad) && decide (bad ≤ topI n))) := HB.out
    clear HB HI
    generalize (decide (0 ≤ bad) && decide (bad ≤ topI n)) = ib at CB HE0
    generalize topI n = T at hs1 hs2 hs3 hs4 CB
    have hT : IntKind.i64.wrap T = T := by rw [IntKind.wrap_i64]; omega
    cases ib with
    | false =>
      have HE : Hid (ok = false) := HE0.out
      have HE2 : Hid (L = []) := by unfold Hid; rw [HL.out, HE.out]; rfl
      have HE3 : Hid (K = 0) := by unfold Hid; rw [HK.out, HE.out]; rfl
      go_enter Try.func27, Try.ntmps27
      go_wp2_with fail
      refine (CI.out _).mono ?_
      rintro e w1 ⟨rfl, rfl⟩
      go_wp2_with fail
      refine (CB.out _).mono ?_
      rintro e w1 ⟨rfl, rfl⟩
      go_wp2
      go_ret3
      exact Finds.no HE2.out HE3.out HE.out (Below.refl _ _)
    | true =>
      have HE : Hid (ok = true) := HE0.out
      have HE2 : Hid (L = allF bad 10 0 n.toNat) := by unfold Hid; rw [HL.out, HE.out]; rfl
      have HE3 : Hid (K = bad) := by unfold Hid; rw [HK.out, HE.out]; rfl
      have O1 := Lib.hid (Own.lit w w.heap.size (Nat.le_refl _))
      have B1 := Lib.hid (alloc_below w (.cells #[] 3))
      obtain ⟨m, hm⟩ : ∃ m : Nat, n.toNat = m := ⟨_, rfl⟩
      rw [hm] at HE2
      have hnm : n = (m : Int) := by omega
      subst hnm
      rw [Int.toNat_natCast] at hs2
      have CA := Lib.hid (specAll bad 10 0 m (by omega) (by omega) (by omega) w.heap.size _ _ _ O1.out (by simp; omega) B1.out.size)
      rw [List.nil_append, Int.natCast_zero] at CA
      generalize allF bad 10 0 m = L2 at CA HE2
      clear hm HL HK HE0 O1
      go_enter Try.func27, Try.ntmps27
      go_wp2_with fail
      refine (CI.out _).mono ?_
      rintro e w1 ⟨rfl, rfl⟩
      go_wp2_with fail
      refine (CB.out _).mono ?_
      rintro e w1 ⟨rfl, rfl⟩
      go_wp2_with fail
      refine CA.out.mono ?_
      rintro e w2 ⟨u, rfl, ou, bb⟩
      have O2 := Lib.hid ou
      have B2 := Lib.hid (B1.out.trans bb)
      obtain ⟨g, mm, cc, rfl⟩ := ou.form
      clear ou bb
      go_wp2
      go_ret3
      exact Finds.yes HE3.out HE.out (by rw [HE2.out]; exact O2.out) B2.out

set_option maxHeartbeats 1600000 in
theorem specCountH (n bad : Int) (w : World) :
    Calls Try.prog 28 #[.int .i64 n, .int .i64 bad] w fun e w' => e = .returned (.int .i64 (cntH n bad)) ∧ Below w.heap.size w w' := by
  have CA := Lib.hid (specFindAll n bad w)
  have HC : Hid (okAll n bad = false → cntH n bad = -1) := fun h => by unfold cntH; rw [h]; rfl
  have HD : Hid (okAll n bad = true → cntH n bad = ((allL n bad).length : Int)) := fun h => by unfold cntH allL; rw [h]; rfl
  unfold Finds at CA
  generalize cntH n bad = c at HC HD ⊢
  generalize allL n bad = L at CA HD
  generalize allV n bad = V at CA
  generalize okAll n bad = ok at CA HC HD
  go_enter Try.func28, Try.ntmps28
  go_wp2_with fail
  refine CA.out.mono ?_
  rintro e w1 ⟨u, rfl, ou, bb⟩
  have B1 := Lib.hid bb
  obtain ⟨a', c', hu, -⟩ := id ou.reads
  subst hu
  clear ou bb CA
  cases ok with
  | false =>
    have HE : Hid (c = -1) := HC.out rfl
    go_wp2
    go_ret
    exact ⟨ret_int HE.out.symm, B1.out⟩
  | true =>
    have HE : Hid (c = (L.length : Int)) := HD.out rfl
    go_wp2
    go_ret
    exact ⟨ret_int HE.out.symm, B1.out⟩

set_option maxRecDepth 100000 in
set_option maxHeartbeats 1600000 in
theorem specWorstH (n d : Int) (w : World) :
    Calls Try.prog 29 #[.int .i64 n, .int .i64 d] w fun e w' => e = .returned (.int .i64 (worstH n d)) ∧ Below w.heap.size w w' := by
  have CI : Hid (∀ W, Calls Try.prog 51 #[.int .i64 n, .int .i64 1, .int .i64 10] W fun e w' => e = .returned (.bool (itemsB n)) ∧ W = w') := fun W => l01In_is n 1 10 W
  have CN := Lib.hid (fun (s : Int) h1 W => specCount s h1 W)
  have CH := Lib.hid (fun (k : Nat) W => specCountH n (k : Int) W)
  have HR : Hid (worstH n d = if okWorst n d = true then worstK n d (2 ^ n.toNat) else -1) := rfl
  have HB : Hid (okWorst n d = (itemsB n && decide (0 ≤ d))) := rfl
  have HI : Hid (itemsB n = true → 1 ≤ n ∧ n ≤ 10) := fun h => by unfold itemsB at h; simpa using h
  have HK : Hid (∀ k : Nat, worstK n d (k + 1) = if cntI (k : Int) ≤ d then max (worstK n d k) (cntH n (k : Int)) else worstK n d k) := fun _ => rfl
  have H0 : Hid (worstK n d 0 = 0) := rfl
  generalize worstH n d = r at HR ⊢
  generalize okWorst n d = ok at HR HB
  generalize itemsB n = ib at CI HB HI
  generalize worstK n d = F at HR HK H0
  cases ib with
  | false =>
    have HE : Hid (r = -1) := by unfold Hid; rw [HR.out, HB.out]; rfl
    go_enter Try.func29, Try.ntmps29
    go_wp2_with fail
    refine (CI.out _).mono ?_
    rintro e w1 ⟨rfl, rfl⟩
    go_wp2
    go_ret
    exact ⟨ret_int HE.out.symm, Below.refl _ _⟩
  | true =>
    by_cases hd : d < 0
    · have HE : Hid (r = -1) := by unfold Hid; rw [HR.out, HB.out, decide_eq_false (by omega)]; rfl
      go_enter Try.func29, Try.ntmps29
      go_wp2_with fail
      refine (CI.out _).mono ?_
      rintro e w1 ⟨rfl, rfl⟩
      go_wp2
      go_ret
      exact ⟨ret_int HE.out.symm, Below.refl _ _⟩
    · obtain ⟨n1, n10⟩ := HI.out rfl
      obtain ⟨m, hm⟩ : ∃ m : Nat, n.toNat = m := ⟨_, rfl⟩
      have hnm : n = (m : Int) := by omega
      subst hnm
      obtain ⟨hs1, -, -⟩ := pow_in (k := m) (by omega)
      obtain ⟨N, hN⟩ : ∃ N : Nat, 2 ^ m = N := ⟨_, rfl⟩
      have hN2 : (2 : Int) ^ m = (N : Int) := by rw [← hN]; exact_mod_cast rfl
      have hNb : N ≤ 1024 := by have := pow_in (k := m) (by omega); omega
      rw [hN2] at hs1
      have HE : Hid (r = F N) := by unfold Hid; rw [HR.out, HB.out, decide_eq_true (by omega), hm, hN]; rfl
      have B0 := Lib.hid (Below.refl w.heap.size w)
      clear HR HB HI hN hm
      go_enter Try.func29, Try.ntmps29
      go_wp2_with fail
      refine (CI.out _).mono ?_
      rintro e w1 ⟨rfl, rfl⟩
      go_wp2
      go_loopw [5, 6] (fun mv kv wr => ∃ k : Nat, k ≤ N ∧ kv = .int .i64 k ∧ mv = .int .i64 (F k) ∧ Hid (Below w.heap.size w wr)) (fun _ kv _ => N - (intOf kv).toNat)
      case atStart => exact ⟨0, Nat.zero_le _, rfl, by rw [H0.out], B0⟩
      case round =>
        clear B0
        obtain ⟨k, hk, rfl, rfl, B2⟩ := hrel
        by_cases hlt : k < N
        · have HS := Lib.hid (HK.out k)
          have CN1 := Lib.hid (fun W => CN.out (k : Int) (by omega) W)
          have CH1 := Lib.hid (CH.out k)
          have k1 : (k : Int) < (N : Int) := by omega
          generalize cntI (k : Int) = c at CN1 HS
          generalize cntH (m : Int) (k : Int) = h at CH1 HS
          generalize F k = f at HS ⊢
          by_cases hc : c ≤ d
          · rw [if_pos hc] at HS
            go_wp2_with fail
            refine (CN1.out _).mono ?_
            rintro e w3 ⟨rfl, rfl⟩
            by_cases hfh : f ≤ h
            · have HS2 : Hid (F (k + 1) = h) := by unfold Hid; rw [HS.out]; omega
              go_wp2_with fail
              refine (CH1.out _).mono ?_
              rintro e w4 ⟨rfl, bb⟩
              have B3 := Lib.hid (below_up B2.out bb)
              clear bb
              go_wp2
              all_goals
                go_roundw
                case rel => exact ⟨k + 1, by omega, by go_num, by (rw [HS2.out]; try (congr 1; omega)), B3⟩
                case measure => simp [intOf]; omega
            · have HS2 : Hid (F (k + 1) = f) := by unfold Hid; rw [HS.out]; omega
              go_wp2_with fail
              refine (CH1.out _).mono ?_
              rintro e w4 ⟨rfl, bb⟩
              have B3 := Lib.hid (below_up B2.out bb)
              clear bb
              go_wp2
              all_goals
                go_roundw
                case rel => exact ⟨k + 1, by omega, by go_num, by (rw [HS2.out]; try (congr 1; omega)), B3⟩
                case measure => simp [intOf]; omega
          · rw [if_neg hc] at HS
            go_wp2_with fail
            refine (CN1.out _).mono ?_
            rintro e w3 ⟨rfl, rfl⟩
            go_wp2
            go_roundw
            case rel => exact ⟨k + 1, by omega, by go_num, by rw [HS.out], B2⟩
            case measure => simp [intOf]; omega
        · obtain rfl : k = N := by omega
          go_wp2
          go_ret
          exact ⟨ret_int HE.out.symm, B2.out⟩

set_option maxRecDepth 100000 in
set_option maxHeartbeats 1600000 in
theorem specSkips (bad : Int) : ∀ (f a b : Nat), a < b → b ≤ 10 → b - a ≤ f → ∀ (w : World),
    Calls Try.prog 55 #[.int .i64 bad, .int .i64 (a : Int), .int .i64 (b : Int)] w fun e w' => e = .returned (.int .i64 (skipF bad f a b)) ∧ Below w.heap.size w w'
  | 0, a, b, hab, _, hf, _ => by omega
  | f + 1, a, b, hab, hb, hf, w => by
    have IH : Hid (∀ (a b : Nat), a < b → b ≤ 10 → b - a ≤ f → ∀ (w : World), Calls Try.prog 55 #[.int .i64 bad, .int .i64 (a : Int), .int .i64 (b : Int)] w fun e w' => e = .returned (.int .i64 (skipF bad f a b)) ∧ Below w.heap.size w w') := fun a b h1 h2 h3 w => specSkips bad f a b h1 h2 h3 w
    have HSI : Hid (∀ (a b : Nat), a < b → 0 ≤ skipF bad f a b ∧ skipF bad f a b ≤ (b : Int) - a - 1) := skipF_in bad f
    have HF : Hid (skipF bad (f + 1) a b = if bits .and .i64 bad (spanI a b) = 0 ∨ b - a = 1 then 0 else skipF bad f a (midN a b) + skipF bad f (midN a b) b + (if bits .and .i64 bad (spanI a (midN a b)) = 0 then 1 else 0)) := by
      unfold Hid
      rw [skipF]
      rfl
    have CR := Lib.hid (fun W => specRange a b (by omega) hb W)
    have CR2 := Lib.hid (fun (q : Nat) (h : a ≤ q) (h2 : q ≤ b) W => specRange a q h (by omega) W)
    have e1 : IntKind.i64.wrap ((b : Int) - (a : Int)) = (b : Int) - a := by rw [IntKind.wrap_i64]; omega
    generalize spanI a b = x at CR HF
    by_cases hx : bits .and .i64 bad x = 0
    · have HX : Hid (skipF bad (f + 1) a b = 0) := by unfold Hid; rw [HF.out, if_pos (.inl hx)]
      have hxB : (bits .and .i64 bad x == 0) = true := by simpa using hx
      clear HF IH HSI CR2
      generalize skipF bad (f + 1) a b = r at HX ⊢
      go_enter Try.func55, Try.ntmps55
      go_wp2_with fail
      refine (CR.out _).mono ?_
      rintro e w2 ⟨rfl, bb⟩
      have B2 := Lib.hid bb
      clear bb
      go_wp2
      go_ret
      exact ⟨ret_int HX.out.symm, B2.out⟩
    · have hxB : (bits .and .i64 bad x == 0) = false := by simpa using hx
      by_cases h1 : b - a = 1
      · have HX : Hid (skipF bad (f + 1) a b = 0) := by unfold Hid; rw [HF.out, if_pos (.inr h1)]
        have h1B : ((b : Int) - (a : Int) == 1) = true := by rw [beq_iff_eq]; omega
        clear HF IH HSI CR2
        generalize skipF bad (f + 1) a b = r at HX ⊢
        go_enter Try.func55, Try.ntmps55
        go_wp2_with fail
        refine (CR.out _).mono ?_
        rintro e w2 ⟨rfl, bb⟩
        have B2 := Lib.hid bb
        clear bb
        go_wp2
        go_ret
        exact ⟨ret_int HX.out.symm, B2.out⟩
      · have h1B : ((b : Int) - (a : Int) == 1) = false := by rw [beq_eq_false_iff_ne]; omega
        have HX : Hid (skipF bad (f + 1) a b = skipF bad f a (midN a b) + skipF bad f (midN a b) b + (if bits .and .i64 bad (spanI a (midN a b)) = 0 then 1 else 0)) := by unfold Hid; rw [HF.out, if_neg (fun h => h.elim hx h1)]
        obtain ⟨-, e2, e3, e4⟩ := half_mid (a := a) (b := b) (by omega) hb
        have hq := mid_in (a := a) (b := b) (by omega)
        clear HF
        generalize midN a b = q at e2 e3 e4 hq HX
        have I1 := Lib.hid (IH.out a q hq.1 (by omega) (by omega))
        have I2 := Lib.hid (IH.out q b hq.2 hb (by omega))
        have l1 := HSI.out a q hq.1
        have l2 := HSI.out q b hq.2
        have C2 := Lib.hid (CR2.out q (by omega) (by omega))
        clear IH HSI CR2
        generalize skipF bad f a q = s1 at I1 HX l1
        generalize skipF bad f q b = s2 at I2 HX l2
        generalize skipF bad (f + 1) a b = r at HX ⊢
        generalize spanI a q = y at C2 HX
        have a1 : IntKind.i64.wrap (s1 + s2) = s1 + s2 := by rw [IntKind.wrap_i64]; omega
        have a2 : IntKind.i64.wrap (s1 + s2 + 1) = s1 + s2 + 1 := by rw [IntKind.wrap_i64]; omega
        go_enter Try.func55, Try.ntmps55
        go_wp2_with fail
        refine (CR.out _).mono ?_
        rintro e w2 ⟨rfl, bb⟩
        have B2 := Lib.hid bb
        clear bb
        go_wp2_with fail
        refine (I1.out _).mono ?_
        rintro e w3 ⟨rfl, bb⟩
        have B3 := Lib.hid (below_up B2.out bb)
        clear bb
        go_wp2_with fail
        refine (I2.out _).mono ?_
        rintro e w4 ⟨rfl, bb⟩
        have B4 := Lib.hid (below_up B3.out bb)
        clear bb
        go_wp2_with fail
        refine (C2.out _).mono ?_
        rintro e w5 ⟨rfl, bb⟩
        have B5 := Lib.hid (below_up B4.out bb)
        clear bb
        by_cases hy : bits .and .i64 bad y = 0
        · have HX2 : Hid (r = s1 + s2 + 1) := by unfold Hid; rw [HX.out, if_pos hy]
          have hyB : (bits .and .i64 bad y == 0) = true := by simpa using hy
          go_wp2
          go_ret
          exact ⟨ret_int HX2.out.symm, B5.out⟩
        · have HX2 : Hid (r = s1 + s2) := by unfold Hid; rw [HX.out, if_neg hy]; omega
          have hyB : (bits .and .i64 bad y == 0) = false := by simpa using hy
          go_wp2
          go_ret
          exact ⟨ret_int HX2.out.symm, B5.out⟩

set_option maxHeartbeats 1600000 in
theorem specSkipTests (n bad : Int) (w : World) :
    Calls Try.prog 30 #[.int .i64 n, .int .i64 bad] w fun e w' => e = .returned (.int .i64 (skipH n bad)) ∧ Below w.heap.size w w' := by
  have CH := Lib.hid (specCountH n bad w)
  by_cases hok : okAll n bad = true
  · obtain ⟨⟨n1, n10⟩, -, -⟩ := okAll_in hok
    have HR : Hid (skipH n bad = skipF bad 10 0 n.toNat) := by unfold Hid skipH; rw [if_pos hok]
    have HC : Hid (cntH n bad = ((allF bad 10 0 n.toNat).length : Int)) := by unfold Hid cntH; rw [if_pos hok]
    rw [HC.out] at CH
    generalize (allF bad 10 0 n.toNat).length = c at CH
    obtain ⟨m, hm⟩ : ∃ m : Nat, n.toNat = m := ⟨_, rfl⟩
    rw [hm] at HR
    have hnm : n = (m : Int) := by omega
    subst hnm
    have CS := Lib.hid (specSkips bad 10 0 m (by omega) (by omega) (by omega))
    rw [Int.natCast_zero] at CS
    generalize skipH (m : Int) bad = r at HR ⊢
    generalize skipF bad 10 0 m = s at HR CS
    have c0 : ¬ (c : Int) < 0 := by omega
    clear hok hm
    go_enter Try.func30, Try.ntmps30
    go_wp2_with fail
    refine CH.out.mono ?_
    rintro e w1 ⟨rfl, bb⟩
    have B1 := Lib.hid bb
    clear bb
    go_wp2_with fail
    refine (CS.out _).mono ?_
    rintro e w2 ⟨rfl, bb⟩
    have B2 := Lib.hid (below_up B1.out bb)
    clear bb
    go_wp2
    go_ret
    exact ⟨ret_int HR.out.symm, B2.out⟩
  · have HR : Hid (skipH n bad = -1) := by unfold Hid skipH; rw [if_neg hok]
    have HC : Hid (cntH n bad = -1) := by unfold Hid cntH; rw [if_neg hok]
    rw [HC.out] at CH
    generalize skipH n bad = r at HR ⊢
    go_enter Try.func30, Try.ntmps30
    go_wp2_with fail
    refine CH.out.mono ?_
    rintro e w1 ⟨rfl, bb⟩
    have B1 := Lib.hid bb
    clear bb
    go_wp2
    go_ret
    exact ⟨ret_int HR.out.symm, B1.out⟩

set_option maxHeartbeats 1600000 in
theorem specOneByOne (n d : Int) (w : World) :
    Calls Try.prog 31 #[.int .i64 n, .int .i64 d] w fun e w' => e = .returned (.bool (oneB n d)) ∧ Below w.heap.size w w' := by
  have CW := Lib.hid (specWorstH n d w)
  have HR : Hid (oneB n d = (decide (n < worstH n d) && decide (0 < n))) := rfl
  generalize oneB n d = r at HR ⊢
  generalize worstH n d = h at CW HR
  by_cases h1 : n < h
  · have HE : Hid (r = decide (0 < n)) := by unfold Hid; rw [HR.out, decide_eq_true h1]; rfl
    have hB : decide (n < h) = true := decide_eq_true h1
    go_enter Try.func31, Try.ntmps31
    go_wp2_with fail
    refine CW.out.mono ?_
    rintro e w1 ⟨rfl, bb⟩
    have B1 := Lib.hid bb
    clear bb
    go_wp2
    go_ret
    exact ⟨ret_bool HE.out.symm, B1.out⟩
  · have HE : Hid (r = false) := by unfold Hid; rw [HR.out, decide_eq_false h1]; rfl
    have hB : decide (n < h) = false := decide_eq_false h1
    go_enter Try.func31, Try.ntmps31
    go_wp2_with fail
    refine CW.out.mono ?_
    rintro e w1 ⟨rfl, bb⟩
    have B1 := Lib.hid bb
    clear bb
    go_wp2
    go_ret
    exact ⟨ret_bool HE.out.symm, B1.out⟩
end Go.Proofs.Ytfopallbhfcppaa
