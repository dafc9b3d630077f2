/- The contracts of the program's DesignOk and SignsOf: whether a design is valid, and the signs of a case. Conditions: the slice reads as weighings and is short enough to be counted. -/
import Derived.Test.YtbkhmlkicafheaaDesignSpec
import Derived.Test.YtbkhmlkicafheaaOutImpl
namespace Go.Proofs.Ytbkhmlkicafheaa
open Go.RowKit

theorem ascD_up {l : List Int} {m : Int} (h : ascB l m = true) (hm : m ≤ 13) : ascB l 13 = true := by
  simp only [ascB, Bool.and_eq_true, decide_eq_true_eq, List.all_eq_true] at h ⊢
  exact ⟨h.1, fun x hx => by have := h.2 x hx; omega⟩
theorem weighD_up {L R : List Int} {m : Int} (h : weighB L R m = true) : weighB L R 13 = true := by
  simp only [weighB, sideB, Bool.and_eq_true, decide_eq_true_eq] at h ⊢
  obtain ⟨⟨⟨⟨⟨h1, h2⟩, h3, h4⟩, h5, h6⟩, h7⟩, h8⟩ := h
  exact ⟨⟨⟨⟨⟨by omega, by omega⟩, ascD_up h3 h2, h4⟩, ascD_up h5 h2, h6⟩, h7⟩, h8⟩

set_option maxRecDepth 100000 in
set_option maxHeartbeats 3200000 in
theorem implDesignOk (v : Value) (P : List WD) (m : Int) (w : World) (h : WdsAt w v P) (hm : P.length ≤ 1048576) (hl : ∀ d ∈ P, d.L.length ≤ 1048576 ∧ d.R.length ≤ 1048576) :
    Calls Try.prog 48 #[v, .int .i64 m] w fun e w' => e = .returned (.bool (designB P m)) ∧ Below w.heap.size w w' := by
  have HE : Hid (designB P m = ((decide (P.length ≤ 6) && (decide (1 ≤ m) && decide (m ≤ 13))) && (P.drop 0).all (fun d => weighB d.L d.R m))) := rfl
  obtain ⟨a, c, rfl, -, h⟩ := h
  have H := Lib.hid h
  have HL := Lib.hid hl
  clear h hl
  generalize designB P m = r at HE ⊢
  obtain ⟨n, hn⟩ : ∃ n, P.length = n := ⟨_, rfl⟩
  rw [hn] at hm HE ⊢
  have HN := Lib.hid hn
  clear hn
  by_cases g1 : m < 1
  · have HF : Hid (r = false) := by unfold Hid; rw [HE.out, decide_eq_false (show ¬ 1 ≤ m by omega)]; simp
    clear HE
    go_enter Try.func48, Try.ntmps48
    go_wp2
    go_ret
    exact ⟨ret_bool HF.out.symm, Below.refl _ _⟩
  by_cases g2 : 13 < m
  · have HF : Hid (r = false) := by unfold Hid; rw [HE.out, decide_eq_false (show ¬ m ≤ 13 by omega)]; simp
    clear HE
    go_enter Try.func48, Try.ntmps48
    go_wp2
    go_ret
    exact ⟨ret_bool HF.out.symm, Below.refl _ _⟩
  by_cases g3 : (6 : Int) < (n : Int)
  · have HF : Hid (r = false) := by unfold Hid; rw [HE.out, decide_eq_false (show ¬ n ≤ 6 by omega)]; simp
    clear HE
    go_enter Try.func48, Try.ntmps48
    go_wp2
    go_ret
    exact ⟨ret_bool HF.out.symm, Below.refl _ _⟩
  have HG : Hid (r = (P.drop 0).all (fun d => weighB d.L d.R m)) := by
    unfold Hid; rw [HE.out, decide_eq_true (show n ≤ 6 by omega), decide_eq_true (show 1 ≤ m by omega), decide_eq_true (show m ≤ 13 by omega)]; rfl
  clear HE
  go_enter Try.func48, Try.ntmps48
  go_wp2
  go_loopw [6, 20] (fun _ i wr => ∃ k : Nat, k ≤ n ∧ i = .int .i64 k ∧ Hid (r = (P.drop k).all (fun d => weighB d.L d.R m)) ∧ Below w.heap.size w wr) (fun _ i _ => n - (intOf i).toNat)
  case atStart => exact ⟨0, Nat.zero_le _, rfl, HG, Below.refl _ _⟩
  case round =>
    clear HG
    obtain ⟨k, hk, rfl, HG, hb⟩ := hrel
    have HB := Lib.hid hb
    clear hb
    by_cases hlt : k < n
    · have hkl : k < P.length := by rw [HN.out]; exact hlt
      obtain ⟨b, o, vl, vr, rfl, h5, hL, hR⟩ := H.out k hkl
      have hd := HL.out P[k] (List.getElem_mem hkl)
      have HS := Lib.hid (designAll_drop (fun d => weighB d.L d.R m) hkl)
      obtain ⟨d, hx⟩ : ∃ d, P[k] = d := ⟨_, rfl⟩
      rw [hx] at hL hR hd HS
      obtain ⟨d1, d2⟩ := hd
      obtain ⟨al, nl, cl, rfl⟩ := hL.form
      obtain ⟨ar, nr, cr, rfl⟩ := hR.form
      have C := Lib.hid (fun W h h' => implWeighingOk (.slice al nl cl) (.slice ar nr cr) d.L d.R m W h h' (by omega) (by omega))
      have F1 := Lib.hid (h5.below HB.out)
      have I1 := Lib.hid (hL.below HB.out)
      have I2 := Lib.hid (hR.below HB.out)
      have i0' : (0 : Int) ≤ (k : Int) := by omega
      have i1 : (k : Int) < (n : Int) := by omega
      clear h5 hL hR hx hkl d1 d2
      obtain ⟨e0, e1, -⟩ := F1.out
      have P3 := Lib.hid (TwoAt.new wr 74 (.slice al nl cl) (.slice ar nr cr))
      have B3 := Lib.hid (alloc_below wr (.cells #[.slice al nl cl, .slice ar nr cr] 74))
      generalize hX3 : wr.alloc (.cells #[.slice al nl cl, .slice ar nr cr] 74) = X3 at P3 B3
      have G1 := Lib.hid (I1.out.below B3.out)
      have G2 := Lib.hid (I2.out.below B3.out)
      obtain ⟨f0, f1, -⟩ := P3.out
      go_wp2_with fail
      refine (C.out _ G1.out G2.out).mono ?_
      rintro e w4 ⟨rfl, b4⟩
      have B4 := Lib.hid (below_up (below_up HB.out B3.out) b4)
      clear b4 e0 e1 f0 f1 hX3
      cases hw : weighB d.L d.R m with
      | false =>
        have HF : Hid (r = false) := by unfold Hid; rw [HG.out, HS.out, hw]; rfl
        go_wp2
        go_ret
        exact ⟨ret_bool HF.out.symm, B4.out⟩
      | true =>
        have HF : Hid (r = (P.drop (k + 1)).all (fun d => weighB d.L d.R m)) := by unfold Hid; rw [HG.out, HS.out, hw]; rfl
        go_wp2
        go_roundw
        case rel => exact ⟨k + 1, by omega, by go_num, HF, B4.out⟩
        case measure => simp [intOf]; omega
    · have HF : Hid (r = true) := by unfold Hid; rw [HG.out, designAll_end _ (by rw [HN.out]; omega)]
      go_wp2
      go_ret
      exact ⟨ret_bool HF.out.symm, HB.out⟩

set_option maxRecDepth 100000 in
set_option maxHeartbeats 6400000 in
theorem implSignsOf (v : Value) (P : List WD) (m c : Int) (w : World) (h : WdsAt w v P) (hm : P.length ≤ 1048576) (hl : ∀ d ∈ P, d.L.length ≤ 1048576 ∧ d.R.length ≤ 1048576) (c0 : -9223372036854775808 ≤ c) (c1 : c ≤ 9223372036854775807) :
    Calls Try.prog 51 #[v, .int .i64 m, .int .i64 c] w (SignsR P m c w) := by
  have CD := Lib.hid (fun W h => implDesignOk v P m W h hm hl)
  have HB : Hid (designB P m = true → P.length ≤ 6 ∧ 1 ≤ m ∧ m ≤ 13) := fun hv => design_size hv
  have HV : Hid (designB P m = true → ∀ d ∈ P, outI d.L d.R c = outcI d.L d.R c) := fun hv d hd => by
    simp only [designB, Bool.and_eq_true, List.all_eq_true] at hv
    exact outI_valid (weighD_up (hv.2 d hd)) c
  have HF : Hid (sokB P m c = (designB P m && (decide (-m ≤ c) && decide (c ≤ m)))) := rfl
  have HR : Hid (sgR P m c = if sokB P m c = true then signsL P c else []) := rfl
  have H0 := Lib.hid h
  obtain ⟨i0, hi, hz0, hz1, hz2⟩ := info_parts infoInt
  obtain ⟨a, cc, rfl, -, h⟩ := h
  have H := Lib.hid h
  have HL := Lib.hid hl
  clear h hl
  unfold SignsR
  obtain ⟨n, hn⟩ : ∃ n, P.length = n := ⟨_, rfl⟩
  rw [hn] at hm HB H0 CD ⊢
  have HN := Lib.hid hn
  clear hn
  generalize sgR P m c = R at HR ⊢
  generalize sokB P m c = t at HF HR ⊢
  generalize designB P m = b at HF CD HB HV
  cases b with
  | false =>
    have HE : Hid (t = false) := HF.out
    have HQ : Hid (R = []) := by unfold Hid; rw [HR.out, HE.out]; rfl
    clear HF HR HV
    go_enter Try.func51, Try.ntmps51
    go_wp2_with fail
    refine (CD.out _ H0.out).mono ?_
    rintro e w1 ⟨rfl, b1⟩
    have B1 := Lib.hid b1
    clear b1
    go_wp2
    go_ret2
    exact ⟨_, by rw [HE.out]; rfl, by rw [HQ.out]; exact Own.nil _ _, B1.out⟩
  | true =>
    obtain ⟨n6, m0, m1⟩ := HB.out rfl
    have HY := Lib.hid (HV.out rfl)
    clear HB HV
    by_cases g1 : c < -m
    · have HE : Hid (t = false) := by unfold Hid; rw [HF.out, decide_eq_false (show ¬ -m ≤ c by omega)]; rfl
      have HQ : Hid (R = []) := by unfold Hid; rw [HR.out, HE.out]; rfl
      clear HF HR
      go_enter Try.func51, Try.ntmps51
      go_wp2_with fail
      refine (CD.out _ H0.out).mono ?_
      rintro e w1 ⟨rfl, b1⟩
      have B1 := Lib.hid b1
      clear b1
      go_wp2
      go_ret2
      exact ⟨_, by rw [HE.out]; rfl, by rw [HQ.out]; exact Own.nil _ _, B1.out⟩
    by_cases g2 : m < c
    · have HE : Hid (t = false) := by unfold Hid; rw [HF.out, decide_eq_false (show ¬ c ≤ m by omega), Bool.and_false]; rfl
      have HQ : Hid (R = []) := by unfold Hid; rw [HR.out, HE.out]; rfl
      clear HF HR
      go_enter Try.func51, Try.ntmps51
      go_wp2_with fail
      refine (CD.out _ H0.out).mono ?_
      rintro e w1 ⟨rfl, b1⟩
      have B1 := Lib.hid b1
      clear b1
      go_wp2
      go_ret2
      exact ⟨_, by rw [HE.out]; rfl, by rw [HQ.out]; exact Own.nil _ _, B1.out⟩
    have HE : Hid (t = true) := by unfold Hid; rw [HF.out, decide_eq_true (show -m ≤ c by omega), decide_eq_true (show c ≤ m by omega)]; rfl
    have HQ : Hid (R = signsL P c) := by unfold Hid; rw [HR.out, HE.out]; rfl
    clear HF HR
    go_enter Try.func51, Try.ntmps51
    go_wp2_with fail
    refine (CD.out _ H0.out).mono ?_
    rintro e w0 ⟨rfl, b0⟩
    have BW := Lib.hid b0
    have hbs0 := b0.size
    have HO0 : Hid (w0.ownsRow w.heap.size 3 1 (.slice none 0 0) (signsL (P.take 0) c).length ((signsL (P.take 0) c).map (Value.int .i64))) := World.ownsRow_nil _ _ _ _
    clear b0
    go_wp2
    go_loopw [8, 10, 28] (fun ov _ i wr => ∃ k : Nat, k ≤ n ∧ i = .int .i64 k ∧ Hid (wr.ownsRow w.heap.size 3 1 ov (signsL (P.take k) c).length ((signsL (P.take k) c).map (Value.int .i64))) ∧ Below w.heap.size w wr) (fun _ _ i _ => n - (intOf i).toNat)
    case atStart => exact ⟨0, Nat.zero_le _, rfl, HO0, BW.out⟩
    case round =>
      clear HO0
      obtain ⟨k, hk, rfl, hown, hb⟩ := hrel
      have HB := Lib.hid hb
      have hbs := hb.size
      clear hb
      by_cases hlt : k < n
      · have hkl : k < P.length := by rw [HN.out]; exact hlt
        obtain ⟨b, o, vl, vr, rfl, h5, hL, hR⟩ := H.out k hkl
        have hd := HL.out P[k] (List.getElem_mem hkl)
        have HT := Lib.hid (signsL_take (c := c) hkl)
        have hxl : (signsL (P.take k) c).length = k := by rw [signsL_len]; simp; omega
        have HXL := Lib.hid hxl
        obtain ⟨d, hx⟩ : ∃ d, P[k] = d := ⟨_, rfl⟩
        have hy := HY.out P[k] (List.getElem_mem hkl)
        rw [hx] at hL hR hd HT hy
        obtain ⟨al, nl, cl, rfl⟩ := hL.form
        obtain ⟨ar, nr, cr, rfl⟩ := hR.form
        have C := Lib.hid (fun W h h' => implOutcome (.slice al nl cl) (.slice ar nr cr) d.L d.R c W h h' (by omega) (by omega) c0 c1)
        rw [hy] at C
        generalize outcI d.L d.R c = x at C HT
        have F1 := Lib.hid (h5.below HB.out)
        have I1 := Lib.hid (hL.below HB.out)
        have I2 := Lib.hid (hR.below HB.out)
        have i0' : (0 : Int) ≤ (k : Int) := by omega
        have i1 : (k : Int) < (n : Int) := by omega
        clear h5 hL hR hx hkl hd hxl hy
        obtain ⟨e0, e1, -⟩ := F1.out
        have P3 := Lib.hid (TwoAt.new wr 74 (.slice al nl cl) (.slice ar nr cr))
        have B3 := Lib.hid (alloc_below wr (.cells #[.slice al nl cl, .slice ar nr cr] 74))
        generalize hX3 : wr.alloc (.cells #[.slice al nl cl, .slice ar nr cr] 74) = X3 at P3 B3
        have G1 := Lib.hid (I1.out.below B3.out)
        have G2 := Lib.hid (I2.out.below B3.out)
        obtain ⟨f0, f1, -⟩ := P3.out
        go_wp2_with fail
        clear e0 e1 f0 f1 hX3
        refine (C.out _ G1.out G2.out).mono ?_
        rintro e w1 ⟨rfl, b1⟩
        have BX := Lib.hid (below_up B3.out b1)
        have hown1 := Lib.hid (owns_below hown.out BX.out)
        rw [HXL.out] at hown1
        have HB1 := Lib.hid (below_up HB.out BX.out)
        have hbs1 : w.heap.size ≤ w1.heap.size := Nat.le_trans hbs BX.out.size
        clear b1 hown
        go_wp2_with (at_builtin; refine wpList_append_own _ rfl _ _ 39 rfl w.heap.size 3 i0 (.int .i64 0) 1 8 Try.underlying39 hi hz0 hz1 hz2 rfl (by decide) _ _ _ rfl (hown1.out.alloc _) ⟨w1.heap.size, 0, none⟩ 1 1 [.int .i64 x] rfl rfl (cell_one_new _ _ _) (by simp [Value.oneCell']) (by unfold maxLen; omega) (by omega) (by simp; omega) ?_; intro v' w2 hown' hg1 _)
        have HB2 := Lib.hid (Below.grown (HB1.out.alloc hbs1 _) hg1 (by simp; omega) (fun j hj => (hown1.out.lt j hj).1))
        have HO2 : Hid (w2.ownsRow w.heap.size 3 1 v' (signsL (P.take (k + 1)) c).length ((signsL (P.take (k + 1)) c).map (Value.int .i64))) := by
          unfold Hid
          rw [HT.out, List.length_append, HXL.out]
          simpa using hown'
        clear hg1 hown'
        go_wp2
        go_roundw
        case rel => exact ⟨k + 1, by omega, by go_num, HO2, HB2.out⟩
        case measure => simp [intOf]; omega
      · have HO2 := Lib.hid hown.out
        rw [List.take_of_length_le (by rw [HN.out]; omega)] at HO2
        go_wp2
        go_ret2
        exact ⟨_, by rw [HE.out]; rfl, by rw [HQ.out]; exact HO2.out, HB.out⟩
end Go.Proofs.Ytbkhmlkicafheaa
