/- The contracts of the model's DesignOk, of the signs of a case, SignsOf and DecodeSigns. Conditions: the slice reads as weighings and is short enough to be counted. -/
import Derived.Test.YthgdobnegepgoaaWds
import Derived.Test.YthgdobnegepgoaaSame
import Derived.Test.YthgdobnegepgoaaCasesFacts
import Derived.Test.YthgdobnegepgoaaThree
namespace Go.Proofs.Ythgdobnegepgoaa
open Go.RowKit

/-- Whether a design is valid for m coins. -/
def designB (D : List WD) (m : Int) : Bool := (decide (D.length ≤ 6) && (decide (1 ≤ m) && decide (m ≤ 13))) && D.all fun d => weighB d.L d.R m
/-- The signs of a case. -/
def signsL (D : List WD) (c : Int) : List Int := D.map fun d => outcI d.L d.R c
theorem signsL_len (D : List WD) (c : Int) : (signsL D c).length = D.length := by simp [signsL]
theorem design_size {D : List WD} {m : Int} (h : designB D m = true) : D.length ≤ 6 ∧ 1 ≤ m ∧ m ≤ 13 := by
  simp only [designB, Bool.and_eq_true, decide_eq_true_eq] at h
  exact ⟨h.1.1, h.1.2.1, h.1.2.2⟩
theorem designAll_drop {D : List WD} {k : Nat} (f : WD → Bool) (h : k < D.length) : (D.drop k).all f = (f D[k] && (D.drop (k + 1)).all f) := by
  rw [List.drop_eq_getElem_cons h, List.all_cons]
theorem designAll_end {D : List WD} {k : Nat} (f : WD → Bool) (h : D.length ≤ k) : (D.drop k).all f = true := by
  rw [List.drop_of_length_le h]; rfl

set_option maxRecDepth 100000 in
set_option maxHeartbeats 3200000 in
theorem specDesignOk (v : Value) (P : List WD) (m : Int) (w : World) (h : WdsAt w v P) (hm : P.length ≤ 1048576) (hl : ∀ d ∈ P, d.L.length ≤ 1048576 ∧ d.R.length ≤ 1048576) :
    Calls Try.prog 22 #[v, .int .i64 m] w fun e w' => e = .returned (.bool (designB P m)) ∧ Below w.heap.size w w' := by
  have HE : Hid (designB P m = ((decide (P.length ≤ 6) && (decide (1 ≤ m) && decide (m ≤ 13))) && (P.drop 0).all (fun d => weighB d.L d.R m))) := rfl
  have C0 := Lib.hid (fun W => l01In_is m 1 13 W)
  obtain ⟨a, c, rfl, -, h⟩ := h
  have H := Lib.hid h
  have HL := Lib.hid hl
  clear h hl
  generalize designB P m = r at HE ⊢
  obtain ⟨n, hn⟩ : ∃ n, P.length = n := ⟨_, rfl⟩
  rw [hn] at hm HE ⊢
  have HN := Lib.hid hn
  clear hn
  by_cases hbig : (6 : Int) < (n : Int)
  · have HF : Hid (r = false) := by unfold Hid; rw [HE.out, decide_eq_false (show ¬ n ≤ 6 by omega)]; rfl
    clear HE
    go_enter Try.func22, Try.ntmps22
    go_wp2
    go_ret
    exact ⟨ret_bool HF.out.symm, Below.refl _ _⟩
  have HF : Hid (r = ((decide (1 ≤ m) && decide (m ≤ 13)) && (P.drop 0).all (fun d => weighB d.L d.R m))) := by unfold Hid; rw [HE.out, decide_eq_true (show n ≤ 6 by omega)]; rfl
  clear HE
  generalize (decide (1 ≤ m) && decide (m ≤ 13)) = t at C0 HF
  cases t with
  | false =>
    have HG : Hid (r = false) := HF.out
    clear HF
    go_enter Try.func22, Try.ntmps22
    go_wp2_with fail
    refine (C0.out _).mono ?_
    rintro e w1 ⟨rfl, rfl⟩
    go_wp2
    go_ret
    exact ⟨ret_bool HG.out.symm, Below.refl _ _⟩
  | true =>
    have HG : Hid (r = (P.drop 0).all (fun d => weighB d.L d.R m)) := HF.out
    clear HF
    go_enter Try.func22, Try.ntmps22
    go_wp2_with fail
    refine (C0.out _).mono ?_
    rintro e w1 ⟨rfl, rfl⟩
    go_wp2
    go_loopw [6, 17] (fun _ i wr => ∃ k : Nat, k ≤ n ∧ i = .int .i64 k ∧ Hid (r = (P.drop k).all (fun d => weighB d.L d.R m)) ∧ Below w.heap.size w wr) (fun _ i _ => n - (intOf i).toNat)
    case atStart => exact ⟨0, Nat.zero_le _, rfl, HG, Below.refl _ _⟩
    case round =>
      clear HG
      obtain ⟨k, hk, rfl, HG, hb⟩ := hrel
      have HB := Lib.hid hb
      clear hb
      by_cases hlt : k < n
      · have hkl : k < P.length := by rw [HN.out]; exact hlt
        obtain ⟨b, o, vl, vr, rfl, h5, hL, hR⟩ := H.out k hkl
        have hd := HL.out P[k] (List.getElem_mem hkl)
        have HS := Lib.hid (designAll_drop (fun d => weighB d.L d.R m) hkl)
        obtain ⟨d, hx⟩ : ∃ d, P[k] = d := ⟨_, rfl⟩
        rw [hx] at hL hR hd HS
        obtain ⟨d1, d2⟩ := hd
        obtain ⟨al, nl, cl, rfl⟩ := hL.form
        obtain ⟨ar, nr, cr, rfl⟩ := hR.form
        have C := Lib.hid (fun W h h' => specWeighingOk (.slice al nl cl) (.slice ar nr cr) d.L d.R m W h h' (by omega) (by omega))
        have F1 := Lib.hid (h5.below HB.out)
        have I1 := Lib.hid (hL.below HB.out)
        have I2 := Lib.hid (hR.below HB.out)
        have i0' : (0 : Int) ≤ (k : Int) := by omega
        have i1 : (k : Int) < (n : Int) := by omega
        clear h5 hL hR hx hkl d1 d2
        obtain ⟨e0, e1, -⟩ := F1.out
        have P3 := Lib.hid (TwoAt.new wr 30 (.slice al nl cl) (.slice ar nr cr))
        have B3 := Lib.hid (alloc_below wr (.cells #[.slice al nl cl, .slice ar nr cr] 30))
        generalize hX3 : wr.alloc (.cells #[.slice al nl cl, .slice ar nr cr] 30) = X3 at P3 B3
        have G1 := Lib.hid (I1.out.below B3.out)
        have G2 := Lib.hid (I2.out.below B3.out)
        obtain ⟨f0, f1, -⟩ := P3.out
        go_wp2_with fail
        refine (C.out _ G1.out G2.out).mono ?_
        rintro e w4 ⟨rfl, b4⟩
        have B4 := Lib.hid (below_up (below_up HB.out B3.out) b4)
        clear b4 e0 e1 f0 f1 hX3
        cases hw : weighB d.L d.R m with
        | false =>
          have HF : Hid (r = false) := by unfold Hid; rw [HG.out, HS.out, hw]; rfl
          go_wp2
          go_ret
          exact ⟨ret_bool HF.out.symm, B4.out⟩
        | true =>
          have HF : Hid (r = (P.drop (k + 1)).all (fun d => weighB d.L d.R m)) := by unfold Hid; rw [HG.out, HS.out, hw]; rfl
          go_wp2
          go_roundw
          case rel => exact ⟨k + 1, by omega, by go_num, HF, B4.out⟩
          case measure => simp [intOf]; omega
      · have HF : Hid (r = true) := by unfold Hid; rw [HG.out, designAll_end _ (by rw [HN.out]; omega)]
        go_wp2
        go_ret
        exact ⟨ret_bool HF.out.symm, HB.out⟩

theorem signsL_take {D : List WD} {c : Int} {k : Nat} (h : k < D.length) : signsL (D.take (k + 1)) c = signsL (D.take k) c ++ [outcI D[k].L D[k].R c] := by
  unfold signsL
  rw [List.take_succ_eq_append_getElem h, List.map_append]
  rfl

set_option maxRecDepth 100000 in
set_option maxHeartbeats 3200000 in
theorem specSigns (v : Value) (P : List WD) (c : Int) (w : World) (h : WdsAt w v P) (hm : P.length ≤ 1048576) (hl : ∀ d ∈ P, d.L.length ≤ 1048576 ∧ d.R.length ≤ 1048576) (c0 : -9223372036854775808 ≤ c) (c1 : c ≤ 9223372036854775807) :
    Calls Try.prog 55 #[v, .int .i64 c] w (Lists (signsL P c) w) := by
  obtain ⟨i0, hi, hz0, hz1, hz2⟩ := info_parts infoInt
  obtain ⟨a, cc, rfl, -, h⟩ := h
  have H := Lib.hid h
  have HL := Lib.hid hl
  clear h hl
  unfold Lists
  obtain ⟨n, hn⟩ : ∃ n, P.length = n := ⟨_, rfl⟩
  rw [hn] at hm ⊢
  have HN := Lib.hid hn
  clear hn
  have H0 : Hid ((w.alloc (.cells #[] 3)).ownsRow w.heap.size 3 1 (.slice (some ⟨w.heap.size, 0, none⟩) 0 0) (signsL (P.take 0) c).length ((signsL (P.take 0) c).map (Value.int .i64))) :=
    World.ownsRow_lit (base := w.heap.size) (e := 3) (size := 1) w #[] 0 (Nat.le_refl _) (by unfold maxLen; omega) rfl
  go_enter Try.func55, Try.ntmps55
  go_wp2
  go_loopw [5, 7, 11] (fun ov _ i wr => ∃ k : Nat, k ≤ n ∧ i = .int .i64 k ∧ Hid (wr.ownsRow w.heap.size 3 1 ov (signsL (P.take k) c).length ((signsL (P.take k) c).map (Value.int .i64))) ∧ Below w.heap.size w wr) (fun _ _ i _ => n - (intOf i).toNat)
  case atStart => exact ⟨0, Nat.zero_le _, rfl, H0, (Below.refl _ _).alloc (Nat.le_refl _) _⟩
  case round =>
    clear H0
    obtain ⟨k, hk, rfl, hown, hb⟩ := hrel
    have HB := Lib.hid hb
    have hbs := hb.size
    clear hb
    by_cases hlt : k < n
    · have hkl : k < P.length := by rw [HN.out]; exact hlt
      obtain ⟨b, o, vl, vr, rfl, h5, hL, hR⟩ := H.out k hkl
      have hd := HL.out P[k] (List.getElem_mem hkl)
      have HT := Lib.hid (signsL_take (c := c) hkl)
      have hxl : (signsL (P.take k) c).length = k := by rw [signsL_len]; simp; omega
      have HXL := Lib.hid hxl
      obtain ⟨d, hx⟩ : ∃ d, P[k] = d := ⟨_, rfl⟩
      rw [hx] at hL hR hd HT
      obtain ⟨al, nl, cl, rfl⟩ := hL.form
      obtain ⟨ar, nr, cr, rfl⟩ := hR.form
      have C := Lib.hid (fun W h h' => specOutc (.slice al nl cl) (.slice ar nr cr) d.L d.R c W h h' (by omega) (by omega) c0 c1)
      generalize outcI d.L d.R c = x at C HT
      have F1 := Lib.hid (h5.below HB.out)
      have I1 := Lib.hid (hL.below HB.out)
      have I2 := Lib.hid (hR.below HB.out)
      have i0' : (0 : Int) ≤ (k : Int) := by omega
      have i1 : (k : Int) < (n : Int) := by omega
      clear h5 hL hR hx hkl hd hxl
      obtain ⟨e0, e1, -⟩ := F1.out
      have P3 := Lib.hid (TwoAt.new wr 30 (.slice al nl cl) (.slice ar nr cr))
      have B3 := Lib.hid (alloc_below wr (.cells #[.slice al nl cl, .slice ar nr cr] 30))
      generalize hX3 : wr.alloc (.cells #[.slice al nl cl, .slice ar nr cr] 30) = X3 at P3 B3
      have G1 := Lib.hid (I1.out.below B3.out)
      have G2 := Lib.hid (I2.out.below B3.out)
      obtain ⟨f0, f1, -⟩ := P3.out
      go_wp2_with fail
      clear e0 e1 f0 f1 hX3
      refine (C.out _ G1.out G2.out).mono ?_
      rintro e w1 ⟨rfl, b1⟩
      have BX := Lib.hid (below_up B3.out b1)
      have hown1 := Lib.hid (owns_below hown.out BX.out)
      rw [HXL.out] at hown1
      have HB1 := Lib.hid (below_up HB.out BX.out)
      have hbs1 : w.heap.size ≤ w1.heap.size := Nat.le_trans hbs BX.out.size
      clear b1 hown
      go_wp2_with (at_builtin; refine wpList_append_own _ rfl _ _ 28 rfl w.heap.size 3 i0 (.int .i64 0) 1 8 Try.underlying28 hi hz0 hz1 hz2 rfl (by decide) _ _ _ rfl (hown1.out.alloc _) ⟨w1.heap.size, 0, none⟩ 1 1 [.int .i64 x] rfl rfl (cell_one_new _ _ _) (by simp [Value.oneCell']) (by unfold maxLen; omega) (by omega) (by simp; omega) ?_; intro v' w2 hown' hg1 _)
      have HB2 := Lib.hid (Below.grown (HB1.out.alloc hbs1 _) hg1 (by simp; omega) (fun j hj => (hown1.out.lt j hj).1))
      have HO2 : Hid (w2.ownsRow w.heap.size 3 1 v' (signsL (P.take (k + 1)) c).length ((signsL (P.take (k + 1)) c).map (Value.int .i64))) := by
        unfold Hid
        rw [HT.out, List.length_append, HXL.out]
        simpa using hown'
      clear hg1 hown'
      go_wp2
      go_roundw
      case rel => exact ⟨k + 1, by omega, by go_num, HO2, HB2.out⟩
      case measure => simp [intOf]; omega
    · have HO2 := Lib.hid hown.out
      rw [List.take_of_length_le (by rw [HN.out]; omega)] at HO2
      go_wp2
      go_ret
      exact ⟨_, rfl, HO2.out, HB.out⟩

/-- Whether the signs of a case can be told. -/
def sokB (P : List WD) (m c : Int) : Bool := designB P m && (decide (-m ≤ c) && decide (c ≤ m))
/-- The signs that are given back. -/
def sgR (P : List WD) (m c : Int) : List Int := if sokB P m c = true then signsL P c else []
theorem sgR_len (P : List WD) (m c : Int) : (sgR P m c).length ≤ 60 := by
  unfold sgR
  split
  · rename_i h
    unfold sokB at h
    rw [Bool.and_eq_true] at h
    have := (design_size h.1).1
    rw [signsL_len]
    omega
  · simp
/-- What a function that tells signs gives back. -/
def SignsR (P : List WD) (m c : Int) (w : World) (e : Ending) (w' : World) : Prop :=
  ∃ u, e = .returned (.tuple #[u, .bool (sokB P m c)]) ∧ Own w' w.heap.size u (sgR P m c) ∧ Below w.heap.size w w'

set_option maxHeartbeats 1600000 in
theorem specSignsOf (v : Value) (P : List WD) (m c : Int) (w : World) (h : WdsAt w v P) (hm : P.length ≤ 1048576) (hl : ∀ d ∈ P, d.L.length ≤ 1048576 ∧ d.R.length ≤ 1048576) (c0 : -9223372036854775808 ≤ c) (c1 : c ≤ 9223372036854775807) :
    Calls Try.prog 25 #[v, .int .i64 m, .int .i64 c] w (SignsR P m c w) := by
  have C := Lib.hid (fun W h => specDesignOk v P m W h hm hl)
  have D : Hid (designB P m = true → ∀ W, WdsAt W v P → Calls Try.prog 55 #[v, .int .i64 c] W (Lists (signsL P c) W)) := fun _ W hW => specSigns v P c W hW hm hl c0 c1
  have HB : Hid (designB P m = true → 1 ≤ m ∧ m ≤ 13) := fun hv => ⟨(design_size hv).2.1, (design_size hv).2.2⟩
  have HF : Hid (sokB P m c = (designB P m && (decide (-m ≤ c) && decide (c ≤ m)))) := rfl
  have HR : Hid (sgR P m c = if sokB P m c = true then signsL P c else []) := rfl
  have H := Lib.hid h
  obtain ⟨a, cc, rfl⟩ := h.form
  unfold SignsR
  unfold Lists at D
  clear h hm hl
  generalize P.length = n at H C D
  generalize sgR P m c = R at HR ⊢
  generalize sokB P m c = t at HF HR ⊢
  generalize signsL P c = F at D HR
  generalize designB P m = b at HF C D HB
  cases b with
  | false =>
    have HE : Hid (t = false) := HF.out
    have HQ : Hid (R = []) := by unfold Hid; rw [HR.out, HE.out]; rfl
    clear HF HR D
    go_enter Try.func25, Try.ntmps25
    go_wp2_with fail
    refine (C.out _ H.out).mono ?_
    rintro e w1 ⟨rfl, b1⟩
    have B1 := Lib.hid b1
    clear b1
    go_wp2
    go_ret2
    exact ⟨_, by rw [HE.out]; rfl, by rw [HQ.out]; exact Own.nil _ _, B1.out⟩
  | true =>
    obtain ⟨m0, m1⟩ := HB.out rfl
    have E := Lib.hid (D.out rfl)
    clear D HB
    by_cases g1 : c < -m
    · have HE : Hid (t = false) := by unfold Hid; rw [HF.out, decide_eq_false (show ¬ -m ≤ c by omega)]; rfl
      have HQ : Hid (R = []) := by unfold Hid; rw [HR.out, HE.out]; rfl
      clear HF HR
      go_enter Try.func25, Try.ntmps25
      go_wp2_with fail
      refine (C.out _ H.out).mono ?_
      rintro e w1 ⟨rfl, b1⟩
      have B1 := Lib.hid b1
      clear b1
      go_wp2
      go_ret2
      exact ⟨_, by rw [HE.out]; rfl, by rw [HQ.out]; exact Own.nil _ _, B1.out⟩
    · by_cases g2 : m < c
      · have HE : Hid (t = false) := by unfold Hid; rw [HF.out, decide_eq_false (show ¬ c ≤ m by omega), Bool.and_false]; rfl
        have HQ : Hid (R = []) := by unfold Hid; rw [HR.out, HE.out]; rfl
        clear HF HR
        go_enter Try.func25, Try.ntmps25
        go_wp2_with fail
        refine (C.out _ H.out).mono ?_
        rintro e w1 ⟨rfl, b1⟩
        have B1 := Lib.hid b1
        clear b1
        go_wp2
        go_ret2
        exact ⟨_, by rw [HE.out]; rfl, by rw [HQ.out]; exact Own.nil _ _, B1.out⟩
      · have HE : Hid (t = true) := by unfold Hid; rw [HF.out, decide_eq_true (show -m ≤ c by omega), decide_eq_true (show c ≤ m by omega)]; rfl
        have HQ : Hid (R = F) := by unfold Hid; rw [HR.out, HE.out]; rfl
        clear HF HR
        go_enter Try.func25, Try.ntmps25
        go_wp2_with fail
        refine (C.out _ H.out).mono ?_
        rintro e w1 ⟨rfl, b1⟩
        have B1 := Lib.hid b1
        have H1 := Lib.hid (H.out.below b1)
        clear b1
        go_wp2_with fail
        refine (E.out _ H1.out).mono ?_
        rintro e w2 ⟨u, rfl, ou, b2⟩
        have B2 := Lib.hid (below_up B1.out b2)
        have OU : Hid (Own w2 w.heap.size u F) := Own.lower (show Own w2 w1.heap.size u F from ou) B1.out.size
        clear ou b2
        go_wp2
        go_ret2
        exact ⟨u, by rw [HE.out]; rfl, by rw [HQ.out]; exact OU.out, B2.out⟩

end Go.Proofs.Ythgdobnegepgoaa
