/- The contracts of the model's IsDetecting, DecodeSums, SumsTell and ExtendDetecting. Conditions: the slices read as integers. -/
import Derived.Test.YtoliloophjeooaaSumSpec
import Derived.Test.YtoliloophjeooaaIntRows
namespace Go.Proofs.Ytoliloophjeooaa
open Go.RowKit

set_option maxRecDepth 100000 in
set_option maxHeartbeats 1600000 in
theorem specDetects (n : Int) (v : Value) (P : List Int) (w : World) (h : IntsAt w v P) (hp : poolsB n P = true) :
    Calls Try.prog 46 #[.int .i64 n, v] w fun e w' => e = .returned (.bool (detF P (2 ^ n.toNat))) ∧ Below w.heap.size w w' := by
  obtain ⟨⟨n1, n10⟩, hl, hin⟩ := pools_in hp
  obtain ⟨hs1, hs2, hs3, hs4⟩ := shl_top n1 n10
  obtain ⟨N, hN⟩ : ∃ N : Nat, 2 ^ n.toNat = N := ⟨_, rfl⟩
  have hN2 : (2 : Int) ^ n.toNat = (N : Int) := by rw [← hN]; push_cast; rfl
  have hNb : N ≤ 1024 := by omega
  rw [hN2] at hs1
  rw [hN]
  have HR : Hid (detF P N = allFrom (fun a => allFrom (detAt P a) a 0) (N - 0) 0) := rfl
  have HD : Hid (∀ a b : Nat, detAt P a b = !decide (sumL P a = sumL P b)) := fun _ _ => rfl
  have CS := Lib.hid (fun (k : Nat) (hk : k ≤ 1023) W hW => specSums v P (k : Int) W hW (by omega) hin (by omega) (by omega))
  have HSL : Hid (∀ bad, (sumL P bad).length ≤ 1048576) := fun bad => by rw [sumL_len]; omega
  have H := Lib.hid h
  obtain ⟨a, c, rfl, -⟩ := h
  unfold ListsS at CS
  generalize detF P N = r at HR ⊢
  have B0 := Lib.hid (Below.refl w.heap.size w)
  clear hs2 hs3 hs4 hN hp hin hl
  go_enter Try.func46, Try.ntmps46
  go_wp2
  go_loopw [5] (fun av wr => ∃ a : Nat, a ≤ N ∧ av = .int .i64 a ∧ Hid (r = allFrom (fun a => allFrom (detAt P a) a 0) (N - a) a) ∧ Hid (Below w.heap.size w wr)) (fun av _ => N - (intOf av).toNat)
  case atStart => exact ⟨0, Nat.zero_le _, rfl, HR, B0⟩
  case round =>
    clear B0 HR
    obtain ⟨x, hx, rfl, HX, B1⟩ := hrel
    by_cases hlt : x < N
    · obtain ⟨t, ht⟩ : ∃ t, allFrom (fun a => allFrom (detAt P a) a 0) (N - (x + 1)) (x + 1) = t := ⟨_, rfl⟩
      have HT := Lib.hid ht
      have HE1 : Hid (r = (allFrom (detAt P x) (x - 0) 0 && t)) := by unfold Hid; rw [HX.out, allFrom_step _ hlt, ht]; rfl
      have x1 : (x : Int) < (N : Int) := by omega
      clear HX ht
      go_wp2
      go_loopw [6] (fun bv ws => ∃ b : Nat, b ≤ x ∧ bv = .int .i64 b ∧ Hid (r = (allFrom (detAt P x) (x - b) b && t)) ∧ Hid (Below w.heap.size w ws)) (fun bv _ => x - (intOf bv).toNat)
      case atStart => exact ⟨0, Nat.zero_le _, rfl, HE1, B1⟩
      case round =>
        clear HE1 B1
        obtain ⟨y, hy, rfl, HY, B2⟩ := hrel
        by_cases hly : y < x
        · have y1 : (y : Int) < (x : Int) := by omega
          have HS : Hid (r = ((!decide (sumL P x = sumL P y)) && (allFrom (detAt P x) (x - (y + 1)) (y + 1) && t))) := by unfold Hid; rw [HY.out, allFrom_step _ hly, HD.out, Bool.and_assoc]
          have C1 := Lib.hid (CS.out x (by omega))
          have C2 := Lib.hid (CS.out y (by omega))
          have l1 := HSL.out (x : Int)
          have l2 := HSL.out (y : Int)
          generalize sumL P (x : Int) = X at C1 HS l1
          generalize sumL P (y : Int) = Y at C2 HS l2
          clear HY
          go_wp2_with fail
          refine (C1.out _ (H.out.below B2.out)).mono ?_
          rintro e w3 ⟨u, rfl, ou, bb⟩
          have B3 := Lib.hid (below_up B2.out bb)
          have O3 := Lib.hid ou
          obtain ⟨gu, nu, cu, rfl⟩ := ou.form
          clear ou bb B2
          go_wp2_with fail
          refine (C2.out _ (H.out.below B3.out)).mono ?_
          rintro e w4 ⟨u2, rfl, ou, bb⟩
          have B4 := Lib.hid (below_up B3.out bb)
          have SM := Lib.hid (specSameI _ _ X Y w4 (O3.out.below bb).reads ou.reads l1 l2)
          obtain ⟨gv, nv, cv, rfl⟩ := ou.form
          clear ou bb B3 O3
          generalize decide (X = Y) = q at SM HS
          go_wp2_with fail
          refine SM.out.mono ?_
          rintro e w5 ⟨rfl, rfl⟩
          cases q with
          | true =>
            have HZ : Hid (r = false) := HS.out
            go_wp2
            go_ret
            exact ⟨ret_bool HZ.out.symm, B4.out⟩
          | false =>
            have HZ : Hid (r = (allFrom (detAt P x) (x - (y + 1)) (y + 1) && t)) := HS.out
            go_wp2
            go_roundw
            case rel => exact ⟨y + 1, by omega, by go_num, HZ, B4⟩
            case measure => simp [intOf]; omega
        · have HZ : Hid (r = allFrom (fun a => allFrom (detAt P a) a 0) (N - (x + 1)) (x + 1)) := by
            unfold Hid
            rw [HY.out, allFrom_end _ _ (by omega), HT.out]
            rfl
          clear HY HT
          go_wp2
          go_roundw
          case rel => exact ⟨x + 1, by omega, by go_num, HZ, B2⟩
          case measure => simp [intOf]; omega
    · have HZ : Hid (r = true) := by unfold Hid; rw [HX.out, allFrom_end _ _ (by omega)]
      go_wp2
      go_ret
      exact ⟨ret_bool HZ.out.symm, B1.out⟩

set_option maxHeartbeats 1600000 in
theorem specIsDetecting (n : Int) (v : Value) (P : List Int) (w : World) (h : IntsAt w v P) (hm : P.length ≤ 1048576) :
    Calls Try.prog 19 #[.int .i64 n, v] w fun e w' => e = .returned (.bool (detB n P)) ∧ Below w.heap.size w w' := by
  have CP := Lib.hid (specPoolsOk n v P w h (by unfold maxLen; omega))
  have HB : Hid (detB n P = (poolsB n P && detF P (2 ^ n.toNat))) := rfl
  by_cases hp : poolsB n P = true
  · have CD := Lib.hid (specDetects n v P w h hp)
    rw [hp] at CP HB
    obtain ⟨a, c, rfl, -⟩ := h
    have HE : Hid (detB n P = detF P (2 ^ n.toNat)) := HB.out
    generalize detB n P = r at HE ⊢
    generalize detF P (2 ^ n.toNat) = q at CD HE
    clear hp HB
    go_enter Try.func19, Try.ntmps19
    go_wp2_with fail
    refine CP.out.mono ?_
    rintro e w1 ⟨rfl, rfl⟩
    go_wp2_with fail
    refine CD.out.mono ?_
    rintro e w2 ⟨rfl, bb⟩
    have B := Lib.hid bb
    clear bb
    go_wp2
    go_ret
    exact ⟨ret_bool HE.out.symm, B.out⟩
  · have hp2 : poolsB n P = false := by simpa using hp
    rw [hp2] at CP HB
    have HE : Hid (detB n P = false) := HB.out
    obtain ⟨a, c, rfl, -⟩ := h
    generalize detB n P = r at HE ⊢
    clear hp hp2 HB
    go_enter Try.func19, Try.ntmps19
    go_wp2_with fail
    refine CP.out.mono ?_
    rintro e w1 ⟨rfl, rfl⟩
    go_wp2
    go_ret
    exact ⟨ret_bool HE.out.symm, Below.refl _ _⟩

set_option maxRecDepth 100000 in
set_option maxHeartbeats 1600000 in
theorem specDecodeSums (n : Int) (v vs : Value) (P S : List Int) (w : World) (h : IntsAt w v P) (hs : IntsAt w vs S) (hm : P.length ≤ 1048576) (hm2 : S.length ≤ 1048576) :
    Calls Try.prog 21 #[.int .i64 n, v, vs] w (ListsS (decS n P S) w) := by
  obtain ⟨i0, hi, hz0, hz1, hz2⟩ := info_parts infoIntA
  have CP := Lib.hid (specPoolsOk n v P w h (by unfold maxLen; omega))
  by_cases hp : poolsB n P = true
  · obtain ⟨⟨n1, n10⟩, hl, hin⟩ := pools_in hp
    have HE0 : Hid (decS n P S = decK P S (2 ^ n.toNat)) := by unfold Hid decS; rw [if_pos hp]
    rw [hp] at CP
    obtain ⟨hs1, hs2, hs3, hs4⟩ := shl_top n1 n10
    obtain ⟨N, hN⟩ : ∃ N : Nat, 2 ^ n.toNat = N := ⟨_, rfl⟩
    have hN2 : (2 : Int) ^ n.toNat = (N : Int) := by rw [← hN]; push_cast; rfl
    have hNb : N ≤ 1024 := by omega
    rw [hN2] at hs1
    rw [hN] at HE0
    have CS := Lib.hid (fun (k : Nat) (hk : k ≤ 1023) W hW => specSums v P (k : Int) W hW hm hin (by omega) (by omega))
    have HSL : Hid (∀ bad, (sumL P bad).length ≤ 1048576) := fun bad => by rw [sumL_len]; omega
    have HK : Hid (∀ k, decK P S (k + 1) = if sumL P (k : Int) = S then decK P S k ++ [(k : Int)] else decK P S k) := fun _ => rfl
    have HLN := Lib.hid (decK_len P S)
    have O1 : Hid (Own (w.alloc (.cells #[] 3)) w.heap.size (.slice (some ⟨w.heap.size, 0, none⟩) 0 0) (decK P S 0)) := Own.lit w w.heap.size (Nat.le_refl _)
    have B1 := Lib.hid (alloc_below w (.cells #[] 3))
    have H := Lib.hid h
    have HSS := Lib.hid hs
    obtain ⟨a, c, rfl, -⟩ := h
    obtain ⟨a2, c2, rfl, -⟩ := hs
    unfold ListsS at CS ⊢
    generalize decS n P S = r at HE0 ⊢
    generalize decK P S = K at HE0 HK HLN O1
    clear hs2 hs3 hs4 hN hp hin hl
    go_enter Try.func21, Try.ntmps21
    go_wp2_with fail
    refine CP.out.mono ?_
    rintro e w1 ⟨rfl, rfl⟩
    go_wp2_with fail
    go_loopw [7, 8] (fun ov kv wr => ∃ k : Nat, k ≤ N ∧ kv = .int .i64 k ∧ Hid (Own wr w.heap.size ov (K k)) ∧ Hid (Below w.heap.size w wr)) (fun _ kv _ => N - (intOf kv).toNat)
    case atStart => exact ⟨0, Nat.zero_le _, rfl, O1, B1⟩
    case round =>
      clear O1 B1
      obtain ⟨k, hk, rfl, O2, B2⟩ := hrel
      by_cases hlt : k < N
      · have HKS := Lib.hid (HK.out k)
        have hlen := HLN.out k
        have C1 := Lib.hid (CS.out k (by omega))
        have l1 := HSL.out (k : Int)
        have k1 : (k : Int) < (N : Int) := by omega
        obtain ⟨g, m, cc, rfl⟩ := O2.out.form
        generalize K k = L at O2 hlen HKS
        generalize sumL P (k : Int) = X at C1 HKS l1
        go_wp2_with fail
        refine (C1.out _ (H.out.below B2.out)).mono ?_
        rintro e w3 ⟨u, rfl, ou, bb⟩
        have B3 := Lib.hid (below_up B2.out bb)
        have O3 := Lib.hid (O2.out.below bb)
        have SM := Lib.hid (specSameI _ _ X S w3 ou.reads (HSS.out.below B3.out) l1 hm2)
        obtain ⟨gu, nu, cu, rfl⟩ := ou.form
        clear ou bb B2 O2
        by_cases hx : X = S
        · rw [if_pos hx] at HKS
          rw [decide_eq_true hx] at SM
          have hown := O3.out
          have hbs : w.heap.size ≤ w3.heap.size := B3.out.size
          unfold Own at hown
          clear hx
          go_wp2_with fail
          refine SM.out.mono ?_
          rintro e w4 ⟨rfl, rfl⟩
          go_wp2_with (at_builtin; refine wpList_append_own _ rfl _ _ 22 rfl w.heap.size 3 i0 (.int .i64 0) 1 8 Try.underlying22 hi hz0 hz1 hz2 rfl (by decide) _ _ _ rfl (hown.alloc _) ⟨w3.heap.size, 0, none⟩ 1 1 [.int .i64 (k : Int)] rfl rfl (cell_one_new _ _ _) (by simp [Value.oneCell']) (by unfold maxLen; omega) (by omega) (by simp; omega) ?_; intro v' w5 hown' hg1 _)
          have hb2 := Below.grown (B3.out.alloc hbs _) hg1 (by simp; omega) (fun j hj => (hown.lt j hj).1)
          go_wp2
          go_roundw
          case rel =>
            refine ⟨k + 1, by omega, by go_num, ?_, Lib.hid hb2⟩
            unfold Hid Own
            rw [HKS.out]
            simpa using hown'
          case measure => simp [intOf]; omega
        · rw [if_neg hx] at HKS
          rw [decide_eq_false hx] at SM
          clear hx
          go_wp2_with fail
          refine SM.out.mono ?_
          rintro e w4 ⟨rfl, rfl⟩
          go_wp2
          go_roundw
          case rel => exact ⟨k + 1, by omega, by go_num, by rw [HKS.out]; exact O3, B3⟩
          case measure => simp [intOf]; omega
      · obtain rfl : k = N := by omega
        obtain ⟨g, m, cc, rfl⟩ := O2.out.form
        go_wp2
        go_ret
        exact ⟨_, rfl, by rw [HE0.out]; exact O2.out, B2.out⟩
  · have hp2 : poolsB n P = false := by simpa using hp
    have HE : Hid (decS n P S = []) := by unfold Hid decS; rw [if_neg hp]
    rw [hp2] at CP
    obtain ⟨a, c, rfl, -⟩ := h
    obtain ⟨a2, c2, rfl, -⟩ := hs
    unfold ListsS
    generalize decS n P S = r at HE ⊢
    clear hp hp2
    go_enter Try.func21, Try.ntmps21
    go_wp2_with fail
    refine CP.out.mono ?_
    rintro e w1 ⟨rfl, rfl⟩
    go_wp2
    go_ret
    exact ⟨_, rfl, by rw [HE.out]; exact Own.nil _ _, Below.refl _ _⟩
end Go.Proofs.Ytoliloophjeooaa
