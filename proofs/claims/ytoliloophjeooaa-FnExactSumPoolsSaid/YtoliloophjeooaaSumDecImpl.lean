/- The contract of the program's DecodeSums. Conditions: the slices read as integers and are short enough to be counted. -/
import Derived.Test.YtoliloophjeooaaSumTellImpl
namespace Go.Proofs.Ytoliloophjeooaa
open Go.RowKit

set_option maxRecDepth 100000 in
set_option maxHeartbeats 3200000 in
theorem implDecodeS (n : Int) (v vS : Value) (P S : List Int) (w : World) (h : IntsAt w v P) (hS : IntsAt w vS S) (hm : P.length ≤ 1048576) (hms : S.length ≤ 1048576) :
    Calls Try.prog 22 #[.int .i64 n, v, vS] w (ListsS (decS n P S) w) := by
  have CP := Lib.hid (implPoolsOk n v P w h (by unfold maxLen; omega))
  by_cases hp : poolsB n P = true
  · obtain ⟨i0, hi, hz0, hz1, hz2⟩ := info_parts infoIntA
    obtain ⟨⟨n1, n10⟩, hl, hin⟩ := pools_in hp
    have hs4 := (shl_top n1 n10).2
    obtain ⟨N, hN⟩ : ∃ N : Nat, 2 ^ n.toNat = N := ⟨_, rfl⟩
    have hN2 : (2 : Int) ^ n.toNat = (N : Int) := by rw [← hN]; push_cast; rfl
    have hNb : N ≤ 1024 := by omega
    have HE : decS n P S = decK P S N := by unfold decS; rw [if_pos hp, hN]
    rw [hp] at CP
    rw [HE]
    have CA := Lib.hid (implAllS n n1 n10 N hN v P w h hl hin)
    have HAL := Lib.hid (allSL_len P N)
    have HAT := Lib.hid (fun i h => allSL_at P N i h)
    have HK : Hid (∀ k : Nat, decK P S (k + 1) = if sumL P (k : Int) = S then decK P S k ++ [(k : Int)] else decK P S k) := fun _ => rfl
    have HKL := Lib.hid (fun k => decK_len P S k)
    have HSL : Hid (∀ bad, (sumL P bad).length ≤ 1048576) := fun bad => by rw [sumL_len]; omega
    have H := Lib.hid h
    have HS := Lib.hid hS
    have HSM := Lib.hid hms
    obtain ⟨a, c, rfl, -⟩ := h
    obtain ⟨a', c', rfl, -⟩ := hS
    unfold RowsS at CA
    unfold ListsS
    have K0 : Hid (decK P S 0 = []) := rfl
    generalize allSL P N = L at CA HAL HAT
    generalize decK P S = K at HK HKL K0 ⊢
    clear hin hs4 hN hN2 hp HE
    generalize P.length = m at CP CA hm hl H ⊢
    generalize S.length = ms at HS hms ⊢
    go_enter Try.func22, Try.ntmps22
    go_wp2_with fail
    refine CP.out.mono ?_
    rintro e w1 ⟨rfl, rfl⟩
    go_wp2_with fail
    refine CA.out.mono ?_
    rintro e w1 ⟨u, us, rfl, o, bb⟩
    obtain ⟨av, cv, hu, -⟩ := rowsI_cells o
    subst hu
    rw [HAL.out]
    have O := Lib.hid o
    have B := Lib.hid bb
    have HS1 := Lib.hid (HS.out.below bb)
    clear o bb
    have O1 : Hid (Own w1 w1.heap.size (.slice none 0 0) (K 0)) := by unfold Hid; rw [K0.out]; exact Own.nil _ _
    go_wp2
    go_loopw [7, 18] (fun ov kv wr => ∃ k : Nat, k ≤ N ∧ kv = .int .i64 k ∧ Hid (Own wr w1.heap.size ov (K k)) ∧ Hid (Below w1.heap.size w1 wr)) (fun _ kv _ => N - (intOf kv).toNat)
    case atStart => exact ⟨0, Nat.zero_le _, rfl, O1, Lib.hid (Below.refl _ _)⟩
    case round =>
      clear O1
      obtain ⟨k, hk, rfl, O2, B2⟩ := hrel
      by_cases hlt : k < N
      · have hkl : k < L.length := by rw [HAL.out]; exact hlt
        obtain ⟨av', cv', hav, hcell⟩ := rowsI_cells O.out
        obtain ⟨g, u, rfl, e2, IY⟩ := hcell k hkl
        cases hav
        rw [HAT.out k hkl] at IY
        obtain ⟨ay, cy, hu, -⟩ := id IY
        subst hu
        have e3 : wr.cell? ⟨g, k, none⟩ = some (.slice ay (sumL P (k : Int)).length cy) := by rw [B2.out.cell (p := ⟨g, k, none⟩) (World.block_lt_of_cell? w1 _ e2)]; exact e2
        have HSK := Lib.hid (HK.out k)
        have l1 := HSL.out (k : Int)
        have CE := Lib.hid (implEqual _ _ _ _ wr (IY.below B2.out) (HS1.out.below B2.out) l1 HSM.out)
        have hlen := HKL.out k
        generalize sumL P (k : Int) = X at CE HSK e3 IY
        have O3 := Lib.hid O2.out
        obtain ⟨go, mo, co, rfl⟩ := O2.out.form
        generalize K k = KK at O3 hlen HSK
        have k0 : (0 : Int) ≤ (k : Int) := by omega
        have k1 : (k : Int) < (N : Int) := by omega
        clear e2 IY hkl hcell O2 l1
        by_cases hx : X = S
        · rw [decide_eq_true hx] at CE
          have HK2 : Hid (K (k + 1) = KK ++ [(k : Int)]) := by unfold Hid; rw [HSK.out, if_pos hx]
          clear hx
          go_wp2_with fail
          refine CE.out.mono ?_
          rintro e w3 ⟨rfl, q, rfl⟩
          have O4 := Lib.hid (O3.out.below (below_drewN (Below.refl _ _) q))
          have hown := O4.out
          unfold Own at hown
          have hbs : w1.heap.size ≤ wr.heap.size := B2.out.size
          go_wp2_with (at_builtin; refine wpList_append_own _ rfl _ _ 22 rfl w1.heap.size 3 i0 (.int .i64 0) 1 8 Try.underlying22 hi hz0 hz1 hz2 rfl (by decide) _ _ _ rfl (hown.alloc _) ⟨wr.heap.size, 0, none⟩ 1 1 [.int .i64 k] rfl rfl (cell_one_new _ _ _) (by simp [Value.oneCell']) (by unfold maxLen; omega) (by omega) (by simp; omega) ?_; intro v' w2 hown' hg1 _)
          have hb2 := Below.grown ((below_drewN B2.out q).alloc hbs _) hg1 (by simp; omega) (fun j hj => (hown.lt j hj).1)
          go_wp2
          go_roundw
          case rel =>
            refine ⟨k + 1, by omega, by go_num, ?_, Lib.hid hb2⟩
            unfold Hid Own
            rw [HK2.out]
            simpa using hown'
          case measure => simp [intOf]; omega
        · rw [decide_eq_false hx] at CE
          have HK2 : Hid (K (k + 1) = KK) := by unfold Hid; rw [HSK.out, if_neg hx]
          clear hx
          go_wp2_with fail
          refine CE.out.mono ?_
          rintro e w3 ⟨rfl, q, rfl⟩
          go_wp2
          go_roundw
          case rel => exact ⟨k + 1, by omega, by go_num, by rw [HK2.out]; exact Lib.hid (O3.out.below (below_drewN (Below.refl _ _) q)), Lib.hid (below_drewN B2.out q)⟩
          case measure => simp [intOf]; omega
      · obtain rfl : k = N := by omega
        obtain ⟨go, mo, co, rfl⟩ := O2.out.form
        have hsz := B.out.size
        go_wp2
        go_ret
        exact ⟨_, rfl, Own.lower O2.out hsz, below_up B.out B2.out⟩
  · have hp2 : poolsB n P = false := by simpa using hp
    have HE : decS n P S = [] := by unfold decS; rw [if_neg hp]
    rw [hp2] at CP
    rw [HE]
    obtain ⟨a, c, rfl, -⟩ := h
    obtain ⟨a', c', rfl, -⟩ := hS
    unfold ListsS
    clear hp hp2 HE
    go_enter Try.func22, Try.ntmps22
    go_wp2_with fail
    refine CP.out.mono ?_
    rintro e w1 ⟨rfl, rfl⟩
    go_wp2
    go_ret
    exact ⟨_, rfl, Own.nil _ _, Below.refl _ _⟩
end Go.Proofs.Ytoliloophjeooaa
