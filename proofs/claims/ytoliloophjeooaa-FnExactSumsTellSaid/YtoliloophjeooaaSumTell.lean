/- The contracts of the model's SumsTell and ExtendDetecting. Conditions: the slices read as integers. -/
import Derived.Test.YtoliloophjeooaaSumMore
namespace Go.Proofs.Ytoliloophjeooaa
open Go.RowKit

theorem rowsI_cells {w : World} {lo : Nat} {ov : Value} {S : List (List Int)} {us : List Value} (h : RowsI w lo ov S us) :
    ∃ av cv, ov = .slice av S.length cv ∧ ∀ j (hj : j < S.length), ∃ g u, av = some ⟨g, 0, none⟩ ∧ w.cell? ⟨g, j, none⟩ = some u ∧ IntsAt w u S[j] := by
  rcases h.2.1.2 with ⟨h0, hn⟩ | ⟨g, cap, cur, h0, _⟩
  · exact ⟨none, 0, by rw [h0, hn], fun i hi => by omega⟩
  · have h1 := h.2.1
    subst h0
    refine ⟨_, cap, rfl, fun i hi => ?_⟩
    have hi' : i < us.length := by rw [h.1]; exact hi
    exact ⟨g, us[i], rfl, by rw [h1.cellAt i (by omega), List.getElem?_eq_getElem hi'], (h.2.2 i hi hi').1⟩

set_option maxRecDepth 100000 in
set_option maxHeartbeats 3200000 in
theorem specTell (n : Int) (v : Value) (P : List Int) (w : World) (h : IntsAt w v P) (hm : P.length ≤ 1048576) :
    Calls Try.prog 17 #[.int .i64 n, v] w fun e w' => e = .returned (.int .i64 (tellI n P)) ∧ Below w.heap.size w w' := by
  obtain ⟨i0, hi, hz0, hz1, hz2⟩ := info_parts infoLstI
  have CP := Lib.hid (specPoolsOk n v P w h (by unfold maxLen; omega))
  by_cases hp : poolsB n P = true
  · obtain ⟨⟨n1, n10⟩, hl, hin⟩ := pools_in hp
    have HE0 : Hid (tellI n P = ((seenK P (2 ^ n.toNat)).length : Int)) := by unfold Hid tellI; rw [if_pos hp]
    rw [hp] at CP
    obtain ⟨hs1, hs2, hs3, hs4⟩ := shl_top n1 n10
    obtain ⟨N, hN⟩ : ∃ N : Nat, 2 ^ n.toNat = N := ⟨_, rfl⟩
    have hN2 : (2 : Int) ^ n.toNat = (N : Int) := by rw [← hN]; push_cast; rfl
    have hNb : N ≤ 1024 := by omega
    rw [hN2] at hs1
    rw [hN] at HE0
    have CS := Lib.hid (fun (k : Nat) (hk : k ≤ 1023) W hW => specSums v P (k : Int) W hW hm hin (by omega) (by omega))
    have HSL : Hid (∀ bad, (sumL P bad).length ≤ 1048576) := fun bad => by rw [sumL_len]; omega
    have HK : Hid (∀ k, seenK P (k + 1) = if ((seenK P k).any fun x => decide (x = sumL P (k : Int))) = true then seenK P k else seenK P k ++ [sumL P (k : Int)]) := fun _ => rfl
    have HLN := Lib.hid (seenK_len P)
    have HSN : Hid (∀ k, ∀ s ∈ seenK P k, s.length ≤ 1048576) := fun k s hs => by rw [seenK_in P k s hs]; omega
    have H := Lib.hid h
    obtain ⟨a, c, rfl, -⟩ := h
    have A1 := alloc_below w (.cells #[] 22)
    have R1 : Hid (RowsI (w.alloc (.cells #[] 22)) w.heap.size (.slice (some ⟨w.heap.size, 0, none⟩) 0 0) (seenK P 0) []) :=
      ⟨rfl, World.ownsRow_lit (base := w.heap.size) (e := 22) (size := 1) w #[] 0 (Nat.le_refl _) (by unfold maxLen; omega) rfl, fun i h1 _ => by simp [seenK] at h1⟩
    have B1 := Lib.hid A1
    unfold ListsS at CS
    generalize tellI n P = r at HE0 ⊢
    generalize seenK P = K at HE0 HK HLN HSN R1
    clear hs2 hs3 hs4 hN hp hin hl A1
    go_enter Try.func17, Try.ntmps17
    go_wp2_with fail
    refine CP.out.mono ?_
    rintro e w1 ⟨rfl, rfl⟩
    go_wp2_with fail
    go_loopw [5, 6] (fun ov kv wr => ∃ (k : Nat) (us : List Value), k ≤ N ∧ kv = .int .i64 k ∧ Hid (RowsI wr w.heap.size ov (K k) us) ∧ Hid (Below w.heap.size w wr)) (fun _ kv _ => N - (intOf kv).toNat)
    case atStart => exact ⟨0, [], Nat.zero_le _, rfl, R1, B1⟩
    case round =>
      clear R1 B1
      obtain ⟨k, us, hk, rfl, O2, B2⟩ := hrel
      by_cases hlt : k < N
      · have HKS := Lib.hid (HK.out k)
        have hlen := HLN.out k
        have HSK := Lib.hid (HSN.out k)
        have C1 := Lib.hid (CS.out k (by omega))
        have l1 := HSL.out (k : Int)
        have k1 : (k : Int) < (N : Int) := by omega
        generalize K k = S at O2 hlen HKS HSK
        generalize sumL P (k : Int) = X at C1 HKS l1
        obtain ⟨av, cv, hov, -⟩ := rowsI_cells O2.out
        subst hov
        obtain ⟨m, hmS⟩ : ∃ m, S.length = m := ⟨_, rfl⟩
        have HMS := Lib.hid hmS
        rw [hmS] at O2 hlen ⊢
        clear hmS
        go_wp2_with fail
        refine (C1.out _ (H.out.below B2.out)).mono ?_
        rintro e w3 ⟨u, rfl, ou, bb⟩
        have B3 := Lib.hid (below_up B2.out bb)
        have O3 := Lib.hid (O2.out.below bb)
        have OU := Lib.hid ou.reads
        have BU : Hid (Blk (fun b => (Value.slice av m cv).ownBlock ≠ some b ∧ b < w3.heap.size) u) := fun b hb => by
          have h1 := owns_blk ou b hb
          exact ⟨fun e => by have h2 := (O2.out.2.1.lt b e).2; omega, h1.2⟩
        have HROW : Hid (∀ j (hj : j < S.length), ∃ g u, av = some ⟨g, 0, none⟩ ∧ w3.cell? ⟨g, j, none⟩ = some u ∧ IntsAt w3 u S[j]) := by
          obtain ⟨av', cv', e, hr⟩ := rowsI_cells O3.out
          cases e
          exact hr
        obtain ⟨gu, nu, cu, rfl⟩ := ou.form
        clear ou bb B2 O2
        go_wp2
        go_loopw [8, 27] (fun fv jv ws => ∃ j : Nat, j ≤ m ∧ jv = .int .i64 j ∧ fv = .bool ((S.take j).any fun y => decide (y = X)) ∧ ws = w3) (fun _ jv _ => m - (intOf jv).toNat)
        case atStart => exact ⟨0, Nat.zero_le _, rfl, rfl, rfl⟩
        case round =>
          obtain ⟨j, hj, rfl, rfl, rfl⟩ := hrel
          by_cases hjm : j < m
          · have hjl : j < S.length := by rw [HMS.out]; exact hjm
            obtain ⟨g, u, hav, e2, IY⟩ := HROW.out j hjl
            have hyl := HSK.out S[j] (List.getElem_mem hjl)
            have HA := any_takeI (s := X) hjl
            obtain ⟨y, hy⟩ : ∃ y, S[j] = y := ⟨_, rfl⟩
            rw [hy] at IY hyl HA
            obtain ⟨ay, cy, hu, -⟩ := id IY
            subst hu hav
            have SM := Lib.hid (specSameI _ _ y X wr IY OU.out hyl l1)
            have j0 : (0 : Int) ≤ (j : Int) := by omega
            have j1 : (j : Int) < (m : Int) := by omega
            have HAA := Lib.hid HA
            generalize ((S.take j).any fun y => decide (y = X)) = t1 at HAA ⊢
            generalize decide (y = X) = t3 at HAA SM
            clear IY HA hy hjl hyl
            cases t1 with
            | true =>
              have HT : Hid (((S.take (j + 1)).any fun y => decide (y = X)) = true) := by unfold Hid; rw [HAA.out]; rfl
              go_wp2
              go_roundw
              case rel => exact ⟨j + 1, by omega, by go_num, by rw [HT.out], by first | rfl | trivial⟩
              case measure => simp [intOf]; omega
            | false =>
              have HT : Hid (((S.take (j + 1)).any fun y => decide (y = X)) = t3) := by unfold Hid; rw [HAA.out]; rfl
              go_wp2_with fail
              refine SM.out.mono ?_
              rintro e w5 ⟨rfl, rfl⟩
              go_wp2
              go_roundw
              case rel => exact ⟨j + 1, by omega, by go_num, by rw [HT.out], by first | rfl | trivial⟩
              case measure => simp [intOf]; omega
          · obtain rfl : j = m := by omega
            rw [List.take_of_length_le (by rw [HMS.out]; exact Nat.le_refl _)]
            obtain ⟨t, ht⟩ : ∃ t, (S.any fun y => decide (y = X)) = t := ⟨_, rfl⟩
            rw [ht] at HKS ⊢
            clear ht
            cases t with
            | true =>
              have HK2 : Hid (K (k + 1) = S) := HKS.out
              go_wp2
              go_roundw
              case rel => exact ⟨k + 1, us, by omega, by go_num, by rw [HK2.out]; exact O3, B3⟩
              case measure => simp [intOf]; omega
            | false =>
              have HK2 : Hid (K (k + 1) = S ++ [X]) := HKS.out
              have A4 := Lib.hid (alloc_below wr (.cells #[.slice gu nu cu] 22))
              have OX := Lib.hid (O3.out.below A4.out)
              have OXR : Hid ((wr.alloc (.cells #[.slice gu nu cu] 22)).ownsRow w.heap.size 22 1 (.slice av j cv) j us) := by
                have := OX.out.2.1
                rw [HMS.out] at this
                exact this
              have hsz2 : w.heap.size ≤ (wr.alloc (.cells #[.slice gu nu cu] 22)).heap.size := by have := B3.out.size; simp; omega
              go_wp2_with (at_builtin; refine wpList_append_own_at _ rfl _ _ 49 rfl w.heap.size 22 i0 (.slice none 0 0) 1 24 Try.underlying49 hi hz0 hz1 hz2 rfl (by decide) (.slice av j cv) j us rfl OXR.out ⟨wr.heap.size, 0, none⟩ 1 1 [.slice gu nu cu] rfl rfl (cell_one_new _ _ _) (by simp [Value.oneCell']) (by unfold maxLen; omega) (by omega) hsz2 ?_; intro v' w6 hown' hg1 _ hat; have hg2 : (wr.alloc (.cells #[.slice gu nu cu] 22)).grownBy w6 (Value.slice av j cv).ownBlock := hg1; have HG2 := Lib.hid hg2; have HO2 := Lib.hid hown'; have HAT := Lib.hid hat; clear hg1 hg2 hown' hat)
              have O6 : Hid (RowsI w6 w.heap.size v' (S ++ [X]) (us ++ [.slice gu nu cu])) := OX.out.push HG2.out (by rw [HMS.out]; exact HO2.out) HAT.out (OU.out.below A4.out) (fun q hq => ⟨(BU.out q hq).1, Nat.lt_of_lt_of_le (BU.out q hq).2 A4.out.size⟩)
              have B6 := Lib.hid (Below.grown (below_up B3.out A4.out) HG2.out hsz2 (fun q hq => by have := (OXR.out.lt q hq).1; omega))
              rw [← HK2.out] at O6
              go_wp2
              go_roundw
              case rel => exact ⟨k + 1, us ++ [.slice gu nu cu], by omega, by go_num, O6, B6⟩
              case measure => simp [intOf]; omega
      · obtain rfl : k = N := by omega
        obtain ⟨av, cv, hov, -⟩ := rowsI_cells O2.out
        subst hov
        generalize K k = S at O2 HE0
        go_wp2
        go_ret
        exact ⟨ret_int HE0.out.symm, B2.out⟩
  · have hp2 : poolsB n P = false := by simpa using hp
    have HE : Hid (tellI n P = -1) := by unfold Hid tellI; rw [if_neg hp]
    rw [hp2] at CP
    obtain ⟨a, c, rfl, -⟩ := h
    generalize tellI n P = r at HE ⊢
    clear hp hp2
    go_enter Try.func17, Try.ntmps17
    go_wp2_with fail
    refine CP.out.mono ?_
    rintro e w1 ⟨rfl, rfl⟩
    go_wp2
    go_ret
    exact ⟨ret_int HE.out.symm, Below.refl _ _⟩
end Go.Proofs.Ytoliloophjeooaa
