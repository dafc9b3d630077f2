/- The contracts of slices.Equal on integers and of the program's tells. Conditions: the walks lie in memory, their outcomes are short; a contract of the function that answers. -/
import Derived.Test.YtipbjioghicmlaaWalks
import Derived.Test.YtipbjioghicmlaaTurnSpec
import Derived.Deep.QuietTactic
namespace Go.Proofs.Ytipbjioghicmlaa
open Go.RowKit

set_option maxHeartbeats 1600000 in
theorem implEqual (u v : Value) (A B : List Int) (w : World) (h1 : IntsAt w u A) (h2 : IntsAt w v B) (m1 : A.length ≤ 1048576) (m2 : B.length ≤ 1048576) :
    Calls Try.prog 78 #[u, v] w fun e w' => e = .returned (.bool (decide (A = B))) ∧ ∃ m, w' = w.drewN m := by
  obtain ⟨a1, c1, rfl, h1⟩ := h1
  obtain ⟨a2, c2, rfl, h2⟩ := h2
  have H1 : Hid (∀ i (h : i < A.length), ∃ b o, a1 = some ⟨b, o, none⟩ ∧ w.cell? ⟨b, o + i, none⟩ = some (.int .i64 A[i])) := by
    intro i hi
    rcases h1 with rfl | ⟨b, o, rfl, hc⟩
    · simp at hi
    · exact ⟨b, o, rfl, hc i hi⟩
  have H2 : Hid (∀ i (h : i < B.length), ∃ b o, a2 = some ⟨b, o, none⟩ ∧ w.cell? ⟨b, o + i, none⟩ = some (.int .i64 B[i])) := by
    intro i hi
    rcases h2 with rfl | ⟨b, o, rfl, hc⟩
    · simp at hi
    · exact ⟨b, o, rfl, hc i hi⟩
  clear h1 h2
  by_cases hl : A.length = B.length
  · obtain ⟨r, hr⟩ : ∃ r, decide (A = B) = r := ⟨_, rfl⟩
    have HR := Lib.hid hr
    rw [hr]
    clear hr
    obtain ⟨n, hn⟩ : ∃ n, A.length = n := ⟨_, rfl⟩
    have hm : B.length = n := by omega
    have HN := Lib.hid hn
    have HM := Lib.hid hm
    rw [hn] at m1 ⊢
    rw [hm]
    clear hn hm hl m2
    have hne : ((n : Int) != (n : Int)) = false := by simp
    go_enter Try.func78, Try.ntmps78
    go_wp2
    go_loopw [5, 13] (fun _ i wr => ∃ k m : Nat, k ≤ n ∧ i = .int .i64 k ∧ Hid (A.take k = B.take k) ∧ wr = w.drewN m) (fun _ i _ => n - (intOf i).toNat)
    case atStart => exact ⟨0, 0, Nat.zero_le _, rfl, by simp [Hid], rfl⟩
    case round =>
      obtain ⟨k, m, hk, rfl, HF, rfl⟩ := hrel
      by_cases hlt : k < n
      · have k1 : k < A.length := by rw [HN.out]; exact hlt
        have k2 : k < B.length := by rw [HM.out]; exact hlt
        obtain ⟨b, o, rfl, e0⟩ := H1.out k k1
        obtain ⟨b', o', rfl, e1⟩ := H2.out k k2
        have hst : A.take (k + 1) = A.take k ++ [A[k]] := List.take_succ_eq_append_getElem k1
        have hsu : B.take (k + 1) = B.take k ++ [B[k]] := List.take_succ_eq_append_getElem k2
        have hno : A[k] ≠ B[k] → r = false := fun h => by
          rw [← HR.out]
          refine decide_eq_false fun e => h ?_
          subst e; rfl
        obtain ⟨x, hx⟩ : ∃ x, A[k] = x := ⟨_, rfl⟩
        obtain ⟨y, hy⟩ : ∃ y, B[k] = y := ⟨_, rfl⟩
        rw [hx] at e0 hst hno
        rw [hy] at e1 hsu hno
        have i0 : (0 : Int) ≤ (k : Int) := by omega
        have i1 : (k : Int) < (n : Int) := by omega
        clear hx hy k1 k2 hne
        by_cases hxy : x = y
        · subst hxy
          have HF2 : Hid (A.take (k + 1) = B.take (k + 1)) := by unfold Hid; rw [hst, hsu, HF.out]
          have hnx : (x != x) = false := by simp
          clear hst hsu hno
          go_wp2
          go_quiet (fail)
          go_wp2
          go_roundw
          case rel => exact ⟨k + 1, _, by omega, by go_num, HF2, rfl⟩
          case measure => simp [intOf]; omega
        · have hne : (x != y) = true := by simp [hxy]
          have HF2 := Lib.hid (hno hxy)
          clear hst hsu hno
          go_wp2
          go_quiet (fail)
          go_wp2
          go_ret
          exact ⟨ret_bool HF2.out.symm, _, World.drewN_drewN ..⟩
      · have HF2 : Hid (r = true) := by
          unfold Hid
          rw [← HR.out]
          have := HF.out
          rw [List.take_of_length_le (by rw [HN.out]; omega), List.take_of_length_le (by rw [HM.out]; omega)] at this
          exact decide_eq_true this
        clear hne
        go_wp2
        go_ret
        exact ⟨ret_bool HF2.out.symm, _, rfl⟩
  · have HE : Hid (decide (A = B) = false) := decide_eq_false fun e => hl (by rw [e])
    generalize decide (A = B) = r at HE ⊢
    clear H1 H2
    generalize A.length = n1 at *
    generalize B.length = n2 at *
    have hne : ((n1 : Int) != (n2 : Int)) = true := by simp; omega
    go_enter Try.func78, Try.ntmps78
    go_wp2
    go_ret
    exact ⟨ret_bool HE.out.symm, 0, rfl⟩

/-- Whether two cases have different answers and the same outcomes. -/
def clashF (F : Int → List Int) (ans : Int → Int) (x y : Int) : Bool := !(ans x == ans y) && decide (F x = F y)
theorem clash_no {F : Int → List Int} {ans : Int → Int} {x y : Int} (h : decide (F x = F y) = false) : clashF F ans x y = false := by unfold clashF; rw [h, Bool.and_false]
theorem clash_yes {F : Int → List Int} {ans : Int → Int} {x y : Int} (h : decide (F x = F y) = true) : clashF F ans x y = !(ans x == ans y) := by unfold clashF; rw [h, Bool.and_true]

set_option maxRecDepth 100000 in
set_option maxHeartbeats 6400000 in
theorem implTellsCase (v : Value) (cs : List Int) (F : Int → List Int) (ans : Int → Int) (w : World) (h : WalksAt w v cs F) (hm : cs.length ≤ 1000) (hF : ∀ c ∈ cs, (F c).length ≤ 1048576)
    (hA : ∀ c ∈ cs, ∀ W, Calls Try.prog 57 #[.int .i64 c] W fun e w' => e = .returned (.int .i64 (ans c)) ∧ W = w') :
    Calls Try.prog 56 #[v, .func (.func 57) #[] #[]] w fun e w' => e = .returned (.bool (pairsF (clashF F ans) [] cs && decide (0 < cs.length))) ∧ Below w.heap.size w w' := by
  obtain ⟨r, hr⟩ : ∃ r, (pairsF (clashF F ans) [] cs && decide (0 < cs.length)) = r := ⟨_, rfl⟩
  rw [hr]
  obtain ⟨a, cap, rfl, hcap, h⟩ := h
  obtain ⟨t0, ht0⟩ : ∃ t0, decide (0 < cs.length) = t0 := ⟨_, rfl⟩
  have HT0 := Lib.hid ht0
  rw [ht0] at hr
  have HE : Hid (r = (pairsF (clashF F ans) (cs.take 0) (cs.drop 0) && t0)) := hr.symm
  have H := Lib.hid h
  have HA := Lib.hid hA
  have HF := Lib.hid hF
  clear h hA hF hr ht0
  obtain ⟨n, hn⟩ : ∃ n, cs.length = n := ⟨_, rfl⟩
  rw [hn] at hm hcap HT0 ⊢
  have HN := Lib.hid hn
  clear hn
  go_enter Try.func56, Try.ntmps56
  go_wp2
  go_loopw [5, 6, 8, 11] (fun _ _ _ i wr => ∃ k : Nat, k ≤ n ∧ i = .int .i64 k ∧ Hid (r = (pairsF (clashF F ans) (cs.take k) (cs.drop k) && t0)) ∧ Below w.heap.size w wr) (fun _ _ _ i _ => n - (intOf i).toNat)
  case atStart => exact ⟨0, Nat.zero_le _, rfl, HE, Below.refl _ _⟩
  case round =>
    clear HE
    obtain ⟨k, hk, rfl, HS, hb⟩ := hrel
    have HB := Lib.hid hb
    have hbs := hb.size
    clear hb
    by_cases hlt : k < n
    · have hkl : k < cs.length := by rw [HN.out]; exact hlt
      obtain ⟨g, u, rfl, h1, h2, hu, hg⟩ := H.out k hkl
      have hfx := HF.out _ (List.getElem_mem hkl)
      have HAX := Lib.hid (HA.out _ (List.getElem_mem hkl))
      obtain ⟨x, hx⟩ : ∃ x, cs[k] = x := ⟨_, rfl⟩
      have HST : Hid (r = (rowB (clashF F ans) x ((cs.take k).drop 0) && (pairsF (clashF F ans) (cs.take (k + 1)) (cs.drop (k + 1)) && t0))) := by
        unfold Hid
        rw [HS.out, List.drop_eq_getElem_cons hkl, List.take_succ_eq_append_getElem hkl, hx, ← Bool.and_assoc]; rfl
      rw [hx] at h1 hu hfx HAX
      obtain ⟨au, nu, cu, rfl⟩ := hu.form
      have e0 : wr.cell? ⟨g, k * 2, none⟩ = some (.int .i64 x) := by rw [HB.out.cell (p := ⟨g, k * 2, none⟩) hg]; exact h1
      have e1 : wr.cell? ⟨g, k * 2 + 1, none⟩ = some (.slice au nu cu) := by rw [HB.out.cell (p := ⟨g, k * 2 + 1, none⟩) hg]; exact h2
      obtain ⟨q, hq⟩ : ∃ q, (pairsF (clashF F ans) (cs.take (k + 1)) (cs.drop (k + 1)) && t0) = q := ⟨_, rfl⟩
      have HQ := Lib.hid hq
      rw [hq] at HST
      have IX := Lib.hid hu
      have P3 := Lib.hid (TwoAt.new wr 67 (.int .i64 x) (.slice au nu cu))
      have B3 := Lib.hid (alloc_below wr (.cells #[.int .i64 x, .slice au nu cu] 67))
      generalize hX3 : wr.alloc (.cells #[.int .i64 x, .slice au nu cu] 67) = X3 at P3 B3
      have BX := Lib.hid (below_up HB.out B3.out)
      have i0 : (0 : Int) ≤ (k : Int) := by omega
      have i1 : (k : Int) < (n : Int) := by omega
      have i2 : ¬ (cap : Int) < (k : Int) := by omega
      have i3 : k ≤ cap := by omega
      clear h1 h2 hu hx hkl hq HS
      go_wp2
      clear e0 e1
      obtain ⟨wo, hwo⟩ : ∃ wo : World, wo = wr := ⟨_, rfl⟩
      subst hwo
      go_loopw [8, 20] (fun _ jv ws => ∃ j : Nat, j ≤ k ∧ jv = .int .i64 j ∧ Hid (r = (rowB (clashF F ans) x ((cs.take k).drop j) && q)) ∧ Hid (TwoAt ws wo.heap.size (.int .i64 x) (.slice au nu cu)) ∧ Below w.heap.size w ws) (fun _ jv _ => k - (intOf jv).toNat)
      case atStart => exact ⟨0, Nat.zero_le _, rfl, HST, P3, BX.out⟩
      case round =>
        clear HST P3 BX B3 hX3
        obtain ⟨j, hj, rfl, HST, P5, hb5⟩ := hrel
        have HB5 := Lib.hid hb5
        clear hb5
        by_cases hjk : j < k
        · have hjl : j < cs.length := by rw [HN.out]; omega
          obtain ⟨g', u', hgg, h1, h2, hu', hg'⟩ := H.out j hjl
          cases hgg
          have hfy := HF.out _ (List.getElem_mem hjl)
          have HAY := Lib.hid (HA.out _ (List.getElem_mem hjl))
          have hjt : j < (cs.take k).length := by simp; omega
          have hgt : (cs.take k)[j] = cs[j] := by simp
          obtain ⟨y, hy⟩ : ∃ y, cs[j] = y := ⟨_, rfl⟩
          have HST2 : Hid (r = ((!(clashF F ans) x y && rowB (clashF F ans) x ((cs.take k).drop (j + 1))) && q)) := by
            unfold Hid
            rw [HST.out, List.drop_eq_getElem_cons hjt, hgt, hy]; rfl
          rw [hy] at h1 hu' hfy HAY
          obtain ⟨av, nv, cv, rfl⟩ := hu'.form
          have e0 : wr.cell? ⟨g, j * 2, none⟩ = some (.int .i64 y) := by rw [HB5.out.cell (p := ⟨g, j * 2, none⟩) hg]; exact h1
          have e1 : wr.cell? ⟨g, j * 2 + 1, none⟩ = some (.slice av nv cv) := by rw [HB5.out.cell (p := ⟨g, j * 2 + 1, none⟩) hg]; exact h2
          have P6 := Lib.hid (TwoAt.new wr 67 (.int .i64 y) (.slice av nv cv))
          have B6 := Lib.hid (alloc_below wr (.cells #[.int .i64 y, .slice av nv cv] 67))
          generalize hX6 : wr.alloc (.cells #[.int .i64 y, .slice av nv cv] 67) = X6 at P6 B6
          have Q5 := Lib.hid (P5.out.below B6.out)
          have BX := Lib.hid (below_up HB5.out B6.out)
          have I1 := Lib.hid (IX.out.below BX.out)
          have I2 := Lib.hid (hu'.below BX.out)
          have EQ := Lib.hid (fun m => implEqual (.slice au nu cu) (.slice av nv cv) (F x) (F y) (X6.drewN m) (I1.out.drewN m) (I2.out.drewN m) hfx hfy)
          have HCL : Hid (clashF F ans x y = (!(ans x == ans y) && decide (F x = F y))) := rfl
          generalize clashF F ans x y = cl at HCL HST2
          generalize decide (F x = F y) = tt at EQ HCL
          generalize ans x = ax at HAX HCL
          generalize ans y = ay at HAY HCL
          have j0 : (0 : Int) ≤ (j : Int) := by omega
          have j1 : (j : Int) < (k : Int) := by omega
          obtain ⟨f0, f1, -⟩ := Q5.out
          obtain ⟨d0, d1, -⟩ := P6.out
          clear h1 h2 hu' hy hjl hjt hgt HST
          cases tt with
          | false =>
            have HR : Hid (r = (rowB (clashF F ans) x ((cs.take k).drop (j + 1)) && q)) := by unfold Hid; rw [HST2.out, HCL.out, Bool.and_false]; rfl
            clear HCL HST2
            go_wp2
            go_quiet (first | (go_at_call 78; exact Calls.quiet_of (EQ.out _)) | fail)
            go_wp2
            go_roundw
            case rel => exact ⟨j + 1, by omega, by go_num, HR, Q5.out.below (below_drewN (Below.refl _ _) _), below_drewN BX.out _⟩
            case measure => simp [intOf]; omega
          | true =>
            by_cases hxy : ax = ay
            · subst hxy
              have hne : (ax != ax) = false := by simp
              have HR : Hid (r = (rowB (clashF F ans) x ((cs.take k).drop (j + 1)) && q)) := by unfold Hid; rw [HST2.out, HCL.out]; simp
              clear HCL HST2
              go_wp2
              go_quiet (first | (go_at_call 78; exact Calls.quiet_of (EQ.out _)) | (go_at_call 57; exact quiet_of (HAX.out _)) | (go_at_call 57; exact quiet_of (HAY.out _)) | fail)
              go_wp2
              go_roundw
              case rel => exact ⟨j + 1, by omega, by go_num, HR, Q5.out.below (below_drewN (Below.refl _ _) _), below_drewN BX.out _⟩
              case measure => simp [intOf]; omega
            · have hne : (ax != ay) = true := by simp [hxy]
              have HR : Hid (r = false) := by unfold Hid; rw [HST2.out, HCL.out, beq_eq_false_iff_ne.2 hxy]; rfl
              clear HCL HST2
              go_wp2
              go_quiet (first | (go_at_call 78; exact Calls.quiet_of (EQ.out _)) | (go_at_call 57; exact quiet_of (HAX.out _)) | (go_at_call 57; exact quiet_of (HAY.out _)) | fail)
              go_wp2
              go_ret
              exact ⟨ret_bool HR.out.symm, below_drewN BX.out _⟩
        · have HR : Hid (r = (pairsF (clashF F ans) (cs.take (k + 1)) (cs.drop (k + 1)) && t0)) := by
            unfold Hid
            rw [HST.out, HQ.out, List.drop_of_length_le (by simp; omega)]; rfl
          go_wp2
          go_roundw
          case rel => exact ⟨k + 1, by omega, by go_num, HR, HB5.out⟩
          case measure => simp [intOf]; omega
    · have HR : Hid (r = t0) := by
        unfold Hid
        rw [HS.out, List.drop_of_length_le (by rw [HN.out]; omega)]; rfl
      have HZ : Hid (decide (0 < n) = r) := by unfold Hid; rw [HR.out, HT0.out]
      go_wp2
      go_ret
      exact ⟨ret_bool HZ.out, HB.out⟩

set_option maxRecDepth 100000 in
set_option maxHeartbeats 6400000 in
theorem implTellsCoin (v : Value) (cs : List Int) (F : Int → List Int) (ans : Int → Int) (w : World) (h : WalksAt w v cs F) (hm : cs.length ≤ 1000) (hF : ∀ c ∈ cs, (F c).length ≤ 1048576)
    (hA : ∀ c ∈ cs, ∀ W, Calls Try.prog 52 #[.int .i64 c] W fun e w' => e = .returned (.int .i64 (ans c)) ∧ W = w') :
    Calls Try.prog 56 #[v, .func (.func 52) #[] #[]] w fun e w' => e = .returned (.bool (pairsF (clashF F ans) [] cs && decide (0 < cs.length))) ∧ Below w.heap.size w w' := by
  obtain ⟨r, hr⟩ : ∃ r, (pairsF (clashF F ans) [] cs && decide (0 < cs.length)) = r := ⟨_, rfl⟩
  rw [hr]
  obtain ⟨a, cap, rfl, hcap, h⟩ := h
  obtain ⟨t0, ht0⟩ : ∃ t0, decide (0 < cs.length) = t0 := ⟨_, rfl⟩
  have HT0 := Lib.hid ht0
  rw [ht0] at hr
  have HE : Hid (r = (pairsF (clashF F ans) (cs.take 0) (cs.drop 0) && t0)) := hr.symm
  have H := Lib.hid h
  have HA := Lib.hid hA
  have HF := Lib.hid hF
  clear h hA hF hr ht0
  obtain ⟨n, hn⟩ : ∃ n, cs.length = n := ⟨_, rfl⟩
  rw [hn] at hm hcap HT0 ⊢
  have HN := Lib.hid hn
  clear hn
  go_enter Try.func56, Try.ntmps56
  go_wp2
  go_loopw [5, 6, 8, 11] (fun _ _ _ i wr => ∃ k : Nat, k ≤ n ∧ i = .int .i64 k ∧ Hid (r = (pairsF (clashF F ans) (cs.take k) (cs.drop k) && t0)) ∧ Below w.heap.size w wr) (fun _ _ _ i _ => n - (intOf i).toNat)
  case atStart => exact ⟨0, Nat.zero_le _, rfl, HE, Below.refl _ _⟩
  case round =>
    clear HE
    obtain ⟨k, hk, rfl, HS, hb⟩ := hrel
    have HB := Lib.hid hb
    have hbs := hb.size
    clear hb
    by_cases hlt : k < n
    · have hkl : k < cs.length := by rw [HN.out]; exact hlt
      obtain ⟨g, u, rfl, h1, h2, hu, hg⟩ := H.out k hkl
      have hfx := HF.out _ (List.getElem_mem hkl)
      have HAX := Lib.hid (HA.out _ (List.getElem_mem hkl))
      obtain ⟨x, hx⟩ : ∃ x, cs[k] = x := ⟨_, rfl⟩
      have HST : Hid (r = (rowB (clashF F ans) x ((cs.take k).drop 0) && (pairsF (clashF F ans) (cs.take (k + 1)) (cs.drop (k + 1)) && t0))) := by
        unfold Hid
        rw [HS.out, List.drop_eq_getElem_cons hkl, List.take_succ_eq_append_getElem hkl, hx, ← Bool.and_assoc]; rfl
      rw [hx] at h1 hu hfx HAX
      obtain ⟨au, nu, cu, rfl⟩ := hu.form
      have e0 : wr.cell? ⟨g, k * 2, none⟩ = some (.int .i64 x) := by rw [HB.out.cell (p := ⟨g, k * 2, none⟩) hg]; exact h1
      have e1 : wr.cell? ⟨g, k * 2 + 1, none⟩ = some (.slice au nu cu) := by rw [HB.out.cell (p := ⟨g, k * 2 + 1, none⟩) hg]; exact h2
      obtain ⟨q, hq⟩ : ∃ q, (pairsF (clashF F ans) (cs.take (k + 1)) (cs.drop (k + 1)) && t0) = q := ⟨_, rfl⟩
      have HQ := Lib.hid hq
      rw [hq] at HST
      have IX := Lib.hid hu
      have P3 := Lib.hid (TwoAt.new wr 67 (.int .i64 x) (.slice au nu cu))
      have B3 := Lib.hid (alloc_below wr (.cells #[.int .i64 x, .slice au nu cu] 67))
      generalize hX3 : wr.alloc (.cells #[.int .i64 x, .slice au nu cu] 67) = X3 at P3 B3
      have BX := Lib.hid (below_up HB.out B3.out)
      have i0 : (0 : Int) ≤ (k : Int) := by omega
      have i1 : (k : Int) < (n : Int) := by omega
      have i2 : ¬ (cap : Int) < (k : Int) := by omega
      have i3 : k ≤ cap := by omega
      clear h1 h2 hu hx hkl hq HS
      go_wp2
      clear e0 e1
      obtain ⟨wo, hwo⟩ : ∃ wo : World, wo = wr := ⟨_, rfl⟩
      subst hwo
      go_loopw [8, 20] (fun _ jv ws => ∃ j : Nat, j ≤ k ∧ jv = .int .i64 j ∧ Hid (r = (rowB (clashF F ans) x ((cs.take k).drop j) && q)) ∧ Hid (TwoAt ws wo.heap.size (.int .i64 x) (.slice au nu cu)) ∧ Below w.heap.size w ws) (fun _ jv _ => k - (intOf jv).toNat)
      case atStart => exact ⟨0, Nat.zero_le _, rfl, HST, P3, BX.out⟩
      case round =>
        clear HST P3 BX B3 hX3
        obtain ⟨j, hj, rfl, HST, P5, hb5⟩ := hrel
        have HB5 := Lib.hid hb5
        clear hb5
        by_cases hjk : j < k
        · have hjl : j < cs.length := by rw [HN.out]; omega
          obtain ⟨g', u', hgg, h1, h2, hu', hg'⟩ := H.out j hjl
          cases hgg
          have hfy := HF.out _ (List.getElem_mem hjl)
          have HAY := Lib.hid (HA.out _ (List.getElem_mem hjl))
          have hjt : j < (cs.take k).length := by simp; omega
          have hgt : (cs.take k)[j] = cs[j] := by simp
          obtain ⟨y, hy⟩ : ∃ y, cs[j] = y := ⟨_, rfl⟩
          have HST2 : Hid (r = ((!(clashF F ans) x y && rowB (clashF F ans) x ((cs.take k).drop (j + 1))) && q)) := by
            unfold Hid
            rw [HST.out, List.drop_eq_getElem_cons hjt, hgt, hy]; rfl
          rw [hy] at h1 hu' hfy HAY
          obtain ⟨av, nv, cv, rfl⟩ := hu'.form
          have e0 : wr.cell? ⟨g, j * 2, none⟩ = some (.int .i64 y) := by rw [HB5.out.cell (p := ⟨g, j * 2, none⟩) hg]; exact h1
          have e1 : wr.cell? ⟨g, j * 2 + 1, none⟩ = some (.slice av nv cv) := by rw [HB5.out.cell (p := ⟨g, j * 2 + 1, none⟩) hg]; exact h2
          have P6 := Lib.hid (TwoAt.new wr 67 (.int .i64 y) (.slice av nv cv))
          have B6 := Lib.hid (alloc_below wr (.cells #[.int .i64 y, .slice av nv cv] 67))
          generalize hX6 : wr.alloc (.cells #[.int .i64 y, .slice av nv cv] 67) = X6 at P6 B6
          have Q5 := Lib.hid (P5.out.below B6.out)
          have BX := Lib.hid (below_up HB5.out B6.out)
          have I1 := Lib.hid (IX.out.below BX.out)
          have I2 := Lib.hid (hu'.below BX.out)
          have EQ := Lib.hid (fun m => implEqual (.slice au nu cu) (.slice av nv cv) (F x) (F y) (X6.drewN m) (I1.out.drewN m) (I2.out.drewN m) hfx hfy)
          have HCL : Hid (clashF F ans x y = (!(ans x == ans y) && decide (F x = F y))) := rfl
          generalize clashF F ans x y = cl at HCL HST2
          generalize decide (F x = F y) = tt at EQ HCL
          generalize ans x = ax at HAX HCL
          generalize ans y = ay at HAY HCL
          have j0 : (0 : Int) ≤ (j : Int) := by omega
          have j1 : (j : Int) < (k : Int) := by omega
          obtain ⟨f0, f1, -⟩ := Q5.out
          obtain ⟨d0, d1, -⟩ := P6.out
          clear h1 h2 hu' hy hjl hjt hgt HST
          cases tt with
          | false =>
            have HR : Hid (r = (rowB (clashF F ans) x ((cs.take k).drop (j + 1)) && q)) := by unfold Hid; rw [HST2.out, HCL.out, Bool.and_false]; rfl
            clear HCL HST2
            go_wp2
            go_quiet (first | (go_at_call 78; exact Calls.quiet_of (EQ.out _)) | fail)
            go_wp2
            go_roundw
            case rel => exact ⟨j + 1, by omega, by go_num, HR, Q5.out.below (below_drewN (Below.refl _ _) _), below_drewN BX.out _⟩
            case measure => simp [intOf]; omega
          | true =>
            by_cases hxy : ax = ay
            · subst hxy
              have hne : (ax != ax) = false := by simp
              have HR : Hid (r = (rowB (clashF F ans) x ((cs.take k).drop (j + 1)) && q)) := by unfold Hid; rw [HST2.out, HCL.out]; simp
              clear HCL HST2
              go_wp2
              go_quiet (first | (go_at_call 78; exact Calls.quiet_of (EQ.out _)) | (go_at_call 52; exact quiet_of (HAX.out _)) | (go_at_call 52; exact quiet_of (HAY.out _)) | fail)
              go_wp2
              go_roundw
              case rel => exact ⟨j + 1, by omega, by go_num, HR, Q5.out.below (below_drewN (Below.refl _ _) _), below_drewN BX.out _⟩
              case measure => simp [intOf]; omega
            · have hne : (ax != ay) = true := by simp [hxy]
              have HR : Hid (r = false) := by unfold Hid; rw [HST2.out, HCL.out, beq_eq_false_iff_ne.2 hxy]; rfl
              clear HCL HST2
              go_wp2
              go_quiet (first | (go_at_call 78; exact Calls.quiet_of (EQ.out _)) | (go_at_call 52; exact quiet_of (HAX.out _)) | (go_at_call 52; exact quiet_of (HAY.out _)) | fail)
              go_wp2
              go_ret
              exact ⟨ret_bool HR.out.symm, below_drewN BX.out _⟩
        · have HR : Hid (r = (pairsF (clashF F ans) (cs.take (k + 1)) (cs.drop (k + 1)) && t0)) := by
            unfold Hid
            rw [HST.out, HQ.out, List.drop_of_length_le (by simp; omega)]; rfl
          go_wp2
          go_roundw
          case rel => exact ⟨k + 1, by omega, by go_num, HR, HB5.out⟩
          case measure => simp [intOf]; omega
    · have HR : Hid (r = t0) := by
        unfold Hid
        rw [HS.out, List.drop_of_length_le (by rw [HN.out]; omega)]; rfl
      have HZ : Hid (decide (0 < n) = r) := by unfold Hid; rw [HR.out, HT0.out]
      go_wp2
      go_ret
      exact ⟨ret_bool HZ.out, HB.out⟩
end Go.Proofs.Ytipbjioghicmlaa
