/- The contract of slices.CompactFunc with slices.Equal at lists of integers, as far as the length of what it returns goes. Conditions: a row of the call's own of at most 1024 lists, each short enough to be counted, in other blocks than the row. -/
import Derived.Test.YtoliloophjeooaaSumSort
namespace Go.Proofs.Ytoliloophjeooaa
open Go.RowKit

theorem grownBy_setCells {w : World} {g : Nat} : ∀ (vs : List Value) (o : Nat) (w' : World), w.grownBy w' (some g) → w.grownBy (w'.setCells g o vs) (some g)
  | [], _, _, h => h
  | v :: r, o, _, h => grownBy_setCells r (o + 1) _ (grown_set h o v)
theorem grown_drewS {w w' : World} {row : Option Nat} (h : w.grownBy w' row) (n : Nat) : w.grownBy (w'.drewN n) row := ⟨h.os, h.tape, h.output, h.size, h.block⟩

set_option maxRecDepth 100000 in
set_option maxHeartbeats 6400000 in
theorem implCompact (F : Nat → List Int) (hF : ∀ i, (F i).length ≤ 1048576) (w : World) (lo g cap N : Nat) (us : List Value) (h0 : 0 < N) (hN : N ≤ 1024) (h : RowsI w lo (.slice (some ⟨g, 0, none⟩) N cap) ((List.range N).map F) us) :
    Calls Try.prog 44 #[.slice (some ⟨g, 0, none⟩) N cap, .func (.func 45) #[] #[]] w fun e w' => (∃ a c, e = .returned (.slice a (uniqF F N).length c)) ∧ w.grownBy w' (some g) := by
  have hlen : us.length = N := by rw [h.1]; simp
  have hrow := h.2.1
  rw [List.length_map, List.length_range] at hrow
  have hcap : N ≤ cap ∧ cap ≤ maxLen := by
    rcases hrow.2 with ⟨h1, _⟩ | ⟨g', cap', cur, h1, _, _, h2, h3, _⟩
    · cases h1
    · cases h1; exact ⟨h2, h3⟩
  have hcap1 := hcap.1
  have hcap2 : ¬ (cap : Int) < (N : Int) := by omega
  have HGET : Hid (∀ i, i < N → ∃ a n c, us[i]? = some (.slice a n c) ∧ ∀ W, w.grownBy W (some g) → IntsAt W (.slice a n c) (F i)) := fun i hi => by
    have h1 := h.2.2 i (by simpa using hi) (by rw [hlen]; exact hi)
    rw [List.getElem_map, List.getElem_range] at h1
    obtain ⟨a, n, c, e⟩ := h1.1.form
    rw [e] at h1
    exact ⟨a, n, c, by rw [List.getElem?_eq_getElem (by rw [hlen]; exact hi), e], fun W hW => h1.1.only (Only.of_grown hW) fun b hb e2 => (h1.2 b hb).1 e2⟩
  have HU := Lib.hid (fun k (hk : k = 0 ∨ F k ≠ F (k - 1)) => uniqF_pos hk)
  have HV := Lib.hid (fun k (hk : k ≠ 0) (he : F k = F (k - 1)) => uniqF_neg hk he)
  have HF := Lib.hid hF
  have HROW := Lib.hid hrow
  have HL := Lib.hid hlen
  have hv : ∀ w, (zeroValue 22).run Try.prog w = .ok (.slice none 0 0) w := by intro w; kernel_rfl
  clear h hrow hF hlen
  have U1 : Hid ((uniqF F 1).length = 1) := rfl
  generalize uniqF F = U at HU HV U1 ⊢
  by_cases h2 : N < 2
  · obtain rfl : N = 1 := by omega
    clear HGET HU HV
    go_enter Try.func44, Try.ntmps44
    go_wp2
    go_ret
    exact ⟨⟨_, _, by rw [U1.out]; rfl⟩, rfl, rfl, rfl, Nat.le_refl _, fun _ _ _ => rfl⟩
  · go_enter Try.func44, Try.ntmps44
    go_wp2
    go_loopw [5] (fun s5 wr => ∃ k : Nat, 1 ≤ k ∧ k ≤ N ∧ s5 = .int .i64 k ∧ Hid (∃ q, wr = w.drewN q) ∧ Hid ((U k).length = k)) (fun s5 _ => N - (intOf s5).toNat)
    case atStart => exact ⟨1, Nat.le_refl _, by omega, rfl, Lib.hid ⟨0, rfl⟩, U1⟩
    case round =>
      clear U1
      obtain ⟨k, hk1, hk, rfl, HQ, HK⟩ := hrel
      have HG : Hid (w.grownBy wr (some g)) := by
        obtain ⟨q, hq⟩ := HQ.out
        rw [hq]
        exact grown_drewS ⟨rfl, rfl, rfl, Nat.le_refl _, fun _ _ _ => rfl⟩ _
      by_cases hlt : k < N
      · obtain ⟨a1, n1, c1, g1, i1⟩ := HGET.out k hlt
        obtain ⟨a0, n0, c0, g0, i0⟩ := HGET.out (k - 1) (by omega)
        have HROW2 : wr.ownsRow lo 22 1 (.slice (some ⟨g, 0, none⟩) N cap) N us := by
          obtain ⟨q, hq⟩ := HQ.out
          rw [hq]
          exact HROW.out
        have e1 : wr.cell? ⟨g, k, none⟩ = some (.slice a1 n1 c1) := by rw [← g1]; exact HROW2.cellAt k (by omega)
        have e0 : wr.cell? ⟨g, k - 1, none⟩ = some (.slice a0 n0 c0) := by rw [← g0]; exact HROW2.cellAt (k - 1) (by omega)
        have CE : Hid (∀ m, Calls Try.prog 45 #[.slice a1 n1 c1, .slice a0 n0 c0] (wr.drewN m) fun e w' => e = .returned (.bool (decide (F k = F (k - 1)))) ∧ ∃ m', w' = (wr.drewN m).drewN m') := fun m =>
          implEqual _ _ _ _ _ (i1 _ (grown_drewS HG.out _)) (i0 _ (grown_drewS HG.out _)) (HF.out _) (HF.out _)
        have k0 : (0 : Int) ≤ (k : Int) := by omega
        have k1 : (k : Int) < (N : Int) := by omega
        have k2 : (1 : Int) ≤ (k : Int) := by omega
        have k3 : IntKind.i64.wrap ((k : Int) - 1) = (k : Int) - 1 := by rw [IntKind.wrap_i64]; omega
        have k4 : (0 : Int) ≤ (k : Int) - 1 := by omega
        have k5 : (k : Int) - 1 < (N : Int) := by omega
        have HR2 := Lib.hid HROW2
        clear g1 i1 g0 i0 HROW2
        by_cases hdup : F k = F (k - 1)
        · rw [decide_eq_true hdup] at CE
          have HK2 : Hid ((U (k + 1)).length = k) := by unfold Hid; rw [HV.out k (by omega) hdup]; exact HK.out
          clear hdup
          go_wp2_with fail
          go_quiet (first | (go_at_call 45; exact Calls.quiet_of (CE.out _)) | fail)
          go_wp2
          go_loopw [5, 7] (fun s5 s7 ws => ∃ (kk k2 : Nat) (xs : List Value), s5 = .int .i64 kk ∧ s7 = .int .i64 k2 ∧ 1 ≤ k2 ∧ k + k2 ≤ N ∧ kk + 1 ≤ k + k2 ∧ 1 ≤ kk ∧ Hid ((U (k + k2)).length = kk) ∧ Hid (ws.ownsRow lo 22 1 (.slice (some ⟨g, 0, none⟩) N cap) N xs) ∧ Hid (∀ j, kk ≤ j → xs[j]? = us[j]?) ∧ Hid (w.grownBy ws (some g))) (fun _ s7 _ => N - (intOf s7).toNat)
          case atStart => exact ⟨k, 1, us, rfl, rfl, Nat.le_refl _, by omega, by omega, by omega, HK2, Lib.hid (by exact owns_only HR2.out (Only.fresh (below_drewN (Below.refl _ _) _)) (fun _ _ e => e)), Lib.hid (fun _ _ => rfl), Lib.hid (grown_drewS HG.out _)⟩
          case round =>
            clear HK2 HR2 HG HQ HK e0 e1 CE k3 k4 k5
            obtain ⟨kk, k2', xs, rfl, rfl, h1, h3, h4, h5, HK, HR, HX, HG⟩ := hrel
            have kN : kk < N := by omega
            have fk := HR.out.frozenAt kk
            have hxl : xs.length = N := by have := HR.out.1; omega
            have ck : wr.cell? ⟨g, kk, none⟩ = some (xs[kk]'(by omega)) := by rw [HR.out.cellAt kk (by omega), List.getElem?_eq_getElem (by omega)]
            have q0 : (0 : Int) ≤ (kk : Int) := by omega
            have q1 : (kk : Int) < (N : Int) := by omega
            have q2 : ¬ (N : Int) < (kk : Int) := by omega
            have q3 : ¬ (cap : Int) < (kk : Int) := by omega
            by_cases hlt2 : k + k2' < N
            · obtain ⟨a1, n1, c1, g1, i1⟩ := HGET.out (k + k2') hlt2
              obtain ⟨a0, n0, c0, g0, i0⟩ := HGET.out (k + k2' - 1) (by omega)
              have e1 : wr.cell? ⟨g, k + k2', none⟩ = some (.slice a1 n1 c1) := by rw [HR.out.cellAt _ (by omega), HX.out _ (by omega)]; exact g1
              have e0 : wr.cell? ⟨g, k + (k2' - 1), none⟩ = some (.slice a0 n0 c0) := by rw [HR.out.cellAt _ (by omega), HX.out _ (by omega), show k + (k2' - 1) = k + k2' - 1 by omega]; exact g0
              have CE : Hid (∀ m, Calls Try.prog 45 #[.slice a1 n1 c1, .slice a0 n0 c0] (wr.drewN m) fun e w' => e = .returned (.bool (decide (F (k + k2') = F (k + k2' - 1)))) ∧ ∃ m', w' = (wr.drewN m).drewN m') := fun m =>
                implEqual _ _ _ _ _ (i1 _ (grown_drewS HG.out _)) (i0 _ (grown_drewS HG.out _)) (HF.out _) (HF.out _)
              have j0 : (0 : Int) ≤ (k2' : Int) := by omega
              have j1 : (k2' : Int) < ((N - k : Nat) : Int) := by omega
              have j2 : IntKind.i64.wrap ((k2' : Int) - 1) = (k2' : Int) - 1 := by rw [IntKind.wrap_i64]; omega
              have j3 : (0 : Int) ≤ (k2' : Int) - 1 := by omega
              have j4 : (k2' : Int) - 1 < ((N - k : Nat) : Int) := by omega
              have j5 : (1 : Int) ≤ (k2' : Int) := by omega
              clear g1 i1 g0 i0
              generalize xs[kk]'(by omega) = old at ck
              by_cases hdup : F (k + k2') = F (k + k2' - 1)
              · rw [decide_eq_true hdup] at CE
                have HK2 : Hid ((U (k + (k2' + 1))).length = kk) := by unfold Hid; rw [← Nat.add_assoc, HV.out (k + k2') (by omega) hdup]; exact HK.out
                clear hdup ck fk
                go_wp2_with fail
                go_quiet (first | (go_at_call 45; exact Calls.quiet_of (CE.out _)) | fail)
                go_wp2
                go_roundw
                case rel => exact ⟨kk, k2' + 1, xs, rfl, by go_num, by omega, by omega, by omega, by omega, HK2, Lib.hid (by exact owns_only HR.out (Only.fresh (below_drewN (Below.refl _ _) _)) (fun _ _ e => e)), HX, Lib.hid (grown_drewS HG.out _)⟩
                case measure => simp [intOf]; omega
              · have HK2 : Hid ((U (k + (k2' + 1))).length = kk + 1) := by unfold Hid; rw [← Nat.add_assoc, HU.out (k + k2') (.inr hdup), HK.out]
                rw [decide_eq_false hdup] at CE
                clear hdup
                have HR3 := fun n => (owns_only HR.out (Only.fresh (below_drewN (Below.refl _ _) n)) (fun _ _ e => e) : (wr.drewN n).ownsRow lo 22 1 (.slice (some ⟨g, 0, none⟩) N cap) N xs).stored kk (.slice a1 n1 c1)
                have HR4 := Lib.hid HR3
                clear HR3
                have HX2 : Hid (∀ j, kk + 1 ≤ j → (xs.set kk (.slice a1 n1 c1))[j]? = us[j]?) := fun j hj => by rw [List.getElem?_set_ne (by omega)]; exact HX.out j (by omega)
                go_wp2_with fail
                go_quiet (first | (go_at_call 45; exact Calls.quiet_of (CE.out _)) | fail)
                go_wp2
                go_roundw
                case rel => exact ⟨kk + 1, k2' + 1, _, by go_num, by go_num, by omega, by omega, by omega, by omega, HK2, Lib.hid (HR4.out _).1, HX2, Lib.hid (grown_set (grown_drewS HG.out _) _ _)⟩
                case measure => simp [intOf]; omega
            · have hend : k + k2' = N := by omega
              have HK2 : Hid ((U N).length = kk) := by unfold Hid; rw [← hend]; exact HK.out
              have hcl : ∀ ty, (Builtin.clear_ #[49] ty #[.slice (some ⟨g, kk, none⟩) (N - kk) (cap - kk)]).run Try.prog wr = .ok (.tuple #[]) (wr.setCells g kk (List.replicate (N - kk) (.slice none 0 0))) :=
                fun ty => Lib.run_clear_slice wr _ _ ty _ Try.underlying49 hv rfl rfl g kk _ _ (by omega) (fun j hj => by rw [HR.out.cellAt _ (by omega), List.getElem?_eq_getElem (by omega)]; rfl) (fun j _ => HR.out.frozenAt _)
              have HEND := Lib.hid (grownBy_setCells (List.replicate (N - kk) (.slice none 0 0)) kk _ HG.out)
              have j1 : ¬ (k2' : Int) < ((N - k : Nat) : Int) := by omega
              clear ck fk hxl
              go_wp2
              go_ret
              exact ⟨⟨_, _, by rw [HK2.out]; rfl⟩, HEND.out⟩
        · have HK2 : Hid ((U (k + 1)).length = k + 1) := by unfold Hid; rw [HU.out k (.inr hdup), HK.out]
          rw [decide_eq_false hdup] at CE
          clear hdup
          go_wp2_with fail
          go_quiet (first | (go_at_call 45; exact Calls.quiet_of (CE.out _)) | fail)
          go_wp2
          go_roundw
          case rel => exact ⟨k + 1, by omega, by omega, by go_num, Lib.hid (by obtain ⟨q, hq⟩ := HQ.out; exact ⟨_, by rw [hq]; exact World.drewN_drewN ..⟩), HK2⟩
          case measure => simp [intOf]; omega
      · obtain rfl : k = N := by omega
        go_wp2
        go_ret
        exact ⟨⟨_, _, by rw [HK.out]; rfl⟩, HG.out⟩
end Go.Proofs.Ytoliloophjeooaa
