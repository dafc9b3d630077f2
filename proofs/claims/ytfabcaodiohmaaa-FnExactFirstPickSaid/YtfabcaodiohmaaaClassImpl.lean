/- The contracts of the program's StateOk, CountCases and their helpers. Condition of countCoins: the numbers are from 0 to 13. -/
import Derived.Test.YtfabcaodiohmaaaStateSpec
namespace Go.Proofs.Ytfabcaodiohmaaa
open Go.RowKit

/-- The numbers of a state are numbers of coins. -/
def Small (s : SD) : Prop := (0 ≤ s.b ∧ s.b ≤ 13) ∧ (0 ≤ s.h ∧ s.h ≤ 13) ∧ (0 ≤ s.l ∧ s.l ≤ 13) ∧ (0 ≤ s.g ∧ s.g ≤ 13)

set_option maxHeartbeats 1600000 in
theorem implCountCoins (s : SD) (h : Small s) (w : World) : Calls Try.prog 29 #[stateV s] w fun e w' => e = .returned (.int .i64 (sumS s)) ∧ Below w.heap.size w w' := by
  obtain ⟨b0, b1, b2, b3⟩ := h
  have P0 := StateAt.new w 25 s
  have B0 := Lib.hid (alloc_below w (.cells #[.int .i64 s.b, .int .i64 s.h, .int .i64 s.l, .int .i64 s.g] 25))
  have v1 : IntKind.i64.wrap (s.b + s.h) = s.b + s.h := by rw [IntKind.wrap_i64]; omega
  have v2 : IntKind.i64.wrap (s.b + s.h + s.l) = s.b + s.h + s.l := by rw [IntKind.wrap_i64]; omega
  have v3 : IntKind.i64.wrap (s.b + s.h + s.l + s.g) = s.b + s.h + s.l + s.g := by rw [IntKind.wrap_i64]; omega
  generalize hX : w.alloc (.cells #[.int .i64 s.b, .int .i64 s.h, .int .i64 s.l, .int .i64 s.g] 25) = X at P0 B0
  obtain ⟨e0, e1, e2, e3, e4⟩ := P0
  unfold stateV
  go_enter Try.func29, Try.ntmps29
  go_wp2
  go_ret
  exact ⟨rfl, B0.out⟩

set_option maxHeartbeats 3200000 in
theorem implStateOk (s : SD) (w : World) : Calls Try.prog 12 #[stateV s] w fun e w' => e = .returned (.bool (stateB s)) ∧ Below w.heap.size w w' := by
  have C := Lib.hid (fun h W => implCountCoins s h W)
  have P0 := StateAt.new w 25 s
  have A0 := alloc_below w (.cells #[.int .i64 s.b, .int .i64 s.h, .int .i64 s.l, .int .i64 s.g] 25)
  have s0 : (w.alloc (.cells #[.int .i64 s.b, .int .i64 s.h, .int .i64 s.l, .int .i64 s.g] 25)).heap.size = w.heap.size + 1 := by simp
  have hc := lit_cells (w.alloc (.cells #[.int .i64 s.b, .int .i64 s.h, .int .i64 s.l, .int .i64 s.g] 25)) (w.heap.size + 1) s0 s.list (by simp [SD.list])
  have A1 := alloc_below (w.alloc (.cells #[.int .i64 s.b, .int .i64 s.h, .int .i64 s.l, .int .i64 s.g] 25)) (.cells (s.list.map (Value.int .i64)).toArray 3)
  have P1 := Lib.hid (P0.below A1)
  have B1 := Lib.hid (below_up A0 A1)
  have HC := Lib.hid hc
  clear P0 A0 A1 s0 hc
  have HB : Hid (stateB s = (s.list.all cntB && (decide (1 ≤ sumS s) && decide (sumS s ≤ 13)))) := rfl
  have hl4 : s.list.length = 4 := rfl
  unfold stateV at C ⊢
  go_enter Try.func12, Try.ntmps12
  go_wp2
  generalize hX : (w.alloc (.cells #[.int .i64 s.b, .int .i64 s.h, .int .i64 s.l, .int .i64 s.g] 25)).alloc (.cells #[.int .i64 s.b, .int .i64 s.h, .int .i64 s.l, .int .i64 s.g] 3) = X
  have P1 : Hid (StateAt X w.heap.size s) := by rw [← hX]; exact P1.out
  have B1 : Hid (Below w.heap.size w X) := by rw [← hX]; exact B1.out
  have HC : Hid (∀ j (h : j < s.list.length), X.cell? ⟨w.heap.size + 1, j, none⟩ = some (.int .i64 s.list[j])) := by rw [← hX]; exact HC.out
  clear hX
  go_loopw [15] (fun jv wr => ∃ j : Nat, j ≤ 4 ∧ jv = .int .i64 j ∧ wr = X ∧ Hid (Upj s.list j)) (fun jv _ => 4 - (intOf jv).toNat)
  case atStart => exact ⟨0, by omega, rfl, rfl, fun i _ h => by omega⟩
  case round =>
    obtain ⟨j, hj, rfl, rfl, HU⟩ := hrel
    by_cases hlt : j < 4
    · have e1 := HC.out j (by omega)
      obtain ⟨c, hcc⟩ : ∃ c, s.list[j]'(by omega) = c := ⟨_, rfl⟩
      rw [hcc] at e1
      have k0 : (0 : Int) ≤ (j : Int) := by omega
      have k1 : (j : Int) < 4 := by omega
      have HCB : Hid ((decide (0 ≤ c) && decide (c ≤ 13)) = cntB (s.list[j]'(by omega))) := by unfold Hid; rw [hcc]; rfl
      clear hcc
      by_cases hcb : cntB (s.list[j]'(by omega)) = true
      · have HU2 := Lib.hid (upj_succ HU.out (by omega) hcb)
        rw [hcb] at HCB
        clear hcb
        have hcc := HCB.out
        simp only [Bool.and_eq_true, decide_eq_true_eq] at hcc
        have c0 : ¬ (c < 0) := by omega
        have c1 : ¬ (13 < c) := by omega
        clear hcc HCB
        go_wp2
        go_roundw
        case rel => exact ⟨j + 1, by omega, by go_num, by first | rfl | trivial, HU2⟩
        case measure => simp [intOf]; omega
      · have HE : Hid (stateB s = false) := by unfold Hid; rw [HB.out, not_all (by omega) hcb]; rfl
        rw [Bool.eq_false_iff.2 hcb] at HCB
        clear hcb
        have hcc := HCB.out
        by_cases c0 : c < 0
        · clear hcc HCB
          go_wp2
          go_ret
          exact ⟨ret_bool HE.out.symm, B1.out⟩
        · have c1 : 13 < c := by
            rcases (show 13 < c ∨ c ≤ 13 by omega) with h | h
            · exact h
            · rw [decide_eq_true (by omega : 0 ≤ c), decide_eq_true h] at hcc; exact absurd hcc (by decide)
          clear hcc HCB
          go_wp2
          go_ret
          exact ⟨ret_bool HE.out.symm, B1.out⟩
    · obtain rfl : j = 4 := by omega
      have ha := upj_all (l := s.list) HU.out
      have HE : Hid (stateB s = (decide (1 ≤ sumS s) && decide (sumS s ≤ 13))) := by unfold Hid; rw [HB.out, ha]; rfl
      have b0 := cntB_iff.1 (HU.out 0 (by omega) (by omega))
      have b1 := cntB_iff.1 (HU.out 1 (by omega) (by omega))
      have b2 := cntB_iff.1 (HU.out 2 (by omega) (by omega))
      have b3 := cntB_iff.1 (HU.out 3 (by omega) (by omega))
      simp only [SD.list, List.getElem_cons_zero, List.getElem_cons_succ] at b0 b1 b2 b3
      have C1 := Lib.hid (C.out ⟨b0, b1, b2, b3⟩)
      clear b0 b1 b2 b3 C HB HC ha HU
      obtain ⟨e0, e1, e2, e3, e4⟩ := P1.out
      go_wp2_with fail
      refine (C1.out _).mono ?_
      rintro e w2 ⟨rfl, b2⟩
      have B2 := Lib.hid (below_up B1.out b2)
      have P2 := Lib.hid (P1.out.below b2)
      clear b2 e0 e1 e2 e3 e4
      generalize sumS s = n at C1 HE
      by_cases n1 : 1 ≤ n
      · rw [decide_eq_true n1, Bool.true_and] at HE
        obtain ⟨e0, e1, e2, e3, e4⟩ := P2.out
        go_wp2_with fail
        refine (C1.out _).mono ?_
        rintro e w3 ⟨rfl, b3⟩
        have B3 := Lib.hid (below_up B2.out b3)
        clear b3 e0 e1 e2 e3 e4
        go_wp2
        go_ret
        exact ⟨ret_bool HE.out.symm, B3.out⟩
      · rw [decide_eq_false n1, Bool.false_and] at HE
        go_wp2
        go_ret
        exact ⟨ret_bool HE.out.symm, B2.out⟩

set_option maxHeartbeats 1600000 in
theorem implCountCases (s : SD) (w : World) : Calls Try.prog 14 #[stateV s] w fun e w' => e = .returned (.int .i64 (casesS s)) ∧ Below w.heap.size w w' := by
  have C := Lib.hid (implStateOk s)
  have HE : Hid (casesS s = if stateB s = true then countS s else -1) := rfl
  have HI := Lib.hid (fun h : stateB s = true => stateB_in h)
  have P0 := StateAt.new w 25 s
  have B0 := Lib.hid (alloc_below w (.cells #[.int .i64 s.b, .int .i64 s.h, .int .i64 s.l, .int .i64 s.g] 25))
  generalize hX : w.alloc (.cells #[.int .i64 s.b, .int .i64 s.h, .int .i64 s.l, .int .i64 s.g] 25) = X at P0 B0
  obtain ⟨e0, e1, e2, e3, e4⟩ := P0
  have P1 : Hid (StateAt X w.heap.size s) := ⟨e0, e1, e2, e3, e4⟩
  generalize stateB s = t at C HE HI
  unfold stateV at C ⊢
  cases t with
  | true =>
    have HE1 : Hid (casesS s = countS s) := by unfold Hid; rw [HE.out]; rfl
    go_enter Try.func14, Try.ntmps14
    go_wp2_with fail
    refine (C.out _).mono ?_
    rintro e w1 ⟨rfl, b1⟩
    have B1 := Lib.hid (below_up B0.out b1)
    clear e0 e1 e2 e3 e4
    obtain ⟨e0, e1, e2, e3, e4⟩ := P1.out.below b1
    clear b1
    obtain ⟨g0, g1, g2, g3, -, -⟩ := HI.out (by first | rfl | trivial)
    have v0 : IntKind.i64.wrap (2 * s.b) = 2 * s.b := by rw [IntKind.wrap_i64]; omega
    have v1 : IntKind.i64.wrap (2 * s.b + s.h) = 2 * s.b + s.h := by rw [IntKind.wrap_i64]; omega
    have v2 : IntKind.i64.wrap (2 * s.b + s.h + s.l) = 2 * s.b + s.h + s.l := by rw [IntKind.wrap_i64]; omega
    clear g0 g1 g2 g3 HI HE
    go_wp2
    go_ret
    exact ⟨ret_int HE1.out.symm, B1.out⟩
  | false =>
    have HE1 : Hid (casesS s = -1) := by unfold Hid; rw [HE.out]; rfl
    clear HI
    go_enter Try.func14, Try.ntmps14
    go_wp2_with fail
    refine (C.out _).mono ?_
    rintro e w1 ⟨rfl, b1⟩
    have B1 := Lib.hid (below_up B0.out b1)
    go_wp2
    go_ret
    exact ⟨ret_int HE1.out.symm, B1.out⟩
end Go.Proofs.Ytfabcaodiohmaaa
