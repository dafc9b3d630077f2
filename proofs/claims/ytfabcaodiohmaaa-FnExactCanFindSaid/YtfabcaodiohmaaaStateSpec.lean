/- The contracts of the model's StateOk and CountCases. No condition. -/
import Derived.Test.YtfabcaodiohmaaaStatePlain
import Derived.Test.YtfabcaodiohmaaaWeigh
import Derived.Deep.QuietTactic
import Derived.BigQuiet
namespace Go.Proofs.Ytfabcaodiohmaaa
open Go.RowKit

set_option maxHeartbeats 1600000 in
theorem toStateL (s : SD) (w : World) : Calls Try.prog 11 #[stateV s] w fun e w' => e = .returned (stateV s) ∧ Below w.heap.size w w' := by
  unfold stateV
  go_enter Try.func11, Try.ntmps11
  go_wp2
  refine bodyPost_ret (v := .agg #[.int .i64 s.b, .int .i64 s.h, .int .i64 s.l, .int .i64 s.g]) (by simp [results, Try.results11, go_sem]) rfl ⟨rfl, (((Below.refl _ _).alloc (Nat.le_refl _) _).alloc (by simp) _).alloc (by simp; omega) _⟩

/-- A literal row's cells. -/
theorem lit_cells (W : World) (b : Nat) (hb : W.heap.size = b) (l : List Int) (hl : l.length ≤ 100) : ∀ j (h : j < l.length), (W.alloc (.cells (l.map (Value.int .i64)).toArray 3)).cell? ⟨b, j, none⟩ = some (.int .i64 l[j]) := by
  intro j h
  have o := World.ownsRow_lit (base := 0) (e := 3) (size := 1) W (l.map (Value.int .i64)).toArray l.length (Nat.zero_le _) (by unfold maxLen; omega) (by simp)
  rw [hb] at o
  have c := o.cellAt j (by omega)
  rw [c]
  simp [h]

/-- What the numbers of coins up to j are. -/
def Upj (l : List Int) (j : Nat) : Prop := ∀ i (h : i < l.length), i < j → cntB l[i] = true
theorem upj_succ {l : List Int} {j : Nat} (h : Upj l j) (hj : j < l.length) (hc : cntB l[j] = true) : Upj l (j + 1) := fun i hi hlt => by
  by_cases e : i = j
  · subst e; exact hc
  · exact h i hi (by omega)
theorem upj_all {l : List Int} (h : Upj l l.length) : l.all cntB = true := by
  rw [List.all_eq_true]
  intro x hx
  obtain ⟨i, hi, rfl⟩ := List.mem_iff_getElem.1 hx
  exact h i hi hi
theorem not_all {l : List Int} {j : Nat} (hj : j < l.length) (hc : ¬ cntB l[j] = true) : l.all cntB = false := by
  rw [Bool.eq_false_iff]
  intro e
  rw [List.all_eq_true] at e
  exact hc (e _ (List.getElem_mem hj))

set_option maxHeartbeats 1600000 in
theorem specStateOk (s : SD) (w : World) : Calls Try.prog 10 #[stateV s] w fun e w' => e = .returned (.bool (stateB s)) ∧ Below w.heap.size w w' := by
  have C := Lib.hid (fun n lo W => l01In_is n lo 13 W)
  have P0 := StateAt.new w 25 s
  have A0 := alloc_below w (.cells #[.int .i64 s.b, .int .i64 s.h, .int .i64 s.l, .int .i64 s.g] 25)
  have s0 : (w.alloc (.cells #[.int .i64 s.b, .int .i64 s.h, .int .i64 s.l, .int .i64 s.g] 25)).heap.size = w.heap.size + 1 := by simp
  have hc := lit_cells (w.alloc (.cells #[.int .i64 s.b, .int .i64 s.h, .int .i64 s.l, .int .i64 s.g] 25)) (w.heap.size + 1) s0 s.list (by simp [SD.list])
  have A1 := alloc_below (w.alloc (.cells #[.int .i64 s.b, .int .i64 s.h, .int .i64 s.l, .int .i64 s.g] 25)) (.cells (s.list.map (Value.int .i64)).toArray 3)
  have P1 := Lib.hid (P0.below A1)
  have B1 := Lib.hid (below_up A0 A1)
  have HC := Lib.hid hc
  clear P0 A0 A1 s0 hc
  have HB : Hid (stateB s = (s.list.all cntB && (decide (1 ≤ sumS s) && decide (sumS s ≤ 13)))) := rfl
  have hl4 : s.list.length = 4 := rfl
  unfold stateV
  go_enter Try.func10, Try.ntmps10
  go_wp2
  generalize hX : (w.alloc (.cells #[.int .i64 s.b, .int .i64 s.h, .int .i64 s.l, .int .i64 s.g] 25)).alloc (.cells #[.int .i64 s.b, .int .i64 s.h, .int .i64 s.l, .int .i64 s.g] 3) = X
  have P1 : Hid (StateAt X w.heap.size s) := by rw [← hX]; exact P1.out
  have B1 : Hid (Below w.heap.size w X) := by rw [← hX]; exact B1.out
  have HC : Hid (∀ j (h : j < s.list.length), X.cell? ⟨w.heap.size + 1, j, none⟩ = some (.int .i64 s.list[j])) := by rw [← hX]; exact HC.out
  clear hX
  go_loopw [15] (fun jv wr => ∃ j : Nat, j ≤ 4 ∧ jv = .int .i64 j ∧ wr = X ∧ Hid (Upj s.list j)) (fun jv _ => 4 - (intOf jv).toNat)
  case atStart => exact ⟨0, by omega, rfl, rfl, fun i _ h => by omega⟩
  case round =>
    obtain ⟨j, hj, rfl, rfl, HU⟩ := hrel
    by_cases hlt : j < 4
    · have e1 := HC.out j (by omega)
      obtain ⟨c, hcc⟩ : ∃ c, s.list[j]'(by omega) = c := ⟨_, rfl⟩
      rw [hcc] at e1
      have k0 : (0 : Int) ≤ (j : Int) := by omega
      have k1 : (j : Int) < 4 := by omega
      have HCB : Hid ((decide (0 ≤ c) && decide (c ≤ 13)) = cntB (s.list[j]'(by omega))) := by unfold Hid; rw [hcc]; rfl
      clear hcc
      by_cases hcb : cntB (s.list[j]'(by omega)) = true
      · have HU2 := Lib.hid (upj_succ HU.out (by omega) hcb)
        rw [hcb] at HCB
        clear hcb
        go_wp2_with fail
        refine (C.out c 0 _).mono ?_
        rintro e w2 ⟨rfl, rfl⟩
        rw [HCB.out]
        go_wp2
        go_roundw
        case rel => exact ⟨j + 1, by omega, by go_num, by first | rfl | trivial, HU2⟩
        case measure => simp [intOf]; omega
      · have HE : Hid (stateB s = false) := by unfold Hid; rw [HB.out, not_all (by omega) hcb]; rfl
        rw [Bool.eq_false_iff.2 hcb] at HCB
        clear hcb
        go_wp2_with fail
        refine (C.out c 0 _).mono ?_
        rintro e w2 ⟨rfl, rfl⟩
        rw [HCB.out]
        go_wp2
        go_ret
        exact ⟨ret_bool HE.out.symm, B1.out⟩
    · obtain rfl : j = 4 := by omega
      have ha := upj_all (l := s.list) HU.out
      have HE : Hid (stateB s = (decide (1 ≤ sumS s) && decide (sumS s ≤ 13))) := by unfold Hid; rw [HB.out, ha]; rfl
      have b0 := cntB_iff.1 (HU.out 0 (by omega) (by omega))
      have b1 := cntB_iff.1 (HU.out 1 (by omega) (by omega))
      have b2 := cntB_iff.1 (HU.out 2 (by omega) (by omega))
      have b3 := cntB_iff.1 (HU.out 3 (by omega) (by omega))
      simp only [SD.list, List.getElem_cons_zero, List.getElem_cons_succ] at b0 b1 b2 b3
      obtain ⟨e0, e1, e2, e3, e4⟩ := P1.out
      have v1 : IntKind.i64.wrap (s.b + s.h) = s.b + s.h := by rw [IntKind.wrap_i64]; omega
      have v2 : IntKind.i64.wrap (s.b + s.h + s.l) = s.b + s.h + s.l := by rw [IntKind.wrap_i64]; omega
      have v3 : IntKind.i64.wrap (s.b + s.h + s.l + s.g) = s.b + s.h + s.l + s.g := by rw [IntKind.wrap_i64]; omega
      go_wp2_with fail
      refine (C.out _ 1 _).mono ?_
      rintro e w2 ⟨rfl, rfl⟩
      go_wp2
      go_ret
      exact ⟨ret_bool HE.out.symm, B1.out⟩

/-- How many cases a state has, as the program answers. -/
def casesS (s : SD) : Int := if stateB s = true then countS s else -1
theorem stateB_in {s : SD} (h : stateB s = true) : (0 ≤ s.b ∧ s.b ≤ 13) ∧ (0 ≤ s.h ∧ s.h ≤ 13) ∧ (0 ≤ s.l ∧ s.l ≤ 13) ∧ (0 ≤ s.g ∧ s.g ≤ 13) ∧ 1 ≤ s.b + s.h + s.l + s.g ∧ s.b + s.h + s.l + s.g ≤ 13 := by
  unfold stateB sumS SD.list cntB at h
  simp only [List.all_cons, List.all_nil, Bool.and_eq_true, decide_eq_true_eq, Bool.and_true] at h
  omega

set_option maxHeartbeats 1600000 in
theorem specCountOf (s : SD) (h : stateB s = true) (w : World) : Calls Try.prog 30 #[stateV s] w fun e w' => e = .returned (.int .i64 (countS s)) ∧ Below w.heap.size w w' := by
  obtain ⟨b0, b1, b2, b3, -, -⟩ := stateB_in h
  have P0 := StateAt.new w 25 s
  have B0 := Lib.hid (alloc_below w (.cells #[.int .i64 s.b, .int .i64 s.h, .int .i64 s.l, .int .i64 s.g] 25))
  have v0 : IntKind.i64.wrap (2 * s.b) = 2 * s.b := by rw [IntKind.wrap_i64]; omega
  have v1 : IntKind.i64.wrap (2 * s.b + s.h) = 2 * s.b + s.h := by rw [IntKind.wrap_i64]; omega
  have v2 : IntKind.i64.wrap (2 * s.b + s.h + s.l) = 2 * s.b + s.h + s.l := by rw [IntKind.wrap_i64]; omega
  generalize hX : w.alloc (.cells #[.int .i64 s.b, .int .i64 s.h, .int .i64 s.l, .int .i64 s.g] 25) = X at P0 B0
  obtain ⟨e0, e1, e2, e3, e4⟩ := P0
  unfold stateV
  go_enter Try.func30, Try.ntmps30
  go_wp2
  go_ret
  exact ⟨rfl, B0.out⟩

set_option maxHeartbeats 1600000 in
theorem specCountCases (s : SD) (w : World) : Calls Try.prog 13 #[stateV s] w fun e w' => e = .returned (.int .i64 (casesS s)) ∧ Below w.heap.size w w' := by
  have C := Lib.hid (specStateOk s)
  have D := Lib.hid (fun h W => specCountOf s h W)
  have HE : Hid (casesS s = if stateB s = true then countS s else -1) := rfl
  have P0 := StateAt.new w 25 s
  have B0 := Lib.hid (alloc_below w (.cells #[.int .i64 s.b, .int .i64 s.h, .int .i64 s.l, .int .i64 s.g] 25))
  generalize hX : w.alloc (.cells #[.int .i64 s.b, .int .i64 s.h, .int .i64 s.l, .int .i64 s.g] 25) = X at P0 B0
  obtain ⟨e0, e1, e2, e3, e4⟩ := P0
  have P1 : Hid (StateAt X w.heap.size s) := ⟨e0, e1, e2, e3, e4⟩
  generalize stateB s = t at C D HE
  unfold stateV at C D ⊢
  cases t with
  | true =>
    have HE1 : Hid (casesS s = countS s) := by unfold Hid; rw [HE.out]; rfl
    go_enter Try.func13, Try.ntmps13
    go_wp2_with fail
    refine (C.out _).mono ?_
    rintro e w1 ⟨rfl, b1⟩
    have B1 := Lib.hid (below_up B0.out b1)
    clear e0 e1 e2 e3 e4
    obtain ⟨e0, e1, e2, e3, e4⟩ := P1.out.below b1
    clear b1
    go_wp2_with fail
    refine (D.out (by first | rfl | trivial) _).mono ?_
    rintro e w2 ⟨rfl, b2⟩
    have B2 := Lib.hid (below_up B1.out b2)
    go_wp2
    go_ret
    exact ⟨ret_int HE1.out.symm, B2.out⟩
  | false =>
    have HE1 : Hid (casesS s = -1) := by unfold Hid; rw [HE.out]; rfl
    go_enter Try.func13, Try.ntmps13
    go_wp2_with fail
    refine (C.out _).mono ?_
    rintro e w1 ⟨rfl, b1⟩
    have B1 := Lib.hid (below_up B0.out b1)
    go_wp2
    go_ret
    exact ⟨ret_int HE1.out.symm, B1.out⟩
end Go.Proofs.Ytfabcaodiohmaaa
