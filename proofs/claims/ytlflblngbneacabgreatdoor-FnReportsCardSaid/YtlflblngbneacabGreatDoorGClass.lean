/- Several texts in one file; each says what it proves and under which condition. No condition. -/
import Derived.Test.YtlflblngbneacabGreatDoorGStates
/- The contracts of the program's StateOk, CountCases and their helpers. Condition of countCoins: the numbers are from 0 to 13. -/
namespace Go.Proofs.YtlflblngbneacabGreatDoor
open Go.RowKit

/-- The numbers of a state are numbers of coins. -/
def Small (s : SD) : Prop := (0 ≤ s.b ∧ s.b ≤ 13) ∧ (0 ≤ s.h ∧ s.h ≤ 13) ∧ (0 ≤ s.l ∧ s.l ≤ 13) ∧ (0 ≤ s.g ∧ s.g ≤ 13)

set_option maxHeartbeats 1600000 in
theorem implCountCoins (s : SD) (h : Small s) (w : World) : Calls Tryz.prog 123 #[stateV s] w fun e w' => e = .returned (.int .i64 (sumS s)) ∧ Below w.heap.size w w' := by
  obtain ⟨b0, b1, b2, b3⟩ := h
  have P0 := StateAt.new w 56 s
  have B0 := Lib.hid (alloc_below w (.cells #[.int .i64 s.b, .int .i64 s.h, .int .i64 s.l, .int .i64 s.g] 56))
  have v1 : IntKind.i64.wrap (s.b + s.h) = s.b + s.h := by rw [IntKind.wrap_i64]; omega
  have v2 : IntKind.i64.wrap (s.b + s.h + s.l) = s.b + s.h + s.l := by rw [IntKind.wrap_i64]; omega
  have v3 : IntKind.i64.wrap (s.b + s.h + s.l + s.g) = s.b + s.h + s.l + s.g := by rw [IntKind.wrap_i64]; omega
  generalize hX : w.alloc (.cells #[.int .i64 s.b, .int .i64 s.h, .int .i64 s.l, .int .i64 s.g] 56) = X at P0 B0
  obtain ⟨e0, e1, e2, e3, e4⟩ := P0
  unfold stateV
  go_enter Tryz.func123, Tryz.ntmps123
  go_wp2
  go_ret
  exact ⟨rfl, B0.out⟩

set_option maxHeartbeats 3200000 in
theorem implStateOk (s : SD) (w : World) : Calls Tryz.prog 84 #[stateV s] w fun e w' => e = .returned (.bool (stateB s)) ∧ Below w.heap.size w w' := by
  have C := Lib.hid (fun h W => implCountCoins s h W)
  have P0 := StateAt.new w 56 s
  have A0 := alloc_below w (.cells #[.int .i64 s.b, .int .i64 s.h, .int .i64 s.l, .int .i64 s.g] 56)
  have s0 : (w.alloc (.cells #[.int .i64 s.b, .int .i64 s.h, .int .i64 s.l, .int .i64 s.g] 56)).heap.size = w.heap.size + 1 := by simp
  have hc := lit_cells (w.alloc (.cells #[.int .i64 s.b, .int .i64 s.h, .int .i64 s.l, .int .i64 s.g] 56)) (w.heap.size + 1) s0 s.list (by simp [SD.list])
  have A1 := alloc_below (w.alloc (.cells #[.int .i64 s.b, .int .i64 s.h, .int .i64 s.l, .int .i64 s.g] 56)) (.cells (s.list.map (Value.int .i64)).toArray 3)
  have P1 := Lib.hid (P0.below A1)
  have B1 := Lib.hid (below_up A0 A1)
  have HC := Lib.hid hc
  clear P0 A0 A1 s0 hc
  have HB : Hid (stateB s = (s.list.all cntB && (decide (1 ≤ sumS s) && decide (sumS s ≤ 13)))) := rfl
  have hl4 : s.list.length = 4 := rfl
  unfold stateV at C ⊢
  go_enter Tryz.func84, Tryz.ntmps84
  go_wp2
  generalize hX : (w.alloc (.cells #[.int .i64 s.b, .int .i64 s.h, .int .i64 s.l, .int .i64 s.g] 56)).alloc (.cells #[.int .i64 s.b, .int .i64 s.h, .int .i64 s.l, .int .i64 s.g] 3) = X
  have P1 : Hid (StateAt X w.heap.size s) := by rw [← hX]; exact P1.out
  have B1 : Hid (Below w.heap.size w X) := by rw [← hX]; exact B1.out
  have HC : Hid (∀ j (h : j < s.list.length), X.cell? ⟨w.heap.size + 1, j, none⟩ = some (.int .i64 s.list[j])) := by rw [← hX]; exact HC.out
  clear hX
  go_loopw [15] (fun jv wr => ∃ j : Nat, j ≤ 4 ∧ jv = .int .i64 j ∧ wr = X ∧ Hid (Upj s.list j)) (fun jv _ => 4 - (intOf jv).toNat)
  case atStart => exact ⟨0, by omega, rfl, rfl, fun i _ h => by omega⟩
  case round =>
    obtain ⟨j, hj, rfl, rfl, HU⟩ := hrel
    by_cases hlt : j < 4
    · have e1 := HC.out j (by omega)
      obtain ⟨c, hcc⟩ : ∃ c, s.list[j]'(by omega) = c := ⟨_, rfl⟩
      rw [hcc] at e1
      have k0 : (0 : Int) ≤ (j : Int) := by omega
      have k1 : (j : Int) < 4 := by omega
      have HCB : Hid ((decide (0 ≤ c) && decide (c ≤ 13)) = cntB (s.list[j]'(by omega))) := by unfold Hid; rw [hcc]; rfl
      clear hcc
      by_cases hcb : cntB (s.list[j]'(by omega)) = true
      · have HU2 := Lib.hid (upj_succ HU.out (by omega) hcb)
        rw [hcb] at HCB
        clear hcb
        have hcc := HCB.out
        simp only [Bool.and_eq_true, decide_eq_true_eq] at hcc
        have c0 : ¬ (c < 0) := by omega
        have c1 : ¬ (13 < c) := by omega
        clear hcc HCB
        go_wp2
        go_roundw
        case rel => exact ⟨j + 1, by omega, by go_num, by first | rfl | trivial, HU2⟩
        case measure => simp [intOf]; omega
      · have HE : Hid (stateB s = false) := by unfold Hid; rw [HB.out, not_all (by omega) hcb]; rfl
        rw [Bool.eq_false_iff.2 hcb] at HCB
        clear hcb
        have hcc := HCB.out
        by_cases c0 : c < 0
        · clear hcc HCB
          go_wp2
          go_ret
          exact ⟨ret_bool HE.out.symm, B1.out⟩
        · have c1 : 13 < c := by
            rcases (show 13 < c ∨ c ≤ 13 by omega) with h | h
            · exact h
            · rw [decide_eq_true (by omega : 0 ≤ c), decide_eq_true h] at hcc; exact absurd hcc (by decide)
          clear hcc HCB
          go_wp2
          go_ret
          exact ⟨ret_bool HE.out.symm, B1.out⟩
    · obtain rfl : j = 4 := by omega
      have ha := upj_all (l := s.list) HU.out
      have HE : Hid (stateB s = (decide (1 ≤ sumS s) && decide (sumS s ≤ 13))) := by unfold Hid; rw [HB.out, ha]; rfl
      have b0 := cntB_iff.1 (HU.out 0 (by omega) (by omega))
      have b1 := cntB_iff.1 (HU.out 1 (by omega) (by omega))
      have b2 := cntB_iff.1 (HU.out 2 (by omega) (by omega))
      have b3 := cntB_iff.1 (HU.out 3 (by omega) (by omega))
      simp only [SD.list, List.getElem_cons_zero, List.getElem_cons_succ] at b0 b1 b2 b3
      have C1 := Lib.hid (C.out ⟨b0, b1, b2, b3⟩)
      clear b0 b1 b2 b3 C HB HC ha HU
      obtain ⟨e0, e1, e2, e3, e4⟩ := P1.out
      go_wp2_with fail
      refine (C1.out _).mono ?_
      rintro e w2 ⟨rfl, b2⟩
      have B2 := Lib.hid (below_up B1.out b2)
      have P2 := Lib.hid (P1.out.below b2)
      clear b2 e0 e1 e2 e3 e4
      generalize sumS s = n at C1 HE
      by_cases n1 : 1 ≤ n
      · rw [decide_eq_true n1, Bool.true_and] at HE
        obtain ⟨e0, e1, e2, e3, e4⟩ := P2.out
        go_wp2_with fail
        refine (C1.out _).mono ?_
        rintro e w3 ⟨rfl, b3⟩
        have B3 := Lib.hid (below_up B2.out b3)
        clear b3 e0 e1 e2 e3 e4
        go_wp2
        go_ret
        exact ⟨ret_bool HE.out.symm, B3.out⟩
      · rw [decide_eq_false n1, Bool.false_and] at HE
        go_wp2
        go_ret
        exact ⟨ret_bool HE.out.symm, B2.out⟩

set_option maxHeartbeats 1600000 in
theorem implCountCases (s : SD) (w : World) : Calls Tryz.prog 34 #[stateV s] w fun e w' => e = .returned (.int .i64 (casesS s)) ∧ Below w.heap.size w w' := by
  have C := Lib.hid (implStateOk s)
  have HE : Hid (casesS s = if stateB s = true then countS s else -1) := rfl
  have HI := Lib.hid (fun h : stateB s = true => stateB_in h)
  have P0 := StateAt.new w 56 s
  have B0 := Lib.hid (alloc_below w (.cells #[.int .i64 s.b, .int .i64 s.h, .int .i64 s.l, .int .i64 s.g] 56))
  generalize hX : w.alloc (.cells #[.int .i64 s.b, .int .i64 s.h, .int .i64 s.l, .int .i64 s.g] 56) = X at P0 B0
  obtain ⟨e0, e1, e2, e3, e4⟩ := P0
  have P1 : Hid (StateAt X w.heap.size s) := ⟨e0, e1, e2, e3, e4⟩
  generalize stateB s = t at C HE HI
  unfold stateV at C ⊢
  cases t with
  | true =>
    have HE1 : Hid (casesS s = countS s) := by unfold Hid; rw [HE.out]; rfl
    go_enter Tryz.func34, Tryz.ntmps34
    go_wp2_with fail
    refine (C.out _).mono ?_
    rintro e w1 ⟨rfl, b1⟩
    have B1 := Lib.hid (below_up B0.out b1)
    clear e0 e1 e2 e3 e4
    obtain ⟨e0, e1, e2, e3, e4⟩ := P1.out.below b1
    clear b1
    obtain ⟨g0, g1, g2, g3, -, -⟩ := HI.out (by first | rfl | trivial)
    have v0 : IntKind.i64.wrap (2 * s.b) = 2 * s.b := by rw [IntKind.wrap_i64]; omega
    have v1 : IntKind.i64.wrap (2 * s.b + s.h) = 2 * s.b + s.h := by rw [IntKind.wrap_i64]; omega
    have v2 : IntKind.i64.wrap (2 * s.b + s.h + s.l) = 2 * s.b + s.h + s.l := by rw [IntKind.wrap_i64]; omega
    clear g0 g1 g2 g3 HI HE
    go_wp2
    go_ret
    exact ⟨ret_int HE1.out.symm, B1.out⟩
  | false =>
    have HE1 : Hid (casesS s = -1) := by unfold Hid; rw [HE.out]; rfl
    clear HI
    go_enter Tryz.func34, Tryz.ntmps34
    go_wp2_with fail
    refine (C.out _).mono ?_
    rintro e w1 ⟨rfl, b1⟩
    have B1 := Lib.hid (below_up B0.out b1)
    go_wp2
    go_ret
    exact ⟨ret_int HE1.out.symm, B1.out⟩
end Go.Proofs.YtlflblngbneacabGreatDoor

/- The contracts of the program's fits and PickOk. Condition: the numbers of a pick are Go integers. -/
namespace Go.Proofs.YtlflblngbneacabGreatDoor
open Go.RowKit

def fitsB (l r c : Int) : Bool := decide (0 ≤ l) && (decide (0 ≤ r) && decide (l + r ≤ c))
/-- A number that Go's int holds. -/
def I64 (x : Int) : Prop := -9223372036854775808 ≤ x ∧ x ≤ 9223372036854775807
theorem i64_of {x : Int} (h : (Lit.int .i64 x).wf = true) : I64 x := by
  simp [Lit.wf, IntKind.min, IntKind.max, IntKind.signed, IntKind.bits] at h
  unfold I64
  omega

set_option maxHeartbeats 1600000 in
theorem implFits (l r c : Int) (hc : 0 ≤ c ∧ c ≤ 13) (hr : I64 r) (w : World) : Calls Tryz.prog 236 #[.int .i64 l, .int .i64 r, .int .i64 c] w fun e w' => e = .returned (.bool (fitsB l r c)) ∧ w = w' := by
  have HB : Hid (fitsB l r c = (decide (0 ≤ l) && (decide (0 ≤ r) && decide (l + r ≤ c)))) := rfl
  unfold I64 at hr
  by_cases h1 : 0 ≤ l
  · by_cases h2 : 0 ≤ r
    · have HE : Hid (fitsB l r c = decide (l ≤ c - r)) := by
        unfold Hid; rw [HB.out, decide_eq_true h1, decide_eq_true h2]
        simp only [Bool.true_and, decide_eq_decide]
        omega
      have hw : IntKind.i64.wrap (c - r) = c - r := by rw [IntKind.wrap_i64]; omega
      clear hr hc
      go_enter Tryz.func236, Tryz.ntmps236
      go_wp2
      go_ret
      exact ⟨ret_bool HE.out.symm, rfl⟩
    · have HE : Hid (fitsB l r c = false) := by
        unfold Hid; rw [HB.out, decide_eq_true h1, decide_eq_false h2]; rfl
      clear hr hc
      go_enter Tryz.func236, Tryz.ntmps236
      go_wp2
      go_ret
      exact ⟨ret_bool HE.out.symm, rfl⟩
  · have HE : Hid (fitsB l r c = false) := by
      unfold Hid; rw [HB.out, decide_eq_false h1]; rfl
    clear hr hc
    go_enter Tryz.func236, Tryz.ntmps236
    go_wp2
    go_ret
    exact ⟨ret_bool HE.out.symm, rfl⟩

theorem fitsB_iff {l r c : Int} : fitsB l r c = true ↔ 0 ≤ l ∧ 0 ≤ r ∧ l + r ≤ c := by unfold fitsB; simp
/-- What PickOk asks, in the program's order. -/
theorem pickB_fits (s : SD) (p : PD) : pickB s p = (stateB s && (fitsB p.bl p.br s.b && (fitsB p.hl p.hr s.h && (fitsB p.ll p.lr s.l && (fitsB p.gl p.gr s.g && (decide (leftP p = rightP p) && decide (1 ≤ leftP p))))))) := by
  cases hs : stateB s with
  | false => unfold pickB; rw [hs]; rfl
  | true =>
    have hin := stateB_in hs
    rw [Bool.eq_iff_iff]
    unfold pickB PD.list
    rw [hs]
    simp only [Bool.and_eq_true, fitsB_iff, decide_eq_true_eq, List.all_cons, List.all_nil, cntB_iff, Bool.and_true, Bool.true_and]
    unfold leftP rightP
    constructor
    · rintro ⟨⟨h0, h1, h2, h3, h4, h5, h6, h7⟩, h8, h9, ha, hb, hc, hd⟩
      exact ⟨⟨h0.1, h1.1, ha⟩, ⟨h2.1, h3.1, hb⟩, ⟨h4.1, h5.1, hc⟩, ⟨h6.1, h7.1, hd⟩, h8, h9⟩
    · rintro ⟨⟨a1, a2, a3⟩, ⟨b1, b2, b3⟩, ⟨c1, c2, c3⟩, ⟨d1, d2, d3⟩, h8, h9⟩
      obtain ⟨g0, g1, g2, g3, -, -⟩ := hin
      refine ⟨⟨⟨a1, ?_⟩, ⟨a2, ?_⟩, ⟨b1, ?_⟩, ⟨b2, ?_⟩, ⟨c1, ?_⟩, ⟨c2, ?_⟩, ⟨d1, ?_⟩, ⟨d2, ?_⟩⟩, h8, h9, a3, b3, c3, d3⟩ <;> omega

set_option maxRecDepth 100000 in
set_option maxHeartbeats 6400000 in
theorem implPickOk (s : SD) (p : PD) (hp : ∀ x ∈ p.list, I64 x) (w : World) : Calls Tryz.prog 224 #[stateV s, pickV p] w fun e w' => e = .returned (.bool (pickB s p)) ∧ Below w.heap.size w w' := by
  have S := Lib.hid (implStateOk s)
  have HB := Lib.hid (pickB_fits s p)
  have HIN := Lib.hid (fun h : stateB s = true => stateB_in h)
  have F1 : Hid (stateB s = true → ∀ W, Calls Tryz.prog 236 #[.int .i64 p.bl, .int .i64 p.br, .int .i64 s.b] W fun e w' => e = .returned (.bool (fitsB p.bl p.br s.b)) ∧ W = w') := fun h W => implFits _ _ _ (stateB_in h).1 (hp _ (by simp [PD.list])) W
  have F2 : Hid (stateB s = true → ∀ W, Calls Tryz.prog 236 #[.int .i64 p.hl, .int .i64 p.hr, .int .i64 s.h] W fun e w' => e = .returned (.bool (fitsB p.hl p.hr s.h)) ∧ W = w') := fun h W => implFits _ _ _ (stateB_in h).2.1 (hp _ (by simp [PD.list])) W
  have F3 : Hid (stateB s = true → ∀ W, Calls Tryz.prog 236 #[.int .i64 p.ll, .int .i64 p.lr, .int .i64 s.l] W fun e w' => e = .returned (.bool (fitsB p.ll p.lr s.l)) ∧ W = w') := fun h W => implFits _ _ _ (stateB_in h).2.2.1 (hp _ (by simp [PD.list])) W
  have F4 : Hid (stateB s = true → ∀ W, Calls Tryz.prog 236 #[.int .i64 p.gl, .int .i64 p.gr, .int .i64 s.g] W fun e w' => e = .returned (.bool (fitsB p.gl p.gr s.g)) ∧ W = w') := fun h W => implFits _ _ _ (stateB_in h).2.2.2.1 (hp _ (by simp [PD.list])) W
  have HW : Hid (stateB s = true → fitsB p.bl p.br s.b = true → fitsB p.hl p.hr s.h = true → fitsB p.ll p.lr s.l = true → fitsB p.gl p.gr s.g = true → PickIn p) := by
    intro h0 h1 h2 h3 h4
    have := stateB_in h0
    rw [fitsB_iff] at h1 h2 h3 h4
    unfold PickIn
    omega
  have HL : Hid (leftP p = p.bl + p.hl + p.ll + p.gl ∧ rightP p = p.br + p.hr + p.lr + p.gr) := ⟨rfl, rfl⟩
  clear hp
  generalize pickB s p = r at HB ⊢
  generalize fitsB p.bl p.br s.b = f1 at HB F1 HW
  generalize fitsB p.hl p.hr s.h = f2 at HB F2 HW
  generalize fitsB p.ll p.lr s.l = f3 at HB F3 HW
  generalize fitsB p.gl p.gr s.g = f4 at HB F4 HW
  have P0 := StateAt.new w 56 s
  have B0 := alloc_below w (.cells #[.int .i64 s.b, .int .i64 s.h, .int .i64 s.l, .int .i64 s.g] 56)
  have s0 : (w.alloc (.cells #[.int .i64 s.b, .int .i64 s.h, .int .i64 s.l, .int .i64 s.g] 56)).heap.size = w.heap.size + 1 := by simp
  generalize hX0 : w.alloc (.cells #[.int .i64 s.b, .int .i64 s.h, .int .i64 s.l, .int .i64 s.g] 56) = X0 at P0 B0 s0
  have Q0 := PickAt.new X0 64 p
  have B1 := alloc_below X0 (.cells #[.int .i64 p.bl, .int .i64 p.br, .int .i64 p.hl, .int .i64 p.hr, .int .i64 p.ll, .int .i64 p.lr, .int .i64 p.gl, .int .i64 p.gr] 64)
  generalize hX1 : X0.alloc (.cells #[.int .i64 p.bl, .int .i64 p.br, .int .i64 p.hl, .int .i64 p.hr, .int .i64 p.ll, .int .i64 p.lr, .int .i64 p.gl, .int .i64 p.gr] 64) = X1 at Q0 B1
  rw [s0] at Q0
  have P1 := Lib.hid (P0.below B1)
  have Q1 := Lib.hid Q0
  have BX := Lib.hid (below_up B0 B1)
  obtain ⟨e0, e1, e2, e3, -⟩ := P1.out
  clear P0 B0 B1 Q0
  unfold stateV at S ⊢
  unfold pickV
  go_enter Tryz.func224, Tryz.ntmps224
  go_wp2_with fail
  refine (S.out _).mono ?_
  rintro e w1 ⟨rfl, b1⟩
  have P2 := Lib.hid (P1.out.below b1)
  have Q2 := Lib.hid (Q1.out.below b1)
  have B2 := Lib.hid (below_up BX.out b1)
  clear e0 e1 e2 e3 b1 hX0 hX1 s0 S BX P1 Q1
  generalize stateB s = t at HB HIN F1 F2 F3 F4 HW ⊢
  cases t with
  | false =>
    have HE : Hid (r = false) := by unfold Hid; rw [HB.out]; rfl
    clear HB
    go_wp2
    go_ret
    exact ⟨ret_bool HE.out.symm, B2.out⟩
  | true =>
    have G1 := Lib.hid (F1.out (by first | rfl | trivial))
    have G2 := Lib.hid (F2.out (by first | rfl | trivial))
    have G3 := Lib.hid (F3.out (by first | rfl | trivial))
    have G4 := Lib.hid (F4.out (by first | rfl | trivial))
    have GW := Lib.hid (HW.out (by first | rfl | trivial))
    clear F1 F2 F3 F4 HW HIN
    obtain ⟨p0, p1, p2, p3, -⟩ := P2.out
    obtain ⟨e0, e1, e2, e3, e4, e5, e6, e7, -⟩ := Q2.out
    go_wp2_with fail
    refine (G1.out _).mono ?_
    rintro e w2 ⟨rfl, rfl⟩
    cases f1 with
    | false =>
      have HE : Hid (r = false) := by unfold Hid; rw [HB.out]; rfl
      clear HB
      go_wp2
      go_ret
      exact ⟨ret_bool HE.out.symm, B2.out⟩
    | true =>
      go_wp2_with fail
      refine (G2.out _).mono ?_
      rintro e w2 ⟨rfl, rfl⟩
      cases f2 with
      | false =>
        have HE : Hid (r = false) := by unfold Hid; rw [HB.out]; rfl
        clear HB
        go_wp2
        go_ret
        exact ⟨ret_bool HE.out.symm, B2.out⟩
      | true =>
        go_wp2_with fail
        refine (G3.out _).mono ?_
        rintro e w2 ⟨rfl, rfl⟩
        cases f3 with
        | false =>
          have HE : Hid (r = false) := by unfold Hid; rw [HB.out]; rfl
          clear HB
          go_wp2
          go_ret
          exact ⟨ret_bool HE.out.symm, B2.out⟩
        | true =>
          go_wp2_with fail
          refine (G4.out _).mono ?_
          rintro e w2 ⟨rfl, rfl⟩
          cases f4 with
          | false =>
            have HE : Hid (r = false) := by unfold Hid; rw [HB.out]; rfl
            clear HB
            go_wp2
            go_ret
            exact ⟨ret_bool HE.out.symm, B2.out⟩
          | true =>
            obtain ⟨h0, h1, h2, h3, h4, h5, h6, h7⟩ := GW.out (by first | rfl | trivial) (by first | rfl | trivial) (by first | rfl | trivial) (by first | rfl | trivial)
            have v0 : IntKind.i64.wrap (p.bl + p.hl) = p.bl + p.hl := by rw [IntKind.wrap_i64]; omega
            have v1 : IntKind.i64.wrap (p.bl + p.hl + p.ll) = p.bl + p.hl + p.ll := by rw [IntKind.wrap_i64]; omega
            have v2 : IntKind.i64.wrap (p.bl + p.hl + p.ll + p.gl) = p.bl + p.hl + p.ll + p.gl := by rw [IntKind.wrap_i64]; omega
            have v3 : IntKind.i64.wrap (p.br + p.hr) = p.br + p.hr := by rw [IntKind.wrap_i64]; omega
            have v4 : IntKind.i64.wrap (p.br + p.hr + p.lr) = p.br + p.hr + p.lr := by rw [IntKind.wrap_i64]; omega
            have v5 : IntKind.i64.wrap (p.br + p.hr + p.lr + p.gr) = p.br + p.hr + p.lr + p.gr := by rw [IntKind.wrap_i64]; omega
            have HE : Hid (r = (decide (p.bl + p.hl + p.ll + p.gl = p.br + p.hr + p.lr + p.gr) && decide (1 ≤ p.bl + p.hl + p.ll + p.gl))) := by unfold Hid; rw [HB.out, HL.out.1, HL.out.2]; rfl
            clear h0 h1 h2 h3 h4 h5 h6 h7 HB HL GW G1 G2 G3 G4
            by_cases q1 : p.bl + p.hl + p.ll + p.gl = p.br + p.hr + p.lr + p.gr
            · rw [decide_eq_true q1, Bool.true_and, q1] at HE
              go_wp2
              go_ret
              exact ⟨ret_bool HE.out.symm, B2.out⟩
            · rw [decide_eq_false q1, Bool.false_and] at HE
              have q2 : (p.bl + p.hl + p.ll + p.gl == p.br + p.hr + p.lr + p.gr) = false := by simpa using q1
              clear q1
              go_wp2
              go_ret
              exact ⟨ret_bool HE.out.symm, B2.out⟩
end Go.Proofs.YtlflblngbneacabGreatDoor
