/- The contract of the model's PickOk. No condition. -/
import Derived.Test.YtfabcaodiohmaaaStateSpec
namespace Go.Proofs.Ytfabcaodiohmaaa
open Go.RowKit

/-- The numbers of a pick are numbers of coins. -/
def PickIn (p : PD) : Prop := (0 ≤ p.bl ∧ p.bl ≤ 13) ∧ (0 ≤ p.br ∧ p.br ≤ 13) ∧ (0 ≤ p.hl ∧ p.hl ≤ 13) ∧ (0 ≤ p.hr ∧ p.hr ≤ 13) ∧ (0 ≤ p.ll ∧ p.ll ≤ 13) ∧ (0 ≤ p.lr ∧ p.lr ≤ 13) ∧ (0 ≤ p.gl ∧ p.gl ≤ 13) ∧ (0 ≤ p.gr ∧ p.gr ≤ 13)
theorem pickIn_of {p : PD} (h : p.list.all cntB = true) : PickIn p := by
  unfold PD.list cntB at h
  simp only [List.all_cons, List.all_nil, Bool.and_eq_true, decide_eq_true_eq, Bool.and_true] at h
  unfold PickIn
  omega

set_option maxHeartbeats 1600000 in
theorem specSides (p : PD) (h : PickIn p) (w : World) : Calls Try.prog 31 #[pickV p] w fun e w' => e = .returned (.tuple #[.int .i64 (leftP p), .int .i64 (rightP p)]) ∧ Below w.heap.size w w' := by
  obtain ⟨h0, h1, h2, h3, h4, h5, h6, h7⟩ := h
  have P0 := PickAt.new w 32 p
  have B0 := Lib.hid (alloc_below w (.cells #[.int .i64 p.bl, .int .i64 p.br, .int .i64 p.hl, .int .i64 p.hr, .int .i64 p.ll, .int .i64 p.lr, .int .i64 p.gl, .int .i64 p.gr] 32))
  generalize hX : w.alloc (.cells #[.int .i64 p.bl, .int .i64 p.br, .int .i64 p.hl, .int .i64 p.hr, .int .i64 p.ll, .int .i64 p.lr, .int .i64 p.gl, .int .i64 p.gr] 32) = X at P0 B0
  obtain ⟨e0, e1, e2, e3, e4, e5, e6, e7, e8⟩ := P0
  have v0 : IntKind.i64.wrap (p.bl + p.hl) = p.bl + p.hl := by rw [IntKind.wrap_i64]; omega
  have v1 : IntKind.i64.wrap (p.bl + p.hl + p.ll) = p.bl + p.hl + p.ll := by rw [IntKind.wrap_i64]; omega
  have v2 : IntKind.i64.wrap (p.bl + p.hl + p.ll + p.gl) = p.bl + p.hl + p.ll + p.gl := by rw [IntKind.wrap_i64]; omega
  have v3 : IntKind.i64.wrap (p.br + p.hr) = p.br + p.hr := by rw [IntKind.wrap_i64]; omega
  have v4 : IntKind.i64.wrap (p.br + p.hr + p.lr) = p.br + p.hr + p.lr := by rw [IntKind.wrap_i64]; omega
  have v5 : IntKind.i64.wrap (p.br + p.hr + p.lr + p.gr) = p.br + p.hr + p.lr + p.gr := by rw [IntKind.wrap_i64]; omega
  unfold pickV
  go_enter Try.func31, Try.ntmps31
  go_wp2
  go_quiet (fail)
  go_wp2
  go_ret2
  exact ⟨rfl, below_drewN B0.out _⟩

set_option maxRecDepth 100000 in
set_option maxHeartbeats 6400000 in
theorem specPickOk (s : SD) (p : PD) (w : World) : Calls Try.prog 15 #[stateV s, pickV p] w fun e w' => e = .returned (.bool (pickB s p)) ∧ Below w.heap.size w w' := by
  have C := Lib.hid (fun n lo W => l01In_is n lo 13 W)
  have S := Lib.hid (specStateOk s)
  have D := Lib.hid (fun h W => specSides p h W)
  have HB : Hid (pickB s p = (stateB s && (p.list.all cntB && (decide (leftP p = rightP p) && (decide (0 < leftP p) && (decide (p.bl + p.br ≤ s.b) && (decide (p.hl + p.hr ≤ s.h) && (decide (p.ll + p.lr ≤ s.l) && decide (p.gl + p.gr ≤ s.g))))))))) := rfl
  have HIN := Lib.hid (fun h : stateB s = true => stateB_in h)
  have P0 := StateAt.new w 25 s
  have B0 := alloc_below w (.cells #[.int .i64 s.b, .int .i64 s.h, .int .i64 s.l, .int .i64 s.g] 25)
  have s0 : (w.alloc (.cells #[.int .i64 s.b, .int .i64 s.h, .int .i64 s.l, .int .i64 s.g] 25)).heap.size = w.heap.size + 1 := by simp
  generalize hX0 : w.alloc (.cells #[.int .i64 s.b, .int .i64 s.h, .int .i64 s.l, .int .i64 s.g] 25) = X0 at P0 B0 s0
  have Q0 := PickAt.new X0 32 p
  have B1 := alloc_below X0 (.cells #[.int .i64 p.bl, .int .i64 p.br, .int .i64 p.hl, .int .i64 p.hr, .int .i64 p.ll, .int .i64 p.lr, .int .i64 p.gl, .int .i64 p.gr] 32)
  generalize hX1 : X0.alloc (.cells #[.int .i64 p.bl, .int .i64 p.br, .int .i64 p.hl, .int .i64 p.hr, .int .i64 p.ll, .int .i64 p.lr, .int .i64 p.gl, .int .i64 p.gr] 32) = X1 at Q0 B1
  rw [s0] at Q0
  have P1 := Lib.hid (P0.below B1)
  have Q1 := Lib.hid Q0
  have BX := Lib.hid (below_up B0 B1)
  obtain ⟨e0, e1, e2, e3, -⟩ := P1.out
  clear P0 B0 B1 Q0
  unfold stateV at S ⊢
  unfold pickV at D ⊢
  go_enter Try.func15, Try.ntmps15
  go_wp2_with fail
  refine (S.out _).mono ?_
  rintro e w1 ⟨rfl, b1⟩
  have P2 := Lib.hid (P1.out.below b1)
  have Q2 := Lib.hid (Q1.out.below b1)
  have B2 := Lib.hid (below_up BX.out b1)
  clear e0 e1 e2 e3 b1 hX0 hX1 s0
  generalize stateB s = t at HB HIN ⊢
  cases t with
  | false =>
    have HE : Hid (pickB s p = false) := by unfold Hid; rw [HB.out]; rfl
    go_wp2
    go_ret
    exact ⟨ret_bool HE.out.symm, B2.out⟩
  | true =>
    have hin := HIN.out (by first | rfl | trivial)
    have hlc := lit_cells w1 w1.heap.size rfl p.list (by simp [PD.list])
    have A3 := alloc_below w1 (.cells (p.list.map (Value.int .i64)).toArray 3)
    have P3 := Lib.hid (P2.out.below A3)
    have Q3 := Lib.hid (Q2.out.below A3)
    have B3 := Lib.hid (below_up B2.out A3)
    have HC := Lib.hid hlc
    clear hlc A3 HIN
    obtain ⟨e0, e1, e2, e3, e4, e5, e6, e7, -⟩ := Q2.out
    have hl8 : p.list.length = 8 := rfl
    go_wp2
    generalize hX : w1.alloc (.cells #[.int .i64 p.bl, .int .i64 p.br, .int .i64 p.hl, .int .i64 p.hr, .int .i64 p.ll, .int .i64 p.lr, .int .i64 p.gl, .int .i64 p.gr] 3) = X
    have P4 : Hid (StateAt X w.heap.size s) := by rw [← hX]; exact P3.out
    have Q4 : Hid (PickAt X (w.heap.size + 1) p) := by rw [← hX]; exact Q3.out
    have B4 : Hid (Below w.heap.size w X) := by rw [← hX]; exact B3.out
    have HC4 : Hid (∀ j (h : j < p.list.length), X.cell? ⟨w1.heap.size, j, none⟩ = some (.int .i64 p.list[j])) := by rw [← hX]; exact HC.out
    clear hX e0 e1 e2 e3 e4 e5 e6 e7 P3 Q3 B3 HC
    go_loopw [30] (fun jv wr => ∃ j : Nat, j ≤ 8 ∧ jv = .int .i64 j ∧ wr = X ∧ Hid (Upj p.list j)) (fun jv _ => 8 - (intOf jv).toNat)
    case atStart => exact ⟨0, by omega, rfl, rfl, fun i _ h => by omega⟩
    case round =>
      obtain ⟨j, hj, rfl, rfl, HU⟩ := hrel
      by_cases hlt : j < 8
      · have e1 := HC4.out j (by omega)
        obtain ⟨c, hcc⟩ : ∃ c, p.list[j]'(by omega) = c := ⟨_, rfl⟩
        rw [hcc] at e1
        have k0 : (0 : Int) ≤ (j : Int) := by omega
        have k1 : (j : Int) < 8 := by omega
        have HCB : Hid ((decide (0 ≤ c) && decide (c ≤ 13)) = cntB (p.list[j]'(by omega))) := by unfold Hid; rw [hcc]; rfl
        clear hcc
        by_cases hcb : cntB (p.list[j]'(by omega)) = true
        · have HU2 := Lib.hid (upj_succ HU.out (by omega) hcb)
          rw [hcb] at HCB
          clear hcb
          go_wp2_with fail
          refine (C.out c 0 _).mono ?_
          rintro e w2 ⟨rfl, rfl⟩
          rw [HCB.out]
          go_wp2
          go_roundw
          case rel => exact ⟨j + 1, by omega, by go_num, by first | rfl | trivial, HU2⟩
          case measure => simp [intOf]; omega
        · have HE : Hid (pickB s p = false) := by unfold Hid; rw [HB.out, not_all (by omega) hcb]; rfl
          rw [Bool.eq_false_iff.2 hcb] at HCB
          clear hcb
          go_wp2_with fail
          refine (C.out c 0 _).mono ?_
          rintro e w2 ⟨rfl, rfl⟩
          rw [HCB.out]
          go_wp2
          go_ret
          exact ⟨ret_bool HE.out.symm, B4.out⟩
      · obtain rfl : j = 8 := by omega
        have ha := upj_all (l := p.list) HU.out
        have hp := pickIn_of ha
        rw [ha] at HB
        have DD := Lib.hid (D.out hp)
        obtain ⟨h0, h1, h2, h3, h4, h5, h6, h7⟩ := hp
        obtain ⟨g0, g1, g2, g3, -, -⟩ := hin
        obtain ⟨e0, e1, e2, e3, e4, e5, e6, e7, -⟩ := Q4.out
        clear ha D
        go_wp2_with fail
        refine (DD.out _).mono ?_
        rintro e w2 ⟨rfl, b2⟩
        have B5 := Lib.hid (below_up B4.out b2)
        clear e0 e1 e2 e3 e4 e5 e6 e7
        obtain ⟨e0, e1, e2, e3, e4, e5, e6, e7, -⟩ := Q4.out.below b2
        obtain ⟨f0, f1, f2, f3, -⟩ := P4.out.below b2
        have v0 : IntKind.i64.wrap (p.bl + p.br) = p.bl + p.br := by rw [IntKind.wrap_i64]; omega
        have v1 : IntKind.i64.wrap (p.hl + p.hr) = p.hl + p.hr := by rw [IntKind.wrap_i64]; omega
        have v2 : IntKind.i64.wrap (p.ll + p.lr) = p.ll + p.lr := by rw [IntKind.wrap_i64]; omega
        have v3 : IntKind.i64.wrap (p.gl + p.gr) = p.gl + p.gr := by rw [IntKind.wrap_i64]; omega
        clear b2 h0 h1 h2 h3 h4 h5 h6 h7 g0 g1 g2 g3 HU
        have key : Hid (∀ (t1 t2 t3 t4 t5 t6 : Bool), decide (leftP p = rightP p) = t1 → decide (0 < leftP p) = t2 → decide (p.bl + p.br ≤ s.b) = t3 → decide (p.hl + p.hr ≤ s.h) = t4 → decide (p.ll + p.lr ≤ s.l) = t5 → decide (p.gl + p.gr ≤ s.g) = t6 → pickB s p = (t1 && (t2 && (t3 && (t4 && (t5 && t6)))))) := by
          intro t1 t2 t3 t4 t5 t6 a1 a2 a3 a4 a5 a6
          rw [HB.out, a1, a2, a3, a4, a5, a6]; rfl
        by_cases q1 : leftP p = rightP p
        · by_cases q2 : 0 < leftP p
          · by_cases q3 : p.bl + p.br ≤ s.b
            · by_cases q4 : p.hl + p.hr ≤ s.h
              · by_cases q5 : p.ll + p.lr ≤ s.l
                · by_cases q6 : p.gl + p.gr ≤ s.g
                  · have HE : Hid (pickB s p = true) := key.out _ _ _ _ _ _ (decide_eq_true q1) (decide_eq_true q2) (decide_eq_true q3) (decide_eq_true q4) (decide_eq_true q5) (decide_eq_true q6)
                    go_wp2
                    go_ret
                    exact ⟨ret_bool HE.out.symm, B5.out⟩
                  · have HE : Hid (pickB s p = false) := key.out _ _ _ _ _ _ (decide_eq_true q1) (decide_eq_true q2) (decide_eq_true q3) (decide_eq_true q4) (decide_eq_true q5) (decide_eq_false q6)
                    go_wp2
                    go_ret
                    exact ⟨ret_bool ((decide_eq_false (by omega)).trans HE.out.symm), B5.out⟩
                · have HE : Hid (pickB s p = false) := by
                    unfold Hid; rw [key.out _ _ _ _ _ _ (decide_eq_true q1) (decide_eq_true q2) (decide_eq_true q3) (decide_eq_true q4) (decide_eq_false q5) rfl]; rfl
                  go_wp2
                  go_ret
                  exact ⟨ret_bool HE.out.symm, B5.out⟩
              · have HE : Hid (pickB s p = false) := by
                  unfold Hid; rw [key.out _ _ _ _ _ _ (decide_eq_true q1) (decide_eq_true q2) (decide_eq_true q3) (decide_eq_false q4) rfl rfl]; rfl
                go_wp2
                go_ret
                exact ⟨ret_bool HE.out.symm, B5.out⟩
            · have HE : Hid (pickB s p = false) := by
                unfold Hid; rw [key.out _ _ _ _ _ _ (decide_eq_true q1) (decide_eq_true q2) (decide_eq_false q3) rfl rfl rfl]; rfl
              go_wp2
              go_ret
              exact ⟨ret_bool HE.out.symm, B5.out⟩
          · have HE : Hid (pickB s p = false) := by
              unfold Hid; rw [key.out _ _ _ _ _ _ (decide_eq_true q1) (decide_eq_false q2) rfl rfl rfl rfl]; rfl
            go_wp2
            go_ret
            exact ⟨ret_bool HE.out.symm, B5.out⟩
        · have HE : Hid (pickB s p = false) := by
            unfold Hid; rw [key.out _ _ _ _ _ _ (decide_eq_false q1) rfl rfl rfl rfl rfl]; rfl
          go_wp2
          go_ret
          exact ⟨ret_bool HE.out.symm, B5.out⟩
end Go.Proofs.Ytfabcaodiohmaaa
