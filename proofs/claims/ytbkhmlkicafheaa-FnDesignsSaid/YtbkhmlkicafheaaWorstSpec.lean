/- The contracts of the model's WorstOutcome and LostCases. No condition. -/
import Derived.Test.YtbkhmlkicafheaaAfterLaw
import Derived.Test.YtbkhmlkicafheaaGBounds
namespace Go.Proofs.Ytbkhmlkicafheaa
open Go.RowKit

/-- The outcome chosen among the first j and -1. -/
def wstep (n : Int → Int) : Nat → Int
  | 0 => -1
  | j + 1 => if n (wstep n j) < n j then j else wstep n j
theorem worst_step (s : SD) (p : PD) : worstI s p = wstep (fun x => countS (afterS s p x)) 2 := rfl
/-- A row of the two outcomes 0 and 1 lies in block b. -/
def OutRow (w : World) (b : Nat) : Prop := (∀ j : Nat, j < 2 → w.cell? ⟨b, j, none⟩ = some (.int .i64 j)) ∧ b < w.heap.size
theorem OutRow.below {w w' : World} {b : Nat} (h : OutRow w b) (hb : Below w.heap.size w w') : OutRow w' b := by
  refine ⟨fun j hj => ?_, Nat.lt_of_lt_of_le h.2 hb.size⟩
  rw [hb.cell (p := ⟨b, j, none⟩) h.2]
  exact h.1 j hj
theorem OutRow.new (w : World) : OutRow (w.alloc (.cells #[.int .i64 0, .int .i64 1] 3)) w.heap.size := by
  refine ⟨fun j hj => ?_, by simp⟩
  have := lit_cells w w.heap.size rfl [0, 1] (by simp) j (by simpa using hj)
  refine this.trans ?_
  rcases (show j = 0 ∨ j = 1 by omega) with rfl | rfl <;> rfl

set_option maxRecDepth 100000 in
set_option maxHeartbeats 3200000 in
theorem specWorst (s : SD) (p : PD) (hs : SIn s) (hp : PIn s p) (w : World) :
    Calls Try.prog 58 #[stateV s, pickV p] w fun e w' => e = .returned (.int .i64 (worstI s p)) ∧ Below w.heap.size w w' := by
  obtain ⟨g, n, HW, CA, CC⟩ : ∃ (g : Int → Value) (n : Int → Int), Hid (worstI s p = wstep n 2) ∧ Hid (∀ x W, Calls Try.prog 60 #[stateV s, pickV p, .int .i64 x] W fun e w' => e = .returned (g x) ∧ Below W.heap.size W w') ∧ Hid (∀ x W, Calls Try.prog 62 #[g x] W fun e w' => e = .returned (.int .i64 (n x)) ∧ Below W.heap.size W w') :=
    ⟨fun x => stateV (afterS s p x), fun x => countS (afterS s p x), Lib.hid (worst_step s p), Lib.hid fun x W => specAfter s p x hs hp W, Lib.hid fun x W => specCountOf _ (stateB_iff.2 (after_in hs hp)) W⟩
  clear hs hp
  have P0 := StateAt.new w 32 s
  have B0 := alloc_below w (.cells #[.int .i64 s.b, .int .i64 s.h, .int .i64 s.l, .int .i64 s.g] 32)
  have s0 : (w.alloc (.cells #[.int .i64 s.b, .int .i64 s.h, .int .i64 s.l, .int .i64 s.g] 32)).heap.size = w.heap.size + 1 := by simp
  generalize hX0 : w.alloc (.cells #[.int .i64 s.b, .int .i64 s.h, .int .i64 s.l, .int .i64 s.g] 32) = X0 at P0 B0 s0
  have Q0 := PickAt.new X0 34 p
  have B1 := alloc_below X0 (.cells #[.int .i64 p.bl, .int .i64 p.br, .int .i64 p.hl, .int .i64 p.hr, .int .i64 p.ll, .int .i64 p.lr, .int .i64 p.gl, .int .i64 p.gr] 34)
  have s1 : (X0.alloc (.cells #[.int .i64 p.bl, .int .i64 p.br, .int .i64 p.hl, .int .i64 p.hr, .int .i64 p.ll, .int .i64 p.lr, .int .i64 p.gl, .int .i64 p.gr] 34)).heap.size = w.heap.size + 2 := by simp [s0]
  generalize hX1 : X0.alloc (.cells #[.int .i64 p.bl, .int .i64 p.br, .int .i64 p.hl, .int .i64 p.hr, .int .i64 p.ll, .int .i64 p.lr, .int .i64 p.gl, .int .i64 p.gr] 34) = X1 at Q0 B1 s1
  rw [s0] at Q0
  have L0 := OutRow.new X1
  have B2 := alloc_below X1 (.cells #[.int .i64 0, .int .i64 1] 3)
  rw [s1] at L0
  have P2 := Lib.hid ((P0.below B1).below B2)
  have Q2 := Lib.hid (Q0.below B2)
  have BX := Lib.hid (below_up (below_up B0 B1) B2)
  have L2 := Lib.hid L0
  clear P0 B0 B1 B2 Q0 L0
  unfold stateV at CA ⊢
  unfold pickV at CA ⊢
  go_enter Try.func58, Try.ntmps58
  go_wp2
  generalize hX2 : X1.alloc (.cells #[.int .i64 0, .int .i64 1] 3) = X2 at P2 Q2 BX L2
  clear hX0 hX1 hX2 s0 s1
  go_loopw [10, 5] (fun jv xv wr => ∃ j : Nat, j ≤ 2 ∧ jv = .int .i64 j ∧ xv = .int .i64 (wstep n j) ∧ Hid (Below w.heap.size w wr) ∧ Hid (StateAt wr w.heap.size s) ∧ Hid (PickAt wr (w.heap.size + 1) p) ∧ Hid (OutRow wr (w.heap.size + 2))) (fun jv _ _ => 2 - (intOf jv).toNat)
  case atStart => exact ⟨0, Nat.zero_le _, rfl, rfl, BX, P2, Q2, L2⟩
  case round =>
    clear BX P2 Q2 L2
    obtain ⟨j, hj, rfl, rfl, BX, P1, Q1, L1⟩ := hrel
    by_cases hlt : j < 2
    · have e1 := L1.out.1 j hlt
      have k0 : (0 : Int) ≤ (j : Int) := by omega
      have k1 : (j : Int) < 2 := by omega
      obtain ⟨x, hx⟩ : ∃ x, wstep n j = x := ⟨_, rfl⟩
      have HX : Hid (wstep n (j + 1) = if n x < n j then (j : Int) else x) := by rw [← hx]; exact Lib.hid rfl
      rw [hx]
      clear hx
      by_cases hb : n x < n j
      all_goals
        go_wp2_with fail
        go_region_held3 (fun w' => (w'.cell? ⟨w.heap.size, 0, none⟩ = some (.int .i64 s.b) ∧ w'.cell? ⟨w.heap.size, 1, none⟩ = some (.int .i64 s.h) ∧ w'.cell? ⟨w.heap.size, 2, none⟩ = some (.int .i64 s.l) ∧ w'.cell? ⟨w.heap.size, 3, none⟩ = some (.int .i64 s.g) ∧ w.heap.size < w'.heap.size) ∧ (w'.cell? ⟨w.heap.size + 1, 0, none⟩ = some (.int .i64 p.bl) ∧ w'.cell? ⟨w.heap.size + 1, 1, none⟩ = some (.int .i64 p.br) ∧ w'.cell? ⟨w.heap.size + 1, 2, none⟩ = some (.int .i64 p.hl) ∧ w'.cell? ⟨w.heap.size + 1, 3, none⟩ = some (.int .i64 p.hr) ∧ w'.cell? ⟨w.heap.size + 1, 4, none⟩ = some (.int .i64 p.ll) ∧ w'.cell? ⟨w.heap.size + 1, 5, none⟩ = some (.int .i64 p.lr) ∧ w'.cell? ⟨w.heap.size + 1, 6, none⟩ = some (.int .i64 p.gl) ∧ w'.cell? ⟨w.heap.size + 1, 7, none⟩ = some (.int .i64 p.gr) ∧ w.heap.size + 1 < w'.heap.size))
          (first | with_reducible exact ⟨P5.out.cells, Q5.out.cells⟩ | with_reducible exact ⟨P4.out.cells, Q4.out.cells⟩ | with_reducible exact ⟨P3.out.cells, Q3.out.cells⟩ | with_reducible exact ⟨P2.out.cells, Q2.out.cells⟩ | with_reducible exact ⟨P1.out.drewT.cells, Q1.out.drewT.cells⟩ | fail)
          (first
            | (go_at_call 60; (first
                | (have b4 := B3; clear b4; refine (CA.out x _).mono ?_; rintro e w4 ⟨rfl, b4⟩; have B4 := Lib.hid (below_up B3.out b4); have P4 := Lib.hid (P3.out.below b4); have Q4 := Lib.hid (Q3.out.below b4); have L4 := Lib.hid (L3.out.below b4); clear b4)
                | (refine (CA.out j _).mono ?_; rintro e w2 ⟨rfl, b2⟩; have B2 := Lib.hid (below_up BX.out.drew b2); have P2 := Lib.hid (P1.out.drewT.below b2); have Q2 := Lib.hid (Q1.out.drewT.below b2); have L2 := Lib.hid ((L1.out.below (Below.refl _ _).drew).below b2); clear b2)))
            | (go_at_call 62; (first
                | (have b5 := B4; clear b5; refine (CC.out x _).mono ?_; rintro e w5 ⟨rfl, b5⟩; have B5 := Lib.hid (below_up B4.out b5); have P5 := Lib.hid (P4.out.below b5); have Q5 := Lib.hid (Q4.out.below b5); have L5 := Lib.hid (L4.out.below b5); clear b5)
                | (refine (CC.out j _).mono ?_; rintro e w3 ⟨rfl, b3⟩; have B3 := Lib.hid (below_up B2.out b3); have P3 := Lib.hid (P2.out.below b3); have Q3 := Lib.hid (Q2.out.below b3); have L3 := Lib.hid (L2.out.below b3); clear b3)))
            | fail)
      · go_wp2
        go_roundw
        case rel => exact ⟨j + 1, by omega, by go_num, by rw [HX.out, if_pos hb], B5, P5, Q5, L5⟩
        case measure => simp [intOf]; omega
      · go_wp2
        go_roundw
        case rel => exact ⟨j + 1, by omega, by go_num, by rw [HX.out, if_neg (Int.not_lt.2 hb)], B5, P5, Q5, L5⟩
        case measure => simp [intOf]; omega
    · obtain rfl : j = 2 := by omega
      go_wp2
      go_ret
      exact ⟨by rw [HW.out]; rfl, BX.out⟩

set_option maxHeartbeats 1600000 in
theorem specWorstOutcome (s : SD) (p : PD) (w : World) :
    Calls Try.prog 17 #[stateV s, pickV p] w fun e w' => e = .returned (.tuple #[.int .i64 ((worstO s p).getD 0), .bool (worstO s p).isSome]) ∧ Below w.heap.size w w' := by
  have C1 := Lib.hid (fun W => specPickOk s p W)
  have C2 : Hid (pickB s p = true → ∀ W, Calls Try.prog 58 #[stateV s, pickV p] W fun e w' => e = .returned (.int .i64 (worstI s p)) ∧ Below W.heap.size W w') := fun h W => specWorst s p (pick_in h).1 (pick_in h).2 W
  have HR : Hid (worstO s p = if pickB s p = true then some (worstI s p) else none) := rfl
  generalize worstO s p = r at HR ⊢
  generalize worstI s p = q at C2 HR
  generalize pickB s p = sb at C1 C2 HR
  have P0 := StateAt.new w 32 s
  have B0 := alloc_below w (.cells #[.int .i64 s.b, .int .i64 s.h, .int .i64 s.l, .int .i64 s.g] 32)
  have s0 : (w.alloc (.cells #[.int .i64 s.b, .int .i64 s.h, .int .i64 s.l, .int .i64 s.g] 32)).heap.size = w.heap.size + 1 := by simp
  generalize hX0 : w.alloc (.cells #[.int .i64 s.b, .int .i64 s.h, .int .i64 s.l, .int .i64 s.g] 32) = X0 at P0 B0 s0
  have Q0 := PickAt.new X0 34 p
  have B1 := alloc_below X0 (.cells #[.int .i64 p.bl, .int .i64 p.br, .int .i64 p.hl, .int .i64 p.hr, .int .i64 p.ll, .int .i64 p.lr, .int .i64 p.gl, .int .i64 p.gr] 34)
  generalize hX1 : X0.alloc (.cells #[.int .i64 p.bl, .int .i64 p.br, .int .i64 p.hl, .int .i64 p.hr, .int .i64 p.ll, .int .i64 p.lr, .int .i64 p.gl, .int .i64 p.gr] 34) = X1 at Q0 B1
  rw [s0] at Q0
  have P1 := Lib.hid (P0.below B1)
  have Q1 := Lib.hid Q0
  have BX := Lib.hid (below_up B0 B1)
  clear P0 B0 B1 Q0
  unfold stateV pickV at C1 C2 ⊢
  obtain ⟨e0, e1, e2, e3, -⟩ := P1.out
  obtain ⟨q0, q1, q2, q3, q4, q5, q6, q7, -⟩ := Q1.out
  go_enter Try.func17, Try.ntmps17
  go_wp2_with fail
  refine (C1.out _).mono ?_
  rintro e w1 ⟨rfl, b1⟩
  have B1 := Lib.hid (below_up BX.out b1)
  have P2 := Lib.hid (P1.out.below b1)
  have Q2 := Lib.hid (Q1.out.below b1)
  clear b1 e0 e1 e2 e3 q0 q1 q2 q3 q4 q5 q6 q7 hX0 hX1 s0
  cases sb with
  | false =>
    have HN : Hid (r = none) := HR.out
    go_wp2
    refine bodyPost_ret (v := .tuple #[.int .i64 0, .bool false]) (by simp [results, Try.results17, go_sem]) rfl ⟨?_, B1.out⟩
    rw [HN.out]; rfl
  | true =>
    have HN : Hid (r = some q) := HR.out
    replace C2 := Lib.hid (C2.out rfl)
    obtain ⟨e0, e1, e2, e3, -⟩ := P2.out
    obtain ⟨q0, q1, q2, q3, q4, q5, q6, q7, -⟩ := Q2.out
    go_wp2_with fail
    refine (C2.out _).mono ?_
    rintro e w2 ⟨rfl, b2⟩
    have B2 := Lib.hid (below_up B1.out b2)
    clear b2 e0 e1 e2 e3 q0 q1 q2 q3 q4 q5 q6 q7
    go_wp2
    refine bodyPost_ret (v := .tuple #[.int .i64 q, .bool true]) (by simp [results, Try.results17, go_sem]) rfl ⟨?_, B2.out⟩
    rw [HN.out]; rfl

theorem tdiv3_in {a : Int} (h0 : 0 ≤ a) (h1 : a ≤ 26) : 0 ≤ (a + 2).tdiv 3 ∧ (a + 2).tdiv 3 ≤ 9 := by
  rw [Int.tdiv_eq_ediv_of_nonneg (by omega)]; omega
set_option maxRecDepth 100000 in
set_option maxHeartbeats 3200000 in
theorem specLostCases (s : SD) (p : PD) (w : World) :
    Calls Try.prog 33 #[stateV s, pickV p] w fun e w' => e = .returned (.int .i64 (lostI s p)) ∧ Below w.heap.size w w' := by
  have C1 := Lib.hid (fun W => specPickOk s p W)
  obtain ⟨g, m, c, x, HR, HM, HC, CX, CA, CM, CN⟩ : ∃ (g : Value) (m c x : Int), Hid (lostI s p = if pickB s p = true then m - Int.tdiv (c + 2) 3 else -1) ∧ Hid (pickB s p = true → 0 ≤ m ∧ m ≤ 26) ∧ Hid (pickB s p = true → 0 ≤ c ∧ c ≤ 26) ∧
      Hid (pickB s p = true → ∀ W, Calls Try.prog 58 #[stateV s, pickV p] W fun e w' => e = .returned (.int .i64 x) ∧ Below W.heap.size W w') ∧
      Hid (pickB s p = true → ∀ W, Calls Try.prog 60 #[stateV s, pickV p, .int .i64 x] W fun e w' => e = .returned g ∧ Below W.heap.size W w') ∧
      Hid (pickB s p = true → ∀ W, Calls Try.prog 62 #[g] W fun e w' => e = .returned (.int .i64 m) ∧ Below W.heap.size W w') ∧
      Hid (pickB s p = true → ∀ W, Calls Try.prog 62 #[stateV s] W fun e w' => e = .returned (.int .i64 c) ∧ Below W.heap.size W w') :=
    ⟨stateV (afterS s p (worstI s p)), countS (afterS s p (worstI s p)), countS s, worstI s p, Lib.hid rfl,
      fun h => count_in (stateB_iff.2 (after_in (pick_in h).1 (pick_in h).2)), fun h => count_in (stateB_iff.2 (pick_in h).1),
      fun h W => specWorst s p (pick_in h).1 (pick_in h).2 W, fun h W => specAfter s p _ (pick_in h).1 (pick_in h).2 W,
      fun h W => specCountOf _ (stateB_iff.2 (after_in (pick_in h).1 (pick_in h).2)) W, fun h W => specCountOf _ (stateB_iff.2 (pick_in h).1) W⟩
  generalize lostI s p = r at HR ⊢
  generalize pickB s p = sb at C1 HR HM HC CX CA CM CN
  have P0 := StateAt.new w 32 s
  have B0 := alloc_below w (.cells #[.int .i64 s.b, .int .i64 s.h, .int .i64 s.l, .int .i64 s.g] 32)
  have s0 : (w.alloc (.cells #[.int .i64 s.b, .int .i64 s.h, .int .i64 s.l, .int .i64 s.g] 32)).heap.size = w.heap.size + 1 := by simp
  generalize hX0 : w.alloc (.cells #[.int .i64 s.b, .int .i64 s.h, .int .i64 s.l, .int .i64 s.g] 32) = X0 at P0 B0 s0
  have Q0 := PickAt.new X0 34 p
  have B1 := alloc_below X0 (.cells #[.int .i64 p.bl, .int .i64 p.br, .int .i64 p.hl, .int .i64 p.hr, .int .i64 p.ll, .int .i64 p.lr, .int .i64 p.gl, .int .i64 p.gr] 34)
  generalize hX1 : X0.alloc (.cells #[.int .i64 p.bl, .int .i64 p.br, .int .i64 p.hl, .int .i64 p.hr, .int .i64 p.ll, .int .i64 p.lr, .int .i64 p.gl, .int .i64 p.gr] 34) = X1 at Q0 B1
  rw [s0] at Q0
  have P1 := Lib.hid (P0.below B1)
  have Q1 := Lib.hid Q0
  have BX := Lib.hid (below_up B0 B1)
  clear P0 B0 B1 Q0
  unfold stateV at C1 CX CA CN ⊢
  unfold pickV at C1 CX CA ⊢
  obtain ⟨e0, e1, e2, e3, -⟩ := P1.out
  obtain ⟨q0, q1, q2, q3, q4, q5, q6, q7, -⟩ := Q1.out
  go_enter Try.func33, Try.ntmps33
  go_wp2_with fail
  refine (C1.out _).mono ?_
  rintro e w1 ⟨rfl, b1⟩
  have B2 := Lib.hid (below_up BX.out b1)
  have P2 := Lib.hid (P1.out.below b1)
  have Q2 := Lib.hid (Q1.out.below b1)
  clear b1 e0 e1 e2 e3 q0 q1 q2 q3 q4 q5 q6 q7 hX0 hX1 s0 P1 Q1
  cases sb with
  | false =>
    have HN : Hid (r = -1) := HR.out
    go_wp2
    go_ret
    exact ⟨by rw [HN.out]; rfl, B2.out⟩
  | true =>
    have HN : Hid (r = m - Int.tdiv (c + 2) 3) := HR.out
    obtain ⟨m0, m1⟩ := HM.out rfl
    obtain ⟨c0, c1⟩ := HC.out rfl
    have hd := tdiv3_in c0 c1
    have v1 : IntKind.i64.wrap (c + 2) = c + 2 := by rw [IntKind.wrap_i64]; omega
    have v2 : IntKind.i64.wrap ((c + 2).tdiv 3) = (c + 2).tdiv 3 := by rw [IntKind.wrap_i64]; omega
    have v3 : IntKind.i64.wrap (m - (c + 2).tdiv 3) = m - (c + 2).tdiv 3 := by rw [IntKind.wrap_i64]; omega
    replace CX := Lib.hid (CX.out rfl)
    replace CA := Lib.hid (CA.out rfl)
    replace CM := Lib.hid (CM.out rfl)
    replace CN := Lib.hid (CN.out rfl)
    clear HR HM HC C1
    go_wp2_with fail
    go_region_held3 (fun w' => (w'.cell? ⟨w.heap.size, 0, none⟩ = some (.int .i64 s.b) ∧ w'.cell? ⟨w.heap.size, 1, none⟩ = some (.int .i64 s.h) ∧ w'.cell? ⟨w.heap.size, 2, none⟩ = some (.int .i64 s.l) ∧ w'.cell? ⟨w.heap.size, 3, none⟩ = some (.int .i64 s.g) ∧ w.heap.size < w'.heap.size) ∧ (w'.cell? ⟨w.heap.size + 1, 0, none⟩ = some (.int .i64 p.bl) ∧ w'.cell? ⟨w.heap.size + 1, 1, none⟩ = some (.int .i64 p.br) ∧ w'.cell? ⟨w.heap.size + 1, 2, none⟩ = some (.int .i64 p.hl) ∧ w'.cell? ⟨w.heap.size + 1, 3, none⟩ = some (.int .i64 p.hr) ∧ w'.cell? ⟨w.heap.size + 1, 4, none⟩ = some (.int .i64 p.ll) ∧ w'.cell? ⟨w.heap.size + 1, 5, none⟩ = some (.int .i64 p.lr) ∧ w'.cell? ⟨w.heap.size + 1, 6, none⟩ = some (.int .i64 p.gl) ∧ w'.cell? ⟨w.heap.size + 1, 7, none⟩ = some (.int .i64 p.gr) ∧ w.heap.size + 1 < w'.heap.size))
      (first | with_reducible exact ⟨P6.out.cells, Q6.out.cells⟩ | with_reducible exact ⟨P5.out.cells, Q5.out.cells⟩ | with_reducible exact ⟨P4.out.cells, Q4.out.cells⟩ | with_reducible exact ⟨P3.out.cells, Q3.out.cells⟩ | with_reducible exact ⟨P2.out.drewT.cells, Q2.out.drewT.cells⟩ | fail)
      (first
        | (go_at_call 58; refine (CX.out _).mono ?_; rintro e w3 ⟨rfl, b3⟩; have B3 := Lib.hid (below_up B2.out.drew b3); have P3 := Lib.hid (P2.out.drewT.below b3); have Q3 := Lib.hid (Q2.out.drewT.below b3); clear b3)
        | (go_at_call 60; refine (CA.out _).mono ?_; rintro e w4 ⟨rfl, b4⟩; have B4 := Lib.hid (below_up B3.out b4); have P4 := Lib.hid (P3.out.below b4); have Q4 := Lib.hid (Q3.out.below b4); clear b4)
        | (go_at_call 62; (first
            | (have b6 := B5; clear b6; refine (CN.out _).mono ?_; rintro e w6 ⟨rfl, b6⟩; have B6 := Lib.hid (below_up B5.out b6); have P6 := Lib.hid (P5.out.below b6); have Q6 := Lib.hid (Q5.out.below b6); clear b6)
            | (refine (CM.out _).mono ?_; rintro e w5 ⟨rfl, b5⟩; have B5 := Lib.hid (below_up B4.out b5); have P5 := Lib.hid (P4.out.below b5); have Q5 := Lib.hid (Q4.out.below b5); clear b5)))
        | fail)
    all_goals
      go_wp2
      go_ret
      exact ⟨by rw [HN.out]; rfl, B6.out⟩
end Go.Proofs.Ytbkhmlkicafheaa
