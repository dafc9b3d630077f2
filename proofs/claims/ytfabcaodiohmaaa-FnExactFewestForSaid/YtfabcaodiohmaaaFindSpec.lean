/- The contracts of the model's CanFind, FewestFor and FirstPick. No condition. -/
import Derived.Test.YtfabcaodiohmaaaCanSpec
namespace Go.Proofs.Ytfabcaodiohmaaa
open Go.RowKit

set_option maxRecDepth 100000 in
set_option maxHeartbeats 3200000 in
theorem specCanFind (s : SD) (k : Int) (w : World) : Calls Try.prog 21 #[stateV s, .int .i64 k] w fun e w' => e = .returned (.bool (findB s k)) ∧ Below w.heap.size w w' := by
  have C1 := Lib.hid (fun W => specStateOk s W)
  have C2 := Lib.hid (fun W => l01In_is k 0 3 W)
  have C3 : Hid (stateB s = true → (decide (0 ≤ k) && decide (k ≤ 3)) = true → ∀ W, Calls Try.prog 35 #[stateV s, .int .i64 k] W fun e w' => e = .returned (.bool (canS k.toNat s)) ∧ Below W.heap.size W w') := by
    intro h h2 W
    simp only [Bool.and_eq_true, decide_eq_true_eq] at h2
    have C := specCan k.toNat (by omega) s (stateB_iff.1 h) W
    rw [show ((k.toNat : Nat) : Int) = k by omega] at C
    exact C
  have HR : Hid (findB s k = (stateB s && ((decide (0 ≤ k) && decide (k ≤ 3)) && canS k.toNat s))) := rfl
  generalize findB s k = r at HR ⊢
  generalize canS k.toNat s = cb at C3 HR
  generalize (decide (0 ≤ k) && decide (k ≤ 3)) = kb at C2 C3 HR
  generalize stateB s = sb at C1 C3 HR
  have P0 := Lib.hid (StateAt.new w 25 s)
  have B0 := Lib.hid (alloc_below w (.cells #[.int .i64 s.b, .int .i64 s.h, .int .i64 s.l, .int .i64 s.g] 25))
  generalize hX0 : w.alloc (.cells #[.int .i64 s.b, .int .i64 s.h, .int .i64 s.l, .int .i64 s.g] 25) = X0 at P0 B0
  unfold stateV at C1 C3 ⊢
  obtain ⟨e0, e1, e2, e3, -⟩ := P0.out
  go_enter Try.func21, Try.ntmps21
  go_wp2_with fail
  refine (C1.out _).mono ?_
  rintro e w1 ⟨rfl, b1⟩
  have B1 := Lib.hid (below_up B0.out b1)
  have P1 := Lib.hid (P0.out.below b1)
  clear b1 e0 e1 e2 e3 hX0
  cases sb with
  | false =>
    have HF : Hid (r = false) := by unfold Hid; rw [HR.out]; rfl
    clear HR C3
    go_wp2
    go_ret
    exact ⟨ret_bool HF.out.symm, B1.out⟩
  | true =>
    go_wp2_with fail
    refine (C2.out _).mono ?_
    rintro e w2 ⟨rfl, rfl⟩
    cases kb with
    | false =>
      have HF : Hid (r = false) := by unfold Hid; rw [HR.out]; rfl
      clear HR C3
      go_wp2
      go_ret
      exact ⟨ret_bool HF.out.symm, B1.out⟩
    | true =>
      have C4 : Hid (∀ W, Calls Try.prog 35 #[.agg #[.int .i64 s.b, .int .i64 s.h, .int .i64 s.l, .int .i64 s.g], .int .i64 k] W fun e w' => e = .returned (.bool cb) ∧ Below W.heap.size W w') := C3.out (by first | rfl | trivial) (by first | rfl | trivial)
      clear C3
      have HF : Hid (r = cb) := by unfold Hid; rw [HR.out]; rfl
      clear HR
      obtain ⟨e0, e1, e2, e3, -⟩ := P1.out
      go_wp2_with fail
      refine (C4.out _).mono ?_
      rintro e w3 ⟨rfl, b3⟩
      have B3 := Lib.hid (below_up B1.out b3)
      clear b3 e0 e1 e2 e3
      go_wp2
      go_ret
      exact ⟨ret_bool HF.out.symm, B3.out⟩

/-- No fewer weighings are enough. -/
def NoneTo (s : SD) (i : Nat) : Prop := ∀ j : Nat, j < i → findB s (j : Int) = false
theorem fewest_at {s : SD} {i : Nat} (h : NoneTo s i) (hi : i ≤ 3) (hf : findB s (i : Int) = true) : fewestI s = (i : Int) := by
  unfold fewestI
  rcases (show i = 0 ∨ i = 1 ∨ i = 2 ∨ i = 3 by omega) with rfl | rfl | rfl | rfl
  · rw [if_pos (show findB s 0 = true from hf)]; rfl
  · rw [if_neg (by rw [show (0 : Int) = ((0 : Nat) : Int) from rfl, h 0 (by omega)]; exact Bool.false_ne_true), if_pos (show findB s 1 = true from hf)]; rfl
  · rw [if_neg (by rw [show (0 : Int) = ((0 : Nat) : Int) from rfl, h 0 (by omega)]; exact Bool.false_ne_true), if_neg (by rw [show (1 : Int) = ((1 : Nat) : Int) from rfl, h 1 (by omega)]; exact Bool.false_ne_true), if_pos (show findB s 2 = true from hf)]; rfl
  · rw [if_neg (by rw [show (0 : Int) = ((0 : Nat) : Int) from rfl, h 0 (by omega)]; exact Bool.false_ne_true), if_neg (by rw [show (1 : Int) = ((1 : Nat) : Int) from rfl, h 1 (by omega)]; exact Bool.false_ne_true), if_neg (by rw [show (2 : Int) = ((2 : Nat) : Int) from rfl, h 2 (by omega)]; exact Bool.false_ne_true), if_pos (show findB s 3 = true from hf)]; rfl
theorem fewest_none {s : SD} (h : NoneTo s 4) : fewestI s = -1 := by
  unfold fewestI
  rw [if_neg (by rw [show (0 : Int) = ((0 : Nat) : Int) from rfl, h 0 (by omega)]; exact Bool.false_ne_true), if_neg (by rw [show (1 : Int) = ((1 : Nat) : Int) from rfl, h 1 (by omega)]; exact Bool.false_ne_true), if_neg (by rw [show (2 : Int) = ((2 : Nat) : Int) from rfl, h 2 (by omega)]; exact Bool.false_ne_true), if_neg (by rw [show (3 : Int) = ((3 : Nat) : Int) from rfl, h 3 (by omega)]; exact Bool.false_ne_true)]
theorem none_succ {s : SD} {i : Nat} (h : NoneTo s i) (hf : findB s (i : Int) = false) : NoneTo s (i + 1) := fun j hj => by
  by_cases e : j = i
  · subst e; exact hf
  · exact h j (by omega)

set_option maxRecDepth 100000 in
set_option maxHeartbeats 3200000 in
theorem specFewest (s : SD) (w : World) : Calls Try.prog 23 #[stateV s] w fun e w' => e = .returned (.int .i64 (fewestI s)) ∧ Below w.heap.size w w' := by
  have C1 := Lib.hid (fun k W => specCanFind s k W)
  obtain ⟨r, hr⟩ : ∃ r, r = fewestI s := ⟨_, rfl⟩
  rw [← hr]
  have HR := Lib.hid hr
  clear hr
  have P0 := Lib.hid (StateAt.new w 25 s)
  have B0 := Lib.hid (alloc_below w (.cells #[.int .i64 s.b, .int .i64 s.h, .int .i64 s.l, .int .i64 s.g] 25))
  generalize hX0 : w.alloc (.cells #[.int .i64 s.b, .int .i64 s.h, .int .i64 s.l, .int .i64 s.g] 25) = X0 at P0 B0
  unfold stateV at C1 ⊢
  go_enter Try.func23, Try.ntmps23
  go_wp2
  go_loopw [3] (fun iv wr => ∃ i : Nat, i ≤ 4 ∧ iv = .int .i64 i ∧ Hid (NoneTo s i) ∧ Hid (Below w.heap.size w wr) ∧ Hid (StateAt wr w.heap.size s)) (fun iv _ => 4 - (intOf iv).toNat)
  case atStart => exact ⟨0, by omega, rfl, fun j hj => absurd hj (by omega), B0, P0⟩
  case round =>
    clear B0 P0 hX0
    obtain ⟨i, hi4, rfl, HN, BW, PW⟩ := hrel
    by_cases hlt : i ≤ 3
    · have hle : (i : Int) ≤ 3 := by omega
      have C := Lib.hid (C1.out i)
      have HA := Lib.hid (fewest_at HN.out hlt)
      have HZ := Lib.hid (none_succ HN.out)
      generalize findB s (i : Int) = fb at C HA HZ
      obtain ⟨e0, e1, e2, e3, -⟩ := PW.out
      go_wp2_with fail
      refine (C.out _).mono ?_
      rintro e w2 ⟨rfl, b2⟩
      have B2 := Lib.hid (below_up BW.out b2)
      have P2 := Lib.hid (PW.out.below b2)
      clear b2 e0 e1 e2 e3 BW PW
      cases fb with
      | true =>
        have HF : Hid (r = (i : Int)) := by unfold Hid; rw [HR.out]; exact HA.out rfl
        clear HA HZ
        go_wp2
        go_ret
        exact ⟨by rw [HF.out]; rfl, B2.out⟩
      | false =>
        have HF := Lib.hid (HZ.out rfl)
        clear HA HZ
        go_wp2
        go_roundw
        case rel => exact ⟨i + 1, by omega, by go_num, HF, B2, P2⟩
        case measure => simp [intOf]; omega
    · have hle : ¬ (i : Int) ≤ 3 := by omega
      have HF : Hid (r = -1) := by unfold Hid; rw [HR.out]; exact fewest_none (fun j hj => HN.out j (by omega))
      go_wp2
      go_ret
      exact ⟨by rw [HF.out]; rfl, BW.out⟩

set_option maxRecDepth 100000 in
set_option maxHeartbeats 3200000 in
theorem specFirstPick (s : SD) (k : Int) (w : World) :
    Calls Try.prog 25 #[stateV s, .int .i64 k] w fun e w' => e = .returned (.tuple #[pickV ((pickO s k).getD zeroP), .bool (pickO s k).isSome]) ∧ Below w.heap.size w w' := by
  have C1 := Lib.hid (fun W => specStateOk s W)
  have C2 := Lib.hid (fun W => l01In_is k 1 3 W)
  have HR : Hid (pickO s k = if (stateB s && (decide (1 ≤ k) && decide (k ≤ 3))) = true then firstP (canS (k.toNat - 1)) (3 ^ (k.toNat - 1)) s else none) := rfl
  obtain ⟨t, ht⟩ : ∃ t, firstP (canS (k.toNat - 1)) (3 ^ (k.toNat - 1)) s = t := ⟨_, rfl⟩
  have C3 : Hid (stateB s = true → (decide (1 ≤ k) && decide (k ≤ 3)) = true → ∀ W, Calls Try.prog 39 #[stateV s, .int .i64 k] W fun e w' => e = .returned (.tuple #[pickV (t.getD zeroP), .bool t.isSome]) ∧ Below W.heap.size W w') := by
    intro h h2 W
    simp only [Bool.and_eq_true, decide_eq_true_eq] at h2
    rw [← ht]
    exact specFirst (k.toNat - 1) (by omega) k (by omega) (canS (k.toNat - 1)) (specCan (k.toNat - 1) (by omega)) s (stateB_iff.1 h) W
  rw [ht] at HR
  clear ht
  generalize pickO s k = r at HR ⊢
  generalize (decide (1 ≤ k) && decide (k ≤ 3)) = kb at C2 C3 HR
  generalize stateB s = sb at C1 C3 HR
  obtain ⟨g, ok, hg, hok, hsome, hnone⟩ := opt_split t zeroP
  rw [hg, hok] at C3
  have HG := Lib.hid hg
  have HO := Lib.hid hok
  clear hg hok hsome hnone
  have P0 := StateAt.new w 25 s
  have B0 := alloc_below w (.cells #[.int .i64 s.b, .int .i64 s.h, .int .i64 s.l, .int .i64 s.g] 25)
  have s0 : (w.alloc (.cells #[.int .i64 s.b, .int .i64 s.h, .int .i64 s.l, .int .i64 s.g] 25)).heap.size = w.heap.size + 1 := by simp
  generalize hX0 : w.alloc (.cells #[.int .i64 s.b, .int .i64 s.h, .int .i64 s.l, .int .i64 s.g] 25) = X0 at P0 B0 s0
  have Q1 := EightVar.new X0 32 zeroP
  have B1 := alloc_below X0 (.cells #[.int .i64 0, .int .i64 0, .int .i64 0, .int .i64 0, .int .i64 0, .int .i64 0, .int .i64 0, .int .i64 0] 32)
  have P1 := Lib.hid (P0.below B1)
  rw [s0] at Q1
  change EightVar (X0.alloc (.cells #[.int .i64 0, .int .i64 0, .int .i64 0, .int .i64 0, .int .i64 0, .int .i64 0, .int .i64 0, .int .i64 0] 32)) _ _ at Q1
  have BX := Lib.hid (below_up B0 B1)
  generalize hX1 : X0.alloc (.cells #[.int .i64 0, .int .i64 0, .int .i64 0, .int .i64 0, .int .i64 0, .int .i64 0, .int .i64 0, .int .i64 0] 32) = X1 at Q1 P1 BX
  have R1 := Lib.hid Q1
  clear P0 B0 B1 Q1
  unfold stateV at C1 C3 ⊢
  unfold pickV at C3 ⊢
  obtain ⟨e0, e1, e2, e3, -⟩ := P1.out
  go_enter Try.func25, Try.ntmps25
  go_wp2_with fail
  refine (C1.out _).mono ?_
  rintro e w1 ⟨rfl, b1⟩
  have B1 := Lib.hid (below_up BX.out b1)
  have P1 := Lib.hid (P1.out.below b1)
  have R1 := Lib.hid (R1.out.below b1)
  clear b1 e0 e1 e2 e3 BX
  cases sb with
  | false =>
    have HF : Hid (r = none) := by unfold Hid; rw [HR.out]; rfl
    clear HR C3
    obtain ⟨⟨r0, r1, r2, r3, r4, r5, r6, r7, rl⟩, g0, g1, g2, g3, g4, g5, g6, g7⟩ := R1.out
    go_wp2
    refine bodyPost_ret (v := .tuple #[.agg #[.int .i64 0, .int .i64 0, .int .i64 0, .int .i64 0, .int .i64 0, .int .i64 0, .int .i64 0, .int .i64 0], .bool false]) (by simp [results, Try.results25, go_sem, r0, r1, r2, r3, r4, r5, r6, r7]) rfl ⟨?_, ?_⟩
    · rw [HF.out]; rfl
    · exact below_fill B1.out (b := w.heap.size + 1) (by omega) zeroP
  | true =>
    go_wp2_with fail
    refine (C2.out _).mono ?_
    rintro e w2 ⟨rfl, rfl⟩
    cases kb with
    | false =>
      have HF : Hid (r = none) := by unfold Hid; rw [HR.out]; rfl
      clear HR C3
      obtain ⟨⟨r0, r1, r2, r3, r4, r5, r6, r7, rl⟩, g0, g1, g2, g3, g4, g5, g6, g7⟩ := R1.out
      go_wp2
      refine bodyPost_ret (v := .tuple #[.agg #[.int .i64 0, .int .i64 0, .int .i64 0, .int .i64 0, .int .i64 0, .int .i64 0, .int .i64 0, .int .i64 0], .bool false]) (by simp [results, Try.results25, go_sem, r0, r1, r2, r3, r4, r5, r6, r7]) rfl ⟨?_, ?_⟩
      · rw [HF.out]; rfl
      · exact below_fill B1.out (b := w.heap.size + 1) (by omega) zeroP
    | true =>
      have C4 : Hid (∀ W, Calls Try.prog 39 #[.agg #[.int .i64 s.b, .int .i64 s.h, .int .i64 s.l, .int .i64 s.g], .int .i64 k] W fun e w' => e = .returned (.tuple #[.agg #[.int .i64 g.bl, .int .i64 g.br, .int .i64 g.hl, .int .i64 g.hr, .int .i64 g.ll, .int .i64 g.lr, .int .i64 g.gl, .int .i64 g.gr], .bool ok]) ∧ Below W.heap.size W w') := C3.out (by first | rfl | trivial) (by first | rfl | trivial)
      clear C3
      have HF : Hid (r = t) := by unfold Hid; rw [HR.out]; rfl
      clear HR
      obtain ⟨e0, e1, e2, e3, -⟩ := P1.out
      go_wp2_with fail
      refine (C4.out _).mono ?_
      rintro e w3 ⟨rfl, b3⟩
      have B3 := Lib.hid (below_up B1.out b3)
      obtain ⟨⟨r0, r1, r2, r3, r4, r5, r6, r7, rl⟩, g0, g1, g2, g3, g4, g5, g6, g7⟩ := R1.out.below b3
      clear b3 e0 e1 e2 e3
      go_wp2
      refine bodyPost_ret (v := .tuple #[.agg #[.int .i64 g.bl, .int .i64 g.br, .int .i64 g.hl, .int .i64 g.hr, .int .i64 g.ll, .int .i64 g.lr, .int .i64 g.gl, .int .i64 g.gr], .bool ok]) (by simp [results, Try.results25, go_sem, r0, r1, r2, r3, r4, r5, r6, r7]) rfl ⟨?_, ?_⟩
      · rw [HF.out, HG.out, HO.out]
      · exact below_fill B3.out (b := w.heap.size + 1) (by omega) g
end Go.Proofs.Ytfabcaodiohmaaa
