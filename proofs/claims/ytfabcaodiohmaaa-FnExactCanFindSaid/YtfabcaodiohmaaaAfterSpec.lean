/- The contract of the model's AfterPick. No condition. -/
import Derived.Test.YtfabcaodiohmaaaSearchSpec
namespace Go.Proofs.Ytfabcaodiohmaaa
open Go.RowKit

def zeroS : SD := ⟨0, 0, 0, 0⟩
/-- The state after a weighing, if the pick and the outcome are valid. -/
def afterO (s : SD) (p : PD) (x : Int) : Option SD := if (pickB s p && (decide (-1 ≤ x) && decide (x ≤ 1))) = true then some (afterS s p x) else none
theorem pick_in {s : SD} {p : PD} (h : pickB s p = true) : SIn s ∧ PIn s p := by
  unfold pickB PD.list at h
  simp only [List.all_cons, List.all_nil, Bool.and_eq_true, decide_eq_true_eq, Bool.and_true, cntB_iff] at h
  refine ⟨stateB_iff.1 h.1, ?_⟩
  unfold PIn
  omega
/-- A state's four cells lie in block b and may be written. -/
def FourVar (w : World) (b : Nat) (s : SD) : Prop :=
  StateAt w b s ∧ w.frozen? ⟨b, 0, none⟩ = false ∧ w.frozen? ⟨b, 1, none⟩ = false ∧ w.frozen? ⟨b, 2, none⟩ = false ∧ w.frozen? ⟨b, 3, none⟩ = false
theorem FourVar.below {w w' : World} {b : Nat} {s : SD} (h : FourVar w b s) (hb : Below w.heap.size w w') : FourVar w' b s := by
  have hlt : b < w.heap.size := h.1.2.2.2.2
  obtain ⟨hp, f0, f1, f2, f3⟩ := h
  refine ⟨hp.below hb, ?_, ?_, ?_, ?_⟩
  · rw [hb.frozen (p := ⟨b, 0, none⟩) hlt]; exact f0
  · rw [hb.frozen (p := ⟨b, 1, none⟩) hlt]; exact f1
  · rw [hb.frozen (p := ⟨b, 2, none⟩) hlt]; exact f2
  · rw [hb.frozen (p := ⟨b, 3, none⟩) hlt]; exact f3
theorem FourVar.new (w : World) (ty : TypeId) (s : SD) : FourVar (w.alloc (.cells #[.int .i64 s.b, .int .i64 s.h, .int .i64 s.l, .int .i64 s.g] ty)) w.heap.size s := by
  refine ⟨StateAt.new w ty s, ?_, ?_, ?_, ?_⟩ <;> simp
theorem below_fill4 {B : Nat} {a w : World} (h : Below B a w) {b : Nat} (hb : B ≤ b) (q : SD) : Below B a ((((w.setCell ⟨b, 0, none⟩ (.int .i64 q.b)).setCell ⟨b, 1, none⟩ (.int .i64 q.h)).setCell ⟨b, 2, none⟩ (.int .i64 q.l)).setCell ⟨b, 3, none⟩ (.int .i64 q.g)) := by
  exact ((((h.setCell hb _).setCell hb _).setCell hb _).setCell hb _)

set_option maxRecDepth 100000 in
set_option maxHeartbeats 3200000 in
theorem specAfterPick (s : SD) (p : PD) (x : Int) (w : World) :
    Calls Try.prog 18 #[stateV s, pickV p, .int .i64 x] w fun e w' => e = .returned (.tuple #[stateV ((afterO s p x).getD zeroS), .bool (afterO s p x).isSome]) ∧ Below w.heap.size w w' := by
  have C1 := Lib.hid (fun W => specPickOk s p W)
  have C2 := Lib.hid (fun W => l01In_is x (-1) 1 W)
  have C3 : Hid (pickB s p = true → ∀ W, Calls Try.prog 33 #[stateV s, pickV p, .int .i64 x] W fun e w' => e = .returned (stateV (afterS s p x)) ∧ Below W.heap.size W w') := fun h W => specAfter s p x (pick_in h).1 (pick_in h).2 W
  have HR : Hid (afterO s p x = if (pickB s p && (decide (-1 ≤ x) && decide (x ≤ 1))) = true then some (afterS s p x) else none) := rfl
  generalize afterO s p x = r at HR ⊢
  generalize afterS s p x = q at C3 HR
  generalize (decide (-1 ≤ x) && decide (x ≤ 1)) = kb at C2 HR
  generalize pickB s p = sb at C1 C3 HR
  have P0 := StateAt.new w 25 s
  have B0 := alloc_below w (.cells #[.int .i64 s.b, .int .i64 s.h, .int .i64 s.l, .int .i64 s.g] 25)
  have s0 : (w.alloc (.cells #[.int .i64 s.b, .int .i64 s.h, .int .i64 s.l, .int .i64 s.g] 25)).heap.size = w.heap.size + 1 := by simp
  generalize hX0 : w.alloc (.cells #[.int .i64 s.b, .int .i64 s.h, .int .i64 s.l, .int .i64 s.g] 25) = X0 at P0 B0 s0
  have Q0 := PickAt.new X0 32 p
  have B1 := alloc_below X0 (.cells #[.int .i64 p.bl, .int .i64 p.br, .int .i64 p.hl, .int .i64 p.hr, .int .i64 p.ll, .int .i64 p.lr, .int .i64 p.gl, .int .i64 p.gr] 32)
  have s1 : (X0.alloc (.cells #[.int .i64 p.bl, .int .i64 p.br, .int .i64 p.hl, .int .i64 p.hr, .int .i64 p.ll, .int .i64 p.lr, .int .i64 p.gl, .int .i64 p.gr] 32)).heap.size = w.heap.size + 2 := by simp [s0]
  generalize hX1 : X0.alloc (.cells #[.int .i64 p.bl, .int .i64 p.br, .int .i64 p.hl, .int .i64 p.hr, .int .i64 p.ll, .int .i64 p.lr, .int .i64 p.gl, .int .i64 p.gr] 32) = X1 at Q0 B1 s1
  rw [s0] at Q0
  have R0 := FourVar.new X1 25 zeroS
  have B2 := alloc_below X1 (.cells #[.int .i64 0, .int .i64 0, .int .i64 0, .int .i64 0] 25)
  rw [s1] at R0
  have P2 := Lib.hid ((P0.below B1).below B2)
  have Q2 := Lib.hid (Q0.below B2)
  have BX := Lib.hid (below_up (below_up B0 B1) B2)
  change FourVar (X1.alloc (.cells #[.int .i64 0, .int .i64 0, .int .i64 0, .int .i64 0] 25)) _ _ at R0
  generalize hX2 : X1.alloc (.cells #[.int .i64 0, .int .i64 0, .int .i64 0, .int .i64 0] 25) = X2 at R0 P2 Q2 BX
  have R2 := Lib.hid R0
  clear P0 B0 B1 B2 Q0 R0
  unfold stateV at C1 C3 ⊢
  unfold pickV at C1 C3 ⊢
  obtain ⟨e0, e1, e2, e3, -⟩ := P2.out
  obtain ⟨q0, q1, q2, q3, q4, q5, q6, q7, -⟩ := Q2.out
  go_enter Try.func18, Try.ntmps18
  go_wp2_with fail
  refine (C1.out _).mono ?_
  rintro e w1 ⟨rfl, b1⟩
  have B1 := Lib.hid (below_up BX.out b1)
  have P1 := Lib.hid (P2.out.below b1)
  have Q1 := Lib.hid (Q2.out.below b1)
  have R1 := Lib.hid (R2.out.below b1)
  clear b1 e0 e1 e2 e3 q0 q1 q2 q3 q4 q5 q6 q7 BX P2 Q2 R2
  cases sb with
  | false =>
    have HF : Hid (r = none) := by unfold Hid; rw [HR.out]; rfl
    clear HR C3
    obtain ⟨⟨r0, r1, r2, r3, rl⟩, g0, g1, g2, g3⟩ := R1.out
    go_wp2
    refine bodyPost_ret (v := .tuple #[.agg #[.int .i64 0, .int .i64 0, .int .i64 0, .int .i64 0], .bool false]) (by simp [results, Try.results18, go_sem, r0, r1, r2, r3]) rfl ⟨?_, ?_⟩
    · rw [HF.out]; rfl
    · exact below_fill4 B1.out (b := w.heap.size + 2) (by omega) zeroS
  | true =>
    have C4 : Hid (∀ W, Calls Try.prog 33 #[.agg #[.int .i64 s.b, .int .i64 s.h, .int .i64 s.l, .int .i64 s.g], .agg #[.int .i64 p.bl, .int .i64 p.br, .int .i64 p.hl, .int .i64 p.hr, .int .i64 p.ll, .int .i64 p.lr, .int .i64 p.gl, .int .i64 p.gr], .int .i64 x] W fun e w' => e = .returned (.agg #[.int .i64 q.b, .int .i64 q.h, .int .i64 q.l, .int .i64 q.g]) ∧ Below W.heap.size W w') := C3.out rfl
    clear C3
    go_wp2_with fail
    refine (C2.out _).mono ?_
    rintro e w2 ⟨rfl, rfl⟩
    cases kb with
    | false =>
      have HF : Hid (r = none) := by unfold Hid; rw [HR.out]; rfl
      clear HR C4
      obtain ⟨⟨r0, r1, r2, r3, rl⟩, g0, g1, g2, g3⟩ := R1.out
      go_wp2
      refine bodyPost_ret (v := .tuple #[.agg #[.int .i64 0, .int .i64 0, .int .i64 0, .int .i64 0], .bool false]) (by simp [results, Try.results18, go_sem, r0, r1, r2, r3]) rfl ⟨?_, ?_⟩
      · rw [HF.out]; rfl
      · exact below_fill4 B1.out (b := w.heap.size + 2) (by omega) zeroS
    | true =>
      have HF : Hid (r = some q) := by unfold Hid; rw [HR.out]; rfl
      clear HR
      obtain ⟨e0, e1, e2, e3, -⟩ := P1.out
      obtain ⟨q0, q1, q2, q3, q4, q5, q6, q7, -⟩ := Q1.out
      go_wp2_with fail
      refine (C4.out _).mono ?_
      rintro e w3 ⟨rfl, b3⟩
      have B3 := Lib.hid (below_up B1.out b3)
      obtain ⟨⟨r0, r1, r2, r3, rl⟩, g0, g1, g2, g3⟩ := R1.out.below b3
      clear b3 e0 e1 e2 e3 q0 q1 q2 q3 q4 q5 q6 q7
      go_wp2
      refine bodyPost_ret (v := .tuple #[.agg #[.int .i64 q.b, .int .i64 q.h, .int .i64 q.l, .int .i64 q.g], .bool true]) (by simp [results, Try.results18, go_sem, r0, r1, r2, r3]) rfl ⟨?_, ?_⟩
      · rw [HF.out]; rfl
      · exact below_fill4 B3.out (b := w.heap.size + 2) (by omega) q
end Go.Proofs.Ytfabcaodiohmaaa
