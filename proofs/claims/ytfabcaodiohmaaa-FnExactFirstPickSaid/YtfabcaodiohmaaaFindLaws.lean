/- The walks of the exact laws of CanFind, FewestFor and FirstPick round the contracts of the program's functions: each returns true for every argument. No condition. -/
import Derived.Test.YtfabcaodiohmaaaStateLaws
import Derived.Test.YtfabcaodiohmaaaFindSpec
namespace Go.Proofs.Ytfabcaodiohmaaa
open Go.RowKit

/-- The contracts of functions of a state, and of a state and a number. -/
def CanFindIs (f : FuncId) (s : SD) (k : Int) : Prop := ∀ W, Calls Try.prog f #[stateV s, .int .i64 k] W fun e w' => e = .returned (.bool (findB s k)) ∧ Below W.heap.size W w'
def FewestIs (f : FuncId) (s : SD) : Prop := ∀ W, Calls Try.prog f #[stateV s] W fun e w' => e = .returned (.int .i64 (fewestI s)) ∧ Below W.heap.size W w'
def FirstPickIs (f : FuncId) (s : SD) (k : Int) : Prop := ∀ W, Calls Try.prog f #[stateV s, .int .i64 k] W fun e w' => e = .returned (.tuple #[pickV ((pickO s k).getD zeroP), .bool (pickO s k).isSome]) ∧ Below W.heap.size W w'

set_option maxHeartbeats 1600000 in
theorem lawCanFind (s : SD) (k : Int) (IM : CanFindIs 22 s k) (w : World) :
    Calls Try.prog 7 #[stateV s, .int .i64 k] w fun e w' => e = .returned (.bool true) ∧ Below w.heap.size w w' := by
  have T := Lib.hid (toStateL s)
  have C1 := Lib.hid (specCanFind s k)
  have C2 := Lib.hid IM
  have P0 := Lib.hid (StateAt.new w 23 s)
  have B0 := Lib.hid (alloc_below w (.cells #[.int .i64 s.b, .int .i64 s.h, .int .i64 s.l, .int .i64 s.g] 23))
  unfold CanFindIs at C2
  generalize findB s k = b at C1 C2
  unfold stateV at T C1 C2 ⊢
  generalize hX : w.alloc (.cells #[.int .i64 s.b, .int .i64 s.h, .int .i64 s.l, .int .i64 s.g] 23) = X at P0 B0
  obtain ⟨e0, e1, e2, e3, -⟩ := P0.out
  go_enter Try.func7, Try.ntmps7
  go_wp2_with fail
  refine (T.out _).mono ?_
  rintro e w1 ⟨rfl, b1⟩
  have B1 := Lib.hid (below_up B0.out b1)
  have P1 := Lib.hid (P0.out.below b1)
  clear b1 e0 e1 e2 e3 hX
  go_wp2_with fail
  refine (C1.out _).mono ?_
  rintro e w2 ⟨rfl, b2⟩
  have B2 := Lib.hid (below_up B1.out b2)
  obtain ⟨e0, e1, e2, e3, -⟩ := P1.out.below b2
  clear b2
  go_wp2_with fail
  refine (T.out _).mono ?_
  rintro e w3 ⟨rfl, b3⟩
  have B3 := Lib.hid (below_up B2.out b3)
  clear b3 e0 e1 e2 e3
  go_wp2_with fail
  refine (C2.out _).mono ?_
  rintro e w4 ⟨rfl, b4⟩
  have B4 := Lib.hid (below_up B3.out b4)
  clear b4
  cases b
  all_goals
    go_wp2
    go_ret
    exact ⟨rfl, B4.out⟩

set_option maxHeartbeats 1600000 in
theorem lawFewestFor (s : SD) (IM : FewestIs 24 s) (w : World) :
    Calls Try.prog 8 #[stateV s] w fun e w' => e = .returned (.bool true) ∧ Below w.heap.size w w' := by
  have T := Lib.hid (toStateL s)
  have C1 := Lib.hid (specFewest s)
  have C2 := Lib.hid IM
  have P0 := Lib.hid (StateAt.new w 23 s)
  have B0 := Lib.hid (alloc_below w (.cells #[.int .i64 s.b, .int .i64 s.h, .int .i64 s.l, .int .i64 s.g] 23))
  unfold FewestIs at C2
  generalize fewestI s = b at C1 C2
  unfold stateV at T C1 C2 ⊢
  generalize hX : w.alloc (.cells #[.int .i64 s.b, .int .i64 s.h, .int .i64 s.l, .int .i64 s.g] 23) = X at P0 B0
  obtain ⟨e0, e1, e2, e3, -⟩ := P0.out
  go_enter Try.func8, Try.ntmps8
  go_wp2_with fail
  refine (T.out _).mono ?_
  rintro e w1 ⟨rfl, b1⟩
  have B1 := Lib.hid (below_up B0.out b1)
  have P1 := Lib.hid (P0.out.below b1)
  clear b1 e0 e1 e2 e3 hX
  go_wp2_with fail
  refine (C1.out _).mono ?_
  rintro e w2 ⟨rfl, b2⟩
  have B2 := Lib.hid (below_up B1.out b2)
  obtain ⟨e0, e1, e2, e3, -⟩ := P1.out.below b2
  clear b2
  go_wp2_with fail
  refine (T.out _).mono ?_
  rintro e w3 ⟨rfl, b3⟩
  have B3 := Lib.hid (below_up B2.out b3)
  clear b3 e0 e1 e2 e3
  go_wp2_with fail
  refine (C2.out _).mono ?_
  rintro e w4 ⟨rfl, b4⟩
  have B4 := Lib.hid (below_up B3.out b4)
  clear b4
  go_wp2
  go_ret
  exact ⟨rfl, B4.out⟩

set_option maxRecDepth 100000 in
set_option maxHeartbeats 3200000 in
theorem eqPickL (p : PD) (w : World) : Calls Try.prog 27 #[pickV p, pickV p] w fun e w' => e = .returned (.bool true) ∧ Below w.heap.size w w' := by
  have P0 := PickAt.new w 32 p
  have B0 := alloc_below w (.cells #[.int .i64 p.bl, .int .i64 p.br, .int .i64 p.hl, .int .i64 p.hr, .int .i64 p.ll, .int .i64 p.lr, .int .i64 p.gl, .int .i64 p.gr] 32)
  have s0 : (w.alloc (.cells #[.int .i64 p.bl, .int .i64 p.br, .int .i64 p.hl, .int .i64 p.hr, .int .i64 p.ll, .int .i64 p.lr, .int .i64 p.gl, .int .i64 p.gr] 32)).heap.size = w.heap.size + 1 := by simp
  generalize hX0 : w.alloc (.cells #[.int .i64 p.bl, .int .i64 p.br, .int .i64 p.hl, .int .i64 p.hr, .int .i64 p.ll, .int .i64 p.lr, .int .i64 p.gl, .int .i64 p.gr] 32) = X0 at P0 B0 s0
  have Q0 := PickAt.new X0 32 p
  have B1 := alloc_below X0 (.cells #[.int .i64 p.bl, .int .i64 p.br, .int .i64 p.hl, .int .i64 p.hr, .int .i64 p.ll, .int .i64 p.lr, .int .i64 p.gl, .int .i64 p.gr] 32)
  rw [s0] at Q0
  generalize hX1 : X0.alloc (.cells #[.int .i64 p.bl, .int .i64 p.br, .int .i64 p.hl, .int .i64 p.hr, .int .i64 p.ll, .int .i64 p.lr, .int .i64 p.gl, .int .i64 p.gr] 32) = X1 at Q0 B1
  obtain ⟨e0, e1, e2, e3, e4, e5, e6, e7, -⟩ := P0.below B1
  obtain ⟨q0, q1, q2, q3, q4, q5, q6, q7, -⟩ := Q0
  have BX := Lib.hid (below_up B0 B1)
  clear P0 B0 B1
  unfold pickV
  go_enter Try.func27, Try.ntmps27
  go_wp2
  go_ret
  exact ⟨rfl, BX.out⟩

set_option maxRecDepth 100000 in
set_option maxHeartbeats 3200000 in
theorem lawFirstPick (s : SD) (k : Int) (IM : FirstPickIs 26 s k) (w : World) :
    Calls Try.prog 9 #[stateV s, .int .i64 k] w fun e w' => e = .returned (.bool true) ∧ Below w.heap.size w w' := by
  have T := Lib.hid (toStateL s)
  have C1 := Lib.hid (specFirstPick s k)
  have C2 := Lib.hid IM
  unfold FirstPickIs at C2
  generalize (pickO s k).getD zeroP = g at C1 C2
  generalize (pickO s k).isSome = ok at C1 C2
  have E := Lib.hid (eqPickL g)
  have P0 := Lib.hid (StateAt.new w 23 s)
  have B0 := Lib.hid (alloc_below w (.cells #[.int .i64 s.b, .int .i64 s.h, .int .i64 s.l, .int .i64 s.g] 23))
  unfold stateV at T C1 C2 ⊢
  unfold pickV at C1 C2 E
  generalize hX : w.alloc (.cells #[.int .i64 s.b, .int .i64 s.h, .int .i64 s.l, .int .i64 s.g] 23) = X at P0 B0
  obtain ⟨e0, e1, e2, e3, -⟩ := P0.out
  go_enter Try.func9, Try.ntmps9
  go_wp2_with fail
  refine (T.out _).mono ?_
  rintro e w1 ⟨rfl, b1⟩
  have B1 := Lib.hid (below_up B0.out b1)
  have P1 := Lib.hid (P0.out.below b1)
  clear b1 e0 e1 e2 e3 hX
  go_wp2_with fail
  refine (C1.out _).mono ?_
  rintro e w2 ⟨rfl, b2⟩
  have B2 := Lib.hid (below_up B1.out b2)
  have P2 := Lib.hid (P1.out.below b2)
  clear b2
  have a3 := alloc_below w2 (.cells #[.int .i64 0, .int .i64 0, .int .i64 0, .int .i64 0, .int .i64 0, .int .i64 0, .int .i64 0, .int .i64 0] 32)
  have q3 := EightVar.new w2 32 zeroP
  have s3 : (w2.alloc (.cells #[.int .i64 0, .int .i64 0, .int .i64 0, .int .i64 0, .int .i64 0, .int .i64 0, .int .i64 0, .int .i64 0] 32)).heap.size = w2.heap.size + 1 := by simp
  have B3 := Lib.hid (below_up B2.out a3)
  have P3 := Lib.hid (P2.out.below a3)
  change EightVar (w2.alloc (.cells #[.int .i64 0, .int .i64 0, .int .i64 0, .int .i64 0, .int .i64 0, .int .i64 0, .int .i64 0, .int .i64 0] 32)) _ _ at q3
  generalize hX3 : w2.alloc (.cells #[.int .i64 0, .int .i64 0, .int .i64 0, .int .i64 0, .int .i64 0, .int .i64 0, .int .i64 0, .int .i64 0] 32) = X3 at a3 q3 s3 B3 P3
  have hlt : w.heap.size < w2.heap.size := P2.out.2.2.2.2
  have hn1 : ¬ (w.heap.size = w2.heap.size) := by omega
  have hn2 : ¬ (w2.heap.size = w.heap.size) := by omega
  have Q4 := Lib.hid (q3.fill g)
  have B4 := Lib.hid (below_fill B3.out (b := w2.heap.size) (by omega) g)
  have P4 := Lib.hid (P3.out.fillFar (c := w2.heap.size) (by omega) g)
  obtain ⟨e0, e1, e2, e3, -⟩ := P3.out
  obtain ⟨⟨r0, r1, r2, r3, r4, r5, r6, r7, rl⟩, g0, g1, g2, g3, g4, g5, g6, g7⟩ := q3
  clear a3 s3 hlt
  go_wp2_with fail
  refine (T.out _).mono ?_
  rintro e w5 ⟨rfl, b5⟩
  have B5 := Lib.hid (below_up B4.out b5)
  have Q5 := Lib.hid (Q4.out.below b5)
  clear b5 e0 e1 e2 e3 r0 r1 r2 r3 r4 r5 r6 r7 rl g0 g1 g2 g3 g4 g5 g6 g7 B4 P4 Q4 P3 B3 hX3 hn1 hn2
  go_wp2_with fail
  refine (C2.out _).mono ?_
  rintro e w6 ⟨rfl, b6⟩
  have B6 := Lib.hid (below_up B5.out b6)
  have Q6 := Lib.hid (Q5.out.below b6)
  clear b6 B5 Q5
  have a7 := alloc_below w6 (.cells #[.int .i64 0, .int .i64 0, .int .i64 0, .int .i64 0, .int .i64 0, .int .i64 0, .int .i64 0, .int .i64 0] 32)
  have q7 := EightVar.new w6 32 zeroP
  have B7 := Lib.hid (below_up B6.out a7)
  have Q7 := Lib.hid (Q6.out.below a7)
  change EightVar (w6.alloc (.cells #[.int .i64 0, .int .i64 0, .int .i64 0, .int .i64 0, .int .i64 0, .int .i64 0, .int .i64 0, .int .i64 0] 32)) _ _ at q7
  have hlt : w2.heap.size < w6.heap.size := Q6.out.1.2.2.2.2.2.2.2.2
  have hlw : w.heap.size ≤ w6.heap.size := B6.out.size
  generalize hX7 : w6.alloc (.cells #[.int .i64 0, .int .i64 0, .int .i64 0, .int .i64 0, .int .i64 0, .int .i64 0, .int .i64 0, .int .i64 0] 32) = X7 at a7 q7 B7 Q7
  have hn1 : ¬ (w2.heap.size = w6.heap.size) := by omega
  have hn2 : ¬ (w6.heap.size = w2.heap.size) := by omega
  have F7 := Lib.hid (q7.fill g)
  have G7 := Lib.hid (Q7.out.fillFar (c := w6.heap.size) (by omega) g)
  have B8 := Lib.hid (below_fill B7.out (b := w6.heap.size) hlw g)
  obtain ⟨⟨c0, c1, c2, c3, c4, c5, c6, c7, -⟩, -⟩ := Q7.out
  obtain ⟨⟨r0, r1, r2, r3, r4, r5, r6, r7, -⟩, g0, g1, g2, g3, g4, g5, g6, g7⟩ := q7
  clear a7 hlt hlw
  cases ok
  all_goals
    go_wp2_with fail
    refine (E.out _).mono ?_
    rintro e w8 ⟨rfl, b8⟩
    have B9 := Lib.hid (below_up B8.out b8)
    clear b8 c0 c1 c2 c3 c4 c5 c6 c7 r0 r1 r2 r3 r4 r5 r6 r7 g0 g1 g2 g3 g4 g5 g6 g7
    go_wp2
    go_ret
    exact ⟨rfl, B9.out⟩
end Go.Proofs.Ytfabcaodiohmaaa
