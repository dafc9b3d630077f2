/- The walks of the exact laws of StateOk and CountCases round the contracts of the program's functions: each returns true for every argument. No condition. -/
import Derived.Test.YtfabcaodiohmaaaPickSpec
namespace Go.Proofs.Ytfabcaodiohmaaa
open Go.RowKit

set_option maxHeartbeats 1600000 in
theorem toPickL (p : PD) (w : World) : Calls Try.prog 16 #[pickV p] w fun e w' => e = .returned (pickV p) ∧ Below w.heap.size w w' := by
  unfold pickV
  go_enter Try.func16, Try.ntmps16
  go_wp2
  refine bodyPost_ret (v := .agg #[.int .i64 p.bl, .int .i64 p.br, .int .i64 p.hl, .int .i64 p.hr, .int .i64 p.ll, .int .i64 p.lr, .int .i64 p.gl, .int .i64 p.gr]) (by simp [results, Try.results16, go_sem]) rfl ⟨rfl, (((Below.refl _ _).alloc (Nat.le_refl _) _).alloc (by simp) _).alloc (by simp; omega) _⟩

/-- The contracts of functions of a state, and of a state and a pick. -/
def StateOkIs (f : FuncId) (s : SD) : Prop := ∀ W, Calls Try.prog f #[stateV s] W fun e w' => e = .returned (.bool (stateB s)) ∧ Below W.heap.size W w'
def CountCasesIs (f : FuncId) (s : SD) : Prop := ∀ W, Calls Try.prog f #[stateV s] W fun e w' => e = .returned (.int .i64 (casesS s)) ∧ Below W.heap.size W w'
def PickOkIs (f : FuncId) (s : SD) (p : PD) : Prop := ∀ W, Calls Try.prog f #[stateV s, pickV p] W fun e w' => e = .returned (.bool (pickB s p)) ∧ Below W.heap.size W w'

set_option maxHeartbeats 1600000 in
theorem lawStateOk (s : SD) (IM : StateOkIs 12 s) (w : World) :
    Calls Try.prog 3 #[stateV s] w fun e w' => e = .returned (.bool true) ∧ Below w.heap.size w w' := by
  have T := Lib.hid (toStateL s)
  have C1 := Lib.hid (specStateOk s)
  have C2 := Lib.hid IM
  have P0 := Lib.hid (StateAt.new w 23 s)
  have B0 := Lib.hid (alloc_below w (.cells #[.int .i64 s.b, .int .i64 s.h, .int .i64 s.l, .int .i64 s.g] 23))
  unfold StateOkIs at C2
  generalize stateB s = b at C1 C2
  unfold stateV at T C1 C2 ⊢
  generalize hX : w.alloc (.cells #[.int .i64 s.b, .int .i64 s.h, .int .i64 s.l, .int .i64 s.g] 23) = X at P0 B0
  obtain ⟨e0, e1, e2, e3, -⟩ := P0.out
  go_enter Try.func3, Try.ntmps3
  go_wp2_with fail
  refine (T.out _).mono ?_
  rintro e w1 ⟨rfl, b1⟩
  have B1 := Lib.hid (below_up B0.out b1)
  have P1 := Lib.hid (P0.out.below b1)
  clear b1 e0 e1 e2 e3 hX
  go_wp2_with fail
  refine (C1.out _).mono ?_
  rintro e w2 ⟨rfl, b2⟩
  have B2 := Lib.hid (below_up B1.out b2)
  obtain ⟨e0, e1, e2, e3, -⟩ := P1.out.below b2
  clear b2
  go_wp2_with fail
  refine (T.out _).mono ?_
  rintro e w3 ⟨rfl, b3⟩
  have B3 := Lib.hid (below_up B2.out b3)
  clear b3 e0 e1 e2 e3
  go_wp2_with fail
  refine (C2.out _).mono ?_
  rintro e w4 ⟨rfl, b4⟩
  have B4 := Lib.hid (below_up B3.out b4)
  clear b4
  cases b
  all_goals
    go_wp2
    go_ret
    exact ⟨rfl, B4.out⟩

set_option maxHeartbeats 1600000 in
theorem lawCountCases (s : SD) (IM : CountCasesIs 14 s) (w : World) :
    Calls Try.prog 4 #[stateV s] w fun e w' => e = .returned (.bool true) ∧ Below w.heap.size w w' := by
  have T := Lib.hid (toStateL s)
  have C1 := Lib.hid (specCountCases s)
  have C2 := Lib.hid IM
  have P0 := Lib.hid (StateAt.new w 23 s)
  have B0 := Lib.hid (alloc_below w (.cells #[.int .i64 s.b, .int .i64 s.h, .int .i64 s.l, .int .i64 s.g] 23))
  unfold CountCasesIs at C2
  generalize casesS s = b at C1 C2
  unfold stateV at T C1 C2 ⊢
  generalize hX : w.alloc (.cells #[.int .i64 s.b, .int .i64 s.h, .int .i64 s.l, .int .i64 s.g] 23) = X at P0 B0
  obtain ⟨e0, e1, e2, e3, -⟩ := P0.out
  go_enter Try.func4, Try.ntmps4
  go_wp2_with fail
  refine (T.out _).mono ?_
  rintro e w1 ⟨rfl, b1⟩
  have B1 := Lib.hid (below_up B0.out b1)
  have P1 := Lib.hid (P0.out.below b1)
  clear b1 e0 e1 e2 e3 hX
  go_wp2_with fail
  refine (C1.out _).mono ?_
  rintro e w2 ⟨rfl, b2⟩
  have B2 := Lib.hid (below_up B1.out b2)
  obtain ⟨e0, e1, e2, e3, -⟩ := P1.out.below b2
  clear b2
  go_wp2_with fail
  refine (T.out _).mono ?_
  rintro e w3 ⟨rfl, b3⟩
  have B3 := Lib.hid (below_up B2.out b3)
  clear b3 e0 e1 e2 e3
  go_wp2_with fail
  refine (C2.out _).mono ?_
  rintro e w4 ⟨rfl, b4⟩
  have B4 := Lib.hid (below_up B3.out b4)
  clear b4
  go_wp2
  go_ret
  exact ⟨rfl, B4.out⟩

end Go.Proofs.Ytfabcaodiohmaaa
