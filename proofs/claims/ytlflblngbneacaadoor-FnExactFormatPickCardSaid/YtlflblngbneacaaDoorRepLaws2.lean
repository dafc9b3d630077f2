/- The walks of the exact laws of SplitLine, FormatState, StateLine, FormatPick and RoundsLine round the contracts of the program's functions (in every world that lies above the one that the law starts in): each returns true for every argument. Conditions: what came in reads as integers that fit Go's int. -/
import Derived.Test.YtlflblngbneacaaDoorGRep
import Derived.Test.YtlflblngbneacaaDoorRepState
import Derived.Test.YtlflblngbneacaaDoorTellsLaw
import Derived.Test.YtlflblngbneacaaDoorGStates
namespace Go.Proofs.YtlflblngbneacaaDoor
open Go.RowKit

/-- The contracts of the program's functions. -/
def SplitLineIs (f : FuncId) (L R l : List Int) (w : World) : Prop :=
  ∀ W, Below w.heap.size w W → ∀ vl vr vc, IntsAt W vl L → IntsAt W vr R → IntsAt W vc l → Calls Tryd.prog f #[.agg #[vl, vr], vc] W fun e w' => e = .returned (.string (splitT L R l)) ∧ Below W.heap.size W w'
def FormatStateIs (f : FuncId) (s : SD) (w : World) : Prop := ∀ W, Below w.heap.size w W → Calls Tryd.prog f #[stateV s] W fun e w' => e = .returned (.string (listB s.list)) ∧ Below W.heap.size W w'
def StateLineIs (f : FuncId) (s : SD) (w : World) : Prop := ∀ W, Below w.heap.size w W → Calls Tryd.prog f #[stateV s] W fun e w' => e = .returned (.string (stateT s)) ∧ Below W.heap.size W w'
def FormatPickIs (f : FuncId) (p : PD) (w : World) : Prop := ∀ W, Below w.heap.size w W → Calls Tryd.prog f #[pickV p] W fun e w' => e = .returned (.string (listB p.list)) ∧ Below W.heap.size W w'
def RoundsLineIs (f : FuncId) (S : List (List Int)) (w : World) : Prop := ∀ W, Below w.heap.size w W → ∀ v, LsAt W v S → Calls Tryd.prog f #[v] W fun e w' => e = .returned (.string (roundsT S)) ∧ Below W.heap.size W w'

set_option maxRecDepth 100000 in
set_option maxHeartbeats 1600000 in
theorem lawFormatState (s : SD) (hs : Fit s.list) (w : World) (IM : FormatStateIs 32 s w) :
    Calls Tryd.prog 8 #[stateV s] w fun e w' => e = .returned (.bool true) ∧ Below w.heap.size w w' := by
  have T := Lib.hid (toStateL s)
  have C1 := Lib.hid (fun W => specFormatState s hs W)
  have C2 := Lib.hid IM
  have P0 := Lib.hid (StateAt.new w 40 s)
  have B0 := Lib.hid (alloc_below w (.cells #[.int .i64 s.b, .int .i64 s.h, .int .i64 s.l, .int .i64 s.g] 40))
  unfold FormatStateIs at C2
  generalize listB s.list = b at C1 C2
  unfold stateV at T C1 C2 ⊢
  generalize hX : w.alloc (.cells #[.int .i64 s.b, .int .i64 s.h, .int .i64 s.l, .int .i64 s.g] 40) = X at P0 B0
  obtain ⟨e0, e1, e2, e3, -⟩ := P0.out
  go_enter Tryd.func8, Tryd.ntmps8
  go_wp2_with fail
  refine (T.out _).mono ?_
  rintro e w1 ⟨rfl, b1⟩
  have B1 := Lib.hid (below_up B0.out b1)
  have P1 := Lib.hid (P0.out.below b1)
  clear b1 e0 e1 e2 e3 hX
  go_wp2_with fail
  refine (C1.out _).mono ?_
  rintro e w2 ⟨rfl, b2⟩
  have B2 := Lib.hid (below_up B1.out b2)
  obtain ⟨e0, e1, e2, e3, -⟩ := P1.out.below b2
  clear b2
  go_wp2_with fail
  refine (T.out _).mono ?_
  rintro e w3 ⟨rfl, b3⟩
  have B3 := Lib.hid (below_up B2.out b3)
  clear b3 e0 e1 e2 e3
  go_wp2_with fail
  refine (C2.out _ B3.out).mono ?_
  rintro e w4 ⟨rfl, b4⟩
  have B4 := Lib.hid (below_up B3.out b4)
  clear b4
  go_wp2
  go_ret
  exact ⟨rfl, B4.out⟩

set_option maxRecDepth 100000 in
set_option maxHeartbeats 1600000 in
theorem lawFormatPick (p : PD) (hs : Fit p.list) (w : World) (IM : FormatPickIs 35 p w) :
    Calls Tryd.prog 9 #[pickV p] w fun e w' => e = .returned (.bool true) ∧ Below w.heap.size w w' := by
  have T := Lib.hid (toPickL p)
  have C1 := Lib.hid (fun W => specFormatPick p hs W)
  have C2 := Lib.hid IM
  have P0 := Lib.hid (PickAt.new w 46 p)
  have B0 := Lib.hid (alloc_below w (.cells #[.int .i64 p.bl, .int .i64 p.br, .int .i64 p.hl, .int .i64 p.hr, .int .i64 p.ll, .int .i64 p.lr, .int .i64 p.gl, .int .i64 p.gr] 46))
  unfold FormatPickIs at C2
  generalize listB p.list = b at C1 C2
  unfold pickV at T C1 C2 ⊢
  generalize hX : w.alloc (.cells #[.int .i64 p.bl, .int .i64 p.br, .int .i64 p.hl, .int .i64 p.hr, .int .i64 p.ll, .int .i64 p.lr, .int .i64 p.gl, .int .i64 p.gr] 46) = X at P0 B0
  obtain ⟨e0, e1, e2, e3, e4, e5, e6, e7, -⟩ := P0.out
  go_enter Tryd.func9, Tryd.ntmps9
  go_wp2_with fail
  refine (T.out _).mono ?_
  rintro e w1 ⟨rfl, b1⟩
  have B1 := Lib.hid (below_up B0.out b1)
  have P1 := Lib.hid (P0.out.below b1)
  clear b1 e0 e1 e2 e3 e4 e5 e6 e7 hX
  go_wp2_with fail
  refine (C1.out _).mono ?_
  rintro e w2 ⟨rfl, b2⟩
  have B2 := Lib.hid (below_up B1.out b2)
  obtain ⟨e0, e1, e2, e3, e4, e5, e6, e7, -⟩ := P1.out.below b2
  clear b2
  go_wp2_with fail
  refine (T.out _).mono ?_
  rintro e w3 ⟨rfl, b3⟩
  have B3 := Lib.hid (below_up B2.out b3)
  clear b3 e0 e1 e2 e3 e4 e5 e6 e7
  go_wp2_with fail
  refine (C2.out _ B3.out).mono ?_
  rintro e w4 ⟨rfl, b4⟩
  have B4 := Lib.hid (below_up B3.out b4)
  clear b4
  go_wp2
  go_ret
  exact ⟨rfl, B4.out⟩

end Go.Proofs.YtlflblngbneacaaDoor
