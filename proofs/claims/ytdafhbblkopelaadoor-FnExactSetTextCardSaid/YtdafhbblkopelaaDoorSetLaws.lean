/- The walks of the exact laws of SetText and ReadSet round the contracts of the program's functions (in every world that lies above the one that the law starts in): each returns true for every argument. Condition: the text is short enough to be counted. -/
import Derived.Test.YtdafhbblkopelaaDoorSetText
namespace Go.Proofs.YtdafhbblkopelaaDoor
open Go.RowKit

/-- The contracts of the program's functions. -/
def SetTextIs (f : FuncId) (s : Int) (w : World) : Prop := ∀ W, Below w.heap.size w W → Calls Tryd.prog f #[.int .i64 s] W fun e w' => e = .returned (.string (setT s)) ∧ Below W.heap.size W w'
def ReadSetIs (f : FuncId) (t : ByteArray) (w : World) : Prop := ∀ W, Below w.heap.size w W → Calls Tryd.prog f #[.string t] W fun e w' => e = .returned (.tuple #[.int .i64 (readV t), .bool (readB t)]) ∧ Below W.heap.size W w'

set_option maxHeartbeats 1600000 in
theorem lawSetText (s : Int) (w : World) (IM : SetTextIs 6 s w) :
    Calls Tryd.prog 3 #[.int .i64 s] w fun e w' => e = .returned (.bool true) ∧ Below w.heap.size w w' := by
  have C1 := Lib.hid (specSetText s)
  have C2 := Lib.hid IM
  unfold SetTextIs at C2
  generalize setT s = r at C1 C2
  go_enter Tryd.func3, Tryd.ntmps3
  go_wp2_with fail
  refine (C1.out _).mono ?_
  rintro e w1 ⟨rfl, b1⟩
  have B1 := Lib.hid b1
  clear b1
  go_wp2_with fail
  refine (C2.out _ B1.out).mono ?_
  rintro e w2 ⟨rfl, b2⟩
  have B2 := Lib.hid (B1.out.trans (b2.mono B1.out.size))
  clear b2
  go_wp2
  go_ret
  exact ⟨rfl, B2.out⟩

set_option maxHeartbeats 1600000 in
theorem lawReadSet (t : ByteArray) (w : World) (ht : t.size ≤ maxLen) (IM : t.size ≤ 1048576 → ReadSetIs 8 t w) :
    Calls Tryd.prog 4 #[.string t] w fun e w' => e = .returned (.bool true) ∧ Below w.heap.size w w' := by
  by_cases L : (1048576 : Int) < (t.size : Int)
  · go_enter Tryd.func4, Tryd.ntmps4
    go_wp2
    go_ret
    exact ⟨rfl, Below.refl _ _⟩
  · have C1 := Lib.hid (fun W => specReadSet t W ht)
    have C2 := Lib.hid (IM (by omega))
    unfold ReadSetIs at C2
    generalize readV t = v at C1 C2
    generalize readB t = b at C1 C2
    have hb : (b != b) = false := by simp
    clear IM
    go_enter Tryd.func4, Tryd.ntmps4
    go_wp2_with fail
    refine (C1.out _).mono ?_
    rintro e w1 ⟨rfl, b1⟩
    have B1 := Lib.hid b1
    clear b1
    go_wp2_with fail
    refine (C2.out _ B1.out).mono ?_
    rintro e w2 ⟨rfl, b2⟩
    have B2 := Lib.hid (B1.out.trans (b2.mono B1.out.size))
    clear b2
    go_wp2
    go_ret
    exact ⟨rfl, B2.out⟩
end Go.Proofs.YtdafhbblkopelaaDoor
