/- The walks of the exact laws of SplitLine, FormatState, StateLine, FormatPick and RoundsLine round the contracts of the program's functions (in every world that lies above the one that the law starts in): each returns true for every argument. Conditions: what came in reads as integers that fit Go's int. -/
import Derived.Test.YtlflblngbneacabDoorGRep
import Derived.Test.YtlflblngbneacabDoorRepState
import Derived.Test.YtlflblngbneacabDoorTellsLaw
import Derived.Test.YtlflblngbneacabDoorGStates
namespace Go.Proofs.YtlflblngbneacabDoor
open Go.RowKit

/-- The contracts of the program's functions. -/
def SplitLineIs (f : FuncId) (L R l : List Int) (w : World) : Prop :=
  ∀ W, Below w.heap.size w W → ∀ vl vr vc, IntsAt W vl L → IntsAt W vr R → IntsAt W vc l → Calls Tryd.prog f #[.agg #[vl, vr], vc] W fun e w' => e = .returned (.string (splitT L R l)) ∧ Below W.heap.size W w'
def FormatStateIs (f : FuncId) (s : SD) (w : World) : Prop := ∀ W, Below w.heap.size w W → Calls Tryd.prog f #[stateV s] W fun e w' => e = .returned (.string (listB s.list)) ∧ Below W.heap.size W w'
def StateLineIs (f : FuncId) (s : SD) (w : World) : Prop := ∀ W, Below w.heap.size w W → Calls Tryd.prog f #[stateV s] W fun e w' => e = .returned (.string (stateT s)) ∧ Below W.heap.size W w'
def FormatPickIs (f : FuncId) (p : PD) (w : World) : Prop := ∀ W, Below w.heap.size w W → Calls Tryd.prog f #[pickV p] W fun e w' => e = .returned (.string (listB p.list)) ∧ Below W.heap.size W w'
def RoundsLineIs (f : FuncId) (S : List (List Int)) (w : World) : Prop := ∀ W, Below w.heap.size w W → ∀ v, LsAt W v S → Calls Tryd.prog f #[v] W fun e w' => e = .returned (.string (roundsT S)) ∧ Below W.heap.size W w'

set_option maxRecDepth 100000 in
set_option maxHeartbeats 1600000 in
theorem lawRoundsLine (w : World) (v : Value) (S : List (List Int)) (c : CameLs w v S) (IM : S.length + totL S ≤ 1048576 → RoundsLineIs 14 S w) :
    Calls Tryd.prog 3 #[v] w fun e w' => e = .returned (.bool true) ∧ Below w.heap.size w w' := by
  obtain ⟨h, hm, hw⟩ := c
  have HS := Lib.hid (szLs v S w h hm (fun d hd => (hw d hd).1))
  have R0 := Lib.hid h
  have HW : Hid (∀ d ∈ S, ∀ x ∈ d, -9223372036854775808 ≤ x ∧ x ≤ 9223372036854775807) := fun d hd x hx => range_of ((hw d hd).2 x hx)
  obtain ⟨a, cc, rfl, -⟩ := h
  have B0 := Lib.hid (Below.refl w.heap.size w)
  clear hm hw
  go_enter Tryd.func3, Tryd.ntmps3
  go_wp2_with fail
  refine HS.out.mono ?_
  rintro e w1 ⟨r, rfl, hr, bb⟩
  have B1 := Lib.hid (below_up B0.out bb)
  have R1 := Lib.hid (R0.out.below bb)
  clear bb B0 R0
  by_cases hneg : r < 0
  · go_wp2
    go_ret
    exact ⟨rfl, B1.out⟩
  · obtain ⟨r0, r1, hlen⟩ : 0 ≤ r ∧ r ≤ 1048576 ∧ S.length + totL S ≤ 1048576 := by
      rcases hr with h | h
      · omega
      · exact h
    have hl := SzLs.lists hlen
    have T := Lib.hid (fun W h => toLs (.slice a S.length cc) S W h (by omega) hl)
    have E := Lib.hid (fun W x y h1 h2 => eqLs x y S W h1 h2 (by omega) hl)
    have SP := Lib.hid (fun W x h => specRoundsLine x S W h (by omega) (fun d hd => ⟨hl d hd, HW.out d hd⟩))
    have IP := Lib.hid (IM hlen)
    unfold RoundsLineIs at IP
    generalize roundsT S = t at SP IP
    clear hr hlen hl HW IM HS
    generalize S.length = m at R1 T
    go_wp2_with fail
    refine (T.out _ R1.out).mono ?_
    rintro e w2 ⟨u, rfl, ou, bb⟩
    obtain ⟨g2, n2, c2, rfl⟩ := ou.form
    have B2 := Lib.hid (below_up B1.out bb)
    have R2 := Lib.hid (R1.out.below bb)
    have U2 := Lib.hid ou.reads
    clear bb ou B1 R1
    go_wp2_with fail
    refine (SP.out _ _ U2.out).mono ?_
    rintro e w3 ⟨rfl, bb⟩
    have B3 := Lib.hid (below_up B2.out bb)
    have R3 := Lib.hid (R2.out.below bb)
    clear bb B2 R2 U2
    go_wp2_with fail
    refine (T.out _ R3.out).mono ?_
    rintro e w4 ⟨u, rfl, ou, bb⟩
    obtain ⟨g4, n4, c4, rfl⟩ := ou.form
    have B4 := Lib.hid (below_up B3.out bb)
    have R4 := Lib.hid (R3.out.below bb)
    have U4 := Lib.hid ou.reads
    clear bb ou B3 R3
    go_wp2_with fail
    refine (IP.out _ B4.out _ U4.out).mono ?_
    rintro e w5 ⟨rfl, bb⟩
    have B5 := Lib.hid (below_up B4.out bb)
    have R5 := Lib.hid (R4.out.below bb)
    have U5 := Lib.hid (U4.out.below bb)
    clear bb B4 R4 U4
    go_wp2_with fail
    refine (T.out _ R5.out).mono ?_
    rintro e w6 ⟨u, rfl, ou, bb⟩
    obtain ⟨g6, n6, c6, rfl⟩ := ou.form
    have B6 := Lib.hid (below_up B5.out bb)
    have U6 := Lib.hid (U5.out.below bb)
    have V6 := Lib.hid ou.reads
    clear bb ou B5 R5 U5
    go_wp2_with fail
    refine (E.out _ _ _ U6.out V6.out).mono ?_
    rintro e w7 ⟨rfl, bb⟩
    have B7 := Lib.hid (below_up B6.out bb)
    clear bb
    go_wp2
    go_ret
    exact ⟨rfl, B7.out⟩
end Go.Proofs.YtlflblngbneacabDoor
