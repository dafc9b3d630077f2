/- The walks of the exact laws of FormatCases, FormatSets, PoolsLine and ReadSets round the contracts of the program's functions (in every world that lies above the one that the law starts in): each returns true for every argument. Conditions: the slices that came in read as integers that fit Go's int; the texts are short enough to be counted. -/
import Derived.Test.YtlflblngbneacaaGreatDoorGRep
import Derived.Test.YtlflblngbneacaaGreatDoorRepState
namespace Go.Proofs.YtlflblngbneacaaGreatDoor
open Go.RowKit

/-- The contracts of the program's functions. -/
def FormatCasesIs (f : FuncId) (l : List Int) (w : World) : Prop := ∀ W, Below w.heap.size w W → ∀ v, IntsAt W v l → Calls Tryz.prog f #[v] W fun e w' => e = .returned (.string (casesT l)) ∧ Below W.heap.size W w'
def FormatSetsIs (f : FuncId) (l : List Int) (w : World) : Prop := ∀ W, Below w.heap.size w W → ∀ v, IntsAt W v l → Calls Tryz.prog f #[v] W fun e w' => e = .returned (.string (setsT l)) ∧ Below W.heap.size W w'
def PoolsLineIs (f : FuncId) (n : Int) (P : List Int) (w : World) : Prop := ∀ W, Below w.heap.size w W → ∀ v, IntsAt W v P → Calls Tryz.prog f #[.int .i64 n, v] W fun e w' => e = .returned (.string (poolsT n P)) ∧ Below W.heap.size W w'
def ReadSetsIs (f : FuncId) (t : ByteArray) (w : World) : Prop := ∀ W, Below w.heap.size w W → Calls Tryz.prog f #[.string t] W (GivesQ (setsL t) (setsB t) W)
theorem setsL_len (t : ByteArray) (h : t.size ≤ 1048576) : (setsL t).length ≤ 1048577 := by
  have := (parts_length t (isBy sepSp)).2
  unfold setsL
  split
  · rw [List.length_map]; omega
  · simp

set_option maxRecDepth 100000 in
set_option maxHeartbeats 3200000 in
theorem lawPoolsLine (n : Int) (P : List Int) (w : World) (vP : Value) (cP : IntsAt w vP P) (IM : P.length ≤ 1048576 → PoolsLineIs 17 n P w) :
    Calls Tryz.prog 5 #[.int .i64 n, vP] w fun e w' => e = .returned (.bool true) ∧ Below w.heap.size w w' := by
  have HP := Lib.hid cP
  have B0 := Lib.hid (Below.refl w.heap.size w)
  obtain ⟨aP, kP, rfl, -⟩ := cP
  by_cases LP : 1048576 < P.length
  · go_enter Tryz.func5, Tryz.ntmps5
    go_wp2
    go_ret
    exact ⟨rfl, B0.out⟩
  have NP : P.length ≤ 1048576 := by omega
  replace IM := IM NP
  have SP := Lib.hid (fun W u0 h0 => specPoolsLine n u0 P W h0 NP)
  unfold PoolsLineIs at IM
  have IP := Lib.hid IM
  generalize poolsT n P = r at SP IP
  have TP := Lib.hid (fun W h => toInts (.slice aP P.length kP) P W h NP)
  have EP := Lib.hid (fun W a b (h : IntsAt W a P) h' => eqInts_same a b P W h h' (by omega))
  clear IM NP
  generalize hnP : P.length = nP at HP TP LP
  clear hnP
  go_enter Tryz.func5, Tryz.ntmps5
  go_wp2_with fail
  refine (TP.out _ (HP.out.below B0.out)).mono ?_
  rintro e w1 ⟨uPP, rfl, -, o, bb⟩
  obtain ⟨gPP, nPP, qPP, rfl⟩ := o.form
  have IPP : Hid (∀ k, Value.ownBlock (.slice gPP nPP qPP) = some k → w.heap.size ≤ k ∧ k < w1.heap.size) := fun k hk => o.blk k hk
  have PP1 := Lib.hid o
  clear o
  have B1 := Lib.hid (below_up B0.out bb)
  have D1 : Hid (w.heap.size ≤ w1.heap.size) := bb.size
  clear bb B0
  go_wp2_with fail
  refine (SP.out _ _ PP1.out.reads).mono ?_
  rintro e w2 ⟨rfl, bb⟩
  have B2 := Lib.hid (below_up B1.out bb)
  have D2 : Hid (w1.heap.size ≤ w2.heap.size) := bb.size
  clear bb B1 PP1
  go_wp2_with fail
  refine (TP.out _ (HP.out.below B2.out)).mono ?_
  rintro e w3 ⟨uXP, rfl, -, o, bb⟩
  obtain ⟨gXP, nXP, qXP, rfl⟩ := o.form
  have IXP : Hid (∀ k, Value.ownBlock (.slice gXP nXP qXP) = some k → w2.heap.size ≤ k ∧ k < w3.heap.size) := fun k hk => o.blk k hk
  have XP3 := Lib.hid o
  clear o
  have B3 := Lib.hid (below_up B2.out bb)
  have D3 : Hid (w2.heap.size ≤ w3.heap.size) := bb.size
  clear bb B2
  go_wp2_with fail
  refine (IP.out _ B3.out _ XP3.out.reads).mono ?_
  rintro e w4 ⟨rfl, bb⟩
  have B4 := Lib.hid (below_up B3.out bb)
  have D4 : Hid (w3.heap.size ≤ w4.heap.size) := bb.size
  have XP4 := Lib.hid (XP3.out.below bb)
  clear bb B3 XP3
  go_wp2_with fail
  refine (TP.out _ (HP.out.below B4.out)).mono ?_
  rintro e w5 ⟨uY, rfl, -, o, bb⟩
  obtain ⟨gY, nY, qY, rfl⟩ := o.form
  have IY : Hid (∀ k, Value.ownBlock (.slice gY nY qY) = some k → w4.heap.size ≤ k ∧ k < w5.heap.size) := fun k hk => o.blk k hk
  have Y5 := Lib.hid o
  clear o
  have B5 := Lib.hid (below_up B4.out bb)
  have D5 : Hid (w4.heap.size ≤ w5.heap.size) := bb.size
  have XP5 := Lib.hid (XP4.out.below bb)
  clear bb B4 XP4
  go_wp2_with fail
  refine (EP.out _ _ _ XP5.out.reads Y5.out.reads).mono ?_
  rintro e w6 ⟨rfl, bb⟩
  have B6 := Lib.hid (below_up B5.out bb)
  have D6 : Hid (w5.heap.size ≤ w6.heap.size) := bb.size
  clear bb B5 XP5 Y5
  go_wp2
  go_ret
  exact ⟨rfl, B6.out⟩

end Go.Proofs.YtlflblngbneacaaGreatDoor
