/- The walks of the exact laws of FormatCases, FormatSets, PoolsLine and ReadSets round the contracts of the program's functions (in every world that lies above the one that the law starts in): each returns true for every argument. Conditions: the slices that came in read as integers that fit Go's int; the texts are short enough to be counted. -/
import Derived.Test.YtlflblngbneacabGreatDoorGRep
import Derived.Test.YtlflblngbneacabGreatDoorRepState
namespace Go.Proofs.YtlflblngbneacabGreatDoor
open Go.RowKit

/-- The contracts of the program's functions. -/
def FormatCasesIs (f : FuncId) (l : List Int) (w : World) : Prop := ∀ W, Below w.heap.size w W → ∀ v, IntsAt W v l → Calls Tryz.prog f #[v] W fun e w' => e = .returned (.string (casesT l)) ∧ Below W.heap.size W w'
def FormatSetsIs (f : FuncId) (l : List Int) (w : World) : Prop := ∀ W, Below w.heap.size w W → ∀ v, IntsAt W v l → Calls Tryz.prog f #[v] W fun e w' => e = .returned (.string (setsT l)) ∧ Below W.heap.size W w'
def PoolsLineIs (f : FuncId) (n : Int) (P : List Int) (w : World) : Prop := ∀ W, Below w.heap.size w W → ∀ v, IntsAt W v P → Calls Tryz.prog f #[.int .i64 n, v] W fun e w' => e = .returned (.string (poolsT n P)) ∧ Below W.heap.size W w'
def ReadSetsIs (f : FuncId) (t : ByteArray) (w : World) : Prop := ∀ W, Below w.heap.size w W → Calls Tryz.prog f #[.string t] W (GivesQ (setsL t) (setsB t) W)
theorem setsL_len (t : ByteArray) (h : t.size ≤ 1048576) : (setsL t).length ≤ 1048577 := by
  have := (parts_length t (isBy sepSp)).2
  unfold setsL
  split
  · rw [List.length_map]; omega
  · simp

end Go.Proofs.YtlflblngbneacabGreatDoor
