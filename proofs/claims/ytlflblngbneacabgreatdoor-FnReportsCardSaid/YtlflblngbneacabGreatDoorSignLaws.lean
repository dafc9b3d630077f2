/- The walks of the exact laws of FormatSigns, ReadSigns, FormatResults and ReadResults round the contracts of the program's functions (in every world that lies above the one that the law starts in): each returns true for every argument. Conditions: the slices that came in read as integers and truth values; the texts are short enough to be counted. -/
import Derived.Test.YtlflblngbneacabGreatDoorSignSpec
namespace Go.Proofs.YtlflblngbneacabGreatDoor
open Go.RowKit

/-- The contracts of the program's functions. -/
def FormatSignsIs (f : FuncId) (l : List Int) (w : World) : Prop := ∀ W, Below w.heap.size w W → ∀ v, IntsAt W v l → Calls Tryz.prog f #[v] W fun e w' => e = .returned (.string (signsT l)) ∧ Below W.heap.size W w'
def FormatResultsIs (f : FuncId) (l : List Bool) (w : World) : Prop := ∀ W, Below w.heap.size w W → ∀ v, BoolsAt W v l → Calls Tryz.prog f #[v] W fun e w' => e = .returned (.string (ressT l)) ∧ Below W.heap.size W w'
def ReadSignsIs (f : FuncId) (t : ByteArray) (w : World) : Prop := ∀ W, Below w.heap.size w W → Calls Tryz.prog f #[.string t] W (GivesN (readSL t) (readSB t) W)
def ReadResultsIs (f : FuncId) (t : ByteArray) (w : World) : Prop := ∀ W, Below w.heap.size w W → Calls Tryz.prog f #[.string t] W (GivesT (readRL t) (readRB t) W)
theorem readSL_len (t : ByteArray) : (readSL t).length ≤ t.size := by
  unfold readSL
  split
  · exact sgnL_len t t.size
  · simp
theorem readRL_len (t : ByteArray) : (readRL t).length ≤ t.size := by
  unfold readRL
  split
  · simp
  · split
    · exact Nat.le_of_eq (plusL_len t t.size)
    · simp

end Go.Proofs.YtlflblngbneacabGreatDoor
