/- The contracts of the model's DecodeItems, SinglePools and BitPools. Conditions: the slices read as integers and as truth values. -/
import Derived.Test.YtlflblngbneacaaGreatDoorItemsPlain
import Derived.Test.YtlflblngbneacaaGreatDoorGDis
import Derived.Deep.RegionWith
import Derived.WalkSmall
namespace Go.Proofs.YtlflblngbneacaaGreatDoor
open Go.RowKit

/-- What a function that makes pools gives back. -/
def Gives (L : List Int) (b : Bool) (w : World) (e : Ending) (w' : World) : Prop :=
  ∃ u, e = .returned (.tuple #[u, .bool b]) ∧ Own w' w.heap.size u L ∧ Below w.heap.size w w'
theorem Gives.no {L : List Int} {b : Bool} {w w' : World} (hl : L = []) (h : b = false) (hb : Below w.heap.size w w') : Gives L b w (.returned (.tuple #[.slice none 0 0, .bool false])) w' := by
  subst h hl
  exact ⟨_, rfl, Own.nil _ _, hb⟩
theorem Gives.yes {L : List Int} {b : Bool} {w w' : World} {u : Value} (h : b = true) (ho : Own w' w.heap.size u L) (hb : Below w.heap.size w w') : Gives L b w (.returned (.tuple #[u, .bool true])) w' := by
  subst h
  exact ⟨_, rfl, ho, hb⟩
theorem pow_in {k : Nat} (h : k ≤ 10) : IntKind.i64.wrap (2 ^ k) = 2 ^ k ∧ (1 : Int) ≤ 2 ^ k ∧ (2 : Int) ^ k ≤ 1024 := by
  have := two_pow_in k h
  refine ⟨?_, this⟩
  rw [IntKind.wrap_i64]
  omega

end Go.Proofs.YtlflblngbneacaaGreatDoor
