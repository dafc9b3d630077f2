/- The contracts of the model's FindOne, FindAll, CountHalving, WorstHalving, SkipTests and OneByOne. No condition. -/
import Derived.Test.YtnpmkoeceihepaaHalfPlain
import Derived.Test.YtnpmkoeceihepaaItemsSpec
import Derived.Deep.QuietTactic
import Derived.BigQuiet
namespace Go.Proofs.Ytnpmkoeceihepaa
open Go.RowKit

theorem half_mid {a b : Nat} (h : 1 < b - a) (hb : b ≤ 10) : IntKind.i64.wrap ((b : Int) - (a : Int)) = (b : Int) - a ∧ IntKind.i64.wrap (((b : Int) - (a : Int)).tdiv 2) = (midN a b : Int) - a ∧
    IntKind.i64.wrap ((a : Int) + ((midN a b : Int) - a)) = (midN a b : Int) ∧ IntKind.i64.wrap (midN a b : Int) = (midN a b : Int) := by
  have hm := mid_in h
  have hd : ((b : Int) - (a : Int)).tdiv 2 = (midN a b : Int) - a := by
    rw [Int.tdiv_eq_ediv_of_nonneg (by omega)]
    unfold midN
    omega
  rw [hd]
  refine ⟨?_, ?_, ?_, ?_⟩ <;> (rw [IntKind.wrap_i64]; omega)

/-- What FindOne and FindAll give back. -/
def Finds (L : List Int) (k : Int) (b : Bool) (w : World) (e : Ending) (w' : World) : Prop :=
  ∃ u, e = .returned (.tuple #[u, .int .i64 k, .bool b]) ∧ Own w' w.heap.size u L ∧ Below w.heap.size w w'
theorem Finds.no {L : List Int} {k : Int} {b : Bool} {w w' : World} (hl : L = []) (hk : k = 0) (h : b = false) (hb : Below w.heap.size w w') : Finds L k b w (.returned (.tuple #[.slice none 0 0, .int .i64 0, .bool false])) w' := by
  subst h hl hk
  exact ⟨_, rfl, Own.nil _ _, hb⟩
theorem Finds.yes {L : List Int} {k k' : Int} {b : Bool} {w w' : World} {u : Value} (hk : k = k') (h : b = true) (ho : Own w' w.heap.size u L) (hb : Below w.heap.size w w') : Finds L k b w (.returned (.tuple #[u, .int .i64 k', .bool true])) w' := by
  subst h hk
  exact ⟨_, rfl, ho, hb⟩
end Go.Proofs.Ytnpmkoeceihepaa
