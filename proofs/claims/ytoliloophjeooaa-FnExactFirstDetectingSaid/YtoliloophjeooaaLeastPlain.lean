/- The program's search for the first list of detecting pools, plainly: it finds the list that the model finds. No condition. -/
import Derived.Test.YtoliloophjeooaaFirstSPlain
namespace Go.Proofs.Ytoliloophjeooaa
open Go.RowKit

/-- The first list of so many pools more, in ascending order, from a pool on, that detects all sets. -/
def leastF (n : Int) : Nat → Nat → List Nat → Option (List Nat)
  | 0, _, Q => if detF (natL Q) (2 ^ n.toNat) = true then some Q else none
  | l + 1, a, Q => seekF (fun p => leastF n l (p + 1) (Q ++ [p])) (2 ^ n.toNat - a) a
theorem least_none : ∀ n : Nat, n ≤ 3 → ∀ k : Nat, k < (tabS (n + 1)).length → leastF ((n + 1 : Nat) : Int) k 0 [] = none := by decide +kernel
theorem least_some : ∀ n : Nat, n ≤ 3 → leastF ((n + 1 : Nat) : Int) (tabS (n + 1)).length 0 [] = some (tabS (n + 1)) := by decide +kernel
theorem least_is {m : Nat} (h1 : 1 ≤ m) (h4 : m ≤ 4) : (∀ k : Nat, k < (tabS m).length → leastF (m : Int) k 0 [] = none) ∧ leastF (m : Int) (tabS m).length 0 [] = some (tabS m) := by
  obtain ⟨q, rfl⟩ : ∃ q, m = q + 1 := ⟨m - 1, by omega⟩
  exact ⟨least_none q (by omega), least_some q (by omega)⟩
end Go.Proofs.Ytoliloophjeooaa
