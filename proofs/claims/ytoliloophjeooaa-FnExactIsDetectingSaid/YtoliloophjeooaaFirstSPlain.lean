/- The search for the first list of detecting pools, plainly. No condition. -/
import Derived.Test.YtoliloophjeooaaSumPlain
import Derived.Test.YtoliloophjeooaaSeekPlain
namespace Go.Proofs.Ytoliloophjeooaa
open Go.RowKit

/-- The first list of so many pools more, in ascending order, that detects all sets. -/
def searchS (n : Int) : Nat → List Nat → Option (List Nat)
  | 0, Q => if detF (natL Q) (2 ^ n.toNat) = true then some Q else none
  | l + 1, Q => seekF (fun p => searchS n l (Q ++ [p])) (2 ^ n.toNat - fromN Q) (fromN Q)
theorem seekF_some {α : Type} {f : Nat → Option α} : ∀ {m a : Nat} {x : α}, seekF f m a = some x → ∃ p, a ≤ p ∧ p < a + m ∧ f p = some x
  | 0, _, _, h => by cases h
  | m + 1, a, x, h => by
    unfold seekF at h
    cases hf : f a with
    | some y =>
      rw [hf] at h
      exact ⟨a, Nat.le_refl _, by omega, hf.trans h⟩
    | none =>
      rw [hf, Option.none_or] at h
      obtain ⟨p, h1, h2, h3⟩ := seekF_some h
      exact ⟨p, by omega, by omega, h3⟩
theorem searchS_len {n : Int} : ∀ {l : Nat} {Q L : List Nat}, searchS n l Q = some L → L.length = Q.length + l
  | 0, Q, L, h => by
    unfold searchS at h
    split at h
    · cases h; rfl
    · cases h
  | l + 1, Q, L, h => by
    obtain ⟨p, -, -, h3⟩ := seekF_some (f := fun p => searchS n l (Q ++ [p])) h
    have := searchS_len h3
    simp at this
    omega
/-- The first list of the fewest pools that detect all sets of n items. -/
def tabS (n : Nat) : List Nat := if n ≤ 1 then [1] else if n ≤ 2 then [1, 2] else if n ≤ 3 then [1, 2, 4] else [3, 5, 14]
theorem tab_none : ∀ n : Nat, n ≤ 3 → ∀ k : Nat, k < (tabS (n + 1)).length → searchS ((n + 1 : Nat) : Int) k [] = none := by decide +kernel
theorem tab_some : ∀ n : Nat, n ≤ 3 → searchS ((n + 1 : Nat) : Int) (tabS (n + 1)).length [] = some (tabS (n + 1)) := by decide +kernel
def firstB (n : Int) : Bool := decide (1 ≤ n) && decide (n ≤ 4)
def firstL (n : Int) : List Int := if firstB n = true then natL (tabS n.toNat) else []
def fewS (n : Int) : Int := if firstB n = true then ((tabS n.toNat).length : Int) else -1
theorem tab_len : ∀ n : Nat, n ≤ 3 → (tabS (n + 1)).length ≤ n + 1 := by decide
theorem tab_is {m : Nat} (h1 : 1 ≤ m) (h4 : m ≤ 4) : (∀ k : Nat, k < (tabS m).length → searchS (m : Int) k [] = none) ∧ searchS (m : Int) (tabS m).length [] = some (tabS m) ∧ (tabS m).length ≤ m := by
  obtain ⟨q, rfl⟩ : ∃ q, m = q + 1 := ⟨m - 1, by omega⟩
  exact ⟨tab_none q (by omega), tab_some q (by omega), tab_len q (by omega)⟩
theorem firstL_len (n : Int) : (firstL n).length ≤ 4 := by
  unfold firstL
  split
  · rename_i h
    unfold firstB at h
    simp only [Bool.and_eq_true, decide_eq_true_eq] at h
    have := (tab_is (m := n.toNat) (by omega) (by omega)).2.2
    rw [natL_len]
    omega
  · simp
end Go.Proofs.Ytoliloophjeooaa
