/- Disjunct and separable pools, plainly. No condition. -/
import Derived.Test.YthfnbnjajcigeaaPoolPlain
namespace Go.Proofs.Ythfnbnjajcigeaa
open Go.RowKit

/-- All of so many numbers from one on. -/
def allFrom (f : Nat → Bool) : Nat → Nat → Bool
  | 0, _ => true
  | m + 1, a => f a && allFrom f m (a + 1)
/-- The first of so many numbers from one on that has something. -/
def seekF {α : Type} (f : Nat → Option α) : Nat → Nat → Option α
  | 0, _ => none
  | m + 1, a => (f a).or (seekF f m (a + 1))
theorem allFrom_step (f : Nat → Bool) {N a : Nat} (h : a < N) : allFrom f (N - a) a = (f a && allFrom f (N - (a + 1)) (a + 1)) := by
  rw [show N - a = (N - (a + 1)) + 1 by omega]
  rfl
theorem allFrom_end (f : Nat → Bool) {m : Nat} (a : Nat) (h : m = 0) : allFrom f m a = true := by subst h; rfl
theorem seekF_step {α : Type} (f : Nat → Option α) {N a : Nat} (h : a < N) : seekF f (N - a) a = (f a).or (seekF f (N - (a + 1)) (a + 1)) := by
  rw [show N - a = (N - (a + 1)) + 1 by omega]
  rfl
theorem seekF_end {α : Type} (f : Nat → Option α) {m : Nat} (a : Nat) (h : m = 0) : seekF f m a = none := by subst h; rfl

/-- Whether a pool holds the item and none of the set. -/
def freeB (P : List Int) (item set : Int) : Bool := P.any fun p => andI p item != 0 && andI p set == 0
def disAt (P : List Int) (d : Int) (k s : Nat) : Bool := !((andI s (2 ^ k) == 0 && decide (cntI s ≤ d)) && !freeB P (2 ^ k) s)
def okD (n : Int) (P : List Int) (d : Int) : Bool := poolsB n P && (decide (1 ≤ d) && decide (d ≤ 3))
def disR (n : Int) (P : List Int) (d : Int) : Bool := okD n P d && allFrom (fun k => allFrom (disAt P d k) (2 ^ n.toNat) 0) n.toNat 0
def sameAt (P : List Int) (d : Int) (a b : Nat) : Option (Int × Int) := if (decide (cntI b ≤ d) && (resL P a == resL P b)) = true then some ((a : Int), (b : Int)) else none
def weakA (P : List Int) (d : Int) (N a : Nat) : Option (Int × Int) := if cntI a ≤ d then seekF (sameAt P d a) (N - (a + 1)) (a + 1) else none
/-- Two sets that the pools do not tell apart. -/
def weakO (n : Int) (P : List Int) (d : Int) : Option (Int × Int) := if okD n P d = true then seekF (weakA P d (2 ^ n.toNat)) (2 ^ n.toNat) 0 else none
def weakL : Option (Int × Int) → List Int
  | none => []
  | some (a, b) => [a, b]
def sepR (n : Int) (P : List Int) (d : Int) : Bool := okD n P d && !(weakO n P d).isSome
theorem weakL_len : ∀ o, (weakL o).length ≤ 2
  | none => by decide
  | some (_, _) => Nat.le_refl _
theorem and_top {x y : Int} (h0 : 0 ≤ x) (h1 : x ≤ 1023) (g0 : 0 ≤ y) (g1 : y ≤ 1023) : 0 ≤ andI x y ∧ andI x y ≤ 1023 := by
  have := and_in h0 h1 g0 g1
  omega
end Go.Proofs.Ythfnbnjajcigeaa
