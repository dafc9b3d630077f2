/- The contracts of the program's resultsOk, SurelyGood and SurelyBad. Conditions: the slices read as integers and as truth values, and are short enough to be counted. -/
import Derived.Test.YtlflblngbneacaaGreatDoorPoolsImpl
namespace Go.Proofs.YtlflblngbneacaaGreatDoor
open Go.RowKit

/-- What is left of a set without another one. -/
theorem left_nat {a b : Nat} (ha : a < 1024) (hb : b < 1024) : bits .andNot .i64 (a : Int) (b : Int) = ((a - (a &&& b) : Nat) : Int) := by
  obtain ⟨x, hx⟩ : ∃ x : BitVec 64, BitVec.ofInt 64 (a : Int) = x := ⟨_, rfl⟩
  obtain ⟨y, hy⟩ : ∃ y : BitVec 64, BitVec.ofInt 64 (b : Int) = y := ⟨_, rfl⟩
  have xa : x.toNat = a := by rw [← hx]; exact nat64 (by omega)
  have yb : y.toNat = b := by rw [← hy]; exact nat64 (by omega)
  have hs : (x &&& y) + (x &&& ~~~y) = x := by
    rw [BitVec.add_eq_or_of_and_eq_zero _ _ (by ext i; simp; intro _ h1 _; exact h1)]
    ext i
    simp
    cases x[i] <;> simp
  have h1 : (x &&& y).toNat = a &&& b := by rw [BitVec.toNat_and, xa, yb]
  have h2 : (x &&& ~~~y).toNat ≤ a := by rw [BitVec.toNat_and, xa]; exact Nat.and_le_left
  have h3 : a &&& b ≤ a := Nat.and_le_left
  have h4 : (x &&& ~~~y).toNat = a - (a &&& b) := by
    have h5 := congrArg BitVec.toNat hs
    rw [BitVec.toNat_add, h1, xa] at h5
    omega
  show IntKind.i64.wrap ((BitVec.ofInt 64 (a : Int) &&& ~~~(BitVec.ofInt 64 (b : Int))).toNat : Nat) = _
  rw [hx, hy, h4, IntKind.wrap_i64]
  omega
theorem left_in {x y : Int} (h0 : 0 ≤ x) (h1 : x ≤ 1023) (g0 : 0 ≤ y) (g1 : y ≤ 1023) : bits .andNot .i64 x y = x - bits .and .i64 x y := by
  obtain ⟨a, rfl⟩ := Int.eq_ofNat_of_zero_le h0
  obtain ⟨b, rfl⟩ := Int.eq_ofNat_of_zero_le g0
  have h2 : bits .and .i64 (a : Int) (b : Int) = ((a &&& b : Nat) : Int) := and_nat (by omega) (by omega)
  have h3 : a &&& b ≤ a := Nat.and_le_left
  rw [left_nat (by omega) (by omega), h2]
  omega

def rokB (n : Int) (P : List Int) (R : List Bool) : Bool := poolsB n P && (R.length == P.length)
theorem rok_pools {n : Int} {P : List Int} {R : List Bool} (h : rokB n P R = true) : (∀ p ∈ P, 0 ≤ p ∧ p ≤ 1023) ∧ R.length = P.length := by
  unfold rokB at h
  rw [Bool.and_eq_true, beq_iff_eq] at h
  exact ⟨(pools_in h.1).2.2, h.2⟩
end Go.Proofs.YtlflblngbneacaaGreatDoor
