/- The pools of single items and of bits, and the decoding of results, plainly. No condition. -/
import Derived.Test.YtlflblngbneacaaGreatDoorGPool
namespace Go.Proofs.YtlflblngbneacaaGreatDoor
open Go.RowKit

def decB (n : Int) (P : List Int) (R : List Bool) : Bool := (poolsB n P && (R.length == P.length)) && (resL P (topI n - goodR n P R) == R)
def decV (n : Int) (P : List Int) (R : List Bool) : Int := if decB n P R = true then topI n - goodR n P R else 0
/-- The pools of the single items. -/
def singK (k : Nat) : List Int := (List.range k).map fun (j : Nat) => (2 : Int) ^ j
theorem singK_len (k : Nat) : (singK k).length = k := by simp [singK]
theorem singK_succ (k : Nat) : singK (k + 1) = singK k ++ [(2 : Int) ^ k] := by simp [singK, List.range_succ]
def singO (n : Int) : List Int := if itemsB n = true then singK n.toNat else []
/-- The items whose number has the bit. -/
def bitF (bit : Int) : Nat → Int
  | 0 => 0
  | k + 1 => if andI (k : Int) bit = 0 then bitF bit k else orI (bitF bit k) (2 ^ k)
theorem bitF_in (bit : Int) : ∀ k, k ≤ 10 → 0 ≤ bitF bit k ∧ bitF bit k ≤ 1023
  | 0, _ => by unfold bitF; omega
  | k + 1, h => by
    have ih := bitF_in bit k (by omega)
    unfold bitF
    split
    · exact ih
    · have hp : ∀ m : Nat, m ≤ 9 → (0 : Int) ≤ 2 ^ m ∧ (2 : Int) ^ m ≤ 512 := by decide
      have := hp k (by omega)
      exact or_in ih.1 ih.2 (by omega) (by omega)
/-- The pools of the bits below so many. -/
def bitsK (n : Int) : Nat → List Int
  | 0 => []
  | j + 1 => bitsK n j ++ [bitF (2 ^ j) n.toNat, topI n - bitF (2 ^ j) n.toNat]
theorem bitsK_len (n : Int) : ∀ j, (bitsK n j).length = 2 * j
  | 0 => rfl
  | j + 1 => by unfold bitsK; rw [List.length_append, bitsK_len n j]; simp; omega
/-- How many bits the numbers of the items have. -/
def bitN (n : Int) : Nat := if n ≤ 1 then 0 else if n ≤ 2 then 1 else if n ≤ 4 then 2 else if n ≤ 8 then 3 else 4
theorem bitN_is (n : Int) : (n ≤ 1 ∧ bitN n = 0) ∨ (1 < n ∧ n ≤ 2 ∧ bitN n = 1) ∨ (2 < n ∧ n ≤ 4 ∧ bitN n = 2) ∨ (4 < n ∧ n ≤ 8 ∧ bitN n = 3) ∨ (8 < n ∧ bitN n = 4) := by
  unfold bitN
  repeat' split
  all_goals omega
theorem two_pows : ∀ j : Nat, j ≤ 4 → (2 : Int) ^ j = if j = 0 then 1 else if j = 1 then 2 else if j = 2 then 4 else if j = 3 then 8 else 16 := by decide
theorem bitN_more {n : Int} {j : Nat} (h : (2 : Int) ^ j < n) (hn : n ≤ 10) : j < bitN n ∧ j ≤ 3 := by
  have h3 : j ≤ 3 := by
    apply Nat.le_of_not_lt
    intro h4
    have : (2 : Int) ^ 4 ≤ 2 ^ j := by exact_mod_cast Nat.pow_le_pow_right (by decide) (show 4 ≤ j by omega)
    have e : (2 : Int) ^ 4 = 16 := by decide
    omega
  have hp := two_pows j (by omega)
  have hb := bitN_is n
  rw [hp] at h
  refine ⟨?_, h3⟩
  generalize bitN n = z at hb ⊢
  repeat' split at h
  all_goals omega
theorem bitN_end {n : Int} {j : Nat} (h : ¬ (2 : Int) ^ j < n) (hj : j ≤ bitN n) : bitN n = j := by
  have hb := bitN_is n
  generalize bitN n = z at hb hj ⊢
  have hp := two_pows j (by omega)
  rw [hp] at h
  repeat' split at h
  all_goals omega
def bitsO (n : Int) : List Int := if itemsB n = true then bitsK n (bitN n) else []
end Go.Proofs.YtlflblngbneacaaGreatDoor
