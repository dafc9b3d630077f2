/- The set of all items and what is left of it, plainly. No condition. -/
import Derived.Test.YtlflblngbneacaaGreatDoorSureImpl
import Derived.Test.YtlflblngbneacaaGreatDoorItemsPlain
namespace Go.Proofs.YtlflblngbneacaaGreatDoor
open Go.RowKit

theorem top_nat {n : Int} (n1 : 1 ≤ n) (n10 : n ≤ 10) : ∃ k : Nat, k ≤ 10 ∧ topI n = ((2 ^ k - 1 : Nat) : Int) ∧ 2 ^ k ≤ 1024 ∧ n.toNat = k := by
  refine ⟨n.toNat, by omega, ?_, ?_, rfl⟩
  · have h1 := Nat.two_pow_pos n.toNat
    have hc : (2 : Int) ^ n.toNat = ((2 ^ n.toNat : Nat) : Int) := by push_cast; rfl
    unfold topI
    omega
  · exact Nat.pow_le_pow_right (n := 2) (by decide) (show n.toNat ≤ 10 by omega)
theorem or_top {n x y : Int} (n1 : 1 ≤ n) (n10 : n ≤ 10) (h0 : 0 ≤ x) (h1 : x ≤ topI n) (g0 : 0 ≤ y) (g1 : y ≤ topI n) : 0 ≤ orI x y ∧ orI x y ≤ topI n := by
  obtain ⟨k, hk, ht, h2, -⟩ := top_nat n1 n10
  rw [ht] at h1 g1 ⊢
  have hp := Nat.two_pow_pos k
  obtain ⟨a, rfl⟩ := Int.eq_ofNat_of_zero_le h0
  obtain ⟨b, rfl⟩ := Int.eq_ofNat_of_zero_le g0
  rw [or_nat (by omega) (by omega)]
  have : a ||| b < 2 ^ k := Nat.or_lt_two_pow (by omega) (by omega)
  omega
theorem top_left {n x : Int} (n1 : 1 ≤ n) (n10 : n ≤ 10) (h0 : 0 ≤ x) (h1 : x ≤ topI n) : bits .andNot .i64 (topI n) x = topI n - x := by
  obtain ⟨k, hk, ht, h2, -⟩ := top_nat n1 n10
  have ti := top_in n10
  rw [left_in ti.1 ti.2 h0 (by omega)]
  rw [ht] at h1 ⊢
  have hp := Nat.two_pow_pos k
  obtain ⟨a, rfl⟩ := Int.eq_ofNat_of_zero_le h0
  have he : bits .and .i64 ((2 ^ k - 1 : Nat) : Int) (a : Int) = (((2 ^ k - 1) &&& a : Nat) : Int) := and_nat (by omega) (by omega)
  rw [he, Nat.and_comm, Nat.and_two_pow_sub_one_eq_mod, Nat.mod_eq_of_lt (by omega)]
theorem goodF_top {n : Int} (n1 : 1 ≤ n) (n10 : n ≤ 10) {P : List Int} (R : List Bool) (h : ∀ p ∈ P, 0 ≤ p ∧ p ≤ topI n) : ∀ k, 0 ≤ goodF P R k ∧ goodF P R k ≤ topI n
  | 0 => by have := top_in n10; unfold goodF; omega
  | k + 1 => by
    have ih := goodF_top n1 n10 R h k
    unfold goodF
    split
    · exact ih
    · have hp : 0 ≤ P.getD k 0 ∧ P.getD k 0 ≤ topI n := by
        rw [List.getD_eq_getElem?_getD]
        by_cases hk : k < P.length
        · rw [List.getElem?_eq_getElem hk]; exact h _ (List.getElem_mem hk)
        · rw [List.getElem?_eq_none (by omega)]; have := top_in n10; simpa using this.1
      exact or_top n1 n10 ih.1 ih.2 hp.1 hp.2
theorem pools_top {n : Int} {P : List Int} (h : poolsB n P = true) : ∀ p ∈ P, 0 ≤ p ∧ p ≤ topI n := by
  unfold poolsB at h
  simp only [Bool.and_eq_true] at h
  intro p hp
  have hq := List.all_eq_true.1 h.2 p hp
  unfold poolB at hq
  simpa only [Bool.and_eq_true, decide_eq_true_eq] using hq
theorem goodR_top {n : Int} {P : List Int} (R : List Bool) (h : poolsB n P = true) : 0 ≤ goodR n P R ∧ goodR n P R ≤ topI n := by
  obtain ⟨⟨n1, n10⟩, -, -⟩ := pools_in h
  unfold goodR
  split
  · exact goodF_top n1 n10 R (pools_top h) _
  · have := top_in n10; omega
theorem pow_top {n : Int} {k : Nat} (h : k < n.toNat) : (0 : Int) ≤ 2 ^ k ∧ (2 : Int) ^ k ≤ topI n := by
  have h1 : 2 ^ (k + 1) ≤ 2 ^ n.toNat := Nat.pow_le_pow_right (by decide) h
  have hc : (2 : Int) ^ n.toNat = ((2 ^ n.toNat : Nat) : Int) := by push_cast; rfl
  have hd : (2 : Int) ^ k = ((2 ^ k : Nat) : Int) := by push_cast; rfl
  have hp := Nat.two_pow_pos k
  rw [Nat.pow_succ] at h1
  unfold topI
  omega
theorem bitF_top {n : Int} (n1 : 1 ≤ n) (n10 : n ≤ 10) (bit : Int) : ∀ k, k ≤ n.toNat → 0 ≤ bitF bit k ∧ bitF bit k ≤ topI n
  | 0, _ => by have := top_in n10; unfold bitF; omega
  | k + 1, h => by
    have ih := bitF_top n1 n10 bit k (by omega)
    unfold bitF
    split
    · exact ih
    · have hp := pow_top (n := n) (k := k) (by omega)
      exact or_top n1 n10 ih.1 ih.2 hp.1 hp.2
theorem pools_nil (n : Int) : poolsB n [] = itemsB n := by simp [poolsB]
end Go.Proofs.YtlflblngbneacaaGreatDoor
