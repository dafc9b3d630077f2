/- The items of a set as a list of bits, plainly: what the program's iterator over a set gives. No condition. -/
import Derived.Test.YthfnbnjajcigeaaPoolPlain
namespace Go.Proofs.Ythfnbnjajcigeaa
open Go.RowKit

/-- The items of a set among the first i, in ascending order; all of them. -/
def itsK (s : Int) (i : Nat) : List Nat := (List.range i).filter s.toNat.testBit
def itsL (s : Int) : List Nat := itsK s 63
theorem itsK_zero (s : Int) : itsK s 0 = [] := rfl
theorem itsK_succ (s : Int) (i : Nat) : itsK s (i + 1) = if s.toNat.testBit i = true then itsK s i ++ [i] else itsK s i := by
  unfold itsK
  rw [List.range_succ, List.filter_append]
  cases h : s.toNat.testBit i <;> simp [h]
theorem itsK_yes {s : Int} {i : Nat} (h : s.toNat.testBit i = true) : itsK s (i + 1) = itsK s i ++ [i] := by rw [itsK_succ, if_pos h]
theorem itsK_no {s : Int} {i : Nat} (h : s.toNat.testBit i = false) : itsK s (i + 1) = itsK s i := by rw [itsK_succ, if_neg (by rw [h]; simp)]
theorem itsK_len (s : Int) (i : Nat) : (itsK s i).length ≤ i := by
  unfold itsK
  have := List.length_filter_le s.toNat.testBit (List.range i)
  rwa [List.length_range] at this
/-- Beyond the highest item nothing is left. -/
theorem itsK_end {s : Int} {i : Nat} (hs : s.toNat < 2 ^ i) : ∀ d, itsK s (i + d) = itsK s i
  | 0 => rfl
  | d + 1 => by
    have : s.toNat.testBit (i + d) = false := Nat.testBit_lt_two_pow (Nat.lt_of_lt_of_le hs (Nat.pow_le_pow_right (by decide) (by omega)))
    rw [show i + (d + 1) = (i + d) + 1 by omega, itsK_no this, itsK_end hs d]
theorem itsK_all {s : Int} {i : Nat} (hi : i ≤ 63) (h : ¬ 0 < s / 2 ^ i) : itsK s i = itsL s := by
  have hs : s.toNat < 2 ^ i := by
    have hp : (0 : Int) < 2 ^ i := Int.pow_pos (by decide)
    have h2 : s < 2 ^ i := by
      rcases Int.lt_or_le s (2 ^ i) with h3 | h3
      · exact h3
      · exact absurd ((Int.le_ediv_iff_mul_le hp).2 (show (1 : Int) * 2 ^ i ≤ s by omega)) (by omega)
    have h4 : ((2 ^ i : Nat) : Int) = (2 : Int) ^ i := by simp
    omega
  unfold itsL
  have := itsK_end hs (63 - i)
  rw [show i + (63 - i) = 63 by omega] at this
  exact this.symm
theorem its_low {s : Int} (h : s ≤ 0) : itsL s = [] := by
  have : s.toNat = 0 := by omega
  unfold itsL itsK
  rw [this, List.filter_eq_nil_iff]
  intro a _
  simp
theorem its_mem {s : Int} {i : Nat} : i ∈ itsL s ↔ i < 63 ∧ s.toNat.testBit i = true := by
  unfold itsL itsK
  rw [List.mem_filter, List.mem_range]

/-- One bit of a set, as the program asks for it. -/
theorem and_two (a i : Nat) : (a &&& 2 ^ i = 0) ↔ a.testBit i = false := by
  constructor
  · intro h
    have h1 : (a &&& 2 ^ i).testBit i = false := by rw [h]; simp
    rw [Nat.testBit_and, Nat.testBit_two_pow] at h1
    simpa using h1
  · intro h
    refine Nat.eq_of_testBit_eq fun j => ?_
    rw [Nat.testBit_and, Nat.testBit_two_pow, Nat.zero_testBit]
    by_cases hj : i = j
    · subst hj
      rw [h]
      rfl
    · simp [hj]
theorem pow_i {i : Nat} (hi : i ≤ 62) : IntKind.i64.wrap (2 ^ i) = 2 ^ i ∧ (2 : Int) ^ i = ((2 ^ i : Nat) : Int) ∧ 2 ^ i < 9223372036854775808 := by
  have h1 : 2 ^ i ≤ 2 ^ 62 := Nat.pow_le_pow_right (by decide) hi
  have h2 : (2 : Int) ^ i = ((2 ^ i : Nat) : Int) := by simp
  have h3 : (2 : Nat) ^ 62 = 4611686018427387904 := by decide
  refine ⟨?_, h2, by omega⟩
  rw [h2]
  generalize (2 : Nat) ^ i = N at h1
  rw [h3] at h1
  rw [IntKind.wrap_i64]
  omega
theorem has_bit {s : Int} {i : Nat} (h0 : 0 ≤ s) (h1 : s ≤ 9223372036854775807) (hi : i ≤ 62) : (bits .and .i64 s (2 ^ i) != 0) = s.toNat.testBit i := by
  obtain ⟨a, rfl⟩ := Int.eq_ofNat_of_zero_le h0
  obtain ⟨-, h2, h3⟩ := pow_i hi
  have h4 : bits .and .i64 (a : Int) (2 ^ i) = ((a &&& 2 ^ i : Nat) : Int) := by
    rw [h2]
    exact and_nat (by omega) h3
  rw [h4, Int.toNat_natCast]
  have h5 := and_two a i
  cases hb : a.testBit i with
  | true =>
    rw [bne_iff_ne]
    intro e
    rw [h5.1 (by omega)] at hb
    cases hb
  | false =>
    rw [bne_eq_false_iff_eq, h5.2 hb]
    rfl

/-- The number of items, as the model counts them. -/
theorem cnt_filter : ∀ (f m : Nat), m < 2 ^ f → cntF f (m : Int) = (((List.range f).filter m.testBit).length : Int)
  | 0, _, _ => rfl
  | f + 1, m, h => by
    have h2 : m / 2 < 2 ^ f := by rw [Nat.pow_succ] at h; omega
    have ih := cnt_filter f (m / 2) h2
    have hr : ((List.range (f + 1)).filter m.testBit).length = (if m % 2 = 1 then 1 else 0) + ((List.range f).filter (m / 2).testBit).length := by
      rw [List.range_succ_eq_map, List.filter_cons, List.filter_map, Nat.testBit_zero]
      have he : (m.testBit ∘ Nat.succ) = (m / 2).testBit := by
        funext i
        exact Nat.testBit_succ m i
      rw [he]
      by_cases hm : m % 2 = 1
      · simp [hm, Nat.add_comm]
      · simp [hm]
    rw [hr]
    unfold cntF
    by_cases h0 : 0 < m
    · rw [if_pos (by omega), show ((m : Int) / 2) = ((m / 2 : Nat) : Int) by omega, ih]
      by_cases hm : m % 2 = 1
      · rw [if_pos hm]; omega
      · rw [if_neg hm]; omega
    · obtain rfl : m = 0 := by omega
      rw [if_neg (by omega)]
      have e : (List.range f).filter (0 / 2 : Nat).testBit = [] := by
        rw [List.filter_eq_nil_iff]
        intro a _
        simp
      rw [e]
      rfl
theorem cnt_its {s : Int} (h1 : s ≤ 9223372036854775807) : cntI s = ((itsL s).length : Int) := by
  by_cases h0 : 0 ≤ s
  · obtain ⟨a, rfl⟩ := Int.eq_ofNat_of_zero_le h0
    have h63 : (2 : Nat) ^ 63 = 9223372036854775808 := by decide
    have h64 : (2 : Nat) ^ 64 = 18446744073709551616 := by decide
    unfold cntI
    rw [cnt_filter 64 a (by omega)]
    have e : ((List.range 64).filter a.testBit) = itsL (a : Int) := itsK_end (s := (a : Int)) (i := 63) (by rw [Int.toNat_natCast]; omega) 1
    rw [e]
  · rw [its_low (by omega)]
    exact cntF_none (by omega) 64

/-- A pool is positive if one of its items is bad. -/
def posB (p bad : Int) : Bool := (itsL p).any bad.toNat.testBit
theorem pos_and16 {p bad : Int} (h0 : 0 ≤ p) (h1 : p ≤ 65535) (g0 : 0 ≤ bad) (g1 : bad ≤ 65535) : posB p bad = (andI p bad != 0) := by
  obtain ⟨a, rfl⟩ := Int.eq_ofNat_of_zero_le h0
  obtain ⟨b, rfl⟩ := Int.eq_ofNat_of_zero_le g0
  rw [and_nat (by omega) (by omega)]
  unfold posB
  cases hb : (itsL (a : Int)).any (b : Int).toNat.testBit with
  | true =>
    rw [List.any_eq_true] at hb
    obtain ⟨i, hi, ht⟩ := hb
    rw [its_mem] at hi
    symm
    rw [bne_iff_ne]
    intro e
    have e2 : a &&& b = 0 := by omega
    have h3 := Nat.testBit_and a b i
    rw [e2, Nat.zero_testBit] at h3
    rw [Int.toNat_natCast] at hi ht
    rw [hi.2, ht] at h3
    cases h3
  | false =>
    rw [List.any_eq_false] at hb
    symm
    rw [bne_eq_false_iff_eq]
    by_cases e : a &&& b = 0
    · rw [e]; rfl
    · obtain ⟨i, hi⟩ := Nat.exists_testBit_of_ne_zero e
      rw [Nat.testBit_and, Bool.and_eq_true] at hi
      exfalso
      refine hb i (its_mem.2 ⟨?_, by rw [Int.toNat_natCast]; exact hi.1⟩) (by rw [Int.toNat_natCast]; exact hi.2)
      by_cases hlt : i < 63
      · exact hlt
      · have : a.testBit i = false := Nat.testBit_lt_two_pow (Nat.lt_of_lt_of_le (show a < 2 ^ 16 by omega) (Nat.pow_le_pow_right (by decide) (by omega)))
        rw [this] at hi
        cases hi.1
theorem pos_and {p bad : Int} (h0 : 0 ≤ p) (h1 : p ≤ 1023) (g0 : 0 ≤ bad) (g1 : bad ≤ 1023) : posB p bad = (andI p bad != 0) := pos_and16 h0 (by omega) g0 (by omega)
end Go.Proofs.Ythfnbnjajcigeaa
