/- Several texts in one file; each says what it proves and under which condition. No condition. -/
import Derived.Test.YtlflblngbneacabGreatDoorGBase
import Derived.IntWalk
import Derived.WalkKit
/- Pools of items, plainly: which are valid, what they show, how many items a set has, and what is surely good or bad. No condition. -/
namespace Go.Proofs.YtlflblngbneacabGreatDoor
open Go.RowKit

/-- Go's bitwise and, and or, of two numbers. -/
def andI (x y : Int) : Int := bits .and .i64 x y
def orI (x y : Int) : Int := bits .or .i64 x y
theorem nat64 {a : Nat} (ha : a < 9223372036854775808) : (BitVec.ofInt 64 (a : Int)).toNat = a := by
  rw [BitVec.toNat_ofInt]
  omega
theorem and_nat {a b : Nat} (ha : a < 9223372036854775808) (hb : b < 9223372036854775808) : andI a b = ((a &&& b : Nat) : Int) := by
  have key : (BitVec.ofInt 64 (a : Int) &&& BitVec.ofInt 64 (b : Int)).toNat = a &&& b := by rw [BitVec.toNat_and, nat64 ha, nat64 hb]
  have hle : a &&& b ≤ a := Nat.and_le_left
  show IntKind.i64.wrap ((BitVec.ofInt 64 (a : Int) &&& BitVec.ofInt 64 (b : Int)).toNat : Nat) = _
  rw [key, IntKind.wrap_i64]
  omega
theorem or_nat {a b : Nat} (ha : a < 9223372036854775808) (hb : b < 9223372036854775808) : orI a b = ((a ||| b : Nat) : Int) := by
  have key : (BitVec.ofInt 64 (a : Int) ||| BitVec.ofInt 64 (b : Int)).toNat = a ||| b := by rw [BitVec.toNat_or, nat64 ha, nat64 hb]
  have hlt : a ||| b < 2 ^ 63 := Nat.or_lt_two_pow (by omega) (by omega)
  show IntKind.i64.wrap ((BitVec.ofInt 64 (a : Int) ||| BitVec.ofInt 64 (b : Int)).toNat : Nat) = _
  rw [key, IntKind.wrap_i64]
  omega
theorem and_in {x y : Int} (h0 : 0 ≤ x) (h1 : x ≤ 1023) (g0 : 0 ≤ y) (g1 : y ≤ 1023) : 0 ≤ andI x y ∧ andI x y ≤ x := by
  obtain ⟨a, rfl⟩ := Int.eq_ofNat_of_zero_le h0
  obtain ⟨b, rfl⟩ := Int.eq_ofNat_of_zero_le g0
  rw [and_nat (by omega) (by omega)]
  have : a &&& b ≤ a := Nat.and_le_left
  omega
theorem or_in {x y : Int} (h0 : 0 ≤ x) (h1 : x ≤ 1023) (g0 : 0 ≤ y) (g1 : y ≤ 1023) : 0 ≤ orI x y ∧ orI x y ≤ 1023 := by
  obtain ⟨a, rfl⟩ := Int.eq_ofNat_of_zero_le h0
  obtain ⟨b, rfl⟩ := Int.eq_ofNat_of_zero_le g0
  rw [or_nat (by omega) (by omega)]
  have : a ||| b < 2 ^ 10 := Nat.or_lt_two_pow (by omega) (by omega)
  omega

/-- The set of all n items. -/
def topI (n : Int) : Int := 2 ^ n.toNat - 1
theorem two_pow_in : ∀ m : Nat, m ≤ 10 → (1 : Int) ≤ 2 ^ m ∧ (2 : Int) ^ m ≤ 1024 := by decide
theorem top_in {n : Int} (h1 : n ≤ 10) : 0 ≤ topI n ∧ topI n ≤ 1023 := by
  have := two_pow_in n.toNat (by omega)
  unfold topI
  omega
theorem shl_top {n : Int} (h0 : 1 ≤ n) (h1 : n ≤ 10) : IntKind.i64.wrap (2 ^ n.toNat) = 2 ^ n.toNat ∧ (2 : Int) ^ n.toNat = topI n + 1 ∧ 0 ≤ topI n ∧ topI n ≤ 1023 := by
  have := two_pow_in n.toNat (by omega)
  have ht : (2 : Int) ^ n.toNat = topI n + 1 := by unfold topI; omega
  have hi := top_in h1
  refine ⟨?_, ht, hi⟩
  rw [IntKind.wrap_i64]
  omega
def poolB (n p : Int) : Bool := decide (0 ≤ p) && decide (p ≤ topI n)
def itemsB (n : Int) : Bool := decide (1 ≤ n) && decide (n ≤ 10)
def poolsB (n : Int) (P : List Int) : Bool := (itemsB n && decide (P.length ≤ 12)) && P.all (poolB n)
theorem pools_in {n : Int} {P : List Int} (h : poolsB n P = true) : (1 ≤ n ∧ n ≤ 10) ∧ P.length ≤ 12 ∧ ∀ p ∈ P, 0 ≤ p ∧ p ≤ 1023 := by
  unfold poolsB itemsB at h
  simp only [Bool.and_eq_true, decide_eq_true_eq] at h
  refine ⟨h.1.1, h.1.2, fun p hp => ?_⟩
  have hq := List.all_eq_true.1 h.2 p hp
  unfold poolB at hq
  simp only [Bool.and_eq_true, decide_eq_true_eq] at hq
  have := top_in h.1.1.2
  omega
/-- What the pools show of a set of bad items. -/
def resL (P : List Int) (bad : Int) : List Bool := P.map fun p => andI p bad != 0
theorem resL_len (P : List Int) (bad : Int) : (resL P bad).length = P.length := by simp [resL]
def testsB (n : Int) (P : List Int) (bad : Int) : Bool := poolsB n P && (decide (0 ≤ bad) && decide (bad ≤ topI n))
def testR (n : Int) (P : List Int) (bad : Int) : List Bool := if testsB n P bad = true then resL P bad else []

/-- The number of items of a set. -/
def cntF : Nat → Int → Int
  | 0, _ => 0
  | f + 1, s => if 0 < s then s % 2 + cntF f (s / 2) else 0
def cntI (s : Int) : Int := cntF 64 s
theorem cntF_none {s : Int} (h : s ≤ 0) : ∀ f, cntF f s = 0
  | 0 => rfl
  | f + 1 => by unfold cntF; rw [if_neg (by omega)]
theorem cntF_in : ∀ (f : Nat) (s : Int), 0 ≤ cntF f s ∧ cntF f s ≤ f
  | 0, _ => ⟨Int.le_refl _, Int.le_refl _⟩
  | f + 1, s => by
    unfold cntF
    split
    · have := cntF_in f (s / 2)
      omega
    · omega
theorem cnt_in (s : Int) : 0 ≤ cntI s ∧ cntI s ≤ 64 := cntF_in 64 s

/-- The sets of at most so many items that show the results. -/
def consL (n : Int) (P : List Int) (R : List Bool) (most : Int) : List Int :=
  ((List.range (2 ^ n.toNat)).map fun (k : Nat) => (k : Int)).filter fun b => decide (cntI b ≤ most) && (resL P b == R)
def consR (n : Int) (P : List Int) (R : List Bool) (most : Int) : List Int := if poolsB n P = true then consL n P R most else []
/-- The items in pools with a negative result. -/
def goodF (P : List Int) (R : List Bool) : Nat → Int
  | 0 => 0
  | k + 1 => if R.getD k false = true then goodF P R k else orI (goodF P R k) (P.getD k 0)
def goodR (n : Int) (P : List Int) (R : List Bool) : Int := if (poolsB n P && (R.length == P.length)) = true then goodF P R P.length else 0
/-- The items that are left alone in a positive pool. -/
def badF (g : Int) (P : List Int) (R : List Bool) : Nat → Int
  | 0 => 0
  | k + 1 => if (R.getD k false && (cntI (P.getD k 0 - andI (P.getD k 0) g) == 1)) = true then orI (badF g P R k) (P.getD k 0 - andI (P.getD k 0) g) else badF g P R k
def badR (n : Int) (P : List Int) (R : List Bool) : Int := if (poolsB n P && (R.length == P.length)) = true then badF (goodF P R P.length) P R P.length else 0
theorem goodF_in {P : List Int} (R : List Bool) (h : ∀ p ∈ P, 0 ≤ p ∧ p ≤ 1023) : ∀ k, 0 ≤ goodF P R k ∧ goodF P R k ≤ 1023
  | 0 => by unfold goodF; omega
  | k + 1 => by
    have ih := goodF_in R h k
    unfold goodF
    split
    · exact ih
    · have hp : 0 ≤ P.getD k 0 ∧ P.getD k 0 ≤ 1023 := by
        rw [List.getD_eq_getElem?_getD]
        by_cases hk : k < P.length
        · rw [List.getElem?_eq_getElem hk]; exact h _ (List.getElem_mem hk)
        · rw [List.getElem?_eq_none (by omega)]; simp
      exact or_in ih.1 ih.2 hp.1 hp.2
theorem badF_in {P : List Int} (R : List Bool) {g : Int} (hg : 0 ≤ g ∧ g ≤ 1023) (h : ∀ p ∈ P, 0 ≤ p ∧ p ≤ 1023) : ∀ k, 0 ≤ badF g P R k ∧ badF g P R k ≤ 1023
  | 0 => by unfold badF; omega
  | k + 1 => by
    have ih := badF_in R hg h k
    unfold badF
    split
    · have hp : 0 ≤ P.getD k 0 ∧ P.getD k 0 ≤ 1023 := by
        rw [List.getD_eq_getElem?_getD]
        by_cases hk : k < P.length
        · rw [List.getElem?_eq_getElem hk]; exact h _ (List.getElem_mem hk)
        · rw [List.getElem?_eq_none (by omega)]; simp
      have ha := and_in hp.1 hp.2 hg.1 hg.2
      exact or_in ih.1 ih.2 (by omega) (by omega)
    · exact ih
end Go.Proofs.YtlflblngbneacabGreatDoor

/- The items of a set as a list of bits, plainly: what the program's iterator over a set gives. No condition. -/
namespace Go.Proofs.YtlflblngbneacabGreatDoor
open Go.RowKit

/-- The items of a set among the first i, in ascending order; all of them. -/
def itsK (s : Int) (i : Nat) : List Nat := (List.range i).filter s.toNat.testBit
def itsL (s : Int) : List Nat := itsK s 63
theorem itsK_zero (s : Int) : itsK s 0 = [] := rfl
theorem itsK_succ (s : Int) (i : Nat) : itsK s (i + 1) = if s.toNat.testBit i = true then itsK s i ++ [i] else itsK s i := by
  unfold itsK
  rw [List.range_succ, List.filter_append]
  cases h : s.toNat.testBit i <;> simp [h]
theorem itsK_yes {s : Int} {i : Nat} (h : s.toNat.testBit i = true) : itsK s (i + 1) = itsK s i ++ [i] := by rw [itsK_succ, if_pos h]
theorem itsK_no {s : Int} {i : Nat} (h : s.toNat.testBit i = false) : itsK s (i + 1) = itsK s i := by rw [itsK_succ, if_neg (by rw [h]; simp)]
theorem itsK_len (s : Int) (i : Nat) : (itsK s i).length ≤ i := by
  unfold itsK
  have := List.length_filter_le s.toNat.testBit (List.range i)
  rwa [List.length_range] at this
/-- Beyond the highest item nothing is left. -/
theorem itsK_end {s : Int} {i : Nat} (hs : s.toNat < 2 ^ i) : ∀ d, itsK s (i + d) = itsK s i
  | 0 => rfl
  | d + 1 => by
    have : s.toNat.testBit (i + d) = false := Nat.testBit_lt_two_pow (Nat.lt_of_lt_of_le hs (Nat.pow_le_pow_right (by decide) (by omega)))
    rw [show i + (d + 1) = (i + d) + 1 by omega, itsK_no this, itsK_end hs d]
theorem itsK_all {s : Int} {i : Nat} (hi : i ≤ 63) (h : ¬ 0 < s / 2 ^ i) : itsK s i = itsL s := by
  have hs : s.toNat < 2 ^ i := by
    have hp : (0 : Int) < 2 ^ i := Int.pow_pos (by decide)
    have h2 : s < 2 ^ i := by
      rcases Int.lt_or_le s (2 ^ i) with h3 | h3
      · exact h3
      · exact absurd ((Int.le_ediv_iff_mul_le hp).2 (show (1 : Int) * 2 ^ i ≤ s by omega)) (by omega)
    have h4 : ((2 ^ i : Nat) : Int) = (2 : Int) ^ i := by simp
    omega
  unfold itsL
  have := itsK_end hs (63 - i)
  rw [show i + (63 - i) = 63 by omega] at this
  exact this.symm
theorem its_low {s : Int} (h : s ≤ 0) : itsL s = [] := by
  have : s.toNat = 0 := by omega
  unfold itsL itsK
  rw [this, List.filter_eq_nil_iff]
  intro a _
  simp
theorem its_mem {s : Int} {i : Nat} : i ∈ itsL s ↔ i < 63 ∧ s.toNat.testBit i = true := by
  unfold itsL itsK
  rw [List.mem_filter, List.mem_range]

/-- One bit of a set, as the program asks for it. -/
theorem and_two (a i : Nat) : (a &&& 2 ^ i = 0) ↔ a.testBit i = false := by
  constructor
  · intro h
    have h1 : (a &&& 2 ^ i).testBit i = false := by rw [h]; simp
    rw [Nat.testBit_and, Nat.testBit_two_pow] at h1
    simpa using h1
  · intro h
    refine Nat.eq_of_testBit_eq fun j => ?_
    rw [Nat.testBit_and, Nat.testBit_two_pow, Nat.zero_testBit]
    by_cases hj : i = j
    · subst hj
      rw [h]
      rfl
    · simp [hj]
theorem pow_i {i : Nat} (hi : i ≤ 62) : IntKind.i64.wrap (2 ^ i) = 2 ^ i ∧ (2 : Int) ^ i = ((2 ^ i : Nat) : Int) ∧ 2 ^ i < 9223372036854775808 := by
  have h1 : 2 ^ i ≤ 2 ^ 62 := Nat.pow_le_pow_right (by decide) hi
  have h2 : (2 : Int) ^ i = ((2 ^ i : Nat) : Int) := by simp
  have h3 : (2 : Nat) ^ 62 = 4611686018427387904 := by decide
  refine ⟨?_, h2, by omega⟩
  rw [h2]
  generalize (2 : Nat) ^ i = N at h1
  rw [h3] at h1
  rw [IntKind.wrap_i64]
  omega
theorem has_bit {s : Int} {i : Nat} (h0 : 0 ≤ s) (h1 : s ≤ 9223372036854775807) (hi : i ≤ 62) : (bits .and .i64 s (2 ^ i) != 0) = s.toNat.testBit i := by
  obtain ⟨a, rfl⟩ := Int.eq_ofNat_of_zero_le h0
  obtain ⟨-, h2, h3⟩ := pow_i hi
  have h4 : bits .and .i64 (a : Int) (2 ^ i) = ((a &&& 2 ^ i : Nat) : Int) := by
    rw [h2]
    exact and_nat (by omega) h3
  rw [h4, Int.toNat_natCast]
  have h5 := and_two a i
  cases hb : a.testBit i with
  | true =>
    rw [bne_iff_ne]
    intro e
    rw [h5.1 (by omega)] at hb
    cases hb
  | false =>
    rw [bne_eq_false_iff_eq, h5.2 hb]
    rfl

/-- The number of items, as the model counts them. -/
theorem cnt_filter : ∀ (f m : Nat), m < 2 ^ f → cntF f (m : Int) = (((List.range f).filter m.testBit).length : Int)
  | 0, _, _ => rfl
  | f + 1, m, h => by
    have h2 : m / 2 < 2 ^ f := by rw [Nat.pow_succ] at h; omega
    have ih := cnt_filter f (m / 2) h2
    have hr : ((List.range (f + 1)).filter m.testBit).length = (if m % 2 = 1 then 1 else 0) + ((List.range f).filter (m / 2).testBit).length := by
      rw [List.range_succ_eq_map, List.filter_cons, List.filter_map, Nat.testBit_zero]
      have he : (m.testBit ∘ Nat.succ) = (m / 2).testBit := by
        funext i
        exact Nat.testBit_succ m i
      rw [he]
      by_cases hm : m % 2 = 1
      · simp [hm, Nat.add_comm]
      · simp [hm]
    rw [hr]
    unfold cntF
    by_cases h0 : 0 < m
    · rw [if_pos (by omega), show ((m : Int) / 2) = ((m / 2 : Nat) : Int) by omega, ih]
      by_cases hm : m % 2 = 1
      · rw [if_pos hm]; omega
      · rw [if_neg hm]; omega
    · obtain rfl : m = 0 := by omega
      rw [if_neg (by omega)]
      have e : (List.range f).filter (0 / 2 : Nat).testBit = [] := by
        rw [List.filter_eq_nil_iff]
        intro a _
        simp
      rw [e]
      rfl
theorem cnt_its {s : Int} (h1 : s ≤ 9223372036854775807) : cntI s = ((itsL s).length : Int) := by
  by_cases h0 : 0 ≤ s
  · obtain ⟨a, rfl⟩ := Int.eq_ofNat_of_zero_le h0
    have h63 : (2 : Nat) ^ 63 = 9223372036854775808 := by decide
    have h64 : (2 : Nat) ^ 64 = 18446744073709551616 := by decide
    unfold cntI
    rw [cnt_filter 64 a (by omega)]
    have e : ((List.range 64).filter a.testBit) = itsL (a : Int) := itsK_end (s := (a : Int)) (i := 63) (by rw [Int.toNat_natCast]; omega) 1
    rw [e]
  · rw [its_low (by omega)]
    exact cntF_none (by omega) 64

/-- A pool is positive if one of its items is bad. -/
def posB (p bad : Int) : Bool := (itsL p).any bad.toNat.testBit
theorem pos_and16 {p bad : Int} (h0 : 0 ≤ p) (h1 : p ≤ 65535) (g0 : 0 ≤ bad) (g1 : bad ≤ 65535) : posB p bad = (andI p bad != 0) := by
  obtain ⟨a, rfl⟩ := Int.eq_ofNat_of_zero_le h0
  obtain ⟨b, rfl⟩ := Int.eq_ofNat_of_zero_le g0
  rw [and_nat (by omega) (by omega)]
  unfold posB
  cases hb : (itsL (a : Int)).any (b : Int).toNat.testBit with
  | true =>
    rw [List.any_eq_true] at hb
    obtain ⟨i, hi, ht⟩ := hb
    rw [its_mem] at hi
    symm
    rw [bne_iff_ne]
    intro e
    have e2 : a &&& b = 0 := by omega
    have h3 := Nat.testBit_and a b i
    rw [e2, Nat.zero_testBit] at h3
    rw [Int.toNat_natCast] at hi ht
    rw [hi.2, ht] at h3
    cases h3
  | false =>
    rw [List.any_eq_false] at hb
    symm
    rw [bne_eq_false_iff_eq]
    by_cases e : a &&& b = 0
    · rw [e]; rfl
    · obtain ⟨i, hi⟩ := Nat.exists_testBit_of_ne_zero e
      rw [Nat.testBit_and, Bool.and_eq_true] at hi
      exfalso
      refine hb i (its_mem.2 ⟨?_, by rw [Int.toNat_natCast]; exact hi.1⟩) (by rw [Int.toNat_natCast]; exact hi.2)
      by_cases hlt : i < 63
      · exact hlt
      · have : a.testBit i = false := Nat.testBit_lt_two_pow (Nat.lt_of_lt_of_le (show a < 2 ^ 16 by omega) (Nat.pow_le_pow_right (by decide) (by omega)))
        rw [this] at hi
        cases hi.1
theorem pos_and {p bad : Int} (h0 : 0 ≤ p) (h1 : p ≤ 1023) (g0 : 0 ≤ bad) (g1 : bad ≤ 1023) : posB p bad = (andI p bad != 0) := pos_and16 h0 (by omega) g0 (by omega)
end Go.Proofs.YtlflblngbneacabGreatDoor

/- The texts of sets, plainly: the digits of the items, and the set of a text. No condition. -/
namespace Go.Proofs.YtlflblngbneacabGreatDoor
open Go.RowKit

/-- The digits of the first k items of a set. -/
def setC (s : Int) : Nat → ByteArray
  | 0 => ⟨#[]⟩
  | k + 1 => if s / 2 ^ k % 2 = 1 then setC s k ++ oneByte (48 + (k : Int)) else setC s k
def setT (s : Int) : ByteArray := if (decide (0 ≤ s) && decide (s ≤ 1023)) = true then (if (setC s 10).toList.isEmpty = true then ⟨#[45]⟩ else setC s 10) else ⟨#[]⟩
theorem setC_size (s : Int) : ∀ k, (setC s k).size ≤ k
  | 0 => Nat.le_refl _
  | k + 1 => by
    have := setC_size s k
    unfold setC
    split
    · rw [ByteArray.size_append, oneByte_size]; omega
    · omega
theorem setC_yes {s : Int} {k : Nat} (h : s / 2 ^ k % 2 = 1) : setC s (k + 1) = setC s k ++ oneByte (48 + (k : Int)) := by
  rw [setC, if_pos h]
theorem setC_no {s : Int} {k : Nat} (h : ¬ s / 2 ^ k % 2 = 1) : setC s (k + 1) = setC s k := by
  rw [setC, if_neg h]
/-- The set that the first k bytes of a text name. -/
def readI (t : ByteArray) : Nat → Int
  | 0 => 0
  | k + 1 => let z : Int := ((t.data.toList.getD k 0).toNat : Int)
    if (decide (48 ≤ z) && decide (z ≤ 57)) = true then orI (readI t k) (2 ^ (z - 48).toNat) else readI t k
theorem two_pow_512 : ∀ m : Nat, m ≤ 9 → (0 : Int) ≤ 2 ^ m ∧ (2 : Int) ^ m ≤ 512 := by decide
theorem readI_in (t : ByteArray) : ∀ k, 0 ≤ readI t k ∧ readI t k ≤ 1023
  | 0 => by unfold readI; omega
  | k + 1 => by
    have ih := readI_in t k
    unfold readI
    dsimp only
    split
    · rename_i h
      simp only [Bool.and_eq_true, decide_eq_true_eq] at h
      have := two_pow_512 ((((t.data.toList.getD k 0).toNat : Int) - 48).toNat) (by omega)
      exact or_in ih.1 ih.2 (by omega) (by omega)
    · exact ih
theorem readI_yes {t : ByteArray} {k : Nat} (hk : k < t.size) (h0 : ¬ (t[k].toNat : Int) < 48) (h1 : ¬ 57 < (t[k].toNat : Int)) : readI t (k + 1) = orI (readI t k) (2 ^ ((t[k].toNat : Int) - 48).toNat) := by
  have e : t.data.toList.getD k 0 = t[k] := by
    rw [List.getD_eq_getElem?_getD, List.getElem?_eq_getElem (by simpa using hk)]
    rfl
  rw [readI]
  rw [e, decide_eq_true (show (48 : Int) ≤ (t[k].toNat : Int) by omega), decide_eq_true (show (t[k].toNat : Int) ≤ 57 by omega)]
  rfl
theorem readI_no {t : ByteArray} {k : Nat} (hk : k < t.size) (h : (t[k].toNat : Int) < 48 ∨ 57 < (t[k].toNat : Int)) : readI t (k + 1) = readI t k := by
  have e : t.data.toList.getD k 0 = t[k] := by
    rw [List.getD_eq_getElem?_getD, List.getElem?_eq_getElem (by simpa using hk)]
    rfl
  rw [readI]
  rw [e, if_neg]
  simp only [Bool.and_eq_true, decide_eq_true_eq]
  omega
/-- Whether a text is one of a set, and of which. -/
def readB (t : ByteArray) : Bool := (setT (readI t t.size)).toList == t.toList
def readV (t : ByteArray) : Int := if readB t = true then readI t t.size else 0
end Go.Proofs.YtlflblngbneacabGreatDoor

/- The contract of the program's isSetOf. Condition: a number of items from 1 to 16. -/
namespace Go.Proofs.YtlflblngbneacabGreatDoor
open Go.RowKit

theorem pool_split (n p : Int) : poolB n p = (decide (0 ≤ p) && decide (p < topI n + 1)) := by
  unfold poolB
  congr 1
  rw [decide_eq_decide]
  omega
theorem two_pow_in16 : ∀ m : Nat, m ≤ 16 → (1 : Int) ≤ 2 ^ m ∧ (2 : Int) ^ m ≤ 65536 := by decide
theorem top_in16 {n : Int} (h1 : n ≤ 16) : 0 ≤ topI n ∧ topI n ≤ 65535 := by
  have := two_pow_in16 n.toNat (by omega)
  unfold topI
  omega
theorem shl_top16 {n : Int} (h0 : 1 ≤ n) (h1 : n ≤ 16) : IntKind.i64.wrap (2 ^ n.toNat) = 2 ^ n.toNat ∧ (2 : Int) ^ n.toNat = topI n + 1 ∧ 0 ≤ topI n ∧ topI n ≤ 65535 := by
  have := two_pow_in16 n.toNat (by omega)
  have ht : (2 : Int) ^ n.toNat = topI n + 1 := by unfold topI; omega
  have hi := top_in16 h1
  refine ⟨?_, ht, hi⟩
  rw [IntKind.wrap_i64]
  omega
set_option maxHeartbeats 1600000 in
theorem implIsSet16 (n p : Int) (n1 : 1 ≤ n) (n10 : n ≤ 16) (w : World) : Calls Tryz.prog 66 #[.int .i64 n, .int .i64 p] w fun e w' => e = .returned (.bool (poolB n p)) ∧ w = w' := by
  have HP := Lib.hid (pool_split n p)
  obtain ⟨hs1, hs2, hs3, hs4⟩ := shl_top16 n1 n10
  rw [hs2] at hs1
  generalize poolB n p = r at HP ⊢
  generalize topI n = T at hs1 hs2 hs3 hs4 HP
  by_cases h0 : 0 ≤ p
  · have HE : Hid (r = decide (p < T + 1)) := by unfold Hid; rw [HP.out, decide_eq_true h0]; rfl
    go_enter Tryz.func66, Tryz.ntmps66
    go_wp2
    go_ret
    exact ⟨ret_bool HE.out.symm, rfl⟩
  · have HE : Hid (r = false) := by unfold Hid; rw [HP.out, decide_eq_false h0]; rfl
    go_enter Tryz.func66, Tryz.ntmps66
    go_wp2
    go_ret
    exact ⟨ret_bool HE.out.symm, rfl⟩
theorem implIsSet (n p : Int) (n1 : 1 ≤ n) (n10 : n ≤ 10) (w : World) : Calls Tryz.prog 66 #[.int .i64 n, .int .i64 p] w fun e w' => e = .returned (.bool (poolB n p)) ∧ w = w' := implIsSet16 n p n1 (by omega) w
end Go.Proofs.YtlflblngbneacabGreatDoor
