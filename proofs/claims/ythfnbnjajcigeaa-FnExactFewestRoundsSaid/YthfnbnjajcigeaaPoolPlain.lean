/- Pools of items, plainly: which are valid, what they show, how many items a set has, and what is surely good or bad. No condition. -/
import Derived.Test.YthfnbnjajcigeaaGBase
import Derived.IntWalk
namespace Go.Proofs.Ythfnbnjajcigeaa
open Go.RowKit

/-- Go's bitwise and, and or, of two numbers. -/
def andI (x y : Int) : Int := bits .and .i64 x y
def orI (x y : Int) : Int := bits .or .i64 x y
theorem nat64 {a : Nat} (ha : a < 9223372036854775808) : (BitVec.ofInt 64 (a : Int)).toNat = a := by
  rw [BitVec.toNat_ofInt]
  omega
theorem and_nat {a b : Nat} (ha : a < 9223372036854775808) (hb : b < 9223372036854775808) : andI a b = ((a &&& b : Nat) : Int) := by
  have key : (BitVec.ofInt 64 (a : Int) &&& BitVec.ofInt 64 (b : Int)).toNat = a &&& b := by rw [BitVec.toNat_and, nat64 ha, nat64 hb]
  have hle : a &&& b ≤ a := Nat.and_le_left
  show IntKind.i64.wrap ((BitVec.ofInt 64 (a : Int) &&& BitVec.ofInt 64 (b : Int)).toNat : Nat) = _
  rw [key, IntKind.wrap_i64]
  omega
theorem or_nat {a b : Nat} (ha : a < 9223372036854775808) (hb : b < 9223372036854775808) : orI a b = ((a ||| b : Nat) : Int) := by
  have key : (BitVec.ofInt 64 (a : Int) ||| BitVec.ofInt 64 (b : Int)).toNat = a ||| b := by rw [BitVec.toNat_or, nat64 ha, nat64 hb]
  have hlt : a ||| b < 2 ^ 63 := Nat.or_lt_two_pow (by omega) (by omega)
  show IntKind.i64.wrap ((BitVec.ofInt 64 (a : Int) ||| BitVec.ofInt 64 (b : Int)).toNat : Nat) = _
  rw [key, IntKind.wrap_i64]
  omega
theorem and_in {x y : Int} (h0 : 0 ≤ x) (h1 : x ≤ 1023) (g0 : 0 ≤ y) (g1 : y ≤ 1023) : 0 ≤ andI x y ∧ andI x y ≤ x := by
  obtain ⟨a, rfl⟩ := Int.eq_ofNat_of_zero_le h0
  obtain ⟨b, rfl⟩ := Int.eq_ofNat_of_zero_le g0
  rw [and_nat (by omega) (by omega)]
  have : a &&& b ≤ a := Nat.and_le_left
  omega
theorem or_in {x y : Int} (h0 : 0 ≤ x) (h1 : x ≤ 1023) (g0 : 0 ≤ y) (g1 : y ≤ 1023) : 0 ≤ orI x y ∧ orI x y ≤ 1023 := by
  obtain ⟨a, rfl⟩ := Int.eq_ofNat_of_zero_le h0
  obtain ⟨b, rfl⟩ := Int.eq_ofNat_of_zero_le g0
  rw [or_nat (by omega) (by omega)]
  have : a ||| b < 2 ^ 10 := Nat.or_lt_two_pow (by omega) (by omega)
  omega

/-- The set of all n items. -/
def topI (n : Int) : Int := 2 ^ n.toNat - 1
theorem two_pow_in : ∀ m : Nat, m ≤ 10 → (1 : Int) ≤ 2 ^ m ∧ (2 : Int) ^ m ≤ 1024 := by decide
theorem top_in {n : Int} (h1 : n ≤ 10) : 0 ≤ topI n ∧ topI n ≤ 1023 := by
  have := two_pow_in n.toNat (by omega)
  unfold topI
  omega
theorem shl_top {n : Int} (h0 : 1 ≤ n) (h1 : n ≤ 10) : IntKind.i64.wrap (2 ^ n.toNat) = 2 ^ n.toNat ∧ (2 : Int) ^ n.toNat = topI n + 1 ∧ 0 ≤ topI n ∧ topI n ≤ 1023 := by
  have := two_pow_in n.toNat (by omega)
  have ht : (2 : Int) ^ n.toNat = topI n + 1 := by unfold topI; omega
  have hi := top_in h1
  refine ⟨?_, ht, hi⟩
  rw [IntKind.wrap_i64]
  omega
def poolB (n p : Int) : Bool := decide (0 ≤ p) && decide (p ≤ topI n)
def itemsB (n : Int) : Bool := decide (1 ≤ n) && decide (n ≤ 10)
def poolsB (n : Int) (P : List Int) : Bool := (itemsB n && decide (P.length ≤ 12)) && P.all (poolB n)
theorem pools_in {n : Int} {P : List Int} (h : poolsB n P = true) : (1 ≤ n ∧ n ≤ 10) ∧ P.length ≤ 12 ∧ ∀ p ∈ P, 0 ≤ p ∧ p ≤ 1023 := by
  unfold poolsB itemsB at h
  simp only [Bool.and_eq_true, decide_eq_true_eq] at h
  refine ⟨h.1.1, h.1.2, fun p hp => ?_⟩
  have hq := List.all_eq_true.1 h.2 p hp
  unfold poolB at hq
  simp only [Bool.and_eq_true, decide_eq_true_eq] at hq
  have := top_in h.1.1.2
  omega
/-- What the pools show of a set of bad items. -/
def resL (P : List Int) (bad : Int) : List Bool := P.map fun p => andI p bad != 0
theorem resL_len (P : List Int) (bad : Int) : (resL P bad).length = P.length := by simp [resL]
def testsB (n : Int) (P : List Int) (bad : Int) : Bool := poolsB n P && (decide (0 ≤ bad) && decide (bad ≤ topI n))
def testR (n : Int) (P : List Int) (bad : Int) : List Bool := if testsB n P bad = true then resL P bad else []

/-- The number of items of a set. -/
def cntF : Nat → Int → Int
  | 0, _ => 0
  | f + 1, s => if 0 < s then s % 2 + cntF f (s / 2) else 0
def cntI (s : Int) : Int := cntF 64 s
theorem cntF_none {s : Int} (h : s ≤ 0) : ∀ f, cntF f s = 0
  | 0 => rfl
  | f + 1 => by unfold cntF; rw [if_neg (by omega)]
theorem cntF_in : ∀ (f : Nat) (s : Int), 0 ≤ cntF f s ∧ cntF f s ≤ f
  | 0, _ => ⟨Int.le_refl _, Int.le_refl _⟩
  | f + 1, s => by
    unfold cntF
    split
    · have := cntF_in f (s / 2)
      omega
    · omega
theorem cnt_in (s : Int) : 0 ≤ cntI s ∧ cntI s ≤ 64 := cntF_in 64 s

/-- The sets of at most so many items that show the results. -/
def consL (n : Int) (P : List Int) (R : List Bool) (most : Int) : List Int :=
  ((List.range (2 ^ n.toNat)).map fun (k : Nat) => (k : Int)).filter fun b => decide (cntI b ≤ most) && (resL P b == R)
def consR (n : Int) (P : List Int) (R : List Bool) (most : Int) : List Int := if poolsB n P = true then consL n P R most else []
/-- The items in pools with a negative result. -/
def goodF (P : List Int) (R : List Bool) : Nat → Int
  | 0 => 0
  | k + 1 => if R.getD k false = true then goodF P R k else orI (goodF P R k) (P.getD k 0)
def goodR (n : Int) (P : List Int) (R : List Bool) : Int := if (poolsB n P && (R.length == P.length)) = true then goodF P R P.length else 0
/-- The items that are left alone in a positive pool. -/
def badF (g : Int) (P : List Int) (R : List Bool) : Nat → Int
  | 0 => 0
  | k + 1 => if (R.getD k false && (cntI (P.getD k 0 - andI (P.getD k 0) g) == 1)) = true then orI (badF g P R k) (P.getD k 0 - andI (P.getD k 0) g) else badF g P R k
def badR (n : Int) (P : List Int) (R : List Bool) : Int := if (poolsB n P && (R.length == P.length)) = true then badF (goodF P R P.length) P R P.length else 0
theorem goodF_in {P : List Int} (R : List Bool) (h : ∀ p ∈ P, 0 ≤ p ∧ p ≤ 1023) : ∀ k, 0 ≤ goodF P R k ∧ goodF P R k ≤ 1023
  | 0 => by unfold goodF; omega
  | k + 1 => by
    have ih := goodF_in R h k
    unfold goodF
    split
    · exact ih
    · have hp : 0 ≤ P.getD k 0 ∧ P.getD k 0 ≤ 1023 := by
        rw [List.getD_eq_getElem?_getD]
        by_cases hk : k < P.length
        · rw [List.getElem?_eq_getElem hk]; exact h _ (List.getElem_mem hk)
        · rw [List.getElem?_eq_none (by omega)]; simp
      exact or_in ih.1 ih.2 hp.1 hp.2
theorem badF_in {P : List Int} (R : List Bool) {g : Int} (hg : 0 ≤ g ∧ g ≤ 1023) (h : ∀ p ∈ P, 0 ≤ p ∧ p ≤ 1023) : ∀ k, 0 ≤ badF g P R k ∧ badF g P R k ≤ 1023
  | 0 => by unfold badF; omega
  | k + 1 => by
    have ih := badF_in R hg h k
    unfold badF
    split
    · have hp : 0 ≤ P.getD k 0 ∧ P.getD k 0 ≤ 1023 := by
        rw [List.getD_eq_getElem?_getD]
        by_cases hk : k < P.length
        · rw [List.getElem?_eq_getElem hk]; exact h _ (List.getElem_mem hk)
        · rw [List.getElem?_eq_none (by omega)]; simp
      have ha := and_in hp.1 hp.2 hg.1 hg.2
      exact or_in ih.1 ih.2 (by omega) (by omega)
    · exact ih
end Go.Proofs.Ythfnbnjajcigeaa
