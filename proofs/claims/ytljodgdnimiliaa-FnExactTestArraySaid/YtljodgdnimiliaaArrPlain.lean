/- Rows and columns, plainly: the results of an array, its suspects, whether they are clear, how many tests it takes, and how many sets have the same results. No condition. -/
import Derived.Test.YtljodgdnimiliaaPoolPlain
namespace Go.Proofs.Ytljodgdnimiliaa
open Go.RowKit

def okArr (r c : Int) : Bool := (decide (1 ≤ r) && decide (r ≤ 4)) && (decide (1 ≤ c) && decide (c ≤ 4))
theorem okArr_in {r c : Int} (h : okArr r c = true) : (1 ≤ r ∧ r ≤ 4) ∧ 1 ≤ c ∧ c ≤ 4 := by
  unfold okArr at h
  simpa only [Bool.and_eq_true, decide_eq_true_eq] using h
/-- The results of the rows, and of the columns, after the first k items. -/
def rowF (rows cols : Nat) (bad : Int) : Nat → List Bool
  | 0 => List.replicate rows false
  | k + 1 => if andI bad (2 ^ k) = 0 then rowF rows cols bad k else (rowF rows cols bad k).set (k / cols) true
def colF (cols : Nat) (bad : Int) : Nat → List Bool
  | 0 => List.replicate cols false
  | k + 1 => if andI bad (2 ^ k) = 0 then colF cols bad k else (colF cols bad k).set (k % cols) true
theorem rowF_len (rows cols : Nat) (bad : Int) : ∀ k, (rowF rows cols bad k).length = rows
  | 0 => by simp [rowF]
  | k + 1 => by
    unfold rowF
    split
    · exact rowF_len rows cols bad k
    · rw [List.length_set]; exact rowF_len rows cols bad k
theorem colF_len (cols : Nat) (bad : Int) : ∀ k, (colF cols bad k).length = cols
  | 0 => by simp [colF]
  | k + 1 => by
    unfold colF
    split
    · exact colF_len cols bad k
    · rw [List.length_set]; exact colF_len cols bad k
def rowR (r c bad : Int) : List Bool := rowF r.toNat c.toNat bad (r.toNat * c.toNat)
def colR (r c bad : Int) : List Bool := colF c.toNat bad (r.toNat * c.toNat)
/-- Whether a set is one of the items of an array. -/
def badA (r c bad : Int) : Bool := decide (0 ≤ bad) && decide (bad ≤ 2 ^ (r.toNat * c.toNat) - 1)
def okTest (r c bad : Int) : Bool := okArr r c && badA r c bad
def rowL (r c bad : Int) : List Bool := if okTest r c bad = true then rowR r c bad else []
def colL (r c bad : Int) : List Bool := if okTest r c bad = true then colR r c bad else []
theorem rowL_len (r c bad : Int) : (rowL r c bad).length ≤ 4 := by
  unfold rowL
  split
  · rename_i h
    unfold okTest at h
    rw [Bool.and_eq_true] at h
    have := okArr_in h.1
    unfold rowR
    rw [rowF_len]
    omega
  · simp
theorem colL_len (r c bad : Int) : (colL r c bad).length ≤ 4 := by
  unfold colL
  split
  · rename_i h
    unfold okTest at h
    rw [Bool.and_eq_true] at h
    have := okArr_in h.1
    unfold colR
    rw [colF_len]
    omega
  · simp
def fitA (r c : Int) (R C : List Bool) : Bool := okArr r c && (decide ((R.length : Int) = r) && decide ((C.length : Int) = c))
/-- The suspects among the first k items. -/
def suspF (cols : Nat) (R C : List Bool) : Nat → Int
  | 0 => 0
  | k + 1 => if (R.getD (k / cols) false && C.getD (k % cols) false) = true then orI (suspF cols R C k) (2 ^ k) else suspF cols R C k
theorem or_in16 {x y : Int} (h0 : 0 ≤ x) (h1 : x ≤ 65535) (g0 : 0 ≤ y) (g1 : y ≤ 65535) : 0 ≤ orI x y ∧ orI x y ≤ 65535 := by
  obtain ⟨a, rfl⟩ := Int.eq_ofNat_of_zero_le h0
  obtain ⟨b, rfl⟩ := Int.eq_ofNat_of_zero_le g0
  rw [or_nat (by omega) (by omega)]
  have : a ||| b < 2 ^ 16 := Nat.or_lt_two_pow (by omega) (by omega)
  omega
theorem pow_in16 {k : Nat} (h : k ≤ 16) : IntKind.i64.wrap (2 ^ k) = 2 ^ k ∧ (1 : Int) ≤ 2 ^ k ∧ (2 : Int) ^ k ≤ 65536 := by
  have hp : ∀ m : Nat, m ≤ 16 → (1 : Int) ≤ 2 ^ m ∧ (2 : Int) ^ m ≤ 65536 := by decide
  have := hp k h
  refine ⟨?_, this⟩
  rw [IntKind.wrap_i64]
  omega
theorem suspF_in (cols : Nat) (R C : List Bool) : ∀ k, k ≤ 16 → 0 ≤ suspF cols R C k ∧ suspF cols R C k ≤ 65535
  | 0, _ => by unfold suspF; omega
  | k + 1, h => by
    have ih := suspF_in cols R C k (by omega)
    unfold suspF
    split
    · have hp : ∀ m : Nat, m ≤ 15 → (1 : Int) ≤ 2 ^ m ∧ (2 : Int) ^ m ≤ 32768 := by decide
      have := hp k (by omega)
      exact or_in16 ih.1 ih.2 (by omega) (by omega)
    · exact ih
def suspA (r c : Int) (R C : List Bool) : Int := if fitA r c R C = true then suspF c.toNat R C (r.toNat * c.toNat) else 0
/-- How many of the first k are true. -/
def trueF (L : List Bool) : Nat → Int
  | 0 => 0
  | k + 1 => if L.getD k false = true then trueF L k + 1 else trueF L k
theorem trueF_in (L : List Bool) : ∀ k, 0 ≤ trueF L k ∧ trueF L k ≤ k
  | 0 => by unfold trueF; omega
  | k + 1 => by
    have := trueF_in L k
    unfold trueF
    split <;> omega
def clearF (R C : List Bool) : Bool := (decide (0 < trueF R R.length) == decide (0 < trueF C C.length)) && (decide (trueF R R.length ≤ 1) || decide (trueF C C.length ≤ 1))
def clearA (r c : Int) (R C : List Bool) : Bool := fitA r c R C && clearF R C
def cntA (r c bad : Int) : Int := if okTest r c bad = true then (if clearF (rowR r c bad) (colR r c bad) = true then r + c else r + c + cntI (suspF c.toNat (rowR r c bad) (colR r c bad) (r.toNat * c.toNat))) else -1
/-- How many of the first k sets have these results. -/
def setsF (rows cols : Nat) (R C : List Bool) : Nat → Int
  | 0 => 0
  | k + 1 => if ((rowF rows cols (k : Int) (rows * cols) == R) && (colF cols (k : Int) (rows * cols) == C)) = true then setsF rows cols R C k + 1 else setsF rows cols R C k
theorem setsF_in (rows cols : Nat) (R C : List Bool) : ∀ k, 0 ≤ setsF rows cols R C k ∧ setsF rows cols R C k ≤ k
  | 0 => by unfold setsF; omega
  | k + 1 => by
    have := setsF_in rows cols R C k
    unfold setsF
    split <;> omega
def setsA (r c : Int) (R C : List Bool) : Int := if fitA r c R C = true then setsF r.toNat c.toNat R C (2 ^ (r.toNat * c.toNat)) else 0
def worstF (r c d : Int) : Nat → Int
  | 0 => 0
  | k + 1 => if cntI (k : Int) ≤ d then max (worstF r c d k) (cntA r c (k : Int)) else worstF r c d k
def okWorstA (r c d : Int) : Bool := okArr r c && (decide (r * c ≤ 9) && decide (0 ≤ d))
def worstA (r c d : Int) : Int := if okWorstA r c d = true then worstF r c d (2 ^ (r.toNat * c.toNat)) else -1
end Go.Proofs.Ytljodgdnimiliaa
