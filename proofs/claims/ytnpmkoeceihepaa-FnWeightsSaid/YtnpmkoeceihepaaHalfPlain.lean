/- Halving, plainly: the pools that find one bad item, those that find all, how many they are, and how many could be left out. No condition. -/
import Derived.Test.YtnpmkoeceihepaaPoolPlain
namespace Go.Proofs.Ytnpmkoeceihepaa
open Go.RowKit

/-- The set of the items from a up to b. -/
def spanI (a b : Nat) : Int := 2 ^ b - 2 ^ a
theorem span_in {a b : Nat} (h : a ≤ b) (hb : b ≤ 10) : 0 ≤ spanI a b ∧ spanI a b ≤ 1023 := by
  have h1 := two_pow_in b hb
  have h2 := two_pow_in a (by omega)
  have h3 : (2 : Int) ^ a ≤ 2 ^ b := by exact_mod_cast Nat.pow_le_pow_right (by decide) h
  unfold spanI
  omega
def midN (a b : Nat) : Nat := a + (b - a) / 2
theorem mid_in {a b : Nat} (h : 1 < b - a) : a < midN a b ∧ midN a b < b := by unfold midN; omega
/-- The pools that find one bad item in an interval, and the item. -/
def oneF (bad : Int) : Nat → Nat → Nat → List Int × Nat
  | 0, a, _ => ([], a)
  | f + 1, a, b => if b - a ≤ 1 then ([], a) else
      if andI bad (spanI a (midN a b)) = 0 then (spanI a (midN a b) :: (oneF bad f (midN a b) b).1, (oneF bad f (midN a b) b).2)
      else (spanI a (midN a b) :: (oneF bad f a (midN a b)).1, (oneF bad f a (midN a b)).2)
theorem oneF_end (bad : Int) (f : Nat) {a b : Nat} (h : b - a ≤ 1) : oneF bad f a b = ([], a) := by
  cases f with
  | zero => rfl
  | succ f => rw [oneF, if_pos h]
theorem oneF_in (bad : Int) : ∀ (f a b : Nat), b - a ≤ f → a < b → (oneF bad f a b).1.length ≤ b - a - 1 ∧ a ≤ (oneF bad f a b).2 ∧ (oneF bad f a b).2 < b
  | 0, a, b, h, h1 => by omega
  | f + 1, a, b, h, h1 => by
    by_cases h2 : b - a ≤ 1
    · rw [oneF_end _ _ h2]; exact ⟨by simp, Nat.le_refl _, h1⟩
    · have hm := mid_in (a := a) (b := b) (by omega)
      rw [oneF, if_neg h2]
      split
      · have ih := oneF_in bad f (midN a b) b (by omega) hm.2
        simp only [List.length_cons]
        omega
      · have ih := oneF_in bad f a (midN a b) (by omega) hm.1
        simp only [List.length_cons]
        omega
/-- The pools that find all bad items of an interval. -/
def allF (bad : Int) : Nat → Nat → Nat → List Int
  | 0, _, _ => []
  | f + 1, a, b => spanI a b :: (if andI bad (spanI a b) = 0 ∨ b - a = 1 then [] else allF bad f a (midN a b) ++ allF bad f (midN a b) b)
theorem allF_len (bad : Int) : ∀ (f a b : Nat), a < b → (allF bad f a b).length ≤ 2 * (b - a) - 1
  | 0, a, b, h => by simp [allF]
  | f + 1, a, b, h => by
    unfold allF
    split
    · simp; omega
    · rename_i hn
      have hm := mid_in (a := a) (b := b) (by omega)
      have h1 := allF_len bad f a (midN a b) hm.1
      have h2 := allF_len bad f (midN a b) b hm.2
      simp only [List.length_cons, List.length_append]
      omega
/-- How many of these could be left out. -/
def skipF (bad : Int) : Nat → Nat → Nat → Int
  | 0, _, _ => 0
  | f + 1, a, b => if andI bad (spanI a b) = 0 ∨ b - a = 1 then 0 else skipF bad f a (midN a b) + skipF bad f (midN a b) b + (if andI bad (spanI a (midN a b)) = 0 then 1 else 0)
theorem skipF_in (bad : Int) : ∀ (f a b : Nat), a < b → 0 ≤ skipF bad f a b ∧ skipF bad f a b ≤ (b : Int) - a - 1
  | 0, a, b, h => by unfold skipF; omega
  | f + 1, a, b, h => by
    unfold skipF
    split
    · omega
    · rename_i hn
      have hm := mid_in (a := a) (b := b) (by omega)
      have h1 := skipF_in bad f a (midN a b) hm.1
      have h2 := skipF_in bad f (midN a b) b hm.2
      split <;> omega
def okOne (n bad : Int) : Bool := itemsB n && (decide (1 ≤ bad) && decide (bad ≤ topI n))
def okAll (n bad : Int) : Bool := itemsB n && (decide (0 ≤ bad) && decide (bad ≤ topI n))
theorem okOne_in {n bad : Int} (h : okOne n bad = true) : (1 ≤ n ∧ n ≤ 10) ∧ 1 ≤ bad ∧ bad ≤ topI n := by
  unfold okOne itemsB at h
  simpa only [Bool.and_eq_true, decide_eq_true_eq] using h
theorem okAll_in {n bad : Int} (h : okAll n bad = true) : (1 ≤ n ∧ n ≤ 10) ∧ 0 ≤ bad ∧ bad ≤ topI n := by
  unfold okAll itemsB at h
  simpa only [Bool.and_eq_true, decide_eq_true_eq] using h
def oneL (n bad : Int) : List Int := if okOne n bad = true then (oneF bad 10 0 n.toNat).1 else []
def oneK (n bad : Int) : Int := if okOne n bad = true then ((oneF bad 10 0 n.toNat).2 : Int) else 0
def allL (n bad : Int) : List Int := if okAll n bad = true then allF bad 10 0 n.toNat else []
def allV (n bad : Int) : Int := if okAll n bad = true then bad else 0
def cntH (n bad : Int) : Int := if okAll n bad = true then ((allF bad 10 0 n.toNat).length : Int) else -1
def skipH (n bad : Int) : Int := if okAll n bad = true then skipF bad 10 0 n.toNat else -1
/-- The greatest number of pools of the first k sets of few items. -/
def worstK (n d : Int) : Nat → Int
  | 0 => 0
  | k + 1 => if cntI (k : Int) ≤ d then max (worstK n d k) (cntH n (k : Int)) else worstK n d k
def okWorst (n d : Int) : Bool := itemsB n && decide (0 ≤ d)
def worstH (n d : Int) : Int := if okWorst n d = true then worstK n d (2 ^ n.toNat) else -1
def oneB (n d : Int) : Bool := decide (n < worstH n d) && decide (0 < n)
theorem oneL_len (n bad : Int) : (oneL n bad).length ≤ 20 := by
  unfold oneL
  split
  · rename_i h
    have hh := okOne_in h
    have := (oneF_in bad 10 0 n.toNat (by omega) (by omega)).1
    omega
  · simp
theorem allL_len (n bad : Int) : (allL n bad).length ≤ 20 := by
  unfold allL
  split
  · rename_i h
    have hh := okAll_in h
    have := allF_len bad 10 0 n.toNat (by omega)
    omega
  · simp
theorem cntH_in (n bad : Int) : -1 ≤ cntH n bad ∧ cntH n bad ≤ 20 := by
  unfold cntH
  split
  · rename_i h
    have hh := okAll_in h
    have := allF_len bad 10 0 n.toNat (by omega)
    omega
  · omega
theorem worstK_in (n d : Int) : ∀ k, 0 ≤ worstK n d k ∧ worstK n d k ≤ 20
  | 0 => by unfold worstK; omega
  | k + 1 => by
    have ih := worstK_in n d k
    have hc := cntH_in n (k : Int)
    unfold worstK
    split <;> omega
end Go.Proofs.Ytnpmkoeceihepaa
