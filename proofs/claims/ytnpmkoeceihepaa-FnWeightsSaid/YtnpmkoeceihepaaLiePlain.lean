/- Answers of which one may be a lie, plainly: what fits with no lie and with one; which positions can be won. No condition. -/
import Derived.Test.YtnpmkoeceihepaaPoolPlain
namespace Go.Proofs.Ytnpmkoeceihepaa
open Go.RowKit

def numsB (n : Int) : Bool := decide (1 ≤ n) && decide (n ≤ 8)
def asksB (n : Int) (P : List Int) (R : List Bool) : Bool := (((numsB n && decide (P.length ≤ 8)) && (R.length == P.length)) && P.all (poolB n))
theorem asks_in {n : Int} {P : List Int} {R : List Bool} (h : asksB n P R = true) : (1 ≤ n ∧ n ≤ 8) ∧ P.length ≤ 8 ∧ R.length = P.length ∧ ∀ p ∈ P, 0 ≤ p ∧ p ≤ 1023 := by
  unfold asksB numsB at h
  simp only [Bool.and_eq_true, decide_eq_true_eq, beq_iff_eq] at h
  refine ⟨h.1.1.1, h.1.1.2, h.1.2, fun p hp => ?_⟩
  have hq := List.all_eq_true.1 h.2 p hp
  unfold poolB at hq
  simp only [Bool.and_eq_true, decide_eq_true_eq] at hq
  have := top_in (n := n) (by omega)
  omega
/-- How many of the first answers are false for number k. -/
def liesF (P : List Int) (R : List Bool) (k : Nat) : Nat → Nat
  | 0 => 0
  | j + 1 => if ((bits .and .i64 (P.getD j 0) (2 ^ k) != 0) != R.getD j false) = true then liesF P R k j + 1 else liesF P R k j
theorem liesF_le (P : List Int) (R : List Bool) (k : Nat) : ∀ j, liesF P R k j ≤ j
  | 0 => Nat.le_refl _
  | j + 1 => by
    have := liesF_le P R k j
    unfold liesF
    split <;> omega
/-- The first numbers for which just so many answers are false. -/
def fitN (P : List Int) (R : List Bool) (c : Nat) : Nat → Int
  | 0 => 0
  | k + 1 => if (liesF P R k P.length == c) = true then bits .or .i64 (fitN P R c k) (2 ^ k) else fitN P R c k
theorem pow8 : ∀ k : Nat, k < 8 → (0 : Int) ≤ 2 ^ k ∧ (2 : Int) ^ k ≤ 128 := by decide
theorem fitN_in (P : List Int) (R : List Bool) (c : Nat) : ∀ k, k ≤ 8 → 0 ≤ fitN P R c k ∧ fitN P R c k ≤ 1023
  | 0, _ => by unfold fitN; omega
  | k + 1, hk => by
    have ih := fitN_in P R c k (by omega)
    have := pow8 k (by omega)
    unfold fitN
    split
    · exact or_in ih.1 ih.2 this.1 (by omega)
    · exact ih
def fitI (n : Int) (P : List Int) (R : List Bool) (c : Nat) : Int := if asksB n P R = true then fitN P R c n.toNat else 0
theorem fitI_in (n : Int) (P : List Int) (R : List Bool) (c : Nat) : 0 ≤ fitI n P R c ∧ fitI n P R c ≤ 1023 := by
  unfold fitI
  split
  · rename_i h
    exact fitN_in P R c _ (by have := (asks_in h).1; omega)
  · omega
def foundB (n : Int) (P : List Int) (R : List Bool) : Bool := cntI (fitI n P R 0) + cntI (fitI n P R 1) == 1
def wtIn (a b q : Int) : Bool := ((decide (0 ≤ a) && decide (a ≤ 1000)) && (decide (0 ≤ b) && decide (b ≤ 1000))) && (decide (0 ≤ q) && decide (q ≤ 40))
def wtI (a b q : Int) : Int := if wtIn a b q = true then a * (q + 1) + b else -1
/-- The first of some numbers, and the first of some pairs, for which it holds. -/
def firstY (F : Nat → Bool) : Nat → Nat → Option Nat
  | 0, _ => none
  | m + 1, y => if F y = true then some y else firstY F m (y + 1)
def firstXY (F : Nat → Nat → Bool) (b : Nat) : Nat → Nat → Option (Nat × Nat)
  | 0, _ => none
  | m + 1, x => match firstY (F x) (b + 1) 0 with
    | some y => some (x, y)
    | none => firstXY F b m (x + 1)
theorem firstY_step (F : Nat → Bool) {N y : Nat} (h : y < N) : firstY F (N - y) y = if F y = true then some y else firstY F (N - (y + 1)) (y + 1) := by
  rw [show N - y = (N - (y + 1)) + 1 by omega]
  rfl
theorem firstY_end (F : Nat → Bool) {m : Nat} (y : Nat) (h : m = 0) : firstY F m y = none := by subst h; rfl
theorem firstXY_step (F : Nat → Nat → Bool) (b : Nat) {N x : Nat} (h : x < N) : firstXY F b (N - x) x = match firstY (F x) (b + 1) 0 with
    | some y => some (x, y)
    | none => firstXY F b (N - (x + 1)) (x + 1) := by
  rw [show N - x = (N - (x + 1)) + 1 by omega]
  rfl
theorem firstXY_end (F : Nat → Nat → Bool) (b : Nat) {m : Nat} (x : Nat) (h : m = 0) : firstXY F b m x = none := by subst h; rfl
/-- Whether the number can be found with q questions more, if a numbers fit with no lie and b with one. -/
def winB : Nat → Nat → Nat → Bool
  | 0, a, b => decide (a + b ≤ 1)
  | q + 1, a, b => decide (a + b ≤ 1) || (decide (a * (q + 2) + b ≤ 2 ^ (q + 1)) && (firstXY (fun x y => winB q x (y + a - x) && winB q (a - x) (b - y + x)) b (a + 1) 0).isSome)
/-- The first question that wins, with so many questions behind it. -/
def askP (q a b : Nat) : Option (Nat × Nat) := firstXY (fun x y => winB q x (y + a - x) && winB q (a - x) (b - y + x)) b (a + 1) 0
theorem winB_zero (a b : Nat) : winB 0 a b = decide (a + b ≤ 1) := rfl
theorem winB_succ (q a b : Nat) : winB (q + 1) a b = (decide (a + b ≤ 1) || (decide (a * (q + 2) + b ≤ 2 ^ (q + 1)) && (askP q a b).isSome)) := rfl
def fstO : Option (Nat × Nat) → Int
  | some (x, _) => x
  | none => 0
def sndO : Option (Nat × Nat) → Int
  | some (_, y) => y
  | none => 0
def liarIn (a b q : Int) : Bool := ((decide (0 ≤ a) && decide (a ≤ 8)) && (decide (0 ≤ b) && decide (b ≤ 16))) && (decide (0 ≤ q) && decide (q ≤ 8))
def canR (a b q : Int) : Bool := liarIn a b q && winB q.toNat a.toNat b.toNat
/-- The first question, and whether there is one. -/
def askOk (a b q : Int) : Bool := ((liarIn a b q && decide (1 ≤ q)) && decide (1 < a + b)) && winB q.toNat a.toNat b.toNat
def askO (a b q : Int) : Option (Nat × Nat) := if askOk a b q = true then askP (q.toNat - 1) a.toNat b.toNat else none
/-- The fewest questions for so many numbers. -/
def asksI (n : Int) : Int := if numsB n = true then [0, 0, 3, 5, 5, 6, 6, 6, 6].getD n.toNat 0 else -1
theorem asks_tab : ∀ n : Nat, n ≤ 8 → 1 ≤ n → (∀ q : Nat, q < ([0, 0, 3, 5, 5, 6, 6, 6, 6] : List Nat).getD n 0 → winB q n 0 = false) ∧ winB (([0, 0, 3, 5, 5, 6, 6, 6, 6] : List Nat).getD n 0) n 0 = true := by
  decide +kernel
end Go.Proofs.Ytnpmkoeceihepaa
