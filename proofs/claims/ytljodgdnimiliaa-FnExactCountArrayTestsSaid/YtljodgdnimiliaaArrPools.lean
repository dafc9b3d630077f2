/- The pools of the rows and columns of an array, plainly: their items, what they show of a set, and the suspects that positive ones leave. No condition. -/
import Derived.Test.YtljodgdnimiliaaArrPlain
import Derived.Test.YtljodgdnimiliaaBitPlain
namespace Go.Proofs.Ytljodgdnimiliaa
open Go.RowKit

/-- The pool of row i, and of column i, of the first k items. -/
def rpF (C i : Nat) : Nat → Int
  | 0 => 0
  | k + 1 => if i = k / C then orI (rpF C i k) (2 ^ k) else rpF C i k
def cpF (C i : Nat) : Nat → Int
  | 0 => 0
  | k + 1 => if i = k % C then orI (cpF C i k) (2 ^ k) else cpF C i k
theorem pow_low {k : Nat} (h : k < 16) : (1 : Int) ≤ 2 ^ k ∧ (2 : Int) ^ k ≤ 32768 := by
  have hp : ∀ m : Nat, m ≤ 15 → (1 : Int) ≤ 2 ^ m ∧ (2 : Int) ^ m ≤ 32768 := by decide
  exact hp k (by omega)
theorem rpF_in (C i : Nat) : ∀ k, k ≤ 16 → 0 ≤ rpF C i k ∧ rpF C i k ≤ 65535
  | 0, _ => by unfold rpF; omega
  | k + 1, h => by
    have ih := rpF_in C i k (by omega)
    have hp := pow_low (k := k) (by omega)
    unfold rpF
    split
    · exact or_in16 ih.1 ih.2 (by omega) (by omega)
    · exact ih
theorem cpF_in (C i : Nat) : ∀ k, k ≤ 16 → 0 ≤ cpF C i k ∧ cpF C i k ≤ 65535
  | 0, _ => by unfold cpF; omega
  | k + 1, h => by
    have ih := cpF_in C i k (by omega)
    have hp := pow_low (k := k) (by omega)
    unfold cpF
    split
    · exact or_in16 ih.1 ih.2 (by omega) (by omega)
    · exact ih
/-- The pools of all rows, and of all columns. -/
def rpL (R C : Nat) : List Int := (List.range R).map fun i => rpF C i (R * C)
def cpL (R C : Nat) : List Int := (List.range C).map fun i => cpF C i (R * C)
theorem rpL_len (R C : Nat) : (rpL R C).length = R := by simp [rpL]
theorem cpL_len (R C : Nat) : (cpL R C).length = C := by simp [cpL]
theorem rpL_in {R C : Nat} (h : R * C ≤ 16) : ∀ p ∈ rpL R C, 0 ≤ p ∧ p ≤ 65535 := fun p hp => by
  unfold rpL at hp
  rw [List.mem_map] at hp
  obtain ⟨i, -, rfl⟩ := hp
  exact rpF_in C i _ h
theorem cpL_in {R C : Nat} (h : R * C ≤ 16) : ∀ p ∈ cpL R C, 0 ≤ p ∧ p ≤ 65535 := fun p hp => by
  unfold cpL at hp
  rw [List.mem_map] at hp
  obtain ⟨i, -, rfl⟩ := hp
  exact cpF_in C i _ h

/-- What a pool with one item more shows. -/
theorem and_or {x y z : Int} (h0 : 0 ≤ x) (h1 : x ≤ 65535) (g0 : 0 ≤ y) (g1 : y ≤ 65535) (f0 : 0 ≤ z) (f1 : z ≤ 65535) : (andI (orI x y) z != 0) = ((andI x z != 0) || (andI z y != 0)) := by
  obtain ⟨a, rfl⟩ := Int.eq_ofNat_of_zero_le h0
  obtain ⟨b, rfl⟩ := Int.eq_ofNat_of_zero_le g0
  obtain ⟨c, rfl⟩ := Int.eq_ofNat_of_zero_le f0
  have ho : a ||| b < 2 ^ 16 := Nat.or_lt_two_pow (by omega) (by omega)
  rw [or_nat (by omega) (by omega), and_nat (by omega) (by omega), and_nat (by omega) (by omega), and_nat (by omega) (by omega)]
  rw [Nat.and_or_distrib_right, Nat.and_comm c b]
  generalize a &&& c = p
  generalize b &&& c = q
  have h2 : (p ||| q = 0) ↔ p = 0 ∧ q = 0 := Nat.or_eq_zero_iff
  rw [Bool.eq_iff_iff]
  simp only [Bool.or_eq_true, bne_iff_ne]
  omega
theorem rowF_at (R C : Nat) {bad : Int} (g0 : 0 ≤ bad) (g1 : bad ≤ 65535) : ∀ k, k ≤ 16 → rowF R C bad k = (List.range R).map fun i => andI (rpF C i k) bad != 0
  | 0, _ => by
    have h0 : andI 0 bad = 0 := by
      obtain ⟨b, rfl⟩ := Int.eq_ofNat_of_zero_le g0
      have := and_nat (a := 0) (b := b) (by omega) (by omega)
      rw [Nat.zero_and] at this
      exact this
    unfold rowF rpF
    rw [h0]
    exact List.ext_getElem (by simp) fun i h1 h2 => by simp
  | k + 1, h => by
    have ih := rowF_at R C g0 g1 k (by omega)
    have hp := pow_low (k := k) (by omega)
    have hs : ∀ i, (andI (rpF C i (k + 1)) bad != 0) = if i = k / C then ((andI (rpF C i k) bad != 0) || (andI bad (2 ^ k) != 0)) else (andI (rpF C i k) bad != 0) := fun i => by
      have hr := rpF_in C i k (by omega)
      conv => lhs; unfold rpF
      split
      · exact and_or hr.1 hr.2 (by omega) (by omega) g0 g1
      · rfl
    unfold rowF
    rw [ih]
    simp only [hs]
    by_cases hx : andI bad (2 ^ k) = 0
    · rw [if_pos hx]
      refine List.map_congr_left fun i _ => ?_
      rw [hx]
      split <;> simp
    · rw [if_neg hx]
      have hx2 : (andI bad (2 ^ k) != 0) = true := by rw [bne_iff_ne]; exact hx
      refine List.ext_getElem (by simp) fun i h1 h2 => ?_
      rw [List.getElem_set, List.getElem_map, List.getElem_map, List.getElem_range, hx2]
      by_cases hi : k / C = i
      · rw [if_pos hi, if_pos hi.symm]; simp
      · rw [if_neg hi, if_neg (Ne.symm hi)]
theorem colF_at (C : Nat) {bad : Int} (g0 : 0 ≤ bad) (g1 : bad ≤ 65535) : ∀ k, k ≤ 16 → colF C bad k = (List.range C).map fun i => andI (cpF C i k) bad != 0
  | 0, _ => by
    have h0 : andI 0 bad = 0 := by
      obtain ⟨b, rfl⟩ := Int.eq_ofNat_of_zero_le g0
      have := and_nat (a := 0) (b := b) (by omega) (by omega)
      rw [Nat.zero_and] at this
      exact this
    unfold colF cpF
    rw [h0]
    exact List.ext_getElem (by simp) fun i h1 h2 => by simp
  | k + 1, h => by
    have ih := colF_at C g0 g1 k (by omega)
    have hp := pow_low (k := k) (by omega)
    have hs : ∀ i, (andI (cpF C i (k + 1)) bad != 0) = if i = k % C then ((andI (cpF C i k) bad != 0) || (andI bad (2 ^ k) != 0)) else (andI (cpF C i k) bad != 0) := fun i => by
      have hr := cpF_in C i k (by omega)
      conv => lhs; unfold cpF
      split
      · exact and_or hr.1 hr.2 (by omega) (by omega) g0 g1
      · rfl
    unfold colF
    rw [ih]
    simp only [hs]
    by_cases hx : andI bad (2 ^ k) = 0
    · rw [if_pos hx]
      refine List.map_congr_left fun i _ => ?_
      rw [hx]
      split <;> simp
    · rw [if_neg hx]
      have hx2 : (andI bad (2 ^ k) != 0) = true := by rw [bne_iff_ne]; exact hx
      refine List.ext_getElem (by simp) fun i h1 h2 => ?_
      rw [List.getElem_set, List.getElem_map, List.getElem_map, List.getElem_range, hx2]
      by_cases hi : k % C = i
      · rw [if_pos hi, if_pos hi.symm]; simp
      · rw [if_neg hi, if_neg (Ne.symm hi)]
theorem row_res {R C : Nat} {bad : Int} (h : R * C ≤ 16) (g0 : 0 ≤ bad) (g1 : bad ≤ 65535) : resL (rpL R C) bad = rowF R C bad (R * C) := by
  rw [rowF_at R C g0 g1 _ h]
  unfold resL rpL
  rw [List.map_map]
  rfl
theorem col_res {R C : Nat} {bad : Int} (h : R * C ≤ 16) (g0 : 0 ≤ bad) (g1 : bad ≤ 65535) : resL (cpL R C) bad = colF C bad (R * C) := by
  rw [colF_at C g0 g1 _ h]
  unfold resL cpL
  rw [List.map_map]
  rfl

/-- The items of the first k pools with a positive result. -/
def posF (P : List Int) (L : List Bool) : Nat → Int
  | 0 => 0
  | k + 1 => if L.getD k false = true then orI (posF P L k) (P.getD k 0) else posF P L k
theorem posF_in {P : List Int} (L : List Bool) (h : ∀ p ∈ P, 0 ≤ p ∧ p ≤ 65535) : ∀ k, 0 ≤ posF P L k ∧ posF P L k ≤ 65535
  | 0 => by unfold posF; omega
  | k + 1 => by
    have ih := posF_in L h k
    unfold posF
    split
    · have hp : 0 ≤ P.getD k 0 ∧ P.getD k 0 ≤ 65535 := by
        rw [List.getD_eq_getElem?_getD]
        by_cases hk : k < P.length
        · rw [List.getElem?_eq_getElem hk]; exact h _ (List.getElem_mem hk)
        · rw [List.getElem?_eq_none (by omega)]; simp
      exact or_in16 ih.1 ih.2 hp.1 hp.2
    · exact ih
/-- All lists of so many truth values. -/
def allB : Nat → List (List Bool)
  | 0 => [[]]
  | n + 1 => (allB n).flatMap fun l => [false :: l, true :: l]
theorem allB_mem : ∀ (l : List Bool), l ∈ allB l.length
  | [] => by simp [allB]
  | b :: l => by
    rw [List.length_cons, allB, List.mem_flatMap]
    exact ⟨l, allB_mem l, by cases b <;> simp⟩
theorem susp_all : ((List.range 5).all fun R => (List.range 5).all fun C => (allB R).all fun X => (allB C).all fun Y => decide (suspF C X Y (R * C) = andI (posF (rpL R C) X R) (posF (cpL R C) Y C))) = true := by decide +kernel
theorem susp_pos {R C : Nat} (hR : R ≤ 4) (hC : C ≤ 4) {X Y : List Bool} (hX : X.length = R) (hY : Y.length = C) : suspF C X Y (R * C) = andI (posF (rpL R C) X R) (posF (cpL R C) Y C) := by
  have h := susp_all
  rw [List.all_eq_true] at h
  have h1 := h R (by rw [List.mem_range]; omega)
  rw [List.all_eq_true] at h1
  have h2 := h1 C (by rw [List.mem_range]; omega)
  rw [List.all_eq_true] at h2
  have h3 := h2 X (by rw [← hX]; exact allB_mem X)
  rw [List.all_eq_true] at h3
  have h4 := h3 Y (by rw [← hY]; exact allB_mem Y)
  exact of_decide_eq_true h4
end Go.Proofs.Ytljodgdnimiliaa
