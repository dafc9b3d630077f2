/- What counted pools have, plainly: their numbers tell at least as much as results, and detecting pools tell every set. No condition. -/
import Derived.Test.YtlflblngbneacabDoorGSum
import Derived.Test.YtlflblngbneacabDoorGPool
namespace Go.Proofs.YtlflblngbneacabDoor
open Go.RowKit

theorem allFrom_iff (f : Nat → Bool) : ∀ m a, allFrom f m a = true ↔ ∀ i, a ≤ i → i < a + m → f i = true
  | 0, a => by simp only [allFrom]; exact ⟨fun _ i h1 h2 => by omega, fun _ => trivial⟩
  | m + 1, a => by
    rw [allFrom, Bool.and_eq_true, allFrom_iff f m (a + 1)]
    constructor
    · rintro ⟨h0, h⟩ i h1 h2
      by_cases e : i = a
      · rw [e]; exact h0
      · exact h i (by omega) (by omega)
    · intro h
      exact ⟨h a (Nat.le_refl _) (by omega), fun i h1 h2 => h i (by omega) (by omega)⟩
/-- No two of the first N sets have the same numbers. -/
def InjS (P : List Int) (N : Nat) : Prop := ∀ a b : Nat, b < a → a < N → sumL P (b : Int) ≠ sumL P (a : Int)
theorem detF_iff (P : List Int) (N : Nat) : detF P N = true ↔ InjS P N := by
  unfold detF
  rw [allFrom_iff]
  constructor
  · intro h a b hb ha e
    have h1 := h a (by omega) (by omega)
    rw [allFrom_iff] at h1
    have h2 := h1 b (by omega) (by omega)
    unfold detAt at h2
    rw [decide_eq_true e.symm] at h2
    cases h2
  · intro h i _ hi
    rw [allFrom_iff]
    intro j _ hj
    unfold detAt
    rw [decide_eq_false fun e => h i j (by omega) (by omega) e.symm]
    rfl
theorem seenK_mem (P : List Int) : ∀ k j, j < k → sumL P (j : Int) ∈ seenK P k
  | 0, j, h => by omega
  | k + 1, j, h => by
    unfold seenK
    by_cases e : j = k
    · subst e
      split
      · rename_i h1
        rw [List.any_eq_true] at h1
        obtain ⟨x, hx, he⟩ := h1
        rw [← of_decide_eq_true he]
        exact hx
      · exact List.mem_append_right _ (List.mem_singleton_self _)
    · have := seenK_mem P k j (by omega)
      split
      · exact this
      · exact List.mem_append_left _ this
theorem seenK_of (P : List Int) : ∀ k, ∀ s ∈ seenK P k, ∃ j : Nat, j < k ∧ s = sumL P (j : Int)
  | 0, s, h => by simp [seenK] at h
  | k + 1, s, h => by
    unfold seenK at h
    split at h
    · obtain ⟨j, hj, e⟩ := seenK_of P k s h
      exact ⟨j, by omega, e⟩
    · rw [List.mem_append, List.mem_singleton] at h
      rcases h with h | rfl
      · obtain ⟨j, hj, e⟩ := seenK_of P k s h
        exact ⟨j, by omega, e⟩
      · exact ⟨k, by omega, rfl⟩
theorem seenK_full (P : List Int) : ∀ k, (seenK P k).length = k ↔ InjS P k
  | 0 => by
    constructor
    · intro _ a b _ h; omega
    · intro _; rfl
  | k + 1 => by
    have ih := seenK_full P k
    have hl := seenK_len P k
    unfold seenK
    split
    · rename_i h1
      rw [List.any_eq_true] at h1
      obtain ⟨x, hx, he⟩ := h1
      obtain ⟨j, hj, e⟩ := seenK_of P k x hx
      constructor
      · intro h; omega
      · intro h
        exact absurd (e.symm.trans (of_decide_eq_true he)) (h k j hj (by omega))
    · rename_i h1
      rw [List.length_append, List.length_singleton]
      constructor
      · intro h a b hb ha e
        by_cases hk : a = k
        · subst hk
          refine h1 ?_
          rw [List.any_eq_true]
          exact ⟨_, seenK_mem P a b hb, by rw [e]; simp⟩
        · exact ih.1 (by omega) a b hb (by omega) e
      · intro h
        have := ih.2 fun a b hb ha => h a b hb (by omega)
        omega
/-- So many different lists of numbers as sets: exactly if the pools detect all. -/
theorem tell_det {n : Int} {P : List Int} (h : poolsB n P = true) : decide (tellI n P = 2 ^ n.toNat) = detB n P := by
  have hc : ((2 ^ n.toNat : Nat) : Int) = (2 : Int) ^ n.toNat := by simp
  have h1 := seenK_full P (2 ^ n.toNat)
  have h2 := detF_iff P (2 ^ n.toNat)
  unfold tellI detB
  rw [if_pos h, h, Bool.true_and, Bool.eq_iff_iff, decide_eq_true_eq, h2, ← h1]
  omega

theorem decK_filter (P S : List Int) : ∀ k, decK P S k = ((List.range k).map fun (j : Nat) => (j : Int)).filter fun b => decide (sumL P b = S)
  | 0 => rfl
  | k + 1 => by
    rw [List.range_succ, List.map_append, List.filter_append, ← decK_filter P S k]
    conv => lhs; unfold decK
    by_cases e : sumL P (k : Int) = S
    · rw [if_pos e]
      simp [e]
    · rw [if_neg e]
      simp [e]
theorem decK_mem (P S : List Int) {k j : Nat} (hj : j < k) (h : sumL P (j : Int) = S) : (j : Int) ∈ decK P S k := by
  rw [decK_filter, List.mem_filter, List.mem_map]
  exact ⟨⟨j, List.mem_range.2 hj, rfl⟩, by simpa using h⟩
theorem decK_one {P S : List Int} : ∀ {k j : Nat}, InjS P k → j < k → sumL P (j : Int) = S → decK P S k = [(j : Int)]
  | 0, j, _, hj, _ => by omega
  | k + 1, j, hi, hj, h => by
    unfold decK
    by_cases e : j = k
    · subst e
      rw [if_pos h]
      have : decK P S j = [] := by
        rw [decK_filter, List.filter_eq_nil_iff]
        intro x hx
        rw [List.mem_map] at hx
        obtain ⟨i, hi2, rfl⟩ := hx
        rw [List.mem_range] at hi2
        rw [decide_eq_true_eq]
        intro e2
        exact hi j i hi2 (by omega) (e2.trans h.symm)
      rw [this]
      rfl
    · have hne : sumL P (k : Int) ≠ S := fun e2 => hi k j (by omega) (by omega) (h.trans e2.symm)
      rw [if_neg hne]
      exact decK_one (fun a b hb ha => hi a b hb (by omega)) (by omega) h

theorem cnt_zeroS : ∀ x : Nat, x < 1024 → (cntI (x : Int) = 0 ↔ x = 0) := by decide +kernel
theorem cnt_posS {x : Int} (h0 : 0 ≤ x) (h1 : x ≤ 1023) : decide (0 < cntI x) = (x != 0) := by
  obtain ⟨a, rfl⟩ := Int.eq_ofNat_of_zero_le h0
  have h := cnt_zeroS a (by omega)
  have h2 := cnt_in (a : Int)
  rw [Bool.eq_iff_iff, decide_eq_true_eq, bne_iff_ne]
  constructor
  · intro h3 e
    have := h.2 (by omega)
    omega
  · intro h3
    have h4 : cntI (a : Int) ≠ 0 := fun e => h3 (by rw [h.1 e]; rfl)
    omega
/-- Equal numbers make equal results. -/
theorem sum_res {P : List Int} (hP : ∀ p ∈ P, 0 ≤ p ∧ p ≤ 1023) {b : Int} (g0 : 0 ≤ b) (g1 : b ≤ 1023) : resL P b = (sumL P b).map fun x => decide (0 < x) := by
  unfold resL sumL
  rw [List.map_map]
  refine List.map_congr_left fun p hp => ?_
  have h := hP p hp
  have ha := and_in h.1 h.2 g0 g1
  show (andI p b != 0) = decide (0 < cntI (andI p b))
  rw [cnt_posS ha.1 (by omega)]
theorem cnt_few {n b : Nat} (hn : n ≤ 63) (h : b < 2 ^ n) : cntI (b : Int) ≤ n := by
  have hb : b < 2 ^ 63 := Nat.lt_of_lt_of_le h (Nat.pow_le_pow_right (by decide) hn)
  have h63 : (2 : Nat) ^ 63 = 9223372036854775808 := by decide
  rw [cnt_its (by omega)]
  have e := itsK_end (s := (b : Int)) (i := n) (by rw [Int.toNat_natCast]; exact h) (63 - n)
  rw [show n + (63 - n) = 63 by omega] at e
  have h2 := itsK_len (b : Int) n
  unfold itsL
  rw [e]
  omega
/-- No more sets have the same numbers than have the same results. -/
theorem dec_few {n : Int} {P : List Int} (h : poolsB n P = true) {bad : Int} (g0 : 0 ≤ bad) (g1 : bad ≤ topI n) : (decS n P (sumL P bad)).length ≤ (consR n P (resL P bad) n).length := by
  obtain ⟨⟨n1, n10⟩, -, hP⟩ := pools_in h
  have ht := top_in n10
  have h2 : 2 ^ n.toNat ≤ 1024 := Nat.pow_le_pow_right (n := 2) (by decide) (show n.toNat ≤ 10 by omega)
  unfold decS consR consL
  rw [if_pos h, if_pos h, decK_filter, ← List.countP_eq_length_filter, ← List.countP_eq_length_filter]
  refine List.countP_mono_left fun x hx hs => ?_
  rw [List.mem_map] at hx
  obtain ⟨j, hj, rfl⟩ := hx
  rw [List.mem_range] at hj
  rw [decide_eq_true_eq] at hs
  have hc := cnt_few (n := n.toNat) (by omega) hj
  rw [Bool.and_eq_true, decide_eq_true_eq, beq_iff_eq]
  refine ⟨by omega, ?_⟩
  rw [sum_res hP (by omega) (by omega), sum_res hP g0 (by omega), hs]
end Go.Proofs.YtlflblngbneacabDoor
