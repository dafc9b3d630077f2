/- Lists of numbers in their order; how many different ones a sorted row has; sums of all sets are different exactly if there are as many as sets. No condition. -/
import Derived.Test.YtoliloophjeooaaSumPlain
namespace Go.Proofs.Ytoliloophjeooaa
open Go.RowKit

/-- -1, 0 or 1, as the first list stands ahead of the second, is it, or stands behind it. -/
def cmpL : List Int → List Int → Int
  | [], [] => 0
  | [], _ :: _ => -1
  | _ :: _, [] => 1
  | a :: x, b :: y => if a < b then -1 else if b < a then 1 else cmpL x y
theorem cmpL_self : ∀ x, cmpL x x = 0
  | [] => rfl
  | a :: x => by unfold cmpL; rw [if_neg (by omega), if_neg (by omega)]; exact cmpL_self x
theorem cmpL_zero : ∀ x y, cmpL x y = 0 → x = y
  | [], [], _ => rfl
  | [], _ :: _, h => by simp [cmpL] at h
  | _ :: _, [], h => by simp [cmpL] at h
  | a :: x, b :: y, h => by
    unfold cmpL at h
    split at h
    · omega
    · split at h
      · omega
      · rw [cmpL_zero x y h, show a = b by omega]
theorem cmpL_neg : ∀ x y, cmpL y x = - cmpL x y
  | [], [] => rfl
  | [], _ :: _ => rfl
  | _ :: _, [] => rfl
  | a :: x, b :: y => by
    unfold cmpL
    by_cases h1 : a < b
    · rw [if_neg (by omega), if_pos h1, if_pos h1]; rfl
    · by_cases h2 : b < a
      · rw [if_pos h2, if_neg h1, if_pos h2]
      · rw [if_neg h2, if_neg h1, if_neg h1, if_neg h2]; exact cmpL_neg x y
theorem cmpL_trans : ∀ x y z, cmpL x y < 0 → cmpL y z < 0 → cmpL x z < 0
  | [], [], _, h, _ => by simp [cmpL] at h
  | [], _ :: _, [], _, h => by simp [cmpL] at h
  | [], _ :: _, _ :: _, _, _ => by simp [cmpL]
  | _ :: _, [], _, h, _ => by simp [cmpL] at h
  | _ :: _, _ :: _, [], _, h => by simp [cmpL] at h
  | a :: x, b :: y, c :: z, h1, h2 => by
    unfold cmpL at h1 h2 ⊢
    by_cases e1 : a < b
    · by_cases e2 : b < c
      · rw [if_pos (by omega)]; omega
      · rw [if_neg e2] at h2
        by_cases e3 : c < b
        · rw [if_pos e3] at h2; omega
        · rw [if_pos (by omega)]; omega
    · rw [if_neg e1] at h1
      by_cases e4 : b < a
      · rw [if_pos e4] at h1; omega
      · rw [if_neg e4] at h1
        by_cases e2 : b < c
        · rw [if_pos (by omega)]; omega
        · rw [if_neg e2] at h2
          by_cases e3 : c < b
          · rw [if_pos e3] at h2; omega
          · rw [if_neg e3] at h2
            rw [if_neg (by omega), if_neg (by omega)]
            exact cmpL_trans x y z h1 h2
theorem cmpL_ntrans (x y z : List Int) (h1 : ¬ cmpL x y < 0) (h2 : ¬ cmpL y z < 0) : ¬ cmpL x z < 0 := by
  intro h
  have a1 := cmpL_neg x y
  have a2 := cmpL_neg y z
  have a3 := cmpL_neg x z
  by_cases e1 : cmpL x y = 0
  · rw [cmpL_zero x y e1] at h; exact h2 h
  · by_cases e2 : cmpL y z = 0
    · rw [cmpL_zero y z e2] at h1; exact h1 h
    · have := cmpL_trans z y x (by omega) (by omega)
      omega
theorem cmpL_anti (x y : List Int) (h1 : ¬ cmpL x y < 0) (h2 : ¬ cmpL y x < 0) : x = y := cmpL_zero x y (by have := cmpL_neg x y; omega)
theorem cmpL_in : ∀ x y, -1 ≤ cmpL x y ∧ cmpL x y ≤ 1
  | [], [] => by simp [cmpL]
  | [], _ :: _ => by simp [cmpL]
  | _ :: _, [] => by simp [cmpL]
  | a :: x, b :: y => by
    unfold cmpL
    split
    · omega
    · split
      · omega
      · exact cmpL_in x y

/-- The lists of a row without those that are as the one ahead of them. -/
def uniqF (f : Nat → List Int) : Nat → List (List Int)
  | 0 => []
  | k + 1 => if k = 0 ∨ f k ≠ f (k - 1) then uniqF f k ++ [f k] else uniqF f k
theorem uniqF_pos {f : Nat → List Int} {k : Nat} (h : k = 0 ∨ f k ≠ f (k - 1)) : (uniqF f (k + 1)).length = (uniqF f k).length + 1 := by
  have : uniqF f (k + 1) = uniqF f k ++ [f k] := by rw [uniqF, if_pos h]
  rw [this]; simp
theorem uniqF_neg {f : Nat → List Int} {k : Nat} (h0 : k ≠ 0) (h : f k = f (k - 1)) : (uniqF f (k + 1)).length = (uniqF f k).length := by
  have : uniqF f (k + 1) = uniqF f k := by rw [uniqF, if_neg (fun e => e.elim h0 (fun e => e h))]
  rw [this]
theorem uniqF_len (f : Nat → List Int) : ∀ k, (uniqF f k).length ≤ k
  | 0 => by simp [uniqF]
  | k + 1 => by
    have := uniqF_len f k
    unfold uniqF
    split
    · simp; omega
    · omega
theorem uniqF_mem (f : Nat → List Int) (x : List Int) : ∀ k, x ∈ uniqF f k ↔ ∃ i, i < k ∧ f i = x
  | 0 => by simp [uniqF]
  | k + 1 => by
    have ih := uniqF_mem f x k
    unfold uniqF
    split
    · rw [List.mem_append, List.mem_singleton, ih]
      constructor
      · rintro (⟨i, h1, h2⟩ | h)
        · exact ⟨i, by omega, h2⟩
        · exact ⟨k, by omega, h.symm⟩
      · rintro ⟨i, h1, h2⟩
        by_cases e : i = k
        · subst e; exact .inr h2.symm
        · exact .inl ⟨i, by omega, h2⟩
    · rename_i hn
      rw [ih]
      constructor
      · rintro ⟨i, h1, h2⟩; exact ⟨i, by omega, h2⟩
      · rintro ⟨i, h1, h2⟩
        by_cases e : i = k
        · subst e
          have h0 : i ≠ 0 := fun e => hn (.inl e)
          have h3 : f i = f (i - 1) := Classical.byContradiction fun e => hn (.inr e)
          exact ⟨i - 1, by omega, by rw [← h3, h2]⟩
        · exact ⟨i, by omega, h2⟩
theorem uniqF_nodup (f : Nat → List Int) (N : Nat) (hs : ∀ i j, i < j → j < N → ¬ cmpL (f j) (f i) < 0) : ∀ k, k ≤ N → (uniqF f k).Nodup
  | 0, _ => by simp [uniqF]
  | k + 1, hk => by
    have ih := uniqF_nodup f N hs k (by omega)
    unfold uniqF
    split
    · rename_i hp
      rw [List.nodup_append]
      refine ⟨ih, by simp, fun a ha b hb => ?_⟩
      rw [List.mem_singleton] at hb
      subst hb
      intro e
      subst e
      obtain ⟨i, h1, h2⟩ := (uniqF_mem f _ k).1 ha
      rcases hp with h0 | hp
      · omega
      · by_cases e : i = k - 1
        · subst e; exact hp h2.symm
        · have s1 := hs i (k - 1) (by omega) (by omega)
          have s2 := hs (k - 1) k (by omega) (by omega)
          rw [h2] at s1
          exact hp (cmpL_anti _ _ s2 s1)
    · exact ih
theorem seenK_memS (P : List Int) (x : List Int) : ∀ k, x ∈ seenK P k ↔ ∃ i : Nat, i < k ∧ sumL P (i : Int) = x
  | 0 => by simp [seenK]
  | k + 1 => by
    have ih := seenK_memS P x k
    unfold seenK
    split
    · rename_i hp
      rw [ih]
      constructor
      · rintro ⟨i, h1, h2⟩; exact ⟨i, by omega, h2⟩
      · rintro ⟨i, h1, h2⟩
        by_cases e : i = k
        · subst e
          obtain ⟨y, hy, he⟩ := List.any_eq_true.1 hp
          have he' := of_decide_eq_true he
          obtain ⟨j, h3, h4⟩ := (seenK_memS P y i).1 hy
          exact ⟨j, h3, by rw [h4, he', h2]⟩
        · exact ⟨i, by omega, h2⟩
    · rw [List.mem_append, List.mem_singleton, ih]
      constructor
      · rintro (⟨i, h1, h2⟩ | h)
        · exact ⟨i, by omega, h2⟩
        · exact ⟨k, by omega, h.symm⟩
      · rintro ⟨i, h1, h2⟩
        by_cases e : i = k
        · subst e; exact .inr h2.symm
        · exact .inl ⟨i, by omega, h2⟩
theorem seenK_nodup (P : List Int) : ∀ k, (seenK P k).Nodup
  | 0 => by simp [seenK]
  | k + 1 => by
    have ih := seenK_nodup P k
    unfold seenK
    split
    · exact ih
    · rename_i hn
      rw [List.nodup_append]
      refine ⟨ih, by simp, fun a ha b hb => ?_⟩
      rw [List.mem_singleton] at hb
      intro e
      exact hn (List.any_eq_true.2 ⟨a, ha, decide_eq_true (e.trans hb)⟩)
theorem nodup_leL {α : Type} [DecidableEq α] : ∀ (l m : List α), l.Nodup → (∀ x ∈ l, x ∈ m) → l.length ≤ m.length
  | [], m, _, _ => by simp
  | a :: l, m, hn, hs => by
    rw [List.nodup_cons] at hn
    have ha := hs a (by simp)
    have h1 := nodup_leL l (m.erase a) hn.2 fun x hx => (List.mem_erase_of_ne (fun e => by subst e; exact hn.1 hx)).2 (hs x (by simp [hx]))
    have h2 := List.length_erase_of_mem ha
    have h3 := List.length_pos_of_mem ha
    simp
    omega
/-- A sorted row that has the lists of all sets, and no other, has as many different ones as there are. -/
theorem runs_seen (P : List Int) (N : Nat) (f : Nat → List Int) (hs : ∀ i j, i < j → j < N → ¬ cmpL (f j) (f i) < 0) (h1 : ∀ i, i < N → ∃ k : Nat, k < N ∧ sumL P (k : Int) = f i) (h2 : ∀ k : Nat, k < N → ∃ i, i < N ∧ f i = sumL P (k : Int)) :
    (uniqF f N).length = (seenK P N).length := by
  have a := nodup_leL _ (seenK P N) (uniqF_nodup f N hs N (Nat.le_refl _)) fun x hx => by
    obtain ⟨i, hi, rfl⟩ := (uniqF_mem f x N).1 hx
    exact (seenK_memS P _ N).2 (h1 i hi)
  have b := nodup_leL _ (uniqF f N) (seenK_nodup P N) fun x hx => by
    obtain ⟨i, hi, rfl⟩ := (seenK_memS P x N).1 hx
    exact (uniqF_mem f _ N).2 (h2 i hi)
  omega
theorem allFrom_iffS (f : Nat → Bool) : ∀ (m a : Nat), allFrom f m a = true ↔ ∀ i, a ≤ i → i < a + m → f i = true
  | 0, a => by simp [allFrom]; intro i h1 h2; omega
  | m + 1, a => by
    unfold allFrom
    rw [Bool.and_eq_true, allFrom_iffS f m (a + 1)]
    constructor
    · rintro ⟨h1, h2⟩ i h3 h4
      by_cases e : i = a
      · subst e; exact h1
      · exact h2 i (by omega) (by omega)
    · intro h
      exact ⟨h a (Nat.le_refl _) (by omega), fun i h1 h2 => h i (by omega) (by omega)⟩
theorem detF_iffS (P : List Int) (N : Nat) : detF P N = true ↔ ∀ a, a < N → ∀ b, b < a → sumL P (a : Int) ≠ sumL P (b : Int) := by
  unfold detF
  rw [allFrom_iffS]
  constructor
  · intro h a ha b hb
    have h1 := (allFrom_iffS _ _ _).1 (h a (Nat.zero_le _) (by omega)) b (Nat.zero_le _) (by omega)
    unfold detAt at h1
    simpa using h1
  · intro h a _ ha
    rw [allFrom_iffS]
    intro b _ hb
    unfold detAt
    simpa using h a (by omega) b (by omega)
theorem seen_full (P : List Int) : ∀ N, (seenK P N).length = N ↔ ∀ a, a < N → ∀ b, b < a → sumL P (a : Int) ≠ sumL P (b : Int)
  | 0 => by simp [seenK]
  | N + 1 => by
    have ih := seen_full P N
    have hl := seenK_len P N
    have hm := seenK_memS P (sumL P (N : Int)) N
    unfold seenK
    split
    · rename_i hp
      obtain ⟨y, hy, he⟩ := List.any_eq_true.1 hp
      have he' := of_decide_eq_true he
      rw [he'] at hy
      obtain ⟨i, h1, h2⟩ := hm.1 hy
      constructor
      · intro h; omega
      · intro h; exact absurd h2.symm (h N (by omega) i h1)
    · rename_i hn
      rw [List.length_append, List.length_singleton]
      have hnm : ¬ ∃ i : Nat, i < N ∧ sumL P (i : Int) = sumL P (N : Int) := fun h => hn (List.any_eq_true.2 ⟨_, hm.2 h, decide_eq_true rfl⟩)
      constructor
      · intro h a ha b hb
        by_cases e : a = N
        · subst e; intro e; exact hnm ⟨b, hb, e.symm⟩
        · exact ih.1 (by omega) a (by omega) b hb
      · intro h
        have := ih.2 fun a ha b hb => h a (by omega) b hb
        omega
theorem det_tell {n : Int} {P : List Int} (h : poolsB n P = true) : detB n P = (tellI n P == ((2 ^ n.toNat : Nat) : Int)) := by
  unfold detB tellI
  rw [h, if_pos rfl, Bool.true_and, Bool.eq_iff_iff, detF_iffS, ← seen_full, beq_iff_eq]
  omega
end Go.Proofs.Ytoliloophjeooaa
