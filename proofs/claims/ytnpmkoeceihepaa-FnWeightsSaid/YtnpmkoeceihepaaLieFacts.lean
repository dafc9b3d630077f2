/- Answers of which one may be a lie: weights split at a question; who wins with q questions wins with one more; what the first question gives. No condition. -/
import Derived.Test.YtnpmkoeceihepaaLiePlain
namespace Go.Proofs.Ytnpmkoeceihepaa
open Go.RowKit

theorem firstY_some {F : Nat → Bool} {y : Nat} : ∀ (m y0 : Nat), firstY F m y0 = some y → F y = true ∧ y0 ≤ y ∧ y < y0 + m
  | 0, _, h => by cases h
  | m + 1, y0, h => by
    unfold firstY at h
    split at h
    · rename_i hf
      cases h
      exact ⟨hf, Nat.le_refl _, by omega⟩
    · have := firstY_some m (y0 + 1) h
      exact ⟨this.1, by omega, by omega⟩
theorem firstY_ex {F : Nat → Bool} {y : Nat} (hf : F y = true) : ∀ (m y0 : Nat), y0 ≤ y → y < y0 + m → (firstY F m y0).isSome = true
  | 0, _, h1, h2 => by omega
  | m + 1, y0, h1, h2 => by
    unfold firstY
    split
    · rfl
    · rename_i hn
      have : y0 ≠ y := fun e => hn (e ▸ hf)
      exact firstY_ex hf m (y0 + 1) (by omega) (by omega)
theorem firstXY_some {F : Nat → Nat → Bool} {b x y : Nat} : ∀ (m x0 : Nat), firstXY F b m x0 = some (x, y) → F x y = true ∧ (x0 ≤ x ∧ x < x0 + m) ∧ y ≤ b
  | 0, _, h => by cases h
  | m + 1, x0, h => by
    unfold firstXY at h
    split at h
    · rename_i y' hy
      cases h
      have := firstY_some _ _ hy
      exact ⟨this.1, ⟨Nat.le_refl _, by omega⟩, by omega⟩
    · have := firstXY_some m (x0 + 1) h
      exact ⟨this.1, ⟨by omega, by omega⟩, this.2.2⟩
theorem firstXY_ex {F : Nat → Nat → Bool} {b x y : Nat} (hf : F x y = true) (hy : y ≤ b) : ∀ (m x0 : Nat), x0 ≤ x → x < x0 + m → (firstXY F b m x0).isSome = true
  | 0, _, h1, h2 => by omega
  | m + 1, x0, h1, h2 => by
    unfold firstXY
    split
    · rfl
    · rename_i hn
      by_cases e : x0 = x
      · subst e
        have := firstY_ex hf (b + 1) 0 (by omega) (by omega)
        rw [hn] at this
        cases this
      · exact firstXY_ex hf hy m (x0 + 1) (by omega) (by omega)
theorem askP_some {q a b x y : Nat} (h : askP q a b = some (x, y)) : (winB q x (y + a - x) = true ∧ winB q (a - x) (b - y + x) = true) ∧ x ≤ a ∧ y ≤ b := by
  have := firstXY_some _ _ h
  rw [Bool.and_eq_true] at this
  exact ⟨this.1, by omega, this.2.2⟩
theorem askP_ex {q a b x y : Nat} (h1 : winB q x (y + a - x) = true) (h2 : winB q (a - x) (b - y + x) = true) (hx : x ≤ a) (hy : y ≤ b) : (askP q a b).isSome = true :=
  firstXY_ex (x := x) (y := y) (by rw [h1, h2]; rfl) hy _ _ (by omega) (by omega)
theorem win_split {q a b : Nat} (h : winB (q + 1) a b = true) : a + b ≤ 1 ∨ (a * (q + 2) + b ≤ 2 ^ (q + 1) ∧ (askP q a b).isSome = true) := by
  rw [winB_succ, Bool.or_eq_true, Bool.and_eq_true, decide_eq_true_eq, decide_eq_true_eq] at h
  exact h
theorem win_mono : ∀ q a b : Nat, winB q a b = true → winB (q + 1) a b = true
  | 0, a, b, h => by
    rw [winB_zero] at h
    rw [winB_succ, h]
    rfl
  | q + 1, a, b, h => by
    rw [winB_succ, Bool.or_eq_true, Bool.and_eq_true, decide_eq_true_eq, decide_eq_true_eq]
    rcases win_split h with h1 | ⟨h2, h3⟩
    · exact .inl h1
    · refine .inr ⟨?_, ?_⟩
      · rw [Nat.pow_succ]
        have : a * (q + 1 + 2) = a * (q + 2) + a := by rw [show q + 1 + 2 = (q + 2) + 1 by omega, Nat.mul_add, Nat.mul_one]
        have h4 : a ≤ a * (q + 2) := Nat.le_mul_of_pos_right _ (by omega)
        omega
      · obtain ⟨⟨x, y⟩, hxy⟩ := Option.isSome_iff_exists.1 h3
        obtain ⟨⟨w1, w2⟩, hx, hy⟩ := askP_some hxy
        exact askP_ex (win_mono q _ _ w1) (win_mono q _ _ w2) hx hy

theorem wt_val {a b q : Int} (a0 : 0 ≤ a) (a1 : a ≤ 1000) (b0 : 0 ≤ b) (b1 : b ≤ 1000) (q0 : 0 ≤ q) (q1 : q ≤ 40) : wtI a b q = a * (q + 1) + b := by
  unfold wtI wtIn
  rw [decide_eq_true a0, decide_eq_true a1, decide_eq_true b0, decide_eq_true b1, decide_eq_true q0, decide_eq_true q1]
  rfl
/-- A question divides the weight. -/
theorem wt_split {a b q x y : Int} (x0 : 0 ≤ x) (x1 : x ≤ a) (a1 : a ≤ 8) (y0 : 0 ≤ y) (y1 : y ≤ b) (b1 : b ≤ 6) (q0 : 1 ≤ q) (q1 : q ≤ 7) :
    wtI x (y + a - x) (q - 1) + wtI (a - x) (b - y + x) (q - 1) = wtI a b q ∧ (0 ≤ wtI x (y + a - x) (q - 1) ∧ wtI x (y + a - x) (q - 1) ≤ 1000) ∧ (0 ≤ wtI (a - x) (b - y + x) (q - 1) ∧ wtI (a - x) (b - y + x) (q - 1) ≤ 1000) ∧ a ≤ wtI a b q := by
  rw [wt_val (a := x) (by omega) (by omega) (by omega) (by omega) (by omega) (by omega), wt_val (a := a - x) (by omega) (by omega) (by omega) (by omega) (by omega) (by omega), wt_val (a := a) (by omega) (by omega) (by omega) (by omega) (by omega) (by omega)]
  rw [show q - 1 + 1 = q by omega, Int.sub_mul, Int.mul_add, Int.mul_one]
  have h1 : 0 ≤ x * q := Int.mul_nonneg x0 (by omega)
  have h2 : x * q ≤ a * q := Int.mul_le_mul_of_nonneg_right x1 (by omega)
  have h3 : a * q ≤ 8 * 7 := Int.mul_le_mul a1 q1 (by omega) (by omega)
  omega
theorem liar_yes {a b q : Int} (a0 : 0 ≤ a) (a1 : a ≤ 8) (b0 : 0 ≤ b) (b1 : b ≤ 16) (q0 : 0 ≤ q) (q1 : q ≤ 8) : liarIn a b q = true := by
  unfold liarIn
  rw [decide_eq_true a0, decide_eq_true a1, decide_eq_true b0, decide_eq_true b1, decide_eq_true q0, decide_eq_true q1]
  rfl
/-- What the law of weights asks, for the numbers that it draws. -/
theorem weights_all {A B Q : Nat} (a1 : A ≤ 8) (b1 : B ≤ 6) (q0 : 1 ≤ Q) (q1 : Q ≤ 7) :
    (canR A B Q = true ∧ A + B ≤ 1 ∧ askO A B Q = none ∧ canR A B ((Q : Int) + 1) = true) ∨ (canR A B Q = false ∧ 1 < A + B ∧ askO A B Q = none) ∨
    ∃ u v : Nat, canR A B Q = true ∧ 1 < A + B ∧ askO A B Q = some (u, v) ∧ wtI A B Q ≤ 2 ^ Q ∧ canR A B ((Q : Int) + 1) = true ∧ (u ≤ A ∧ v ≤ B) ∧ canR u ((v : Int) + A - u) ((Q : Int) - 1) = true ∧ canR ((A : Int) - u) ((B : Int) - v + u) ((Q : Int) - 1) = true := by
  have hl : liarIn (A : Int) B Q = true := liar_yes (by omega) (by omega) (by omega) (by omega) (by omega) (by omega)
  have hc : canR (A : Int) B Q = winB Q A B := by unfold canR; rw [hl, Int.toNat_natCast, Int.toNat_natCast, Int.toNat_natCast]; rfl
  obtain ⟨P, rfl⟩ : ∃ P, Q = P + 1 := ⟨Q - 1, by omega⟩
  by_cases h1 : A + B ≤ 1
  · have hw1 : winB (P + 1) A B = true := by rw [winB_succ, decide_eq_true h1]; rfl
    refine .inl ⟨?_, h1, ?_, ?_⟩
    · rw [hc, hw1]
    · unfold askO askOk
      rw [hl, decide_eq_false (p := (1 : Int) < (A : Int) + B) (by omega), Bool.and_false, Bool.false_and, if_neg (by simp)]
    · unfold canR
      rw [liar_yes (by omega) (by omega) (by omega) (by omega) (by omega) (by omega), Int.toNat_natCast, Int.toNat_natCast, show (((P + 1 : Nat) : Int) + 1).toNat = P + 1 + 1 by omega, win_mono _ _ _ hw1]
      rfl
  · have h2 : 1 < A + B := by omega
    have hk : askOk (A : Int) B ((P + 1 : Nat) : Int) = winB (P + 1) A B := by
      unfold askOk
      rw [hl, decide_eq_true (p := (1 : Int) < (A : Int) + B) (by omega), decide_eq_true (p := (1 : Int) ≤ ((P + 1 : Nat) : Int)) (by omega), Int.toNat_natCast, Int.toNat_natCast, Int.toNat_natCast]
      rfl
    by_cases hw : winB (P + 1) A B = true
    · refine .inr (.inr ?_)
      rcases win_split hw with h | ⟨h3, h4⟩
      · omega
      obtain ⟨⟨u, v⟩, huv⟩ := Option.isSome_iff_exists.1 h4
      obtain ⟨⟨w1, w2⟩, hu, hv⟩ := askP_some huv
      refine ⟨u, v, by rw [hc, hw], h2, ?_, ?_, ?_, ⟨hu, hv⟩, ?_, ?_⟩
      · unfold askO
        rw [hk, if_pos hw, Int.toNat_natCast, Int.toNat_natCast, Int.toNat_natCast, Nat.add_sub_cancel, huv]
      · rw [wt_val (by omega) (by omega) (by omega) (by omega) (by omega) (by omega)]
        have e : (A : Int) * (((P + 1 : Nat) : Int) + 1) + (B : Int) = ((A * (P + 2) + B : Nat) : Int) := by
          rw [show ((P + 1 : Nat) : Int) + 1 = ((P + 2 : Nat) : Int) by omega, ← Int.natCast_mul, ← Int.natCast_add]
        rw [e]
        exact_mod_cast h3
      · unfold canR
        rw [liar_yes (by omega) (by omega) (by omega) (by omega) (by omega) (by omega), Int.toNat_natCast, Int.toNat_natCast, show (((P + 1 : Nat) : Int) + 1).toNat = P + 1 + 1 by omega, win_mono _ _ _ hw]
        rfl
      · unfold canR
        rw [liar_yes (by omega) (by omega) (by omega) (by omega) (by omega) (by omega), Int.toNat_natCast, show (((P + 1 : Nat) : Int) - 1).toNat = P by omega, show ((v : Int) + (A : Int) - (u : Int)).toNat = v + A - u by omega, w1]
        rfl
      · unfold canR
        rw [liar_yes (by omega) (by omega) (by omega) (by omega) (by omega) (by omega), show (((P + 1 : Nat) : Int) - 1).toNat = P by omega, show ((A : Int) - (u : Int)).toNat = A - u by omega, show ((B : Int) - (v : Int) + (u : Int)).toNat = B - v + u by omega, w2]
        rfl
    · have hwf : winB (P + 1) A B = false := by simpa using hw
      refine .inr (.inl ⟨by rw [hc, hwf], h2, ?_⟩)
      unfold askO
      rw [hk, hwf]
      rfl
end Go.Proofs.Ytnpmkoeceihepaa
