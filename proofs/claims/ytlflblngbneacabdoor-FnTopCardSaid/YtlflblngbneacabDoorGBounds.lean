/- Several texts in one file; each says what it proves and under which condition. No condition. -/
import Derived.Test.YtlflblngbneacabDoorGStates
/- When the case of a state can be found, plainly: by a pick that leads on, and so by a strategy that is written out; a good coin more never harms. No condition. -/
namespace Go.Proofs.YtlflblngbneacabDoor

theorem firstFrom_some {α : Type} (f : Nat → Option α) : ∀ n i, (firstFrom f n i).isSome = true ↔ ∃ j, i ≤ j ∧ j < i + n ∧ (f j).isSome = true
  | 0, i => by
    constructor
    · intro h; cases h
    · rintro ⟨j, h1, h2, -⟩; omega
  | n + 1, i => by
    unfold firstFrom
    rw [Option.isSome_or, Bool.or_eq_true, firstFrom_some f n (i + 1)]
    constructor
    · rintro (h | ⟨j, h1, h2, h3⟩)
      · exact ⟨i, by omega, by omega, h⟩
      · exact ⟨j, by omega, by omega, h3⟩
    · rintro ⟨j, h1, h2, h3⟩
      by_cases e : j = i
      · subst e; exact .inl h3
      · exact .inr ⟨j, by omega, by omega, h3⟩
theorem firstFrom0_some {α : Type} (f : Nat → Option α) (n : Nat) : (firstFrom f n 0).isSome = true ↔ ∃ j, j < n ∧ (f j).isSome = true := by
  rw [firstFrom_some]
  constructor
  · rintro ⟨j, -, h, h'⟩; exact ⟨j, by omega, h'⟩
  · rintro ⟨j, h, h'⟩; exact ⟨j, by omega, by omega, h'⟩

/-- A pick without good coins, of natural numbers. -/
def natP (a b c d e f : Nat) : PD := ⟨a, b, c, d, e, f, 0, 0⟩
theorem firstP_some (can : SD → Bool) (m : Int) (s : SD) : (firstP can m s).isSome = true ↔
    ∃ a b c d e f : Nat, a + b ≤ s.b.toNat ∧ c + d ≤ s.h.toNat ∧ e + f ≤ s.l.toNat ∧ goodsB s (natP a b c d e f) = true ∧ fitB can m s (natP a b c d e f) = true := by
  have hfit : ∀ p, fitB can m s (goodsP p) = fitB can m s p := fun p => by unfold fitB; simp only [after_goods]
  have htry : ∀ p, (tryP can m s p).isSome = true ↔ goodsB s p = true ∧ fitB can m s p = true := fun p => by
    unfold tryP
    rw [hfit, ← Bool.and_eq_true]
    split
    · rename_i h; simp [h]
    · rename_i h; simp [h]
  unfold firstP lightsP
  simp only [firstFrom0_some, htry]
  constructor
  · rintro ⟨a, ha, b, hb, c, hc, d, hd, e, he, f, hf, h⟩
    exact ⟨a, b, c, d, e, f, by omega, by omega, by omega, h⟩
  · rintro ⟨a, b, c, d, e, f, h1, h2, h3, h⟩
    exact ⟨a, by omega, b, by omega, c, by omega, d, by omega, e, by omega, f, by omega, h⟩

theorem canS_le : ∀ (k : Nat) (s : SD), canS k s = true → countS s ≤ 3 ^ k
  | 0, s, h => by unfold canS at h; simpa using h
  | k + 1, s, h => by
    unfold canS at h
    rw [Bool.or_eq_true, Bool.and_eq_true, decide_eq_true_eq, decide_eq_true_eq] at h
    rcases h with h | h
    · have : (0 : Int) < 3 ^ (k + 1) := Int.pow_pos (by omega)
      omega
    · exact h.1
/-- What is left by a pick, for whatever test. -/
theorem canS_succ (k : Nat) (s : SD) : canS (k + 1) s = true ↔ countS s ≤ 1 ∨ (countS s ≤ 3 ^ (k + 1) ∧
    ∃ a b c d e f : Nat, a + b ≤ s.b.toNat ∧ c + d ≤ s.h.toNat ∧ e + f ≤ s.l.toNat ∧ goodsB s (natP a b c d e f) = true ∧ canS k (afterS s (natP a b c d e f) 0) = true ∧ canS k (afterS s (natP a b c d e f) 1) = true ∧ canS k (afterS s (natP a b c d e f) (-1)) = true) := by
  conv => lhs; unfold canS
  rw [Bool.or_eq_true, Bool.and_eq_true, decide_eq_true_eq, decide_eq_true_eq, firstP_some]
  have hf : ∀ p, fitB (canS k) (3 ^ k) s p = true ↔ canS k (afterS s p 0) = true ∧ canS k (afterS s p 1) = true ∧ canS k (afterS s p (-1)) = true := fun p => by
    unfold fitB
    simp only [List.all_cons, List.all_nil, Bool.and_true, Bool.and_eq_true, decide_eq_true_eq]
    constructor
    · rintro ⟨-, h⟩; exact h
    · rintro ⟨h0, h1, h2⟩; exact ⟨⟨canS_le k _ h0, canS_le k _ h1, canS_le k _ h2⟩, h0, h1, h2⟩
  simp only [hf]

/-- A good coin more. -/
def SD.more (s : SD) (d : Nat) : SD := { s with g := s.g + d }
theorem after_more (s : SD) (d : Nat) (p : PD) (x : Int) : afterS (s.more d) p x = (afterS s p x).more d := by
  unfold afterS goodS SD.more
  split
  · simp only [SD.mk.injEq, true_and]; omega
  · split
    · simp only [SD.mk.injEq, true_and]; omega
    · simp only [SD.mk.injEq, true_and]; omega
theorem canS_more (d : Nat) : ∀ (k : Nat) (s : SD), canS k s = true → canS k (s.more d) = true
  | 0, s, h => h
  | k + 1, s, h => by
    rw [canS_succ] at h ⊢
    rcases h with h | ⟨hc, a, b, c, e, f, g, h1, h2, h3, h4, h5, h6, h7⟩
    · exact .inl h
    · refine .inr ⟨hc, a, b, c, e, f, g, h1, h2, h3, ?_, ?_, ?_, ?_⟩
      · unfold goodsB SD.more at *
        rw [Bool.and_eq_true, decide_eq_true_eq] at h4 ⊢
        exact ⟨by simp only []; omega, h4.2⟩
      · rw [after_more]; exact canS_more d k _ h5
      · rw [after_more]; exact canS_more d k _ h6
      · rw [after_more]; exact canS_more d k _ h7

/-- Strategies that are written out: a pick, and what is done after each outcome (0, 1, -1). -/
def Tr : Nat → Type
  | 0 => Unit
  | k + 1 => Option (List Nat × Tr k × Tr k × Tr k)
def natsP : List Nat → PD
  | [a, b, c, d, e, f] => natP a b c d e f
  | _ => natP 0 0 0 0 0 0
def insideB (s : SD) : List Nat → Bool
  | [a, b, c, d, e, f] => decide (a + b ≤ s.b.toNat) && (decide (c + d ≤ s.h.toNat) && decide (e + f ≤ s.l.toNat))
  | _ => false
def stratB : (k : Nat) → Tr k → SD → Bool
  | 0, _, s => decide (countS s ≤ 1)
  | _ + 1, none, s => decide (countS s ≤ 1)
  | k + 1, some (p, t0, t1, t2), s => decide (countS s ≤ 3 ^ (k + 1)) && (insideB s p && (goodsB s (natsP p) && (stratB k t0 (afterS s (natsP p) 0) && (stratB k t1 (afterS s (natsP p) 1) && stratB k t2 (afterS s (natsP p) (-1))))))
theorem stratB_can : ∀ (k : Nat) (t : Tr k) (s : SD), stratB k t s = true → canS k s = true
  | 0, _, s, h => by unfold canS; exact h
  | k + 1, none, s, h => by
    rw [canS_succ]
    exact .inl (by simpa [stratB] using h)
  | k + 1, some (p, t0, t1, t2), s, h => by
    change (decide (countS s ≤ 3 ^ (k + 1)) && (insideB s p && (goodsB s (natsP p) && (stratB k t0 (afterS s (natsP p) 0) && (stratB k t1 (afterS s (natsP p) 1) && stratB k t2 (afterS s (natsP p) (-1))))))) = true at h
    simp only [Bool.and_eq_true, decide_eq_true_eq] at h
    obtain ⟨h1, h2, h3, h4, h5, h6⟩ := h
    rw [canS_succ]
    refine .inr ⟨h1, ?_⟩
    rcases p with _ | ⟨a, _ | ⟨b, _ | ⟨c, _ | ⟨d, _ | ⟨e, _ | ⟨f, _ | ⟨z, r⟩⟩⟩⟩⟩⟩⟩ <;> simp only [insideB, Bool.false_eq_true] at h2
    simp only [Bool.and_eq_true, decide_eq_true_eq] at h2
    exact ⟨a, b, c, d, e, f, h2.1, h2.2.1, h2.2.2, h3, stratB_can k t0 _ h4, stratB_can k t1 _ h5, stratB_can k t2 _ h6⟩
end Go.Proofs.YtlflblngbneacabDoor

/- What every state of coins keeps, plainly: strategies that are written out, the fewest weighings against the bounds. No condition. -/
namespace Go.Proofs.YtlflblngbneacabDoor

theorem heavy2 : canS 1 ⟨0, 2, 0, 1⟩ = true := stratB_can 1 ((some ([0, 0, 0, 1, 0, 0], (), (), ())) : Tr 1) _ (by decide +kernel)
theorem heavy3 : canS 1 ⟨0, 3, 0, 1⟩ = true := stratB_can 1 ((some ([0, 0, 1, 1, 0, 0], (), (), ())) : Tr 1) _ (by decide +kernel)
theorem heavy4 : canS 2 ⟨0, 4, 0, 1⟩ = true := stratB_can 2 ((some ([0, 0, 0, 1, 0, 0], (some ([0, 0, 1, 1, 0, 0], (), (), ())), none, none)) : Tr 2) _ (by decide +kernel)
theorem heavy5 : canS 2 ⟨0, 5, 0, 1⟩ = true := stratB_can 2 ((some ([0, 0, 1, 1, 0, 0], (some ([0, 0, 1, 1, 0, 0], (), (), ())), none, none)) : Tr 2) _ (by decide +kernel)
theorem heavy6 : canS 2 ⟨0, 6, 0, 1⟩ = true := stratB_can 2 ((some ([0, 0, 1, 2, 0, 0], (some ([0, 0, 1, 1, 0, 0], (), (), ())), none, (some ([0, 0, 0, 1, 0, 0], (), (), ())))) : Tr 2) _ (by decide +kernel)
theorem heavy7 : canS 2 ⟨0, 7, 0, 1⟩ = true := stratB_can 2 ((some ([0, 0, 2, 2, 0, 0], (some ([0, 0, 1, 1, 0, 0], (), (), ())), (some ([0, 0, 0, 1, 0, 0], (), (), ())), (some ([0, 0, 0, 1, 0, 0], (), (), ())))) : Tr 2) _ (by decide +kernel)
theorem heavy8 : canS 2 ⟨0, 8, 0, 1⟩ = true := stratB_can 2 ((some ([0, 0, 2, 3, 0, 0], (some ([0, 0, 1, 1, 0, 0], (), (), ())), (some ([0, 0, 0, 1, 0, 0], (), (), ())), (some ([0, 0, 1, 1, 0, 0], (), (), ())))) : Tr 2) _ (by decide +kernel)
theorem heavy9 : canS 2 ⟨0, 9, 0, 1⟩ = true := stratB_can 2 ((some ([0, 0, 3, 3, 0, 0], (some ([0, 0, 1, 1, 0, 0], (), (), ())), (some ([0, 0, 1, 1, 0, 0], (), (), ())), (some ([0, 0, 1, 1, 0, 0], (), (), ())))) : Tr 2) _ (by decide +kernel)
theorem heavy10 : canS 3 ⟨0, 10, 0, 1⟩ = true := stratB_can 3 ((some ([0, 0, 0, 1, 0, 0], (some ([0, 0, 3, 3, 0, 0], (some ([0, 0, 1, 1, 0, 0], (), (), ())), (some ([0, 0, 1, 1, 0, 0], (), (), ())), (some ([0, 0, 1, 1, 0, 0], (), (), ())))), none, none)) : Tr 3) _ (by decide +kernel)
theorem heavy11 : canS 3 ⟨0, 11, 0, 1⟩ = true := stratB_can 3 ((some ([0, 0, 1, 1, 0, 0], (some ([0, 0, 3, 3, 0, 0], (some ([0, 0, 1, 1, 0, 0], (), (), ())), (some ([0, 0, 1, 1, 0, 0], (), (), ())), (some ([0, 0, 1, 1, 0, 0], (), (), ())))), none, none)) : Tr 3) _ (by decide +kernel)
theorem heavy12 : canS 3 ⟨0, 12, 0, 1⟩ = true := stratB_can 3 ((some ([0, 0, 1, 2, 0, 0], (some ([0, 0, 3, 3, 0, 0], (some ([0, 0, 1, 1, 0, 0], (), (), ())), (some ([0, 0, 1, 1, 0, 0], (), (), ())), (some ([0, 0, 1, 1, 0, 0], (), (), ())))), none, (some ([0, 0, 0, 1, 0, 0], none, none, none)))) : Tr 3) _ (by decide +kernel)
theorem light2 : canS 1 ⟨0, 0, 2, 1⟩ = true := stratB_can 1 ((some ([0, 0, 0, 0, 0, 1], (), (), ())) : Tr 1) _ (by decide +kernel)
theorem light3 : canS 1 ⟨0, 0, 3, 1⟩ = true := stratB_can 1 ((some ([0, 0, 0, 0, 1, 1], (), (), ())) : Tr 1) _ (by decide +kernel)
theorem light4 : canS 2 ⟨0, 0, 4, 1⟩ = true := stratB_can 2 ((some ([0, 0, 0, 0, 0, 1], (some ([0, 0, 0, 0, 1, 1], (), (), ())), none, none)) : Tr 2) _ (by decide +kernel)
theorem light5 : canS 2 ⟨0, 0, 5, 1⟩ = true := stratB_can 2 ((some ([0, 0, 0, 0, 1, 1], (some ([0, 0, 0, 0, 1, 1], (), (), ())), none, none)) : Tr 2) _ (by decide +kernel)
theorem light6 : canS 2 ⟨0, 0, 6, 1⟩ = true := stratB_can 2 ((some ([0, 0, 0, 0, 1, 2], (some ([0, 0, 0, 0, 1, 1], (), (), ())), (some ([0, 0, 0, 0, 0, 1], (), (), ())), none)) : Tr 2) _ (by decide +kernel)
theorem light7 : canS 2 ⟨0, 0, 7, 1⟩ = true := stratB_can 2 ((some ([0, 0, 0, 0, 2, 2], (some ([0, 0, 0, 0, 1, 1], (), (), ())), (some ([0, 0, 0, 0, 0, 1], (), (), ())), (some ([0, 0, 0, 0, 0, 1], (), (), ())))) : Tr 2) _ (by decide +kernel)
theorem light8 : canS 2 ⟨0, 0, 8, 1⟩ = true := stratB_can 2 ((some ([0, 0, 0, 0, 2, 3], (some ([0, 0, 0, 0, 1, 1], (), (), ())), (some ([0, 0, 0, 0, 1, 1], (), (), ())), (some ([0, 0, 0, 0, 0, 1], (), (), ())))) : Tr 2) _ (by decide +kernel)
theorem light9 : canS 2 ⟨0, 0, 9, 1⟩ = true := stratB_can 2 ((some ([0, 0, 0, 0, 3, 3], (some ([0, 0, 0, 0, 1, 1], (), (), ())), (some ([0, 0, 0, 0, 1, 1], (), (), ())), (some ([0, 0, 0, 0, 1, 1], (), (), ())))) : Tr 2) _ (by decide +kernel)
theorem light10 : canS 3 ⟨0, 0, 10, 1⟩ = true := stratB_can 3 ((some ([0, 0, 0, 0, 0, 1], (some ([0, 0, 0, 0, 3, 3], (some ([0, 0, 0, 0, 1, 1], (), (), ())), (some ([0, 0, 0, 0, 1, 1], (), (), ())), (some ([0, 0, 0, 0, 1, 1], (), (), ())))), none, none)) : Tr 3) _ (by decide +kernel)
theorem light11 : canS 3 ⟨0, 0, 11, 1⟩ = true := stratB_can 3 ((some ([0, 0, 0, 0, 1, 1], (some ([0, 0, 0, 0, 3, 3], (some ([0, 0, 0, 0, 1, 1], (), (), ())), (some ([0, 0, 0, 0, 1, 1], (), (), ())), (some ([0, 0, 0, 0, 1, 1], (), (), ())))), none, none)) : Tr 3) _ (by decide +kernel)
theorem light12 : canS 3 ⟨0, 0, 12, 1⟩ = true := stratB_can 3 ((some ([0, 0, 0, 0, 1, 2], (some ([0, 0, 0, 0, 3, 3], (some ([0, 0, 0, 0, 1, 1], (), (), ())), (some ([0, 0, 0, 0, 1, 1], (), (), ())), (some ([0, 0, 0, 0, 1, 1], (), (), ())))), (some ([0, 0, 0, 0, 0, 1], none, none, none)), none)) : Tr 3) _ (by decide +kernel)
theorem bothG1 : canS 1 ⟨1, 0, 0, 1⟩ = true := stratB_can 1 ((some ([0, 1, 0, 0, 0, 0], (), (), ())) : Tr 1) _ (by decide +kernel)
theorem bothG2 : canS 2 ⟨2, 0, 0, 1⟩ = true := stratB_can 2 ((some ([0, 1, 0, 0, 0, 0], (some ([0, 1, 0, 0, 0, 0], (), (), ())), none, none)) : Tr 2) _ (by decide +kernel)
theorem bothG3 : canS 2 ⟨3, 0, 0, 1⟩ = true := stratB_can 2 ((some ([1, 1, 0, 0, 0, 0], (some ([0, 1, 0, 0, 0, 0], (), (), ())), (some ([0, 0, 0, 0, 0, 1], (), (), ())), (some ([0, 0, 0, 0, 0, 1], (), (), ())))) : Tr 2) _ (by decide +kernel)
theorem bothG4 : canS 2 ⟨4, 0, 0, 1⟩ = true := stratB_can 2 ((some ([1, 2, 0, 0, 0, 0], (some ([0, 1, 0, 0, 0, 0], (), (), ())), (some ([0, 0, 0, 0, 1, 1], (), (), ())), (some ([0, 0, 0, 1, 0, 1], (), (), ())))) : Tr 2) _ (by decide +kernel)
theorem bothG5 : canS 3 ⟨5, 0, 0, 1⟩ = true := stratB_can 3 ((some ([0, 1, 0, 0, 0, 0], (some ([1, 2, 0, 0, 0, 0], (some ([0, 1, 0, 0, 0, 0], (), (), ())), (some ([0, 0, 0, 0, 1, 1], (), (), ())), (some ([0, 0, 0, 1, 0, 1], (), (), ())))), none, none)) : Tr 3) _ (by decide +kernel)
theorem bothG6 : canS 3 ⟨6, 0, 0, 1⟩ = true := stratB_can 3 ((some ([1, 1, 0, 0, 0, 0], (some ([0, 3, 0, 0, 0, 0], (some ([0, 1, 0, 0, 0, 0], (), (), ())), (some ([0, 0, 0, 0, 1, 1], (), (), ())), (some ([0, 0, 1, 1, 0, 0], (), (), ())))), (some ([0, 0, 0, 0, 0, 1], none, none, none)), (some ([0, 0, 0, 0, 0, 1], none, none, none)))) : Tr 3) _ (by decide +kernel)
theorem bothG7 : canS 3 ⟨7, 0, 0, 1⟩ = true := stratB_can 3 ((some ([1, 2, 0, 0, 0, 0], (some ([0, 3, 0, 0, 0, 0], (some ([0, 1, 0, 0, 0, 0], (), (), ())), (some ([0, 0, 0, 0, 1, 1], (), (), ())), (some ([0, 0, 1, 1, 0, 0], (), (), ())))), (some ([0, 0, 0, 0, 0, 1], (some ([0, 0, 0, 0, 0, 1], (), (), ())), none, none)), (some ([0, 0, 0, 0, 0, 1], (some ([0, 0, 0, 1, 0, 0], (), (), ())), none, none)))) : Tr 3) _ (by decide +kernel)
theorem bothG8 : canS 3 ⟨8, 0, 0, 1⟩ = true := stratB_can 3 ((some ([2, 2, 0, 0, 0, 0], (some ([0, 3, 0, 0, 0, 0], (some ([0, 1, 0, 0, 0, 0], (), (), ())), (some ([0, 0, 0, 0, 1, 1], (), (), ())), (some ([0, 0, 1, 1, 0, 0], (), (), ())))), (some ([0, 0, 0, 0, 0, 1], (some ([0, 0, 0, 1, 0, 1], (), (), ())), none, none)), (some ([0, 0, 0, 0, 0, 1], (some ([0, 0, 0, 1, 0, 1], (), (), ())), none, none)))) : Tr 3) _ (by decide +kernel)
theorem bothG9 : canS 3 ⟨9, 0, 0, 1⟩ = true := stratB_can 3 ((some ([2, 3, 0, 0, 0, 0], (some ([0, 3, 0, 0, 0, 0], (some ([0, 1, 0, 0, 0, 0], (), (), ())), (some ([0, 0, 0, 0, 1, 1], (), (), ())), (some ([0, 0, 1, 1, 0, 0], (), (), ())))), (some ([0, 0, 0, 0, 0, 2], (some ([0, 0, 0, 1, 0, 1], (), (), ())), (some ([0, 0, 0, 0, 0, 1], (), (), ())), none)), (some ([0, 0, 0, 0, 0, 2], (some ([0, 0, 1, 1, 0, 0], (), (), ())), (some ([0, 0, 0, 0, 0, 1], (), (), ())), none)))) : Tr 3) _ (by decide +kernel)
theorem bothG10 : canS 3 ⟨10, 0, 0, 1⟩ = true := stratB_can 3 ((some ([3, 3, 0, 0, 0, 0], (some ([0, 3, 0, 0, 0, 0], (some ([0, 1, 0, 0, 0, 0], (), (), ())), (some ([0, 0, 0, 0, 1, 1], (), (), ())), (some ([0, 0, 1, 1, 0, 0], (), (), ())))), (some ([0, 0, 0, 0, 0, 3], (some ([0, 0, 1, 1, 0, 0], (), (), ())), (some ([0, 0, 0, 0, 1, 1], (), (), ())), none)), (some ([0, 0, 0, 0, 0, 3], (some ([0, 0, 1, 1, 0, 0], (), (), ())), (some ([0, 0, 0, 0, 1, 1], (), (), ())), none)))) : Tr 3) _ (by decide +kernel)
theorem bothG11 : canS 3 ⟨11, 0, 0, 1⟩ = true := stratB_can 3 ((some ([3, 4, 0, 0, 0, 0], (some ([0, 3, 0, 0, 0, 0], (some ([0, 1, 0, 0, 0, 0], (), (), ())), (some ([0, 0, 0, 0, 1, 1], (), (), ())), (some ([0, 0, 1, 1, 0, 0], (), (), ())))), (some ([0, 0, 0, 0, 1, 3], (some ([0, 0, 1, 1, 0, 0], (), (), ())), (some ([0, 0, 0, 0, 1, 1], (), (), ())), none)), (some ([0, 0, 0, 1, 0, 3], (some ([0, 0, 1, 1, 0, 0], (), (), ())), (some ([0, 0, 0, 0, 1, 1], (), (), ())), none)))) : Tr 3) _ (by decide +kernel)
theorem bothG12 : canS 3 ⟨12, 0, 0, 1⟩ = true := stratB_can 3 ((some ([4, 4, 0, 0, 0, 0], (some ([0, 3, 0, 0, 0, 0], (some ([0, 1, 0, 0, 0, 0], (), (), ())), (some ([0, 0, 0, 0, 1, 1], (), (), ())), (some ([0, 0, 1, 1, 0, 0], (), (), ())))), (some ([0, 0, 0, 1, 1, 3], (some ([0, 0, 1, 1, 0, 0], (), (), ())), (some ([0, 0, 0, 0, 1, 1], (), (), ())), (some ([0, 0, 0, 0, 0, 1], (), (), ())))), (some ([0, 0, 0, 1, 1, 3], (some ([0, 0, 1, 1, 0, 0], (), (), ())), (some ([0, 0, 0, 0, 1, 1], (), (), ())), (some ([0, 0, 0, 0, 0, 1], (), (), ())))))) : Tr 3) _ (by decide +kernel)
theorem both3 : canS 2 ⟨3, 0, 0, 0⟩ = true := stratB_can 2 ((some ([1, 1, 0, 0, 0, 0], (some ([0, 1, 0, 0, 0, 0], (), (), ())), (some ([0, 0, 0, 0, 0, 1], (), (), ())), (some ([0, 0, 0, 0, 0, 1], (), (), ())))) : Tr 2) _ (by decide +kernel)
theorem both4 : canS 3 ⟨4, 0, 0, 0⟩ = true := stratB_can 3 ((some ([1, 1, 0, 0, 0, 0], (some ([0, 1, 0, 0, 0, 0], (some ([0, 1, 0, 0, 0, 0], (), (), ())), none, none)), (some ([0, 0, 0, 0, 0, 1], none, none, none)), (some ([0, 0, 0, 0, 0, 1], none, none, none)))) : Tr 3) _ (by decide +kernel)
theorem both5 : canS 3 ⟨5, 0, 0, 0⟩ = true := stratB_can 3 ((some ([1, 1, 0, 0, 0, 0], (some ([0, 2, 0, 0, 0, 0], (some ([0, 1, 0, 0, 0, 0], (), (), ())), (some ([0, 0, 0, 0, 0, 1], (), (), ())), (some ([0, 0, 0, 1, 0, 0], (), (), ())))), (some ([0, 0, 0, 0, 0, 1], none, none, none)), (some ([0, 0, 0, 0, 0, 1], none, none, none)))) : Tr 3) _ (by decide +kernel)
theorem both6 : canS 3 ⟨6, 0, 0, 0⟩ = true := stratB_can 3 ((some ([1, 1, 0, 0, 0, 0], (some ([1, 2, 0, 0, 0, 0], (some ([0, 1, 0, 0, 0, 0], (), (), ())), (some ([0, 0, 0, 0, 1, 1], (), (), ())), (some ([0, 0, 0, 1, 0, 1], (), (), ())))), (some ([0, 0, 0, 0, 0, 1], none, none, none)), (some ([0, 0, 0, 0, 0, 1], none, none, none)))) : Tr 3) _ (by decide +kernel)
theorem both7 : canS 3 ⟨7, 0, 0, 0⟩ = true := stratB_can 3 ((some ([2, 2, 0, 0, 0, 0], (some ([0, 2, 0, 0, 0, 0], (some ([0, 1, 0, 0, 0, 0], (), (), ())), (some ([0, 0, 0, 0, 0, 1], (), (), ())), (some ([0, 0, 0, 1, 0, 0], (), (), ())))), (some ([0, 0, 0, 0, 0, 1], (some ([0, 0, 0, 1, 0, 1], (), (), ())), none, none)), (some ([0, 0, 0, 0, 0, 1], (some ([0, 0, 0, 1, 0, 1], (), (), ())), none, none)))) : Tr 3) _ (by decide +kernel)
theorem both8 : canS 3 ⟨8, 0, 0, 0⟩ = true := stratB_can 3 ((some ([2, 2, 0, 0, 0, 0], (some ([0, 3, 0, 0, 0, 0], (some ([0, 1, 0, 0, 0, 0], (), (), ())), (some ([0, 0, 0, 0, 1, 1], (), (), ())), (some ([0, 0, 1, 1, 0, 0], (), (), ())))), (some ([0, 0, 0, 0, 0, 1], (some ([0, 0, 0, 1, 0, 1], (), (), ())), none, none)), (some ([0, 0, 0, 0, 0, 1], (some ([0, 0, 0, 1, 0, 1], (), (), ())), none, none)))) : Tr 3) _ (by decide +kernel)
theorem both9 : canS 3 ⟨9, 0, 0, 0⟩ = true := stratB_can 3 ((some ([3, 3, 0, 0, 0, 0], (some ([0, 2, 0, 0, 0, 0], (some ([0, 1, 0, 0, 0, 0], (), (), ())), (some ([0, 0, 0, 0, 0, 1], (), (), ())), (some ([0, 0, 0, 1, 0, 0], (), (), ())))), (some ([0, 0, 0, 0, 0, 3], (some ([0, 0, 1, 1, 0, 0], (), (), ())), (some ([0, 0, 0, 0, 1, 1], (), (), ())), none)), (some ([0, 0, 0, 0, 0, 3], (some ([0, 0, 1, 1, 0, 0], (), (), ())), (some ([0, 0, 0, 0, 1, 1], (), (), ())), none)))) : Tr 3) _ (by decide +kernel)
theorem both10 : canS 3 ⟨10, 0, 0, 0⟩ = true := stratB_can 3 ((some ([3, 3, 0, 0, 0, 0], (some ([0, 3, 0, 0, 0, 0], (some ([0, 1, 0, 0, 0, 0], (), (), ())), (some ([0, 0, 0, 0, 1, 1], (), (), ())), (some ([0, 0, 1, 1, 0, 0], (), (), ())))), (some ([0, 0, 0, 0, 0, 3], (some ([0, 0, 1, 1, 0, 0], (), (), ())), (some ([0, 0, 0, 0, 1, 1], (), (), ())), none)), (some ([0, 0, 0, 0, 0, 3], (some ([0, 0, 1, 1, 0, 0], (), (), ())), (some ([0, 0, 0, 0, 1, 1], (), (), ())), none)))) : Tr 3) _ (by decide +kernel)
theorem both11 : canS 3 ⟨11, 0, 0, 0⟩ = true := stratB_can 3 ((some ([4, 4, 0, 0, 0, 0], (some ([0, 2, 0, 0, 0, 0], (some ([0, 1, 0, 0, 0, 0], (), (), ())), (some ([0, 0, 0, 0, 0, 1], (), (), ())), (some ([0, 0, 0, 1, 0, 0], (), (), ())))), (some ([0, 0, 0, 1, 1, 3], (some ([0, 0, 1, 1, 0, 0], (), (), ())), (some ([0, 0, 0, 0, 1, 1], (), (), ())), (some ([0, 0, 0, 0, 0, 1], (), (), ())))), (some ([0, 0, 0, 1, 1, 3], (some ([0, 0, 1, 1, 0, 0], (), (), ())), (some ([0, 0, 0, 0, 1, 1], (), (), ())), (some ([0, 0, 0, 0, 0, 1], (), (), ())))))) : Tr 3) _ (by decide +kernel)
theorem both12 : canS 3 ⟨12, 0, 0, 0⟩ = true := stratB_can 3 ((some ([4, 4, 0, 0, 0, 0], (some ([0, 3, 0, 0, 0, 0], (some ([0, 1, 0, 0, 0, 0], (), (), ())), (some ([0, 0, 0, 0, 1, 1], (), (), ())), (some ([0, 0, 1, 1, 0, 0], (), (), ())))), (some ([0, 0, 0, 1, 1, 3], (some ([0, 0, 1, 1, 0, 0], (), (), ())), (some ([0, 0, 0, 0, 1, 1], (), (), ())), (some ([0, 0, 0, 0, 0, 1], (), (), ())))), (some ([0, 0, 0, 1, 1, 3], (some ([0, 0, 1, 1, 0, 0], (), (), ())), (some ([0, 0, 0, 0, 1, 1], (), (), ())), (some ([0, 0, 0, 0, 0, 1], (), (), ())))))) : Tr 3) _ (by decide +kernel)
end Go.Proofs.YtlflblngbneacabDoor

/- What every state of coins keeps, plainly: the fewest weighings against the bounds. No condition but that the state is valid. -/
namespace Go.Proofs.YtlflblngbneacabDoor

/-- The least k with 3 to the power of k at least n, from k on. -/
def leastP (n : Int) : Nat → Nat → Nat
  | 0, k => k
  | f + 1, k => if (3 : Int) ^ k < n then leastP n f (k + 1) else k
def infoI (n : Int) : Int := if 1 ≤ n ∧ n ≤ 1000000 then (leastP n 13 0 : Nat) else -1
def mostI (k : Int) (good : Bool) : Int :=
  if 0 ≤ k ∧ k ≤ 12 then (if good = true then Int.tdiv (3 ^ k.toNat - 1) 2 else max 0 (Int.tdiv (3 ^ k.toNat - 3) 2)) else 0

theorem fewest_of {s : SD} (hs : stateB s = true) : fewestI s = if canS 0 s = true then 0 else if canS 1 s = true then 1 else if canS 2 s = true then 2 else if canS 3 s = true then 3 else -1 := by
  unfold fewestI findB
  rw [hs]
  rfl
theorem fewest_not {s : SD} (hs : stateB s = false) : fewestI s = -1 := by
  unfold fewestI findB
  rw [hs]
  rfl
/-- What the fewest weighings say. -/
theorem fewest_ways {s : SD} (hs : stateB s = true) :
    (fewestI s = 0 ∧ canS 0 s = true) ∨ (fewestI s = 1 ∧ canS 0 s = false ∧ canS 1 s = true) ∨ (fewestI s = 2 ∧ canS 0 s = false ∧ canS 1 s = false ∧ canS 2 s = true) ∨
    (fewestI s = 3 ∧ canS 0 s = false ∧ canS 1 s = false ∧ canS 2 s = false ∧ canS 3 s = true) ∨ (fewestI s = -1 ∧ canS 0 s = false ∧ canS 1 s = false ∧ canS 2 s = false ∧ canS 3 s = false) := by
  rw [fewest_of hs]
  cases canS 0 s <;> cases canS 1 s <;> cases canS 2 s <;> cases canS 3 s <;> simp
theorem count_in {s : SD} (hs : stateB s = true) : 0 ≤ countS s ∧ countS s ≤ 26 := by
  have := stateB_iff.1 hs
  unfold SIn sumS at this
  unfold countS
  omega
/-- The bound for as many cases as there can be. -/
theorem info_small {n : Int} (h1 : 1 ≤ n) (h2 : n ≤ 26) : infoI n = if n ≤ 1 then 0 else if n ≤ 3 then 1 else if n ≤ 9 then 2 else 3 := by
  obtain ⟨m, rfl⟩ := Int.eq_ofNat_of_zero_le (by omega : 0 ≤ n)
  have hm : m ≤ 26 := by omega
  have h0 : 1 ≤ m := by omega
  clear h1 h2
  revert m
  decide +kernel
theorem not_can {k : Nat} {s : SD} (h : ¬ countS s ≤ 3 ^ k) : canS k s = false := by
  cases hc : canS k s with
  | false => rfl
  | true => exact absurd (canS_le k s hc) h

theorem every1 {s : SD} (hs : stateB s = true) (hc : countS s ≠ 0) (hk : 0 ≤ fewestI s) : infoI (countS s) ≤ fewestI s := by
  obtain ⟨h0, h26⟩ := count_in hs
  rw [info_small (by omega) h26]
  rcases fewest_ways hs with ⟨e, h⟩ | ⟨e, -, h⟩ | ⟨e, -, -, h⟩ | ⟨e, -, -, -, h⟩ | ⟨e, -⟩
  · have := canS_le _ _ h; rw [e]; rw [if_pos (by simpa using this)]; omega
  · have := canS_le _ _ h; rw [e]; split
    · omega
    · rw [if_pos (by simpa using this)]; omega
  · have := canS_le _ _ h; rw [e]; split
    · omega
    · split
      · omega
      · rw [if_pos (by simpa using this)]; omega
  · rw [e]; split <;> (try split) <;> (try split) <;> omega
  · omega
theorem every2 {s : SD} (hs : stateB s = true) (ht : stateB (s.more 1) = true) (hk : 0 ≤ fewestI s) : 0 ≤ fewestI (s.more 1) ∧ fewestI (s.more 1) ≤ fewestI s := by
  have hm : ∀ k, canS k s = true → canS k (s.more 1) = true := fun k h => canS_more 1 k s h
  rcases fewest_ways hs with ⟨e, h⟩ | ⟨e, -, h⟩ | ⟨e, -, -, h⟩ | ⟨e, -, -, -, h⟩ | ⟨e, -⟩
  · rcases fewest_ways ht with ⟨f, -⟩ | ⟨f, g, -⟩ | ⟨f, g, -⟩ | ⟨f, g, -⟩ | ⟨f, g, -⟩ <;> first | (rw [hm 0 h] at g; cases g) | omega
  · rcases fewest_ways ht with ⟨f, -⟩ | ⟨f, -⟩ | ⟨f, -, g, -⟩ | ⟨f, -, g, -⟩ | ⟨f, -, g, -⟩ <;> first | (rw [hm 1 h] at g; cases g) | omega
  · rcases fewest_ways ht with ⟨f, -⟩ | ⟨f, -⟩ | ⟨f, -⟩ | ⟨f, -, -, g, -⟩ | ⟨f, -, -, g, -⟩ <;> first | (rw [hm 2 h] at g; cases g) | omega
  · rcases fewest_ways ht with ⟨f, -⟩ | ⟨f, -⟩ | ⟨f, -⟩ | ⟨f, -⟩ | ⟨f, -, -, -, g⟩ <;> first | (rw [hm 3 h] at g; cases g) | omega
  · omega
/-- A state with so many cases that some strategy serves. -/
theorem every_at {s : SD} {k : Nat} (hs : stateB s = true) (hk : k ≤ 3) (hc : canS k s = true) (hn : ∀ j, j < k → canS j s = false) : fewestI s = k := by
  rw [fewest_of hs]
  rcases (show k = 0 ∨ k = 1 ∨ k = 2 ∨ k = 3 by omega) with rfl | rfl | rfl | rfl
  · rw [if_pos hc]; rfl
  · rw [if_neg (by rw [hn 0 (by omega)]; simp), if_pos hc]; rfl
  · rw [if_neg (by rw [hn 0 (by omega)]; simp), if_neg (by rw [hn 1 (by omega)]; simp), if_pos hc]; rfl
  · rw [if_neg (by rw [hn 0 (by omega)]; simp), if_neg (by rw [hn 1 (by omega)]; simp), if_neg (by rw [hn 2 (by omega)]; simp), if_pos hc]; rfl
theorem low_not {s : SD} {k : Nat} (h : (3 : Int) ^ k < 3 * countS s) : ∀ j, j < k → canS j s = false := fun j hj => by
  refine not_can ?_
  have h1 : (3 : Int) ^ (j + 1) ≤ 3 ^ k := by exact_mod_cast Nat.pow_le_pow_right (n := 3) (by omega) (show j + 1 ≤ k by omega)
  rw [Int.pow_succ] at h1
  omega
/-- A strategy with one good coin serves with more. -/
theorem with_good {k : Nat} {b h l g : Int} (hg : 1 ≤ g) (hc : canS k ⟨b, h, l, 1⟩ = true) : canS k ⟨b, h, l, g⟩ = true := by
  have := canS_more (g - 1).toNat k _ hc
  unfold SD.more at this
  rw [show (1 : Int) + ((g - 1).toNat : Nat) = g by omega] at this
  exact this

theorem every3 {s : SD} (hs : stateB s = true) (hc : countS s ≠ 0) (hb : s.b = 0) (ho : s.h = 0 ∨ s.l = 0) (hg : 0 < s.g) : fewestI s = infoI (countS s) := by
  have hin := stateB_iff.1 hs
  unfold SIn sumS at hin
  obtain ⟨b, h, l, g⟩ := s
  simp only [] at hb ho hg hin
  subst hb
  have hcs : countS ⟨0, h, l, g⟩ = h + l := by unfold countS; simp only []; omega
  rw [hcs] at hc ⊢
  rw [info_small (by omega) (by omega)]
  have key : ∀ (k : Nat), k ≤ 3 → canS k ⟨0, h, l, g⟩ = true → ((3 : Int) ^ k < 3 * (h + l)) → fewestI ⟨0, h, l, g⟩ = k := fun k hk h1 h2 =>
    every_at hs hk h1 (low_not (by rw [hcs]; exact h2))
  have g1 : 1 ≤ g := by omega
  rcases ho with rfl | rfl
  · obtain ⟨n, rfl⟩ := Int.eq_ofNat_of_zero_le hin.2.2.1
    have hn : n = 1 ∨ n = 2 ∨ n = 3 ∨ n = 4 ∨ n = 5 ∨ n = 6 ∨ n = 7 ∨ n = 8 ∨ n = 9 ∨ n = 10 ∨ n = 11 ∨ n = 12 := by omega
    rcases hn with rfl | rfl | rfl | rfl | rfl | rfl | rfl | rfl | rfl | rfl | rfl | rfl
    · exact key 0 (by omega) (by unfold canS countS; simp) (by decide)
    · exact key 1 (by omega) (with_good g1 light2) (by decide)
    · exact key 1 (by omega) (with_good g1 light3) (by decide)
    · exact key 2 (by omega) (with_good g1 light4) (by decide)
    · exact key 2 (by omega) (with_good g1 light5) (by decide)
    · exact key 2 (by omega) (with_good g1 light6) (by decide)
    · exact key 2 (by omega) (with_good g1 light7) (by decide)
    · exact key 2 (by omega) (with_good g1 light8) (by decide)
    · exact key 2 (by omega) (with_good g1 light9) (by decide)
    · exact key 3 (by omega) (with_good g1 light10) (by decide)
    · exact key 3 (by omega) (with_good g1 light11) (by decide)
    · exact key 3 (by omega) (with_good g1 light12) (by decide)
  · obtain ⟨n, rfl⟩ := Int.eq_ofNat_of_zero_le hin.2.1
    have hn : n = 1 ∨ n = 2 ∨ n = 3 ∨ n = 4 ∨ n = 5 ∨ n = 6 ∨ n = 7 ∨ n = 8 ∨ n = 9 ∨ n = 10 ∨ n = 11 ∨ n = 12 := by omega
    rcases hn with rfl | rfl | rfl | rfl | rfl | rfl | rfl | rfl | rfl | rfl | rfl | rfl
    · exact key 0 (by omega) (by unfold canS countS; simp) (by decide)
    · exact key 1 (by omega) (with_good g1 heavy2) (by decide)
    · exact key 1 (by omega) (with_good g1 heavy3) (by decide)
    · exact key 2 (by omega) (with_good g1 heavy4) (by decide)
    · exact key 2 (by omega) (with_good g1 heavy5) (by decide)
    · exact key 2 (by omega) (with_good g1 heavy6) (by decide)
    · exact key 2 (by omega) (with_good g1 heavy7) (by decide)
    · exact key 2 (by omega) (with_good g1 heavy8) (by decide)
    · exact key 2 (by omega) (with_good g1 heavy9) (by decide)
    · exact key 3 (by omega) (with_good g1 heavy10) (by decide)
    · exact key 3 (by omega) (with_good g1 heavy11) (by decide)
    · exact key 3 (by omega) (with_good g1 heavy12) (by decide)

theorem alone1_1 : canS 1 ⟨1, 0, 0, 0⟩ = false := by decide +kernel
theorem alone1_2 : canS 2 ⟨1, 0, 0, 0⟩ = false := by decide +kernel
theorem alone1_3 : canS 3 ⟨1, 0, 0, 0⟩ = false := by decide +kernel
theorem alone2_3 : canS 3 ⟨2, 0, 0, 0⟩ = false := by decide +kernel
theorem alone4_2 : canS 2 ⟨4, 0, 0, 0⟩ = false := by decide +kernel
theorem alone13_3 : canS 3 ⟨13, 0, 0, 0⟩ = false := by decide +kernel

/-- Of unknown coins alone. -/
theorem every5 {s : SD} (hs : stateB s = true) (hc : countS s ≠ 0) (hh : s.h = 0) (hl : s.l = 0) :
    (fewestI s = -1 → mostI 3 (decide (0 < s.g)) < s.b ∨ (¬ 0 < s.g ∧ s.b < 3)) ∧
    (fewestI s ≠ -1 → s.b ≤ mostI (fewestI s) (decide (0 < s.g)) ∧ mostI (fewestI s - 1) (decide (0 < s.g)) < s.b) := by
  have hin := stateB_iff.1 hs
  unfold SIn sumS at hin
  obtain ⟨b, h, l, g⟩ := s
  simp only [] at hh hl hin
  subst hh hl
  have hcs : countS ⟨b, 0, 0, g⟩ = 2 * b := by unfold countS; simp only []; omega
  rw [hcs] at hc
  obtain ⟨n, rfl⟩ := Int.eq_ofNat_of_zero_le hin.1
  have key : ∀ (k : Nat), k ≤ 3 → canS k ⟨n, 0, 0, g⟩ = true → ((3 : Int) ^ k < 3 * (2 * n)) → fewestI ⟨n, 0, 0, g⟩ = k := fun k hk h1 h2 =>
    every_at hs hk h1 (low_not (by rw [hcs]; exact h2))
  simp only []
  by_cases hg : 0 < g
  · have g1 : 1 ≤ g := by omega
    rw [decide_eq_true hg]
    have hn : n = 1 ∨ n = 2 ∨ n = 3 ∨ n = 4 ∨ n = 5 ∨ n = 6 ∨ n = 7 ∨ n = 8 ∨ n = 9 ∨ n = 10 ∨ n = 11 ∨ n = 12 := by omega
    have done : ∀ k : Nat, fewestI ⟨n, 0, 0, g⟩ = k → (n : Int) ≤ mostI k true ∧ mostI (k - 1) true < n → (fewestI ⟨n, 0, 0, g⟩ = -1 → mostI 3 true < (n : Int) ∨ (¬ 0 < g ∧ (n : Int) < 3)) ∧ (fewestI ⟨n, 0, 0, g⟩ ≠ -1 → (n : Int) ≤ mostI (fewestI ⟨n, 0, 0, g⟩) true ∧ mostI (fewestI ⟨n, 0, 0, g⟩ - 1) true < n) := fun k e h => by
      rw [e]; exact ⟨fun h' => by omega, fun _ => h⟩
    rcases hn with rfl | rfl | rfl | rfl | rfl | rfl | rfl | rfl | rfl | rfl | rfl | rfl
    · exact done 1 (key 1 (by omega) (with_good g1 bothG1) (by decide)) (by decide)
    · exact done 2 (key 2 (by omega) (with_good g1 bothG2) (by decide)) (by decide)
    · exact done 2 (key 2 (by omega) (with_good g1 bothG3) (by decide)) (by decide)
    · exact done 2 (key 2 (by omega) (with_good g1 bothG4) (by decide)) (by decide)
    · exact done 3 (key 3 (by omega) (with_good g1 bothG5) (by decide)) (by decide)
    · exact done 3 (key 3 (by omega) (with_good g1 bothG6) (by decide)) (by decide)
    · exact done 3 (key 3 (by omega) (with_good g1 bothG7) (by decide)) (by decide)
    · exact done 3 (key 3 (by omega) (with_good g1 bothG8) (by decide)) (by decide)
    · exact done 3 (key 3 (by omega) (with_good g1 bothG9) (by decide)) (by decide)
    · exact done 3 (key 3 (by omega) (with_good g1 bothG10) (by decide)) (by decide)
    · exact done 3 (key 3 (by omega) (with_good g1 bothG11) (by decide)) (by decide)
    · exact done 3 (key 3 (by omega) (with_good g1 bothG12) (by decide)) (by decide)
  · obtain rfl : g = 0 := by omega
    rw [decide_eq_false hg]
    have hn : n = 1 ∨ n = 2 ∨ n = 3 ∨ n = 4 ∨ n = 5 ∨ n = 6 ∨ n = 7 ∨ n = 8 ∨ n = 9 ∨ n = 10 ∨ n = 11 ∨ n = 12 ∨ n = 13 := by omega
    have done : ∀ k : Nat, fewestI ⟨n, 0, 0, 0⟩ = k → (n : Int) ≤ mostI k false ∧ mostI (k - 1) false < n → (fewestI ⟨n, 0, 0, 0⟩ = -1 → mostI 3 false < (n : Int) ∨ (¬ (0 : Int) < 0 ∧ (n : Int) < 3)) ∧ (fewestI ⟨n, 0, 0, 0⟩ ≠ -1 → (n : Int) ≤ mostI (fewestI ⟨n, 0, 0, 0⟩) false ∧ mostI (fewestI ⟨n, 0, 0, 0⟩ - 1) false < n) := fun k e h => by
      rw [e]; exact ⟨fun h' => by omega, fun _ => h⟩
    have c0 : ∀ {n : Nat}, 1 ≤ n → canS 0 ⟨n, 0, 0, 0⟩ = false := fun {n} h => not_can (by unfold countS; simp only []; omega)
    rcases hn with rfl | rfl | rfl | rfl | rfl | rfl | rfl | rfl | rfl | rfl | rfl | rfl | rfl
    · have e : fewestI ⟨((1 : Nat) : Int), 0, 0, 0⟩ = -1 := by rw [fewest_of hs]; decide +kernel
      rw [e]; exact ⟨fun _ => .inr ⟨by decide, by decide⟩, fun h => absurd rfl h⟩
    · have e : fewestI ⟨((2 : Nat) : Int), 0, 0, 0⟩ = -1 ∨ fewestI ⟨((2 : Nat) : Int), 0, 0, 0⟩ = 2 := by rw [fewest_of hs]; decide +kernel
      rcases e with e | e
      · rw [e]; exact ⟨fun _ => .inr ⟨by decide, by decide⟩, fun h => absurd rfl h⟩
      · exact done 2 e (by decide)
    · exact done 2 (key 2 (by omega) both3 (by decide)) (by decide)
    · refine done 3 ?_ (by decide)
      rw [fewest_of hs]; decide +kernel
    · exact done 3 (key 3 (by omega) both5 (by decide)) (by decide)
    · exact done 3 (key 3 (by omega) both6 (by decide)) (by decide)
    · exact done 3 (key 3 (by omega) both7 (by decide)) (by decide)
    · exact done 3 (key 3 (by omega) both8 (by decide)) (by decide)
    · exact done 3 (key 3 (by omega) both9 (by decide)) (by decide)
    · exact done 3 (key 3 (by omega) both10 (by decide)) (by decide)
    · exact done 3 (key 3 (by omega) both11 (by decide)) (by decide)
    · exact done 3 (key 3 (by omega) both12 (by decide)) (by decide)
    · have e : fewestI ⟨((13 : Nat) : Int), 0, 0, 0⟩ = -1 := by rw [fewest_of hs]; decide +kernel
      rw [e]; exact ⟨fun _ => .inl (by decide), fun h => absurd rfl h⟩
end Go.Proofs.YtlflblngbneacabDoor

/- What the fewest weighings and the first pick say of each other, plainly: no outcome loses a case; more weighings never harm; the first pick leads to states that need one weighing fewer. Condition: a valid state. -/
namespace Go.Proofs.YtlflblngbneacabDoor

/-- The cases of a state are divided among the states after the three outcomes. -/
theorem after_counts (s : SD) (p : PD) : countS (afterS s p (-1)) + countS (afterS s p 0) + countS (afterS s p 1) = countS s := by
  unfold afterS goodS countS
  simp only [show ¬ ((-1 : Int) = 1) by decide, show ¬ ((0 : Int) = 1) by decide, show ¬ ((0 : Int) = -1) by decide, if_true, if_false]
  omega
theorem canS_up : ∀ (k : Nat) (s : SD), canS k s = true → canS (k + 1) s = true
  | 0, s, h => by
    rw [canS_succ]
    exact .inl (by unfold canS at h; simpa using h)
  | k + 1, s, h => by
    rw [canS_succ] at h ⊢
    rcases h with h | ⟨hc, a, b, c, d, e, f, h1, h2, h3, h4, h5, h6, h7⟩
    · exact .inl h
    · refine .inr ⟨?_, a, b, c, d, e, f, h1, h2, h3, h4, canS_up k _ h5, canS_up k _ h6, canS_up k _ h7⟩
      have : (3 : Int) ^ (k + 1 + 1) = 3 ^ (k + 1) * 3 := Int.pow_succ _ _
      have h0 : (0 : Int) < 3 ^ (k + 1) := Int.pow_pos (by omega)
      omega
theorem canS_upto {j k : Nat} (h : j ≤ k) (s : SD) (hc : canS j s = true) : canS k s = true := by
  induction k with
  | zero => rw [show j = 0 by omega] at hc; exact hc
  | succ k ih =>
    by_cases e : j = k + 1
    · rw [e] at hc; exact hc
    · exact canS_up k s (ih (by omega))

theorem firstFrom_got {α : Type} (f : Nat → Option α) {v : α} : ∀ n i, firstFrom f n i = some v → ∃ j, i ≤ j ∧ j < i + n ∧ f j = some v
  | 0, i, h => by cases h
  | n + 1, i, h => by
    unfold firstFrom at h
    cases hf : f i with
    | some u =>
      rw [hf] at h
      exact ⟨i, by omega, by omega, by rw [hf]; exact h⟩
    | none =>
      rw [hf] at h
      obtain ⟨j, h1, h2, h3⟩ := firstFrom_got f n (i + 1) h
      exact ⟨j, by omega, by omega, h3⟩
theorem firstP_got {can : SD → Bool} {m : Int} {s : SD} {q : PD} (h : firstP can m s = some q) :
    ∃ a b c d e f : Nat, a + b ≤ s.b.toNat ∧ c + d ≤ s.h.toNat ∧ e + f ≤ s.l.toNat ∧ q = goodsP (natP a b c d e f) ∧ goodsB s (natP a b c d e f) = true ∧ fitB can m s (goodsP (natP a b c d e f)) = true := by
  unfold firstP lightsP at h
  obtain ⟨a, -, ha, h⟩ := firstFrom_got _ _ _ h
  obtain ⟨b, -, hb, h⟩ := firstFrom_got _ _ _ h
  obtain ⟨c, -, hc, h⟩ := firstFrom_got _ _ _ h
  obtain ⟨d, -, hd, h⟩ := firstFrom_got _ _ _ h
  obtain ⟨e, -, he, h⟩ := firstFrom_got _ _ _ h
  obtain ⟨f, -, hf, h⟩ := firstFrom_got _ _ _ h
  refine ⟨a, b, c, d, e, f, by omega, by omega, by omega, ?_⟩
  unfold tryP at h
  split at h
  · rename_i hh
    rw [Bool.and_eq_true] at hh
    exact ⟨(Option.some.inj h).symm, hh.1, hh.2⟩
  · cases h
theorem pick_valid {s : SD} (hs : stateB s = true) {a b c d e f : Nat} (h1 : a + b ≤ s.b.toNat) (h2 : c + d ≤ s.h.toNat) (h3 : e + f ≤ s.l.toNat) (hg : goodsB s (natP a b c d e f) = true) : pickB s (goodsP (natP a b c d e f)) = true := by
  have hin := stateB_iff.1 hs
  unfold SIn sumS at hin
  unfold goodsB at hg
  simp only [Bool.and_eq_true, decide_eq_true_eq] at hg
  obtain ⟨hg1, hg2⟩ := hg
  unfold pickB
  rw [hs]
  unfold PD.list
  simp only [List.all_cons, List.all_nil, Bool.and_eq_true, decide_eq_true_eq, Bool.and_true, Bool.true_and, cntB_iff]
  unfold goodsP leftP rightP natP at hg1 ⊢
  unfold leftP rightP natP at hg2
  simp only [] at hg1 hg2 ⊢
  split at hg1
  · rename_i hlr
    simp only [hlr, if_true] at hg1 ⊢
    refine ⟨⟨⟨by omega, by omega⟩, ⟨by omega, by omega⟩, ⟨by omega, by omega⟩, ⟨by omega, by omega⟩, ⟨by omega, by omega⟩, ⟨by omega, by omega⟩, ⟨by omega, by omega⟩, ⟨by omega, by omega⟩⟩, by omega, by omega, by omega, by omega, by omega, by omega⟩
  · rename_i hlr
    simp only [hlr, if_false] at hg1 ⊢
    refine ⟨⟨⟨by omega, by omega⟩, ⟨by omega, by omega⟩, ⟨by omega, by omega⟩, ⟨by omega, by omega⟩, ⟨by omega, by omega⟩, ⟨by omega, by omega⟩, ⟨by omega, by omega⟩, ⟨by omega, by omega⟩⟩, by omega, by omega, by omega, by omega, by omega, by omega⟩

theorem finds0 {s : SD} (hs : stateB s = true) : -1 ≤ fewestI s ∧ fewestI s ≤ 3 ∧ (countS s ≤ 1 → fewestI s = 0) := by
  rcases fewest_ways hs with ⟨e, h⟩ | ⟨e, h, -⟩ | ⟨e, h, -⟩ | ⟨e, h, -⟩ | ⟨e, h, -⟩
  all_goals
    refine ⟨by omega, by omega, fun hc => ?_⟩
    first
      | exact e
      | (exfalso; unfold canS at h; rw [decide_eq_true hc] at h; cases h)
theorem finds1 {s : SD} (hs : stateB s = true) (i : Nat) (hi : i ≤ 3) : findB s i = decide (0 ≤ fewestI s ∧ fewestI s ≤ i) := by
  have hf : findB s i = canS i s := by
    unfold findB
    rw [hs, decide_eq_true (show (0 : Int) ≤ i by omega), decide_eq_true (show (i : Int) ≤ 3 by omega)]
    simp
  rw [hf]
  have up : ∀ j, j ≤ i → canS j s = true → canS i s = true := fun j hj h => canS_upto hj s h
  rcases fewest_ways hs with ⟨e, h⟩ | ⟨e, h0, h⟩ | ⟨e, h0, h1, h⟩ | ⟨e, h0, h1, h2, h⟩ | ⟨e, h0, h1, h2, h3⟩
  · rw [e, up 0 (by omega) h, decide_eq_true (by omega)]
  · rcases (show i = 0 ∨ 1 ≤ i by omega) with rfl | hi1
    · rw [e, h0, decide_eq_false (by omega)]
    · rw [e, up 1 hi1 h, decide_eq_true (by omega)]
  · rcases (show i = 0 ∨ i = 1 ∨ 2 ≤ i by omega) with rfl | rfl | hi1
    · rw [e, h0, decide_eq_false (by omega)]
    · rw [e, h1, decide_eq_false (by omega)]
    · rw [e, up 2 hi1 h, decide_eq_true (by omega)]
  · rcases (show i = 0 ∨ i = 1 ∨ i = 2 ∨ i = 3 by omega) with rfl | rfl | rfl | rfl
    · rw [e, h0, decide_eq_false (by omega)]
    · rw [e, h1, decide_eq_false (by omega)]
    · rw [e, h2, decide_eq_false (by omega)]
    · rw [e, h, decide_eq_true (by omega)]
  · rw [e, decide_eq_false (by omega)]
    rcases (show i = 0 ∨ i = 1 ∨ i = 2 ∨ i = 3 by omega) with rfl | rfl | rfl | rfl <;> assumption
theorem pickO_of {s : SD} (hs : stateB s = true) {k : Int} (h1 : 1 ≤ k) (h3 : k ≤ 3) : pickO s k = firstP (canS (k.toNat - 1)) (3 ^ (k.toNat - 1)) s := by
  unfold pickO
  rw [hs, decide_eq_true h1, decide_eq_true h3]
  rfl
/-- Where no number of weighings is enough, one is not. -/
theorem finds2 {s : SD} (hs : stateB s = true) (hk : fewestI s = -1) : pickO s 1 = none := by
  rcases fewest_ways hs with ⟨e, -⟩ | ⟨e, -⟩ | ⟨e, -⟩ | ⟨e, -⟩ | ⟨-, h0, h1, -⟩
  · omega
  · omega
  · omega
  · omega
  rw [pickO_of hs (by omega) (by omega)]
  cases hp : firstP (canS ((1 : Int).toNat - 1)) (3 ^ ((1 : Int).toNat - 1)) s with
  | none => rfl
  | some q =>
    exfalso
    have hsome : (firstP (canS 0) (3 ^ 0) s).isSome = true := by
      have : firstP (canS 0) (3 ^ 0) s = some q := hp
      rw [this]; rfl
    rw [firstP_some] at hsome
    obtain ⟨a, b, c, d, e, f, h2, h3, h4, h5, h6⟩ := hsome
    have hn : canS 1 s = true := by
      rw [canS_succ]
      unfold fitB at h6
      simp only [List.all_cons, List.all_nil, Bool.and_true, Bool.and_eq_true, decide_eq_true_eq] at h6
      obtain ⟨⟨q0, q1, q2⟩, r0, r1, r2⟩ := h6
      have := after_counts s (natP a b c d e f)
      exact .inr ⟨by simp at q0 q1 q2 ⊢; omega, a, b, c, d, e, f, h2, h3, h4, h5, r0, r1, r2⟩
    rw [hn] at h1
    cases h1
/-- The first pick leads to states that need one weighing fewer. -/
theorem finds3 {s : SD} (hs : stateB s = true) (hk : 1 ≤ fewestI s) : ∃ p, pickO s (fewestI s) = some p ∧ pickB s p = true ∧ ∀ x : Int, (x = -1 ∨ x = 0 ∨ x = 1) → findB (afterS s p x) (fewestI s - 1) = true := by
  obtain ⟨-, hk3, -⟩ := finds0 hs
  obtain ⟨j, hj⟩ := Int.eq_ofNat_of_zero_le (show 0 ≤ fewestI s - 1 by omega)
  have hkj : fewestI s = ((j + 1 : Nat) : Int) := by omega
  have hc : canS (j + 1) s = true := by
    have := finds1 hs (j + 1) (by omega)
    unfold findB at this
    rw [hs, decide_eq_true (show (0 : Int) ≤ (j + 1 : Nat) by omega), decide_eq_true (show ((j + 1 : Nat) : Int) ≤ 3 by omega), decide_eq_true (by omega)] at this
    simpa using this
  have hn : ¬ countS s ≤ 1 := fun h => by have := (finds0 hs).2.2 h; omega
  rw [pickO_of hs hk hk3, hkj]
  simp only [Int.toNat_natCast, Nat.add_sub_cancel]
  unfold canS at hc
  rw [decide_eq_false hn, Bool.false_or, Bool.and_eq_true] at hc
  obtain ⟨p, hp⟩ := Option.isSome_iff_exists.1 hc.2
  obtain ⟨a, b, c, d, e, f, h1, h2, h3, rfl, h5, h6⟩ := firstP_got hp
  have hv := pick_valid hs h1 h2 h3 h5
  refine ⟨_, hp, hv, fun x hx => ?_⟩
  have hin : SIn s := stateB_iff.1 hs
  have hin0 := hin
  unfold SIn at hin0
  have hst : stateB (afterS s (goodsP (natP a b c d e f)) x) = true := by
    rw [stateB_iff, after_goods]
    exact after_in hin (by unfold PIn natP; simp only []; omega)
  unfold fitB at h6
  simp only [List.all_cons, List.all_nil, Bool.and_true, Bool.and_eq_true, decide_eq_true_eq] at h6
  unfold findB
  rw [hst, show ((j + 1 : Nat) : Int) - 1 = (j : Int) by omega, decide_eq_true (show (0 : Int) ≤ (j : Int) by omega), decide_eq_true (show (j : Int) ≤ 3 by omega), Int.toNat_natCast]
  rcases hx with rfl | rfl | rfl
  · rw [h6.2.2.2]; rfl
  · rw [h6.2.1]; rfl
  · rw [h6.2.2.1]; rfl
end Go.Proofs.YtlflblngbneacabDoor

/- The adversary, plainly: the outcome that leaves most cases, several weighings in a row, and how many cases are kept. No condition. -/
namespace Go.Proofs.YtlflblngbneacabDoor

/-- The outcome after which most cases are left, of several the least one. -/
def worst0 (s : SD) (p : PD) : Int := if countS (afterS s p (-1)) < countS (afterS s p 0) then 0 else -1
def worstI (s : SD) (p : PD) : Int := if countS (afterS s p (worst0 s p)) < countS (afterS s p 1) then 1 else worst0 s p
theorem worst_in (s : SD) (p : PD) : -1 ≤ worstI s p ∧ worstI s p ≤ 1 := by unfold worstI worst0; split <;> (try split) <;> omega
theorem worst_most (s : SD) (p : PD) : countS (afterS s p (-1)) ≤ countS (afterS s p (worstI s p)) ∧ countS (afterS s p 0) ≤ countS (afterS s p (worstI s p)) ∧ countS (afterS s p 1) ≤ countS (afterS s p (worstI s p)) := by
  unfold worstI
  split
  · rename_i h
    unfold worst0 at h
    split at h <;> omega
  · rename_i h
    unfold worst0 at h ⊢
    split at h
    · rename_i h2; rw [if_pos h2]; omega
    · rename_i h2; rw [if_neg h2]; omega
/-- An adversary keeps a third of the cases. -/
theorem worst_third (s : SD) (p : PD) : countS s ≤ 3 * countS (afterS s p (worstI s p)) := by
  have h := worst_most s p
  have := after_counts s p
  omega
def worstO (s : SD) (p : PD) : Option Int := if pickB s p = true then some (worstI s p) else none
def lostI (s : SD) (p : PD) : Int := if pickB s p = true then countS (afterS s p (worstI s p)) - Int.tdiv (countS s + 2) 3 else -1

/-- The weighings, one after the other: their outcomes, and the last state. -/
def playO : SD → List PD → Option (List Int × SD)
  | s, [] => some ([], s)
  | s, p :: l => if pickB s p = true then (playO (afterS s p (worstI s p)) l).map fun r => (worstI s p :: r.1, r.2) else none
def playR (s : SD) (l : List PD) : Option (List Int × SD) := if (stateB s && decide (l.length ≤ 10)) = true then playO s l else none
def casesLeftI (s : SD) (l : List PD) : Int := match playR s l with | some r => countS r.2 | none => -1
theorem playO_snoc (p : PD) : ∀ (l : List PD) (s : SD), playO s (l ++ [p]) = (playO s l).bind fun r => if pickB r.2 p = true then some (r.1 ++ [worstI r.2 p], afterS r.2 p (worstI r.2 p)) else none
  | [], s => by
    unfold playO
    simp only [List.nil_append, Option.bind_some]
    unfold playO
    split <;> rfl
  | q :: l, s => by
    rw [List.cons_append]
    unfold playO
    split
    · rw [playO_snoc p l]
      cases playO (afterS s q (worstI s q)) l with
      | none => rfl
      | some r =>
        simp only [Option.bind_some, Option.map_some]
        split <;> rfl
    · rfl
theorem playO_prefix_none {l m : List PD} : ∀ {s : SD}, playO s l = none → playO s (l ++ m) = none := by
  induction l with
  | nil => intro s h; cases h
  | cons q l ih =>
    intro s h
    rw [List.cons_append]
    unfold playO at h ⊢
    split
    · rename_i hp
      rw [if_pos hp] at h
      rw [Option.map_eq_none_iff] at h ⊢
      exact ih h
    · rfl
theorem playO_valid {l : List PD} : ∀ {s : SD} {r : List Int × SD}, stateB s = true → playO s l = some r → stateB r.2 = true ∧ r.1.length = l.length ∧ countS s ≤ 3 ^ l.length * countS r.2 := by
  induction l with
  | nil =>
    intro s r hs h
    cases h
    exact ⟨hs, rfl, by simp⟩
  | cons q l ih =>
    intro s r hs h
    unfold playO at h
    split at h
    · rename_i hp
      rw [Option.map_eq_some_iff] at h
      obtain ⟨r0, h0, rfl⟩ := h
      have hv : stateB (afterS s q (worstI s q)) = true := by
        rw [stateB_iff]
        have hin := stateB_iff.1 hs
        unfold pickB PD.list at hp
        simp only [List.all_cons, List.all_nil, Bool.and_eq_true, decide_eq_true_eq, Bool.and_true, cntB_iff] at hp
        refine after_in hin ?_
        unfold PIn
        omega
      obtain ⟨h1, h2, h3⟩ := ih hv h0
      refine ⟨h1, by simp [h2], ?_⟩
      have h4 := worst_third s q
      rw [List.length_cons, Int.pow_succ]
      have : (3 : Int) ^ l.length * 3 * countS r0.2 = 3 * (3 ^ l.length * countS r0.2) := by rw [Int.mul_comm ((3 : Int) ^ l.length) 3, Int.mul_assoc]
      simp only [this]
      omega
    · cases h
end Go.Proofs.YtlflblngbneacabDoor
