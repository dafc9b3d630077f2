/- What the answers tell of a number that was chosen, plainly: it fits with at most one lie, no number fits in both ways, and it is found exactly if no other one fits. No condition. -/
import Derived.Test.YtnpmkoeceihepaaLiePlain
import Derived.Test.YtnpmkoeceihepaaBitPlain
namespace Go.Proofs.Ytnpmkoeceihepaa
open Go.RowKit

/-- The answers about number s of which the one of that number (from 1 on) is a lie. -/
def Told (s : Nat) (lie : Int) (P : List Int) (R : List Bool) : Prop :=
  R.length = P.length ∧ ∀ i, i < P.length → R.getD i false = ((bits .and .i64 (P.getD i 0) (2 ^ s) != 0) != (((i : Int) + 1) == lie))
theorem Told.nil (s : Nat) (lie : Int) : Told s lie [] [] := ⟨rfl, fun i h => by simp at h⟩
theorem getD_left {α : Type} {l m : List α} {i : Nat} {d : α} (h : i < l.length) : (l ++ m).getD i d = l.getD i d := by simp [List.getD, List.getElem?_append_left h]
theorem getD_last {α : Type} {l : List α} {x : α} {i : Nat} {d : α} (h : i = l.length) : (l ++ [x]).getD i d = x := by subst h; simp [List.getD]
theorem Told.snoc {s : Nat} {lie : Int} {P : List Int} {R : List Bool} (h : Told s lie P R) (x : Int) : Told s lie (P ++ [x]) (R ++ [((bits .and .i64 x (2 ^ s) != 0) != (((P.length : Int) + 1) == lie))]) := by
  obtain ⟨hl, h⟩ := h
  refine ⟨by simp [hl], fun i hi => ?_⟩
  by_cases e : i < P.length
  · rw [getD_left (by omega), getD_left e]
    exact h i e
  · obtain rfl : i = P.length := by simp at hi; omega
    rw [getD_last hl.symm, getD_last rfl]
theorem told_lies {s : Nat} {lie : Int} {P : List Int} {R : List Bool} (h : Told s lie P R) : ∀ j, j ≤ P.length → liesF P R s j ≤ if 1 ≤ lie ∧ lie ≤ (j : Int) then 1 else 0
  | 0, _ => by simp [liesF]
  | j + 1, hj => by
    have ih := told_lies h j (by omega)
    have ht := h.2 j (by omega)
    unfold liesF
    rw [ht]
    by_cases e : (j : Int) + 1 = lie
    · have e1 : (((j : Int) + 1) == lie) = true := by simp [e]
      rw [e1]
      have hne : ¬ (1 ≤ lie ∧ lie ≤ (j : Int)) := by omega
      have hyes : 1 ≤ lie ∧ lie ≤ ((j + 1 : Nat) : Int) := by omega
      rw [if_neg hne] at ih
      rw [if_pos hyes]
      split <;> omega
    · have e1 : (((j : Int) + 1) == lie) = false := by simp [e]
      rw [e1]
      have hn : ¬ ((bits .and .i64 (P.getD j 0) (2 ^ s) != 0) != ((bits .and .i64 (P.getD j 0) (2 ^ s) != 0) != false)) = true := by
        generalize (bits .and .i64 (P.getD j 0) (2 ^ s) != 0) = b
        cases b <;> decide
      rw [if_neg hn]
      split at ih
      · rename_i hc
        have hyes : 1 ≤ lie ∧ lie ≤ ((j + 1 : Nat) : Int) := by omega
        rw [if_pos hyes]; exact ih
      · split <;> omega
theorem told_le {s : Nat} {lie : Int} {P : List Int} {R : List Bool} (h : Told s lie P R) : liesF P R s P.length ≤ 1 := by
  have := told_lies h P.length (Nat.le_refl _)
  split at this <;> omega

/-- What fits, as a natural number. -/
def fitM (P : List Int) (R : List Bool) (c : Nat) : Nat → Nat
  | 0 => 0
  | k + 1 => if (liesF P R k P.length == c) = true then fitM P R c k ||| 2 ^ k else fitM P R c k
theorem fitM_lt (P : List Int) (R : List Bool) (c : Nat) : ∀ k, fitM P R c k < 2 ^ k
  | 0 => by simp [fitM]
  | k + 1 => by
    have ih := fitM_lt P R c k
    have h1 : fitM P R c k < 2 ^ (k + 1) := Nat.lt_trans ih (Nat.pow_lt_pow_right (by decide) (by omega))
    unfold fitM
    split
    · exact Nat.or_lt_two_pow h1 (Nat.pow_lt_pow_right (by decide) (by omega))
    · exact h1
theorem fitN_cast (P : List Int) (R : List Bool) (c : Nat) : ∀ k, k ≤ 8 → fitN P R c k = ((fitM P R c k : Nat) : Int)
  | 0, _ => rfl
  | k + 1, hk => by
    have ih := fitN_cast P R c k (by omega)
    have hl := fitM_lt P R c k
    have h2 : 2 ^ k ≤ 2 ^ 8 := Nat.pow_le_pow_right (by decide) (by omega)
    have h3 : (2 : Nat) ^ 8 = 256 := by decide
    unfold fitN fitM
    rw [ih]
    split
    · have h4 : (2 : Int) ^ k = ((2 ^ k : Nat) : Int) := by simp
      rw [h4]
      exact or_nat (by omega) (by omega)
    · rfl
theorem fitM_bit (P : List Int) (R : List Bool) (c : Nat) (i : Nat) : ∀ k, (fitM P R c k).testBit i = (decide (i < k) && (liesF P R i P.length == c))
  | 0 => by simp [fitM]
  | k + 1 => by
    have ih := fitM_bit P R c i k
    unfold fitM
    split
    · rename_i hc
      rw [Nat.testBit_or, ih, Nat.testBit_two_pow]
      by_cases e : k = i
      · subst e
        simp [hc]
      · rw [show (decide (i < k + 1)) = decide (i < k) by
          by_cases h : i < k
          · rw [decide_eq_true h, decide_eq_true (by omega)]
          · rw [decide_eq_false h, decide_eq_false (by omega)]]
        simp [e]
    · rename_i hc
      rw [ih]
      by_cases e : i = k
      · subst e
        have hf : (liesF P R i P.length == c) = false := by simpa using hc
        simp [hf]
      · rw [show (decide (i < k + 1)) = decide (i < k) by
          by_cases h : i < k
          · rw [decide_eq_true h, decide_eq_true (by omega)]
          · rw [decide_eq_false h, decide_eq_false (by omega)]]

/-! ### counting -/
theorem cnt_or : ∀ (f : Nat) (a b : Nat), a &&& b = 0 → cntF f ((a : Nat) : Int) + cntF f ((b : Nat) : Int) = cntF f (((a ||| b : Nat)) : Int)
  | 0, _, _, _ => rfl
  | f + 1, a, b, h => by
    have h2 : (a / 2) &&& (b / 2) = 0 := by rw [← Nat.and_div_two, h]
    have ih := cnt_or f (a / 2) (b / 2) h2
    rw [← Nat.or_div_two] at ih
    have hb0 : ¬ (a % 2 = 1 ∧ b % 2 = 1) := fun ⟨x, y⟩ => by
      have : (a &&& b).testBit 0 = true := by rw [Nat.testBit_and, Nat.testBit_zero, Nat.testBit_zero]; simp [x, y]
      rw [h] at this
      simp at this
    have hor : (a ||| b) % 2 = a % 2 + b % 2 := by
      have h0 : (a ||| b).testBit 0 = (a.testBit 0 || b.testBit 0) := Nat.testBit_or ..
      rw [Nat.testBit_zero, Nat.testBit_zero, Nat.testBit_zero] at h0
      have ha := Nat.mod_two_eq_zero_or_one a
      have hb := Nat.mod_two_eq_zero_or_one b
      have hc := Nat.mod_two_eq_zero_or_one (a ||| b)
      rcases ha with ha | ha <;> rcases hb with hb | hb <;> rcases hc with hc | hc <;> simp_all
    have e : ∀ x : Nat, cntF (f + 1) ((x : Nat) : Int) = ((x % 2 : Nat) : Int) + cntF f (((x / 2 : Nat)) : Int) := fun x => by
      show (if 0 < (x : Int) then (x : Int) % 2 + cntF f ((x : Int) / 2) else 0) = _
      by_cases hx : 0 < (x : Int)
      · rw [if_pos hx, Int.natCast_ediv, Int.natCast_emod]
        rfl
      · obtain rfl : x = 0 := by omega
        rw [if_neg hx]
        have : cntF f (((0 / 2 : Nat)) : Int) = 0 := cntF_none (by simp) f
        rw [this]; rfl
    rw [e a, e b, e (a ||| b), ← ih, hor]
    push_cast
    omega
theorem cnt_one : ∀ c : Nat, c < 256 → ∀ s : Nat, s < 8 → c.testBit s = true → (cntI ((c : Nat) : Int) == 1) = (c == 2 ^ s) := by decide +kernel

/-! ### what FnLies asks -/
theorem shr_bit {x : Int} {k : Nat} (h0 : 0 ≤ x) (h1 : x ≤ 9223372036854775807) : (bits .and .i64 (x / 2 ^ k) 1 == 1) = x.toNat.testBit k := by
  obtain ⟨a, rfl⟩ := Int.eq_ofNat_of_zero_le h0
  have h2 : ((a : Int) / 2 ^ k) = ((a / 2 ^ k : Nat) : Int) := by
    rw [Int.natCast_ediv]; simp
  have h3 : a / 2 ^ k ≤ a := Nat.div_le_self _ _
  have h4 : bits .and .i64 ((a / 2 ^ k : Nat) : Int) 1 = (((a / 2 ^ k) &&& 1 : Nat) : Int) := and_nat (b := 1) (by omega) (by decide)
  rw [h2, h4, Int.toNat_natCast, Nat.testBit_eq_decide_div_mod_eq, Nat.and_one_is_mod]
  generalize a / 2 ^ k = q
  have := Nat.mod_two_eq_zero_or_one q
  rcases this with e | e <;> rw [e] <;> rfl
structure LieFacts (n : Int) (P : List Int) (R : List Bool) (s : Nat) (A B : Int) : Prop where
  ok : asksB n P R = true
  a0 : 0 ≤ A
  a1 : A ≤ 255
  b0 : 0 ≤ B
  b1 : B ≤ 255
  apart : (bits .and .i64 A B != 0) = false
  holds : (bits .and .i64 (bits .or .i64 A B) (2 ^ s) == 0) = false
  found : foundB n P R = (bits .or .i64 A B == 2 ^ s)
  none : ∀ k : Nat, (k : Int) < n → (bits .and .i64 (A / 2 ^ k) 1 == 1) = (liesF P R k P.length == 0)
  one : ∀ k : Nat, (k : Int) < n → (bits .and .i64 (B / 2 ^ k) 1 == 1) = (liesF P R k P.length == 1)
theorem lie_facts {n : Int} {P : List Int} {R : List Bool} {s : Nat} {lie : Int} (hok : asksB n P R = true) (hs : (s : Int) < n) (ht : Told s lie P R) : LieFacts n P R s (fitI n P R 0) (fitI n P R 1) := by
  obtain ⟨⟨n1, n8⟩, -, -, -⟩ := asks_in hok
  have e0 : fitI n P R 0 = ((fitM P R 0 n.toNat : Nat) : Int) := by unfold fitI; rw [if_pos hok]; exact fitN_cast P R 0 _ (by omega)
  have e1 : fitI n P R 1 = ((fitM P R 1 n.toNat : Nat) : Int) := by unfold fitI; rw [if_pos hok]; exact fitN_cast P R 1 _ (by omega)
  have h28 : 2 ^ n.toNat ≤ 2 ^ 8 := Nat.pow_le_pow_right (by decide) (by omega)
  have h256 : (2 : Nat) ^ 8 = 256 := by decide
  have l0 := fitM_lt P R 0 n.toNat
  have l1 := fitM_lt P R 1 n.toNat
  have B0 := fun i => fitM_bit P R 0 i n.toNat
  have B1 := fun i => fitM_bit P R 1 i n.toNat
  have hd : fitM P R 0 n.toNat &&& fitM P R 1 n.toNat = 0 := Nat.eq_of_testBit_eq fun i => by
    rw [Nat.testBit_and, B0, B1, Nat.zero_testBit]
    generalize liesF P R i P.length = q
    by_cases e : q = 0
    · subst e; simp
    · have : (q == 0) = false := by simp [e]
      simp [this]
  have hle := told_le ht
  have hsb : (fitM P R 0 n.toNat ||| fitM P R 1 n.toNat).testBit s = true := by
    rw [Nat.testBit_or, B0, B1, decide_eq_true (show s < n.toNat by omega)]
    have : liesF P R s P.length = 0 ∨ liesF P R s P.length = 1 := by omega
    rcases this with e | e <;> rw [e] <;> rfl
  have hfo : foundB n P R = (cntI (((fitM P R 0 n.toNat ||| fitM P R 1 n.toNat : Nat)) : Int) == 1) := by
    unfold foundB
    rw [e0, e1, cntI, cntI, cnt_or 64 _ _ hd]
    rfl
  have hlor : fitM P R 0 n.toNat ||| fitM P R 1 n.toNat < 256 := by rw [← h256]; exact Nat.or_lt_two_pow (by omega) (by omega)
  rw [cnt_one _ hlor s (by omega) hsb] at hfo
  have hp : (2 : Int) ^ s = ((2 ^ s : Nat) : Int) := by simp
  have hor : bits .or .i64 (fitI n P R 0) (fitI n P R 1) = (((fitM P R 0 n.toNat ||| fitM P R 1 n.toNat : Nat)) : Int) := by
    rw [e0, e1]; exact or_nat (by omega) (by omega)
  generalize hM : fitM P R 0 n.toNat ||| fitM P R 1 n.toNat = M at hsb hfo hlor hor
  refine ⟨hok, by rw [e0]; omega, by rw [e0]; omega, by rw [e1]; omega, by rw [e1]; omega, ?_, ?_, ?_, fun k hk => ?_, fun k hk => ?_⟩
  · have : bits .and .i64 (fitI n P R 0) (fitI n P R 1) = ((0 : Nat) : Int) := by
      have h9 := and_nat (a := fitM P R 0 n.toNat) (b := fitM P R 1 n.toNat) (by omega) (by omega)
      rw [hd] at h9
      rw [e0, e1]
      exact h9
    rw [this]; rfl
  · have := has_bit (s := bits .or .i64 (fitI n P R 0) (fitI n P R 1)) (i := s) (by rw [hor]; omega) (by rw [hor]; omega) (by omega)
    rw [hor, Int.toNat_natCast, hsb] at this
    rw [hor]
    have h2 := (bne_iff_ne ..).1 this
    exact beq_eq_false_iff_ne.2 h2
  · rw [hfo, hor, hp]
    rw [Bool.eq_iff_iff, beq_iff_eq, beq_iff_eq]
    omega
  · rw [shr_bit (by rw [e0]; omega) (by rw [e0]; omega), e0, Int.toNat_natCast, B0, decide_eq_true (show k < n.toNat by omega), Bool.true_and]
  · rw [shr_bit (by rw [e1]; omega) (by rw [e1]; omega), e1, Int.toNat_natCast, B1, decide_eq_true (show k < n.toNat by omega), Bool.true_and]
/-- How the law counts the false answers. -/
theorem lies_step {n : Int} {P : List Int} {R : List Bool} (hok : asksB n P R = true) (k j : Nat) (hk : k ≤ 62) (hj : j < P.length) :
    liesF P R k (j + 1) = if ((bits .and .i64 ((P.getD j 0) / 2 ^ k) 1 == 1) != R.getD j false) = true then liesF P R k j + 1 else liesF P R k j := by
  have hx := (asks_in hok).2.2.2 (P.getD j 0) (by rw [show P.getD j 0 = P[j] by simp [List.getD, List.getElem?_eq_getElem hj]]; exact List.getElem_mem hj)
  rw [shr_bit hx.1 (by omega), ← has_bit hx.1 (by omega) hk]
  rfl
end Go.Proofs.Ytnpmkoeceihepaa
