/- What fits the answers, counted in whatever order they come: plain facts. No condition. -/
import Derived.Test.YtnpmkoeceihepaaLieTruth
import Derived.Test.YtnpmkoeceihepaaSureImpl
namespace Go.Proofs.Ytnpmkoeceihepaa
open Go.RowKit

/-- The asks of the first j that are answered yes, and no. -/
def yesL (P : List Int) (R : List Bool) : Nat → List Int
  | 0 => []
  | j + 1 => if R.getD j false = true then yesL P R j ++ [P.getD j 0] else yesL P R j
def noL (P : List Int) (R : List Bool) : Nat → List Int
  | 0 => []
  | j + 1 => if R.getD j false = true then noL P R j else noL P R j ++ [P.getD j 0]
theorem yes_no_len (P : List Int) (R : List Bool) : ∀ j, (yesL P R j).length + (noL P R j).length = j
  | 0 => rfl
  | j + 1 => by
    have := yes_no_len P R j
    unfold yesL noL
    split <;> simp <;> omega
theorem yes_le (P : List Int) (R : List Bool) (j : Nat) : (yesL P R j).length ≤ j := by have := yes_no_len P R j; omega
theorem no_le (P : List Int) (R : List Bool) (j : Nat) : (noL P R j).length ≤ j := by have := yes_no_len P R j; omega
theorem yes_mem {P : List Int} {R : List Bool} {p : Int} : ∀ j, j ≤ P.length → p ∈ yesL P R j → p ∈ P
  | 0, _, h => by cases h
  | j + 1, hj, h => by
    unfold yesL at h
    split at h
    · rcases List.mem_append.1 h with h | h
      · exact yes_mem j (by omega) h
      · rw [List.mem_singleton] at h
        rw [h, List.getD_eq_getElem?_getD, List.getElem?_eq_getElem (by omega : j < P.length)]
        exact List.getElem_mem _
    · exact yes_mem j (by omega) h
theorem no_mem {P : List Int} {R : List Bool} {p : Int} : ∀ j, j ≤ P.length → p ∈ noL P R j → p ∈ P
  | 0, _, h => by cases h
  | j + 1, hj, h => by
    unfold noL at h
    split at h
    · exact no_mem j (by omega) h
    · rcases List.mem_append.1 h with h | h
      · exact no_mem j (by omega) h
      · rw [List.mem_singleton] at h
        rw [h, List.getD_eq_getElem?_getD, List.getElem?_eq_getElem (by omega : j < P.length)]
        exact List.getElem_mem _
/-- How many of them are false for number i. -/
def cy (L : List Int) (i : Nat) : Nat := L.countP fun p => !(p.toNat.testBit i)
def cn (L : List Int) (i : Nat) : Nat := L.countP fun p => p.toNat.testBit i
theorem lies_count {P : List Int} {R : List Bool} (hP : ∀ p ∈ P, 0 ≤ p ∧ p ≤ 1023) {i : Nat} (hi : i ≤ 62) : ∀ j, j ≤ P.length → cy (yesL P R j) i + cn (noL P R j) i = liesF P R i j
  | 0, _ => rfl
  | j + 1, hj => by
    have ih := lies_count (R := R) hP hi j (by omega)
    have hm : P.getD j 0 ∈ P := by
      rw [List.getD_eq_getElem?_getD, List.getElem?_eq_getElem (by omega : j < P.length)]
      exact List.getElem_mem _
    have hb := has_bit (hP _ hm).1 (by have := (hP _ hm).2; omega) hi
    unfold yesL noL liesF
    rw [hb]
    generalize P.getD j 0 = p
    cases hr : R.getD j false with
    | true =>
      simp only [if_true]
      unfold cy at ih ⊢
      rw [List.countP_append, List.countP_singleton, ← ih]
      cases ht : p.toNat.testBit i with
      | true => simp
      | false => simp; omega
    | false =>
      simp only [Bool.false_eq_true, if_false]
      unfold cn at ih ⊢
      rw [List.countP_append, List.countP_singleton, ← ih]
      cases ht : p.toNat.testBit i with
      | true => simp; omega
      | false => simp

/-- What is left where so many answers are false for each number. -/
def LeftIs (n : Nat) (f : Nat → Nat) (x y : Int) : Prop :=
  ∃ a b : Nat, x = a ∧ y = b ∧ a < 2 ^ n ∧ b < 2 ^ n ∧ ∀ i, i < n → a.testBit i = (f i == 0) ∧ b.testBit i = (f i == 1)
theorem LeftIs.start {n : Nat} : LeftIs n (fun _ => 0) (2 ^ n - 1) 0 := by
  have hp : 0 < 2 ^ n := Nat.two_pow_pos n
  refine ⟨2 ^ n - 1, 0, ?_, rfl, by omega, hp, fun i hi => ⟨?_, ?_⟩⟩
  · rw [Int.natCast_sub hp]; push_cast; rfl
  · rw [Nat.testBit_two_pow_sub_one]; simpa using hi
  · simp
theorem not_bit {a t : Nat} (ha : a < 1024) (ht : t < 1024) (i : Nat) : ∃ c : Nat, bits .andNot .i64 (a : Int) (t : Int) = (c : Int) ∧ c ≤ a ∧ c.testBit i = (a.testBit i && !t.testBit i) := by
  obtain ⟨x, hx⟩ : ∃ x : BitVec 64, BitVec.ofInt 64 (a : Int) = x := ⟨_, rfl⟩
  obtain ⟨y, hy⟩ : ∃ y : BitVec 64, BitVec.ofInt 64 (t : Int) = y := ⟨_, rfl⟩
  have xa : x.toNat = a := by rw [← hx]; exact nat64 (by omega)
  have yb : y.toNat = t := by rw [← hy]; exact nat64 (by omega)
  have h2 : (x &&& ~~~y).toNat ≤ a := by rw [BitVec.toNat_and, xa]; exact Nat.and_le_left
  refine ⟨(x &&& ~~~y).toNat, ?_, h2, ?_⟩
  · show IntKind.i64.wrap ((BitVec.ofInt 64 (a : Int) &&& ~~~(BitVec.ofInt 64 (t : Int))).toNat : Nat) = _
    rw [hx, hy, IntKind.wrap_i64]
    omega
  · rw [BitVec.testBit_toNat, BitVec.getLsbD_and, BitVec.getLsbD_not, ← BitVec.testBit_toNat, ← BitVec.testBit_toNat, xa, yb]
    by_cases hi : i < 64
    · rw [decide_eq_true hi, Bool.true_and]
    · have : a.testBit i = false := Nat.testBit_lt_two_pow (Nat.lt_of_lt_of_le (show a < 2 ^ 10 by omega) (Nat.pow_le_pow_right (by decide) (by omega)))
      rw [this]
      rfl
theorem LeftIs.step {n : Nat} {f : Nat → Nat} {x y : Int} (h : LeftIs n f x y) (hn : n ≤ 8) {t : Nat} (ht : t < 2 ^ n) :
    LeftIs n (fun i => f i + if t.testBit i = true then 0 else 1) (bits .and .i64 x t) (bits .or .i64 (bits .and .i64 y t) (bits .andNot .i64 x t)) := by
  obtain ⟨a, b, rfl, rfl, ha, hb, hf⟩ := h
  have h256 : 2 ^ n ≤ 256 := Nat.pow_le_pow_right (by decide) hn
  obtain ⟨c, hc, hca, -⟩ := not_bit (a := a) (t := t) (by omega) (by omega) 0
  have hcb : ∀ i, c.testBit i = (a.testBit i && !t.testBit i) := fun i => by
    obtain ⟨c', hc', -, hb'⟩ := not_bit (a := a) (t := t) (by omega) (by omega) i
    rw [hc] at hc'
    have : c = c' := by omega
    rw [this]; exact hb'
  have h1 : bits .and .i64 (a : Int) (t : Int) = ((a &&& t : Nat) : Int) := and_nat (by omega) (by omega)
  have h2 : bits .and .i64 (b : Int) (t : Int) = ((b &&& t : Nat) : Int) := and_nat (by omega) (by omega)
  have hbt : b &&& t ≤ b := Nat.and_le_left
  have h3 : bits .or .i64 ((b &&& t : Nat) : Int) (c : Int) = (((b &&& t) ||| c : Nat) : Int) := or_nat (by omega) (by omega)
  refine ⟨a &&& t, (b &&& t) ||| c, h1, by rw [h2, hc, h3], Nat.lt_of_le_of_lt Nat.and_le_left ha, Nat.or_lt_two_pow (by omega) (by omega), fun i hi => ?_⟩
  obtain ⟨e0, e1⟩ := hf i hi
  rw [Nat.testBit_and, Nat.testBit_or, Nat.testBit_and, hcb, e0, e1]
  simp only []
  generalize t.testBit i = tb
  generalize f i = m
  cases tb with
  | true => simp
  | false =>
    rcases m with _ | k
    · exact ⟨rfl, rfl⟩
    · simp
theorem LeftIs.congr {n : Nat} {f g : Nat → Nat} {x y : Int} (h : LeftIs n f x y) (hg : ∀ i, i < n → f i = g i) : LeftIs n g x y := by
  obtain ⟨a, b, rfl, rfl, ha, hb, hf⟩ := h
  exact ⟨a, b, rfl, rfl, ha, hb, fun i hi => by rw [← hg i hi]; exact hf i hi⟩
/-- An ask that is answered yes, and one that is answered no. -/
theorem LeftIs.yes {n : Nat} {L M : List Int} {x y p : Int} (h : LeftIs n (fun i => cy L i + cn M i) x y) (hn : n ≤ 8) (h0 : 0 ≤ p) (h1 : p ≤ 2 ^ n - 1) :
    LeftIs n (fun i => cy (L ++ [p]) i + cn M i) (bits .and .i64 x p) (bits .or .i64 (bits .and .i64 y p) (bits .andNot .i64 x p)) := by
  obtain ⟨t, rfl⟩ := Int.eq_ofNat_of_zero_le h0
  have ht : t < 2 ^ n := by
    have : ((2 ^ n : Nat) : Int) = (2 : Int) ^ n := by push_cast; rfl
    omega
  refine (h.step hn ht).congr fun i _ => ?_
  unfold cy cn
  rw [List.countP_append, List.countP_singleton, Int.toNat_natCast]
  cases t.testBit i <;> simp <;> omega
theorem LeftIs.no {n : Nat} {L M : List Int} {x y p : Int} (h : LeftIs n (fun i => cy L i + cn M i) x y) (hn : n ≤ 8) (h0 : 0 ≤ p) (h1 : p ≤ 2 ^ n - 1) :
    LeftIs n (fun i => cy L i + cn (M ++ [p]) i) (bits .and .i64 x (bits .andNot .i64 (2 ^ n - 1) p)) (bits .or .i64 (bits .and .i64 y (bits .andNot .i64 (2 ^ n - 1) p)) (bits .andNot .i64 x (bits .andNot .i64 (2 ^ n - 1) p))) := by
  obtain ⟨t, rfl⟩ := Int.eq_ofNat_of_zero_le h0
  have hp : 0 < 2 ^ n := Nat.two_pow_pos n
  have h256 : 2 ^ n ≤ 256 := Nat.pow_le_pow_right (by decide) hn
  have hc : (2 : Int) ^ n - 1 = ((2 ^ n - 1 : Nat) : Int) := by rw [Int.natCast_sub hp]; push_cast; rfl
  rw [hc] at h1 ⊢
  have key : ∀ i, ∃ c : Nat, bits .andNot .i64 ((2 ^ n - 1 : Nat) : Int) (t : Int) = (c : Int) ∧ c ≤ 2 ^ n - 1 ∧ c.testBit i = ((2 ^ n - 1).testBit i && !t.testBit i) := fun i => not_bit (by omega) (by omega) i
  obtain ⟨c, e, hcl, -⟩ := key 0
  rw [e]
  refine (h.step hn (t := c) (by omega)).congr fun i hi => ?_
  have hb : c.testBit i = !t.testBit i := by
    obtain ⟨c', e', -, hb⟩ := key i
    rw [e] at e'
    have : c = c' := by omega
    rw [this, hb, Nat.testBit_two_pow_sub_one, decide_eq_true hi, Bool.true_and]
  rw [hb]
  unfold cy cn
  rw [List.countP_append, List.countP_singleton, Int.toNat_natCast]
  cases t.testBit i <;> simp <;> omega
/-- When all asks are taken, what is left is what fits. -/
theorem LeftIs.fits {n : Int} {P : List Int} {R : List Bool} {x y : Int} (hok : asksB n P R = true) (h : LeftIs n.toNat (fun i => cy (yesL P R P.length) i + cn (noL P R P.length) i) x y) :
    x = fitI n P R 0 ∧ y = fitI n P R 1 := by
  obtain ⟨⟨n1, n8⟩, -, -, hP⟩ := asks_in hok
  obtain ⟨a, b, rfl, rfl, ha, hb, hf⟩ := h
  have hfit : ∀ c, fitI n P R c = ((fitM P R c n.toNat : Nat) : Int) := fun c => by
    unfold fitI
    rw [if_pos hok, fitN_cast _ _ _ _ (by omega)]
  have key : ∀ (c m : Nat), m < 2 ^ n.toNat → (∀ i, i < n.toNat → m.testBit i = (cy (yesL P R P.length) i + cn (noL P R P.length) i == c)) → (m : Int) = fitI n P R c := fun c m hm hb => by
    rw [hfit]
    congr 1
    refine Nat.eq_of_testBit_eq fun i => ?_
    rw [fitM_bit]
    by_cases hi : i < n.toNat
    · rw [hb i hi, lies_count hP (by omega) _ (Nat.le_refl _), decide_eq_true hi, Bool.true_and]
    · rw [decide_eq_false hi, Bool.false_and]
      exact Nat.testBit_lt_two_pow (Nat.lt_of_lt_of_le hm (Nat.pow_le_pow_right (by decide) (by omega)))
  exact ⟨key 0 a ha fun i hi => (hf i hi).1, key 1 b hb fun i hi => (hf i hi).2⟩
end Go.Proofs.Ytnpmkoeceihepaa
