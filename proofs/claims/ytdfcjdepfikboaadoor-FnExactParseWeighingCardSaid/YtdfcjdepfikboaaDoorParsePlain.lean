/- Plain facts on decimal numerals: what a row of digits spells, and that a text has at most one number whose numeral it is. No condition. -/
import Derived.Test.YtdfcjdepfikboaaDoorFmt
import Derived.Test.YtdfcjdepfikboaaDoorDig
import Derived.Lib.AtoiAll
import Derived.Lib.AtoiAllCases
namespace Go.Proofs.YtdfcjdepfikboaaDoor
open Go.RowKit

/-- What a row of digits spells. -/
def val (l : List UInt8) : Nat := l.foldl (fun a c => 10 * a + (c.toNat - 48)) 0
theorem val_snoc (l : List UInt8) (c : UInt8) : val (l ++ [c]) = 10 * val l + (c.toNat - 48) := by simp [val, List.foldl_append]
theorem fold_ge (r : List UInt8) : ∀ a : Nat, a ≤ r.foldl (fun a c => 10 * a + (c.toNat - 48)) a := by
  induction r with
  | nil => intro a; exact Nat.le_refl _
  | cons c r ih =>
    intro a
    have := ih (10 * a + (c.toNat - 48))
    simp only [List.foldl_cons]
    omega
theorem val_prefix (l : List UInt8) (k : Nat) : val (l.take k) ≤ val l := by
  have h := fold_ge (l.drop k) (val (l.take k))
  have e : (l.drop k).foldl (fun a c => 10 * a + (c.toNat - 48)) (val (l.take k)) = val l := by
    unfold val
    rw [← List.foldl_append, List.take_append_drop]
  omega
theorem digit_nat (m : Nat) (h : m < 10) : (UInt8.ofNat (48 + m)).toNat = 48 + m := by
  simp
  omega
theorem val_dec (u : Nat) : val (Lib.decDigits u) = u := by
  induction u using Nat.strongRecOn with
  | _ u ih =>
    by_cases h : u < 10
    · rw [dec_small u h]
      show 10 * 0 + ((UInt8.ofNat (48 + u)).toNat - 48) = u
      rw [digit_nat u h]
      omega
    · rw [dec_big u h, val_snoc, ih (u / 10) (by omega), digit_nat (u % 10) (by omega)]
      omega
theorem dec_digit (u : Nat) : ∀ c ∈ Lib.decDigits u, 48 ≤ c.toNat ∧ c.toNat ≤ 57 := by
  induction u using Nat.strongRecOn with
  | _ u ih =>
    by_cases h : u < 10
    · rw [dec_small u h]
      intro c hc
      rw [List.mem_singleton] at hc
      rw [hc, digit_nat u h]
      omega
    · rw [dec_big u h]
      intro c hc
      rcases List.mem_append.1 hc with hc | hc
      · exact ih (u / 10) (by omega) c hc
      · rw [List.mem_singleton] at hc
        rw [hc, digit_nat (u % 10) (by omega)]
        omega
theorem dec_len (k : Nat) : ∀ u, u < 10 ^ (k + 1) → (Lib.decDigits u).length ≤ k + 1 := by
  induction k with
  | zero =>
    intro u h
    rw [dec_small u (by simpa using h)]
    simp
  | succ k ih =>
    intro u h
    by_cases hu : u < 10
    · rw [dec_small u hu]
      simp
    · rw [dec_big u hu, List.length_append]
      have := ih (u / 10) (by rw [Nat.pow_succ] at h; omega)
      simp
      omega
theorem dec_ne (u : Nat) : Lib.decDigits u ≠ [] := by
  by_cases h : u < 10
  · rw [dec_small u h]; simp
  · rw [dec_big u h]; simp

def inR (n : Int) : Prop := -9223372036854775808 ≤ n ∧ n ≤ 9223372036854775807

theorem fmtB_list (n : Int) : (fmtB n).data.toList = Lib.itoa n := rfl

/-- The number of a text: r and true, or 0 and false. -/
def IsAns (s : ByteArray) (r : Int) (b : Bool) : Prop := (b = true ∧ inR r ∧ fmtB r = s) ∨ (b = false ∧ r = 0 ∧ ∀ n, inR n → fmtB n ≠ s)

/-- A function gives back the number of a text. -/
def Ans (s : ByteArray) (w : World) (e : Ending) (w' : World) : Prop := ∃ r b, e = .returned (.tuple #[.int .i64 r, .bool b]) ∧ IsAns s r b ∧ Below w.heap.size w w'

theorem fmt_inj {n m : Int} (h : fmtB n = fmtB m) : n = m := by
  have h1 : Lib.itoa n = Lib.itoa m := congrArg (fun x : ByteArray => x.data.toList) h
  unfold Lib.itoa at h1
  have hd : ∀ u v : Nat, Lib.decDigits u = Lib.decDigits v → u = v := fun u v e => by
    have := congrArg val e
    rwa [val_dec, val_dec] at this
  have hx : ∀ u v : Nat, 45 :: Lib.decDigits u ≠ Lib.decDigits v := fun u v e => by
    have := dec_digit v 45 (by rw [← e]; simp)
    have e2 : (45 : UInt8).toNat = 45 := rfl
    omega
  split at h1
  · split at h1
    · have := hd _ _ (List.cons.inj h1).2
      omega
    · exact absurd h1 (hx _ _)
  · split at h1
    · exact absurd h1.symm (hx _ _)
    · have := hd _ _ h1
      omega

theorem ans_unique {s : ByteArray} {r r' : Int} {b b' : Bool} (h : IsAns s r b) (h' : IsAns s r' b') : r = r' ∧ b = b' := by
  rcases h with ⟨rfl, h1, h2⟩ | ⟨rfl, rfl, h1⟩
  · rcases h' with ⟨rfl, h3, h4⟩ | ⟨rfl, rfl, h3⟩
    · exact ⟨fmt_inj (h2.trans h4.symm), rfl⟩
    · exact absurd h2 (h3 _ h1)
  · rcases h' with ⟨rfl, h3, h4⟩ | ⟨rfl, rfl, h3⟩
    · exact absurd h4 (h1 _ h3)
    · exact ⟨rfl, rfl⟩

/-- A text whose first byte is no '-': its number is not negative. -/
theorem fmt_plain {s : ByteArray} {n : Int} (h : fmtB n = s) (hn : ∀ c, s.data.toList.head? = some c → c.toNat ≠ 45) : 0 ≤ n ∧ s.data.toList = Lib.decDigits n.toNat := by
  have h1 : Lib.itoa n = s.data.toList := congrArg (fun x : ByteArray => x.data.toList) h
  unfold Lib.itoa at h1
  split at h1
  · exact absurd rfl (hn 45 (by rw [← h1]; rfl))
  · exact ⟨by omega, h1.symm⟩
theorem fmt_minus {s : ByteArray} {n : Int} {r : List UInt8} {c : UInt8} (h : fmtB n = s) (hs : s.data.toList = c :: r) (hc : c.toNat = 45) : n < 0 ∧ r = Lib.decDigits n.natAbs := by
  have h1 : Lib.itoa n = s.data.toList := congrArg (fun x : ByteArray => x.data.toList) h
  unfold Lib.itoa at h1
  rw [hs] at h1
  split at h1
  · exact ⟨by omega, (List.cons.inj h1).2.symm⟩
  · have := dec_digit n.toNat c (by rw [h1]; simp)
    omega

/-- The digits t are those of no number up to the bound. -/
theorem no_digits {t : ByteArray} (h : digitsB t = false) (u : Nat) : t.data.toList ≠ Lib.decDigits u := by
  intro e
  have h1 : digitsB t = true := by
    unfold digitsB
    rw [Bool.and_eq_true]
    refine ⟨decide_eq_true ?_, ?_⟩
    · have hl : t.data.toList.length = t.size := by simp
      have := List.length_pos_iff.2 (dec_ne u)
      rw [← e] at this
      omega
    · rw [e, List.all_eq_true]
      intro c hc
      have := dec_digit u c hc
      unfold isDig
      exact decide_eq_true (by omega)
  rw [h] at h1
  cases h1
theorem no_long {t : ByteArray} (h : 19 < t.size) (u : Nat) (hu : u ≤ 9223372036854775808) : t.data.toList ≠ Lib.decDigits u := by
  intro e
  have h1 := dec_len 18 u (by have : (10 : Nat) ^ (18 + 1) = 10000000000000000000 := by decide
                              omega)
  rw [← e] at h1
  have hl : t.data.toList.length = t.size := by simp
  omega
theorem no_over {t : ByteArray} {k : Nat} (h : 9223372036854775808 < val (t.data.toList.take k)) (u : Nat) (hu : u ≤ 9223372036854775808) : t.data.toList ≠ Lib.decDigits u := by
  intro e
  have h1 := val_prefix t.data.toList k
  have h2 := congrArg val e
  rw [val_dec] at h2
  omega

theorem digits_at {t : ByteArray} (h : digitsB t = true) : ∀ i (hi : i < t.size), (48 : Int) ≤ (t[i].toNat : Int) ∧ (t[i].toNat : Int) ≤ 57 := by
  intro i hi
  unfold digitsB at h
  rw [Bool.and_eq_true, List.all_eq_true] at h
  have := h.2 t[i] (Array.getElem_mem_toList (xs := t.data) hi)
  unfold isDig at this
  exact of_decide_eq_true this

/-- The least int, a digit added, divided by ten: towards 0. -/
theorem quo_bounds (d : Int) (h0 : 0 ≤ d) (h1 : d ≤ 9) : 10 * ((-9223372036854775808 + d).tdiv 10) ≥ -9223372036854775808 + d ∧ 10 * ((-9223372036854775808 + d).tdiv 10) < -9223372036854775808 + d + 10 := by
  have e : (-9223372036854775808 + d) = -(9223372036854775808 - d) := by omega
  rw [e, Int.neg_tdiv, Int.tdiv_eq_ediv_of_nonneg (by omega)]
  omega
end Go.Proofs.YtdfcjdepfikboaaDoor
