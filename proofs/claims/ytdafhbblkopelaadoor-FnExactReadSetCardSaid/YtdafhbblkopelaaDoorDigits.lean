/- The text of a set is the numerals of its items joined with nothing between them. No condition. -/
import Derived.Test.YtdafhbblkopelaaDoorSetPlain
import Derived.Test.YtdafhbblkopelaaDoorBitPlain
import Derived.Test.YtdafhbblkopelaaDoorJoinB
import Derived.Test.YtdafhbblkopelaaDoorFmt
namespace Go.Proofs.YtdafhbblkopelaaDoor
open Go.RowKit

theorem join_bare : ∀ xs : List (List UInt8), Lib.join xs [] = xs.flatten
  | [] => rfl
  | x :: r => by
    rw [Lib.join_cons]
    simp [Lib.joinTail]
theorem fmt_digit {k : Nat} (h : k ≤ 9) : fmtB (k : Int) = oneByte (48 + (k : Int)) := by
  unfold fmtB Lib.itoa
  rw [if_neg (by omega)]
  apply bytes_eq
  have e : ((k : Int)).toNat = k := Int.toNat_natCast k
  have e2 : (48 + (k : Int)).toNat = 48 + k := by omega
  simp [oneByte, e2, dec_small k (by omega), Nat.toUInt8, UInt8.ofNat]
/-- The numerals of some items. -/
def numL (l : List Nat) : List ByteArray := l.map fun (i : Nat) => fmtB (i : Int)
theorem bit_div (a k : Nat) : (((a : Int) / 2 ^ k % 2) = 1) ↔ a.testBit k = true := by
  have h2 : (2 : Int) ^ k = ((2 ^ k : Nat) : Int) := by simp
  rw [Nat.testBit_eq_decide_div_mod_eq, decide_eq_true_eq, h2]
  omega
theorem set_num {s : Int} (h0 : 0 ≤ s) : ∀ k, k ≤ 10 → ((numL (itsK s k)).map (·.data.toList)).flatten = (setC s k).data.toList ∧ (setC s k).size = (itsK s k).length
  | 0, _ => ⟨rfl, rfl⟩
  | k + 1, hk => by
    obtain ⟨ih, il⟩ := set_num h0 k (by omega)
    obtain ⟨a, rfl⟩ := Int.eq_ofNat_of_zero_le h0
    have hb := bit_div a k
    cases hc : a.testBit k with
    | true =>
      rw [setC_yes (hb.2 hc), itsK_yes (by rw [Int.toNat_natCast]; exact hc)]
      refine ⟨?_, ?_⟩
      · unfold numL at ih ⊢
        rw [List.map_append, List.map_append, List.flatten_append, ih, ByteArray.data_append, Array.toList_append, ← fmt_digit (show k ≤ 9 by omega)]
        simp
      · rw [ByteArray.size_append, oneByte_size, List.length_append, il]
        rfl
    | false =>
      rw [setC_no (by rw [hb, hc]; simp), itsK_no (by rw [Int.toNat_natCast]; exact hc)]
      exact ⟨ih, il⟩
theorem its_ten {s : Int} (h1 : s ≤ 1023) : itsL s = itsK s 10 := itsK_end (i := 10) (by omega) 53
theorem join_set {s : Int} (h0 : 0 ≤ s) (h1 : s ≤ 1023) : joinB (numL (itsL s)) ⟨#[]⟩ = setC s 10 := by
  apply bytes_eq
  show (Lib.join ((numL (itsL s)).map (·.data.toList)) ([] : List UInt8)).toArray.toList = _
  rw [join_bare, its_ten h1, (set_num h0 10 (Nat.le_refl _)).1]
theorem num_len (l : List Nat) : (numL l).length = l.length := by simp [numL]
/-- The text of the empty set, and of another one. -/
theorem setT_out {s : Int} (h : poolB 10 s = false) : setT s = ⟨#[]⟩ := by
  have e : topI 10 = 1023 := by decide
  unfold poolB at h
  rw [e] at h
  unfold setT
  rw [h]
  rfl
theorem setT_zero : setT 0 = ⟨#[45]⟩ := by decide +kernel
theorem setT_in {s : Int} (h0 : 0 < s) (h1 : s ≤ 1023) : setT s = setC s 10 ∧ 0 < (itsL s).length := by
  have hl : 0 < (itsL s).length := by
    obtain ⟨a, rfl⟩ := Int.eq_ofNat_of_zero_le (show 0 ≤ s by omega)
    obtain ⟨i, hi⟩ := Nat.exists_testBit_of_ne_zero (show a ≠ 0 by omega)
    have h63 : i < 63 := by
      by_cases hlt : i < 63
      · exact hlt
      · have : a.testBit i = false := Nat.testBit_lt_two_pow (Nat.lt_of_lt_of_le (show a < 2 ^ 10 by omega) (Nat.pow_le_pow_right (by decide) (by omega)))
        rw [this] at hi
        cases hi
    exact List.length_pos_of_mem (its_mem.2 ⟨h63, by rw [Int.toNat_natCast]; exact hi⟩)
  refine ⟨?_, hl⟩
  unfold setT
  rw [decide_eq_true (show 0 ≤ s by omega), decide_eq_true h1, if_pos (by rfl), if_neg]
  intro he
  have hs := (set_num (show 0 ≤ s by omega) 10 (Nat.le_refl _)).2
  rw [← its_ten h1] at hs
  have h3 := not_empty (setC s 10)
  rw [he, decide_eq_true (by omega)] at h3
  cases h3
end Go.Proofs.YtdafhbblkopelaaDoor
