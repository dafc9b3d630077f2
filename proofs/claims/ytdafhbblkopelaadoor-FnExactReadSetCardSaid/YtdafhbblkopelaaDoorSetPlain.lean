/- The texts of sets, plainly: the digits of the items, and the set of a text. No condition. -/
import Derived.Test.YtdafhbblkopelaaDoorPoolPlain
import Derived.Test.YtdafhbblkopelaaDoorGBase
namespace Go.Proofs.YtdafhbblkopelaaDoor
open Go.RowKit

/-- The digits of the first k items of a set. -/
def setC (s : Int) : Nat → ByteArray
  | 0 => ⟨#[]⟩
  | k + 1 => if s / 2 ^ k % 2 = 1 then setC s k ++ oneByte (48 + (k : Int)) else setC s k
def setT (s : Int) : ByteArray := if (decide (0 ≤ s) && decide (s ≤ 1023)) = true then (if (setC s 10).toList.isEmpty = true then ⟨#[45]⟩ else setC s 10) else ⟨#[]⟩
theorem setC_size (s : Int) : ∀ k, (setC s k).size ≤ k
  | 0 => Nat.le_refl _
  | k + 1 => by
    have := setC_size s k
    unfold setC
    split
    · rw [ByteArray.size_append, oneByte_size]; omega
    · omega
theorem setC_yes {s : Int} {k : Nat} (h : s / 2 ^ k % 2 = 1) : setC s (k + 1) = setC s k ++ oneByte (48 + (k : Int)) := by
  rw [setC, if_pos h]
theorem setC_no {s : Int} {k : Nat} (h : ¬ s / 2 ^ k % 2 = 1) : setC s (k + 1) = setC s k := by
  rw [setC, if_neg h]
/-- The set that the first k bytes of a text name. -/
def readI (t : ByteArray) : Nat → Int
  | 0 => 0
  | k + 1 => let z : Int := ((t.data.toList.getD k 0).toNat : Int)
    if (decide (48 ≤ z) && decide (z ≤ 57)) = true then orI (readI t k) (2 ^ (z - 48).toNat) else readI t k
theorem two_pow_512 : ∀ m : Nat, m ≤ 9 → (0 : Int) ≤ 2 ^ m ∧ (2 : Int) ^ m ≤ 512 := by decide
theorem readI_in (t : ByteArray) : ∀ k, 0 ≤ readI t k ∧ readI t k ≤ 1023
  | 0 => by unfold readI; omega
  | k + 1 => by
    have ih := readI_in t k
    unfold readI
    dsimp only
    split
    · rename_i h
      simp only [Bool.and_eq_true, decide_eq_true_eq] at h
      have := two_pow_512 ((((t.data.toList.getD k 0).toNat : Int) - 48).toNat) (by omega)
      exact or_in ih.1 ih.2 (by omega) (by omega)
    · exact ih
theorem readI_yes {t : ByteArray} {k : Nat} (hk : k < t.size) (h0 : ¬ (t[k].toNat : Int) < 48) (h1 : ¬ 57 < (t[k].toNat : Int)) : readI t (k + 1) = orI (readI t k) (2 ^ ((t[k].toNat : Int) - 48).toNat) := by
  have e : t.data.toList.getD k 0 = t[k] := by
    rw [List.getD_eq_getElem?_getD, List.getElem?_eq_getElem (by simpa using hk)]
    rfl
  rw [readI]
  rw [e, decide_eq_true (show (48 : Int) ≤ (t[k].toNat : Int) by omega), decide_eq_true (show (t[k].toNat : Int) ≤ 57 by omega)]
  rfl
theorem readI_no {t : ByteArray} {k : Nat} (hk : k < t.size) (h : (t[k].toNat : Int) < 48 ∨ 57 < (t[k].toNat : Int)) : readI t (k + 1) = readI t k := by
  have e : t.data.toList.getD k 0 = t[k] := by
    rw [List.getD_eq_getElem?_getD, List.getElem?_eq_getElem (by simpa using hk)]
    rfl
  rw [readI]
  rw [e, if_neg]
  simp only [Bool.and_eq_true, decide_eq_true_eq]
  omega
/-- Whether a text is one of a set, and of which. -/
def readB (t : ByteArray) : Bool := (setT (readI t t.size)).toList == t.toList
def readV (t : ByteArray) : Int := if readB t = true then readI t t.size else 0
end Go.Proofs.YtdafhbblkopelaaDoor
