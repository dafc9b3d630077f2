/- Plain facts on bytes, strings and lists, without any program. No condition. -/
import Derived.WalkKit
import Derived.Lib.Hide
namespace Go.Proofs.Ytfabcaodiohmaaa
open Go.RowKit

theorem ret_bool {a b : Bool} (h : a = b) : Ending.returned (.bool a) = .returned (.bool b) := by rw [h]
theorem ret_int {k : IntKind} {a b : Int} (h : a = b) : Ending.returned (.int k a) = .returned (.int k b) := by rw [h]

theorem val_int {k : IntKind} {a b : Int} (h : a = b) : Value.int k a = .int k b := by rw [h]

theorem bytes_eq {a b : ByteArray} (h : a.data.toList = b.data.toList) : a = b := ByteArray.ext (Array.toList_inj.1 h)

theorem not_empty (s : ByteArray) : (!s.toList.isEmpty) = decide (0 < s.size) := by
  rw [ByteArray.toList_eq s, Bool.eq_iff_iff]
  simp only [Bool.not_eq_true', List.isEmpty_eq_false_iff, decide_eq_true_eq, ne_eq]
  have hl : s.data.toList.length = s.size := by simp
  rw [← List.length_eq_zero_iff]
  omega

theorem all_take_succ {s : ByteArray} {k : Nat} (p : UInt8 → Bool) (h : k < s.size) (ht : (s.data.toList.take k).all p = true) (hk : p s[k] = true) : (s.data.toList.take (k + 1)).all p = true := by
  rw [List.take_succ_eq_append_getElem (by simpa using h), List.all_append, ht]
  simp only [List.all_cons, List.all_nil, Bool.and_true, Bool.true_and]
  exact hk

theorem all_false_at {s : ByteArray} {k : Nat} (p : UInt8 → Bool) (h : k < s.size) (hn : p s[k] = false) : s.data.toList.all p = false := by
  rw [List.all_eq_false]
  exact ⟨s[k], Array.getElem_mem_toList (xs := s.data) h, by simp [hn]⟩

/-! ### digits -/
def isDig (c : UInt8) : Bool := decide (48 ≤ (c.toNat : Int) ∧ (c.toNat : Int) ≤ 57)
def digitsB (s : ByteArray) : Bool := decide (0 < s.size) && s.data.toList.all isDig

theorem digitsB_at {s : ByteArray} {k : Nat} (h : k < s.size) (hn : isDig s[k] = false) : digitsB s = false := by
  simp [digitsB, all_false_at isDig h hn]

theorem digitsB_end {s : ByteArray} {k : Nat} (h : s.size ≤ k) (ht : (s.data.toList.take k).all isDig = true) : digitsB s = decide (0 < s.size) := by
  rw [List.take_of_length_le (by simpa using h)] at ht
  simp [digitsB, ht]

/-! ### names: 1 to 8 bytes, the first a small letter, the others small letters or digits -/
def isLow (c : UInt8) : Bool := decide (97 ≤ (c.toNat : Int) ∧ (c.toNat : Int) ≤ 122)
def nameAt (l : List UInt8) : Bool := match l with | [] => true | c :: r => isLow c && r.all (fun d => isLow d || isDig d)
def nameB (s : ByteArray) : Bool := decide (1 ≤ s.size) && decide (s.size ≤ 8) && nameAt s.data.toList

theorem nameAt_snoc (l : List UInt8) (c : UInt8) : nameAt (l ++ [c]) = (nameAt l && (isLow c || (!l.isEmpty && isDig c))) := by
  cases l with
  | nil => simp [nameAt]
  | cons a r => simp [nameAt, Bool.and_assoc]

theorem nameAt_prefix {l m : List UInt8} (h : nameAt (l ++ m) = true) : nameAt l = true := by
  cases l with
  | nil => rfl
  | cons a r =>
    simp only [List.cons_append, nameAt, List.all_append, Bool.and_eq_true] at h ⊢
    exact ⟨h.1, h.2.1⟩

theorem take_snoc (s : ByteArray) (k : Nat) (h : k < s.size) : s.data.toList.take (k + 1) = s.data.toList.take k ++ [s[k]] := by
  rw [List.take_succ_eq_append_getElem (by simpa using h)]; rfl

theorem name_step {s : ByteArray} {k : Nat} (h : k < s.size) (ht : nameAt (s.data.toList.take k) = true) (hk : isLow s[k] = true ∨ 0 < k ∧ isDig s[k] = true) : nameAt (s.data.toList.take (k + 1)) = true := by
  rw [take_snoc s k h, nameAt_snoc, ht, Bool.true_and, Bool.or_eq_true]
  rcases hk with hk | ⟨h0, hk⟩
  · exact .inl hk
  · refine .inr ?_
    rw [hk, Bool.and_true, Bool.not_eq_true', List.isEmpty_eq_false_iff]
    intro h1
    have h2 := congrArg List.length h1
    have h3 : s.data.toList.length = s.size := by simp
    rw [List.length_take, List.length_nil, h3] at h2
    omega

theorem name_bad {s : ByteArray} {k : Nat} (h : k < s.size) (h1 : isLow s[k] = false) (h2 : k = 0 ∨ isDig s[k] = false) : nameB s = false := by
  have hn : nameAt (s.data.toList.take (k + 1)) = false := by
    rw [take_snoc s k h, nameAt_snoc, h1, Bool.false_or]
    rcases h2 with rfl | h2
    · simp
    · simp [h2]
  cases hb : nameB s with
  | false => rfl
  | true =>
    simp only [nameB, Bool.and_eq_true] at hb
    have h3 := hb.2
    rw [← List.take_append_drop (k + 1) s.data.toList] at h3
    rw [nameAt_prefix h3] at hn
    cases hn

theorem name_end {s : ByteArray} {k : Nat} (h : s.size ≤ k) (ht : nameAt (s.data.toList.take k) = true) : nameB s = (decide (1 ≤ s.size) && decide (s.size ≤ 8)) := by
  rw [List.take_of_length_le (by simpa using h)] at ht
  simp [nameB, ht]
end Go.Proofs.Ytfabcaodiohmaaa
