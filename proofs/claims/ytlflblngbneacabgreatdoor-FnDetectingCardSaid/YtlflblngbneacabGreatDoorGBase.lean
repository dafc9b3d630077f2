/- Several texts in one file; each says what it proves and under which condition. No condition. -/
import Derived.WalkKit
import Derived.Lib.Hide
import Derived.Test.YtlflblngbneacabGreatDoorProg
import Derived.WalkSpells
import Derived.WalkLawsBesides
import Derived.Laws.IdiomStrings
import Derived.BigQuiet
import Derived.Deep.QuietTactic
import Derived.Maps.AppendAt
import Derived.Maps.RangeWalk
import Derived.OwnWalk
import Derived.IntWalk
import Derived.ChangeSlices
import Derived.Deep.RegionHeld3
import Derived.Deep.RegionWith
import Derived.Lib.SmallJoins
/- Plain facts on bytes, strings and lists, without any program. No condition. -/
namespace Go.Proofs.YtlflblngbneacabGreatDoor
open Go.RowKit

theorem ret_bool {a b : Bool} (h : a = b) : Ending.returned (.bool a) = .returned (.bool b) := by rw [h]
theorem ret_int {k : IntKind} {a b : Int} (h : a = b) : Ending.returned (.int k a) = .returned (.int k b) := by rw [h]

theorem val_int {k : IntKind} {a b : Int} (h : a = b) : Value.int k a = .int k b := by rw [h]

theorem bytes_eq {a b : ByteArray} (h : a.data.toList = b.data.toList) : a = b := ByteArray.ext (Array.toList_inj.1 h)

theorem not_empty (s : ByteArray) : (!s.toList.isEmpty) = decide (0 < s.size) := by
  rw [ByteArray.toList_eq s, Bool.eq_iff_iff]
  simp only [Bool.not_eq_true', List.isEmpty_eq_false_iff, decide_eq_true_eq, ne_eq]
  have hl : s.data.toList.length = s.size := by simp
  rw [← List.length_eq_zero_iff]
  omega

theorem all_take_succ {s : ByteArray} {k : Nat} (p : UInt8 → Bool) (h : k < s.size) (ht : (s.data.toList.take k).all p = true) (hk : p s[k] = true) : (s.data.toList.take (k + 1)).all p = true := by
  rw [List.take_succ_eq_append_getElem (by simpa using h), List.all_append, ht]
  simp only [List.all_cons, List.all_nil, Bool.and_true, Bool.true_and]
  exact hk

theorem all_false_at {s : ByteArray} {k : Nat} (p : UInt8 → Bool) (h : k < s.size) (hn : p s[k] = false) : s.data.toList.all p = false := by
  rw [List.all_eq_false]
  exact ⟨s[k], Array.getElem_mem_toList (xs := s.data) h, by simp [hn]⟩

/-! ### digits -/
def isDig (c : UInt8) : Bool := decide (48 ≤ (c.toNat : Int) ∧ (c.toNat : Int) ≤ 57)
def digitsB (s : ByteArray) : Bool := decide (0 < s.size) && s.data.toList.all isDig

theorem digitsB_at {s : ByteArray} {k : Nat} (h : k < s.size) (hn : isDig s[k] = false) : digitsB s = false := by
  simp [digitsB, all_false_at isDig h hn]

theorem digitsB_end {s : ByteArray} {k : Nat} (h : s.size ≤ k) (ht : (s.data.toList.take k).all isDig = true) : digitsB s = decide (0 < s.size) := by
  rw [List.take_of_length_le (by simpa using h)] at ht
  simp [digitsB, ht]

/-! ### names: 1 to 8 bytes, the first a small letter, the others small letters or digits -/
def isLow (c : UInt8) : Bool := decide (97 ≤ (c.toNat : Int) ∧ (c.toNat : Int) ≤ 122)
def nameAt (l : List UInt8) : Bool := match l with | [] => true | c :: r => isLow c && r.all (fun d => isLow d || isDig d)
def nameB (s : ByteArray) : Bool := decide (1 ≤ s.size) && decide (s.size ≤ 8) && nameAt s.data.toList

theorem nameAt_snoc (l : List UInt8) (c : UInt8) : nameAt (l ++ [c]) = (nameAt l && (isLow c || (!l.isEmpty && isDig c))) := by
  cases l with
  | nil => simp [nameAt]
  | cons a r => simp [nameAt, Bool.and_assoc]

theorem nameAt_prefix {l m : List UInt8} (h : nameAt (l ++ m) = true) : nameAt l = true := by
  cases l with
  | nil => rfl
  | cons a r =>
    simp only [List.cons_append, nameAt, List.all_append, Bool.and_eq_true] at h ⊢
    exact ⟨h.1, h.2.1⟩

theorem take_snoc (s : ByteArray) (k : Nat) (h : k < s.size) : s.data.toList.take (k + 1) = s.data.toList.take k ++ [s[k]] := by
  rw [List.take_succ_eq_append_getElem (by simpa using h)]; rfl

theorem name_step {s : ByteArray} {k : Nat} (h : k < s.size) (ht : nameAt (s.data.toList.take k) = true) (hk : isLow s[k] = true ∨ 0 < k ∧ isDig s[k] = true) : nameAt (s.data.toList.take (k + 1)) = true := by
  rw [take_snoc s k h, nameAt_snoc, ht, Bool.true_and, Bool.or_eq_true]
  rcases hk with hk | ⟨h0, hk⟩
  · exact .inl hk
  · refine .inr ?_
    rw [hk, Bool.and_true, Bool.not_eq_true', List.isEmpty_eq_false_iff]
    intro h1
    have h2 := congrArg List.length h1
    have h3 : s.data.toList.length = s.size := by simp
    rw [List.length_take, List.length_nil, h3] at h2
    omega

theorem name_bad {s : ByteArray} {k : Nat} (h : k < s.size) (h1 : isLow s[k] = false) (h2 : k = 0 ∨ isDig s[k] = false) : nameB s = false := by
  have hn : nameAt (s.data.toList.take (k + 1)) = false := by
    rw [take_snoc s k h, nameAt_snoc, h1, Bool.false_or]
    rcases h2 with rfl | h2
    · simp
    · simp [h2]
  cases hb : nameB s with
  | false => rfl
  | true =>
    simp only [nameB, Bool.and_eq_true] at hb
    have h3 := hb.2
    rw [← List.take_append_drop (k + 1) s.data.toList] at h3
    rw [nameAt_prefix h3] at hn
    cases hn

theorem name_end {s : ByteArray} {k : Nat} (h : s.size ≤ k) (ht : nameAt (s.data.toList.take k) = true) : nameB s = (decide (1 ≤ s.size) && decide (s.size ≤ 8)) := by
  rw [List.take_of_length_le (by simpa using h)] at ht
  simp [nameB, ht]
end Go.Proofs.YtlflblngbneacabGreatDoor

/- A slice of one byte as a string. Condition: the byte's number is from 0 to 255. -/
namespace Go.Proofs.YtlflblngbneacabGreatDoor
open Go.RowKit

def oneByte (n : Int) : ByteArray := ⟨#[n.toNat.toUInt8]⟩
theorem oneByte_size (n : Int) : (oneByte n).size = 1 := rfl

theorem conv_one (w : World) (n : Int) (h0 : 0 ≤ n) (h1 : n ≤ 255) :
    (convert 22 9 (.slice (some ⟨w.heap.size, 0, none⟩) 1 1)).run Tryz.prog (w.alloc (.cells #[.int .u8 n] 5)) = .ok (.string (oneByte n)) (w.alloc (.cells #[.int .u8 n] 5)) := by
  have := run_convert_bytes_back (P := Tryz.prog) (w.alloc (.cells #[.int .u8 n] 5)) 22 9 5 ⟨w.heap.size, 0, none⟩ 1 [n.toNat.toUInt8] Tryz.underlying22 Tryz.underlying5 Tryz.underlying9 (by
    intro j hj
    match j, hj with
    | 0, _ =>
      simp [Addr.add]
      omega)
  exact this

theorem ret_str {a b : ByteArray} (h : a = b) : Ending.returned (.string a) = .returned (.string b) := by rw [h]

theorem conv_at (W : World) (b : Nat) (n : Int) (h0 : 0 ≤ n) (h1 : n ≤ 255) (hc : W.cell? ⟨b, 0, none⟩ = some (.int .u8 n)) :
    (convert 22 9 (.slice (some ⟨b, 0, none⟩) 1 1)).run Tryz.prog W = .ok (.string (oneByte n)) W := by
  have := run_convert_bytes_back (P := Tryz.prog) W 22 9 5 ⟨b, 0, none⟩ 1 [n.toNat.toUInt8] Tryz.underlying22 Tryz.underlying5 Tryz.underlying9 (by
    intro j hj
    match j, hj with
    | 0, _ =>
      simp [Addr.add, hc]
      omega)
  exact this

theorem bcell {W w1 : World} (hb : Below W.heap.size W w1) : (∀ b o, b < W.heap.size → w1.cell? ⟨b, o, none⟩ = W.cell? ⟨b, o, none⟩) ∧ (∀ b o, b < W.heap.size → w1.frozen? ⟨b, o, none⟩ = W.frozen? ⟨b, o, none⟩) :=
  ⟨fun b o h => hb.cell (p := ⟨b, o, none⟩) h, fun b o h => hb.frozen (p := ⟨b, o, none⟩) h⟩
end Go.Proofs.YtlflblngbneacabGreatDoor

/- Facts on slices of strings in memory: one that reads as a list, one of the call's own, and what stays. No condition. -/
namespace Go.Proofs.YtlflblngbneacabGreatDoor
open Go.RowKit

/-- The slice value v reads as the strings l in the world w. -/
def StrsAt (w : World) (v : Value) (l : List ByteArray) : Prop :=
  ∃ a cap, v = .slice a l.length cap ∧ (l = [] ∨ ∃ b off, a = some ⟨b, off, none⟩ ∧ ∀ i (h : i < l.length), w.cell? ⟨b, off + i, none⟩ = some (.string l[i]))

theorem StrsAt.below {w w' : World} {v : Value} {l : List ByteArray} (h : StrsAt w v l) (hb : Below w.heap.size w w') : StrsAt w' v l := by
  obtain ⟨a, cap, rfl, h⟩ := h
  refine ⟨a, cap, rfl, ?_⟩
  rcases h with h | ⟨b, off, rfl, hc⟩
  · exact .inl h
  · refine .inr ⟨b, off, rfl, fun i hi => ?_⟩
    have hlt := World.block_lt_of_cell? w _ (hc i hi)
    rw [hb.cell (p := ⟨b, off + i, none⟩) hlt]
    exact hc i hi

theorem StrsAt.of_owns {w : World} {B e : Nat} {v : Value} {l : List ByteArray} (h : w.ownsRow B e 1 v l.length (l.map Value.string)) : StrsAt w v l := by
  rcases h.2 with ⟨rfl, h0⟩ | ⟨g, cap, cur, rfl, hB, hh, hn, hc, hs, ht⟩
  · have : l = [] := List.eq_nil_of_length_eq_zero h0
    subst this
    exact ⟨none, 0, rfl, .inl rfl⟩
  · refine ⟨some ⟨g, 0, none⟩, cap, rfl, .inr ⟨g, 0, rfl, fun i hi => ?_⟩⟩
    have := h.cellAt i (by omega)
    rw [Nat.zero_add, this]
    simp [hi]

theorem Below_grown {w w' : World} (h : Below w.heap.size w w') : w.grownBy w' none := ⟨h.os, h.tape, h.output, h.size, fun k hk _ => h.block k hk⟩

theorem grown_set {w w' : World} {g : Nat} (h : w.grownBy w' (some g)) (k : Nat) (u : Value) : w.grownBy (w'.setCell ⟨g, k, none⟩ u) (some g) :=
  ⟨h.os, h.tape, h.output, by simpa [World.setCell] using h.size, fun j hj hne => by
    rw [Below.heap_setCell _ _ _ _ (by intro e; apply hne; rw [e])]
    exact h.block j hj hne⟩

theorem owns_below {w w' : World} {B e s n : Nat} {v : Value} {xs : List Value} (h : w.ownsRow B e s v n xs) (hb : Below w.heap.size w w') : w'.ownsRow B e s v n xs :=
  h.kept (Below_grown hb) (by cases v.ownBlock <;> simp)

theorem StrsAt.of_owns_n {w : World} {B e n : Nat} {v : Value} {l : List ByteArray} (h : w.ownsRow B e 1 v n (l.map Value.string)) (hn : l.length = n) : StrsAt w v l := by
  subst hn
  exact StrsAt.of_owns h

theorem below_of_grown {w w' : World} {B : Nat} {v : Value} {C e s n : Nat} {xs : List Value} (h : w.ownsRow C e s v n xs) (hC : B ≤ C) (hg : w.grownBy w' v.ownBlock) (hB : B ≤ w.heap.size) : Below B w w' :=
  (Below.refl B w).grown hg hB (fun k hk => by have := (h.lt k hk).1; omega)
end Go.Proofs.YtlflblngbneacabGreatDoor

/- The contracts of the law's own helpers on lists of integers: comparing a list with itself returns true, marks are written into a list of the call's own, and marks that were written are found. Conditions: fewer than 100000000 elements, and the list is one of the call's own where it is written. -/
namespace Go.Proofs.YtlflblngbneacabGreatDoor
open Go.RowKit

/-- The slice value v reads as the integers l in the world w. -/
def IntsAt (w : World) (v : Value) (l : List Int) : Prop :=
  ∃ a cap, v = .slice a l.length cap ∧ (l = [] ∨ ∃ b off, a = some ⟨b, off, none⟩ ∧ ∀ i (h : i < l.length), w.cell? ⟨b, off + i, none⟩ = some (.int .i64 l[i]))

theorem IntsAt.below {w w' : World} {v : Value} {l : List Int} (h : IntsAt w v l) (hb : Below w.heap.size w w') : IntsAt w' v l := by
  obtain ⟨a, cap, rfl, h⟩ := h
  refine ⟨a, cap, rfl, ?_⟩
  rcases h with h | ⟨b, off, rfl, hc⟩
  · exact .inl h
  · refine .inr ⟨b, off, rfl, fun i hi => ?_⟩
    have hlt := World.block_lt_of_cell? w _ (hc i hi)
    rw [hb.cell (p := ⟨b, off + i, none⟩) hlt]
    exact hc i hi

theorem IntsAt.of_owns {w : World} {B e : Nat} {v : Value} {l : List Int} (h : w.ownsRow B e 1 v l.length (l.map (Value.int .i64))) : IntsAt w v l := by
  rcases h.2 with ⟨rfl, h0⟩ | ⟨g, cap, cur, rfl, hB, hh, hn, hc, hs, ht⟩
  · have : l = [] := List.eq_nil_of_length_eq_zero h0
    subst this
    exact ⟨none, 0, rfl, .inl rfl⟩
  · refine ⟨some ⟨g, 0, none⟩, cap, rfl, .inr ⟨g, 0, rfl, fun i hi => ?_⟩⟩
    have := h.cellAt i (by omega)
    rw [Nat.zero_add, this]
    simp [hi]

theorem IntsAt.of_owns_n {w : World} {B e n : Nat} {v : Value} {l : List Int} (h : w.ownsRow B e 1 v n (l.map (Value.int .i64))) (hn : l.length = n) : IntsAt w v l := by
  subst hn
  exact IntsAt.of_owns h

/-- n marks from q on. -/
def imarks (q : Int) (n : Nat) : List Int := (List.range n).map fun (i : Nat) => q + (i : Int)
theorem imarks_length (q : Int) (n : Nat) : (imarks q n).length = n := by simp [imarks]
theorem imarks_at (q : Int) (n i : Nat) (h : i < (imarks q n).length) : (imarks q n)[i] = q + i := by simp [imarks]
theorem imarks_succ (q : Int) (n : Nat) : imarks q (n + 1) = imarks q n ++ [q + n] := by
  simp [imarks, List.range_succ]

/-- k marks in front of what the list held. -/
def imarked (q : Int) (l : List Int) (k : Nat) : List Int := imarks q k ++ l.drop k
theorem imarked_length (q : Int) (l : List Int) (k : Nat) (h : k ≤ l.length) : (imarked q l k).length = l.length := by
  simp [imarked, imarks_length]; omega
theorem imarked_zero (q : Int) (l : List Int) : imarked q l 0 = l := by simp [imarked, imarks]
theorem imarked_all (q : Int) (l : List Int) : imarked q l l.length = imarks q l.length := by simp [imarked]
theorem imarked_set (q : Int) (l : List Int) (k : Nat) (h : k < l.length) : (imarked q l k).set k (q + k) = imarked q l (k + 1) := by
  unfold imarked
  rw [imarks_succ, List.drop_eq_getElem_cons h, List.set_append_right _ _ (by rw [imarks_length]; exact Nat.le_refl _), imarks_length, Nat.sub_self, List.set_cons_zero, List.append_assoc]
  rfl

end Go.Proofs.YtlflblngbneacabGreatDoor

/- What stays of a world where only the blocks of a set may have turned: lists of integers, and rows of the call's own. No condition. -/
namespace Go.Proofs.YtlflblngbneacabGreatDoor
open Go.RowKit

/-- Of the blocks that w has, only those in T may differ in w'. -/
structure Only (T : Nat → Prop) (w w' : World) : Prop where
  os : w'.os = w.os
  tape : w'.tape = w.tape
  output : w'.output = w.output
  size : w.heap.size ≤ w'.heap.size
  block : ∀ k, k < w.heap.size → ¬ T k → w'.heap[k]? = w.heap[k]?

theorem Only.refl (T : Nat → Prop) (w : World) : Only T w w := ⟨rfl, rfl, rfl, Nat.le_refl _, fun _ _ _ => rfl⟩
theorem Only.trans {T : Nat → Prop} {a b c : World} (h : Only T a b) (k : Only T b c) : Only T a c :=
  ⟨k.os.trans h.os, k.tape.trans h.tape, k.output.trans h.output, Nat.le_trans h.size k.size, fun i hi hn => (k.block i (Nat.lt_of_lt_of_le hi h.size) hn).trans (h.block i hi hn)⟩
theorem Only.mono {T T' : Nat → Prop} {a b : World} (h : Only T a b) (hT : ∀ k, T k → T' k) : Only T' a b :=
  ⟨h.os, h.tape, h.output, h.size, fun i hi hn => h.block i hi fun ht => hn (hT i ht)⟩
theorem Only.of_below {B : Nat} {a b : World} (h : Below B a b) : Only (fun k => B ≤ k) a b := ⟨h.os, h.tape, h.output, h.size, fun i _ hn => h.block i (by omega)⟩
theorem Only.fresh {T : Nat → Prop} {a b : World} (h : Below a.heap.size a b) : Only T a b := ⟨h.os, h.tape, h.output, h.size, fun i hi _ => h.block i hi⟩
theorem Only.of_grown {row : Option Nat} {a b : World} (h : a.grownBy b row) : Only (fun k => row = some k) a b := ⟨h.os, h.tape, h.output, h.size, fun i hi hn => h.block i hi fun e => hn e.symm⟩
theorem Only.below {B : Nat} {T : Nat → Prop} {a b : World} (h : Only T a b) (hB : B ≤ a.heap.size) (hT : ∀ k, T k → B ≤ k) : Below B a b :=
  ⟨h.os, h.tape, h.output, h.size, fun i hi => h.block i (by omega) fun ht => by have := hT i ht; omega⟩

/-- The slice value's block, if it has one, is in S. -/
def Blk (S : Nat → Prop) (v : Value) : Prop := ∀ b, v.ownBlock = some b → S b

theorem IntsAt.only {T : Nat → Prop} {w w' : World} {v : Value} {l : List Int} (h : IntsAt w v l) (ho : Only T w w') (hb : Blk (fun k => ¬ T k) v) : IntsAt w' v l := by
  obtain ⟨a, cap, rfl, h⟩ := h
  refine ⟨a, cap, rfl, ?_⟩
  rcases h with h | ⟨b, off, rfl, hc⟩
  · exact .inl h
  · refine .inr ⟨b, off, rfl, fun i hi => ?_⟩
    have hlt : b < w.heap.size := World.block_lt_of_cell? w _ (hc i hi)
    rw [World.cell?_of_block (w := w) (a := ⟨b, off + i, none⟩) (ho.block b hlt (hb b rfl))]
    exact hc i hi

theorem owns_only {T : Nat → Prop} {w w' : World} {B e s n : Nat} {v : Value} {xs : List Value} (h : w.ownsRow B e s v n xs) (ho : Only T w w') (hb : Blk (fun k => ¬ T k) v) : w'.ownsRow B e s v n xs := by
  refine ⟨h.1, h.2.imp id ?_⟩
  rintro ⟨g, cap, cur, rfl, h1, h2, h3⟩
  have hlt : g < w.heap.size := by
    rcases Nat.lt_or_ge g w.heap.size with h | h
    · exact h
    · rw [Array.getElem?_eq_none h] at h2; cases h2
  exact ⟨g, cap, cur, rfl, h1, by rw [ho.block g hlt (hb g rfl)]; exact h2, h3⟩

theorem owns_blk {w : World} {B e s n : Nat} {v : Value} {xs : List Value} (h : w.ownsRow B e s v n xs) : Blk (fun k => B ≤ k ∧ k < w.heap.size) v := fun b hb => h.lt b hb
theorem Blk.mono {S S' : Nat → Prop} {v : Value} (h : Blk S v) (hS : ∀ k, S k → S' k) : Blk S' v := fun b hb => hS b (h b hb)

/-- Two slices that do not share a block. -/
def Sep (u v : Value) : Prop := ∀ k, u.ownBlock = some k → v.ownBlock ≠ some k
theorem Sep.symm {u v : Value} (h : Sep u v) : Sep v u := fun k h1 h2 => h k h2 h1
theorem Sep.nil (v : Value) : Sep (.slice none 0 0) v := fun k h => by simp [Value.ownBlock] at h
end Go.Proofs.YtlflblngbneacabGreatDoor

/- The contracts of the law's own helpers on lists of integers that came in: their size, and their copy into a list of the call's own. Condition: the slice that came in reads as integers. -/
namespace Go.Proofs.YtlflblngbneacabGreatDoor
open Go.RowKit

/-- What is left of a size behind n elements. -/
def szL (n : Nat) (left : Int) : Int := if left - n < 0 then -1 else left - n

theorem infoIntA : (Tryz.prog.info? 3).map (fun i => (i.zero, i.size, i.bytes)) = some (some (.int .i64 0), 1, 8) := by kernel_rfl

/-- The first k of a list, zeros behind. -/
def icopied (l : List Int) (n k : Nat) : List Int := l.take k ++ List.replicate (n - k) 0
theorem icopied_length {l : List Int} {n k : Nat} (h : l.length = n) (hk : k ≤ n) : (icopied l n k).length = n := by simp [icopied]; omega
theorem icopied_set {l : List Int} {n k : Nat} (h : l.length = n) (hk : k < n) : (icopied l n k).set k (l[k]'(by omega)) = icopied l n (k + 1) := by
  unfold icopied
  have h1 : (l.take k).length = k := by simp; omega
  rw [List.set_append_right _ _ (by omega), h1, Nat.sub_self, show n - k = (n - (k + 1)) + 1 by omega, List.replicate_succ, List.set_cons_zero, List.take_succ_eq_append_getElem (by omega), List.append_assoc]
  rfl
theorem icopied_all {l : List Int} {n : Nat} (h : l.length = n) : icopied l n n = l := by
  simp [icopied, List.take_of_length_le (Nat.le_of_eq h)]

/-- A list of the call's own, from block B on. -/
def Own (w : World) (B : Nat) (v : Value) (l : List Int) : Prop := w.ownsRow B 3 1 v l.length (l.map (Value.int .i64))
theorem Own.reads {w : World} {B : Nat} {v : Value} {l : List Int} (h : Own w B v l) : IntsAt w v l := IntsAt.of_owns h
theorem IntsAt.form {w : World} {v : Value} {l : List Int} (h : IntsAt w v l) : ∃ a n c, v = .slice a n c := by
  obtain ⟨a, c, rfl, -⟩ := h
  exact ⟨a, _, c, rfl⟩
theorem Own.form {w : World} {B : Nat} {v : Value} {l : List Int} (h : Own w B v l) : ∃ a n c, v = .slice a n c := h.reads.form
theorem Own.only {T : Nat → Prop} {w w' : World} {B : Nat} {v : Value} {l : List Int} (h : Own w B v l) (ho : Only T w w') (hb : Blk (fun k => ¬ T k) v) : Own w' B v l := owns_only h ho hb
theorem Own.blk {w : World} {B : Nat} {v : Value} {l : List Int} (h : Own w B v l) : Blk (fun k => B ≤ k ∧ k < w.heap.size) v := owns_blk h
theorem Own.lower {w : World} {B B' : Nat} {v : Value} {l : List Int} (h : Own w B v l) (hB : B' ≤ B) : Own w B' v l :=
  ⟨h.1, h.2.imp id fun ⟨g, cap, cur, h1, h2, h3⟩ => ⟨g, cap, cur, h1, Nat.le_trans hB h2, h3⟩⟩
theorem Own.below {w w' : World} {B : Nat} {v : Value} {l : List Int} (h : Own w B v l) (hb : Below w.heap.size w w') : Own w' B v l := owns_below h hb

/-- The slice value lies somewhere. -/
def Solid (v : Value) : Prop := ∃ g n c, v = .slice (some ⟨g, 0, none⟩) n c

/-- What the walk is told of a slice of integers that came in. -/
def CameInts (w : World) (v : Value) (l : List Int) : Prop := IntsAt w v l ∧ l.length ≤ maxLen ∧ ∀ x ∈ l, (Lit.int .i64 x).wf = true

theorem cameInts {H : Type} {enc : TypeId × Value → H} {P : Program} {w : World} {base : Nat} {spare : Nat → Bool} {held : Bool} {t e : TypeId} {fuel : Nat} {u : Value} {x : DataW H × List MemPlace} (ht : P.underlying t = some (.slice e)) (he : P.underlying e = some (.int .i64)) (hc : P.cellsOf e = 1)
    (hsp : ∀ b, spare b = true) (h : DataW.trod enc P w base spare held fuel t [u] = some x) : ∃ l, CameInts w u l := by
  rcases Go.ChangeShapes.open_ints ht he hc h with ⟨hcs, _⟩ | ⟨a, len, cap, zs, hcs, _, hl, hm, hz, _, hcell, hwz⟩
  · simp at hcs
    subst hcs
    exact ⟨[], ⟨none, 0, rfl, .inl rfl⟩, by unfold maxLen; simp, by simp⟩
  · simp at hcs
    subst hcs
    rw [hsp, if_pos rfl] at hz
    have hlen : (zs.take len).length = len := by simp; omega
    refine ⟨zs.take len, ⟨some a, cap, by rw [hlen], ?_⟩, by omega, fun y hy => hwz y (List.mem_of_mem_take hy)⟩
    by_cases h0 : len = 0
    · exact .inl (List.eq_nil_of_length_eq_zero (by omega))
    · obtain ⟨b, o, spot⟩ := a
      have hc0 := hcell 0 (by omega)
      have hspot : spot = none := by simpa [Addr.add] using World.cell?_spot hc0
      subst hspot
      refine .inr ⟨b, o, rfl, fun i hi => ?_⟩
      have := hcell i (by omega)
      rw [Addr.add_lit] at this
      rw [this, List.getElem_take]
      simp [List.getD_eq_getElem?_getD, List.getElem?_eq_getElem (show i < zs.length by omega)]
end Go.Proofs.YtlflblngbneacabGreatDoor

/- The contracts of ProblemOk, CaseOk and CoinOf, in the model and in the program: each returns what the document's chapter says. Condition: a number of coins that fits Go's int, and a case that does. -/
namespace Go.Proofs.YtlflblngbneacabGreatDoor
open Go.RowKit

/-- Whether a problem of n coins is valid. -/
def probB (n : Int) (h l : Bool) : Bool := (decide (1 ≤ n) && decide (n ≤ 13)) && (h || l)
/-- Whether a number is the case of some problem. -/
def inB (c : Int) : Bool := decide (-13 ≤ c) && decide (c ≤ 13)
/-- Whether c is a case of the problem. -/
def caseB (n : Int) (h l z : Bool) (c : Int) : Bool := probB n h l && (if 0 < c then h && decide (c ≤ n) else if c < 0 then l && decide (-n ≤ c) else z)
/-- The coin of a case. -/
def coinI (c : Int) : Int := if inB c = true then (if c < 0 then -c else c) else 0

/-- A problem as a value. -/
def probV (n : Int) (h l z : Bool) : Value := .agg #[.int .i64 n, .bool h, .bool l, .bool z]

theorem below_of {W X w1 : World} (h : Below W.heap.size W X) (hb : Below X.heap.size X w1) : Below W.heap.size W w1 := h.trans (hb.mono h.size)

theorem l01In_is (n lo hi : Int) (w : World) : Calls Tryz.prog 94 #[.int .i64 n, .int .i64 lo, .int .i64 hi] w fun e w' => e = .returned (.bool (decide (lo ≤ n) && decide (n ≤ hi))) ∧ w = w' := by
  by_cases h1 : lo ≤ n
  · have HD : Hid ((decide (lo ≤ n) && decide (n ≤ hi)) = decide (n ≤ hi)) := by unfold Hid; simp [h1]
    go_enter Tryz.func94, Tryz.ntmps94
    go_wp2
    go_ret
    exact ⟨ret_bool HD.out.symm, rfl⟩
  · have HD : Hid ((decide (lo ≤ n) && decide (n ≤ hi)) = false) := by unfold Hid; simp [h1]
    go_enter Tryz.func94, Tryz.ntmps94
    go_wp2
    go_ret
    exact ⟨ret_bool HD.out.symm, rfl⟩

set_option maxHeartbeats 800000 in
theorem implProblemOk (n : Int) (h l z : Bool) (w : World) : Calls Tryz.prog 136 #[probV n h l z] w fun e w' => e = .returned (.bool (probB n h l)) ∧ Below w.heap.size w w' := by
  have HD : Hid (probB n h l = ((decide (1 ≤ n) && decide (n ≤ 13)) && (h || l))) := rfl
  unfold probV
  cases h1 : decide (1 ≤ n) <;> cases h2 : decide (n ≤ 13) <;> cases h <;> cases l
  all_goals
    rw [h1, h2] at HD
    go_enter Tryz.func136, Tryz.ntmps136
    go_wp2
    go_ret
    exact ⟨ret_bool HD.out.symm, (Below.refl _ _).alloc (Nat.le_refl _) _⟩

/-- A problem's four cells lie in block b. -/
def ProbAt (w : World) (b : Nat) (n : Int) (h l z : Bool) : Prop :=
  w.cell? ⟨b, 0, none⟩ = some (.int .i64 n) ∧ w.cell? ⟨b, 1, none⟩ = some (.bool h) ∧ w.cell? ⟨b, 2, none⟩ = some (.bool l) ∧ w.cell? ⟨b, 3, none⟩ = some (.bool z) ∧ b < w.heap.size
theorem ProbAt.belowN {w w' : World} {b B : Nat} {n : Int} {h l z : Bool} (hp : ProbAt w b n h l z) (hb : Below B w w') (hlt : b < B) : ProbAt w' b n h l z := by
  obtain ⟨e0, e1, e2, e3, hlt0⟩ := hp
  refine ⟨?_, ?_, ?_, ?_, Nat.lt_of_lt_of_le hlt0 hb.size⟩
  · rw [hb.cell (p := ⟨b, 0, none⟩) hlt]; exact e0
  · rw [hb.cell (p := ⟨b, 1, none⟩) hlt]; exact e1
  · rw [hb.cell (p := ⟨b, 2, none⟩) hlt]; exact e2
  · rw [hb.cell (p := ⟨b, 3, none⟩) hlt]; exact e3
theorem ProbAt.below {w w' : World} {b : Nat} {n : Int} {h l z : Bool} (hp : ProbAt w b n h l z) (hb : Below w.heap.size w w') : ProbAt w' b n h l z := hp.belowN hb hp.2.2.2.2
theorem ProbAt.new (w : World) (ty : TypeId) (n : Int) (h l z : Bool) : ProbAt (w.alloc (.cells #[.int .i64 n, .bool h, .bool l, .bool z] ty)) w.heap.size n h l z := by
  refine ⟨?_, ?_, ?_, ?_, ?_⟩ <;> simp

theorem bcellC {W w1 : World} (hb : Below W.heap.size W w1) : ∀ b o, b < W.heap.size → w1.cell? ⟨b, o, none⟩ = W.cell? ⟨b, o, none⟩ :=
  fun b o h => hb.cell (p := ⟨b, o, none⟩) h

theorem probB_bounds {n : Int} {h l : Bool} (hp : probB n h l = true) : 1 ≤ n ∧ n ≤ 13 := by
  simp only [probB, Bool.and_eq_true, decide_eq_true_eq] at hp
  exact hp.1

end Go.Proofs.YtlflblngbneacabGreatDoor

/- The contracts of the program's own functions on cases: known, kind, coin, in, CaseOk and CoinOf, and the model's CoinOf. Condition: a number of coins and a case that fit Go's int. -/
namespace Go.Proofs.YtlflblngbneacabGreatDoor
open Go.RowKit

theorem implKnown (c : Int) (w : World) : Calls Tryz.prog 95 #[.int .i64 c] w fun e w' => e = .returned (.bool (inB c)) ∧ w = w' := by
  have HD : Hid (inB c = (decide (-13 ≤ c) && decide (c ≤ 13))) := rfl
  cases h1 : decide (-13 ≤ c)
  all_goals
    rw [h1] at HD
    go_enter Tryz.func95, Tryz.ntmps95
    go_wp2
    go_ret
    exact ⟨ret_bool HD.out.symm, rfl⟩

/-- What is wrong in a case, as a number. -/
def kindI (c : Int) : Int := if 0 < c then 1 else if c < 0 then 2 else 0

theorem implKind (c : Int) (w : World) : Calls Tryz.prog 59 #[.int .i64 c] w fun e w' => e = .returned (.int .i64 (kindI c)) ∧ w = w' := by
  rcases Int.lt_trichotomy c 0 with hc | hc | hc
  · have HD : Hid (kindI c = 2) := by unfold Hid kindI; rw [if_neg (by omega), if_pos hc]
    go_enter Tryz.func59, Tryz.ntmps59
    go_wp2
    go_ret
    exact ⟨ret_int HD.out.symm, rfl⟩
  · subst hc
    go_enter Tryz.func59, Tryz.ntmps59
    go_wp2
    go_ret
    exact ⟨rfl, rfl⟩
  · have HD : Hid (kindI c = 1) := by unfold Hid kindI; rw [if_pos hc]
    go_enter Tryz.func59, Tryz.ntmps59
    go_wp2
    go_ret
    exact ⟨ret_int HD.out.symm, rfl⟩

theorem inB_bounds {c : Int} (h : inB c = true) : -13 ≤ c ∧ c ≤ 13 := by
  simpa [inB] using h

set_option maxHeartbeats 800000 in
theorem implCoin (c : Int) (w : World) (c0 : -9223372036854775808 ≤ c) (c1 : c ≤ 9223372036854775807) : Calls Tryz.prog 96 #[.int .i64 c] w fun e w' => e = .returned (.int .i64 (coinI c)) ∧ w = w' := by
  have C := Lib.hid (fun W => implKnown c W)
  have K := Lib.hid (fun W => implKind c W)
  have HD : Hid (coinI c = if inB c = true then (if c < 0 then -c else c) else 0) := rfl
  have HP := Lib.hid (@inB_bounds c)
  generalize inB c = b at C HD HP
  cases b
  · have HE : Hid (coinI c = 0) := HD.out
    clear HD
    go_enter Tryz.func96, Tryz.ntmps96
    go_wp2_with fail
    refine (C.out _).mono ?_
    rintro e w1 ⟨rfl, rfl⟩
    go_wp2
    go_ret
    exact ⟨ret_int HE.out.symm, rfl⟩
  · obtain ⟨b0, b1⟩ := HP.out rfl
    by_cases hc : c < 0
    · have HE : Hid (coinI c = -c) := by unfold Hid; rw [HD.out, if_pos rfl, if_pos hc]
      have hk : kindI c = 2 := by unfold kindI; rw [if_neg (by omega), if_pos hc]
      rw [hk] at K
      clear HD hk
      go_enter Tryz.func96, Tryz.ntmps96
      go_wp2_with fail
      refine (C.out _).mono ?_
      rintro e w1 ⟨rfl, rfl⟩
      go_wp2_with fail
      refine (K.out _).mono ?_
      rintro e w1 ⟨rfl, rfl⟩
      go_wp2
      go_ret
      exact ⟨ret_int HE.out.symm, rfl⟩
    · have HE : Hid (coinI c = c) := by unfold Hid; rw [HD.out, if_pos rfl, if_neg hc]
      have hk : (kindI c == 2) = false := by unfold kindI; rw [if_neg hc]; split <;> rfl
      generalize kindI c = k at K hk
      clear HD
      go_enter Tryz.func96, Tryz.ntmps96
      go_wp2_with fail
      refine (C.out _).mono ?_
      rintro e w1 ⟨rfl, rfl⟩
      go_wp2_with fail
      refine (K.out _).mono ?_
      rintro e w1 ⟨rfl, rfl⟩
      go_wp2
      go_ret
      exact ⟨ret_int HE.out.symm, rfl⟩

theorem implCoinOf (c : Int) (w : World) (c0 : -9223372036854775808 ≤ c) (c1 : c ≤ 9223372036854775807) : Calls Tryz.prog 58 #[.int .i64 c] w fun e w' => e = .returned (.int .i64 (coinI c)) ∧ w = w' := by
  have C := Lib.hid (fun W => implCoin c W c0 c1)
  generalize coinI c = k at C ⊢
  go_enter Tryz.func58, Tryz.ntmps58
  go_wp2_with fail
  refine (C.out _).mono ?_
  rintro e w1 ⟨rfl, rfl⟩
  go_wp2
  go_ret
  exact ⟨rfl, rfl⟩

end Go.Proofs.YtlflblngbneacabGreatDoor

/- A struct all of whose fields are integers, given by value as an argument: its value is a list of integers, whatever their number. -/
namespace Go.Proofs.YtlflblngbneacabGreatDoor
open Go.RowKit Go.Joins Go.ChangeShapes Go.WideShapes Go.Deep

theorem eightOf {α : Type} : ∀ l : List α, l.length = 8 → ∃ a b c d e f g h, l = [a, b, c, d, e, f, g, h]
  | [a, b, c, d, e, f, g, h], _ => ⟨a, b, c, d, e, f, g, h, rfl⟩
  | [], h | [_], h | [_, _], h | [_, _, _], h | [_, _, _, _], h | [_, _, _, _, _], h | [_, _, _, _, _, _], h | [_, _, _, _, _, _, _], h => by simp at h
  | _ :: _ :: _ :: _ :: _ :: _ :: _ :: _ :: _ :: _, h => by simp at h

section
variable {H : Type} {enc : TypeId × Value → H} {P : Program} {w : World} {base : Nat} {spare : Nat → Bool} {held : Bool}
theorem openIntFields {r : Reach} {b0 : Nat} {t : TypeId} {fs : Array Field} {v : Value} {d : DataW H} {p : List MemPlace} (hs : P.underlying t = some (.struct fs)) (hone : oneCellFields P fs = true) (hC : P.cellsOf t = fs.size)
    (hi : ∀ (j : Nat) (f : Field), fs[j]? = some f → P.underlying f.type = some (.int .i64)) (hv : Value.okWide P w r b0 t v) (h : DataW.Trod enc P w base spare held t v d p) :
    ∃ l : List Int, l.length = fs.size ∧ v = .agg (l.map (Value.int .i64)).toArray ∧ d = .agg (l.map fun a => .lit (.int .i64 a)) ∧ p = [] ∧ ∀ a ∈ l, (Lit.int .i64 a).wf = true := by
  obtain ⟨cs, rfl, hsz⟩ := okWide_struct hs hv
  obtain ⟨fuel, hf⟩ := h
  obtain ⟨xs, n, -, hx, hl, hlen, hat⟩ := DataW.trod_struct hs hf
  have key : ∀ j (h1 : j < cs.size) (h2 : j < xs.length), ∃ a, cs[j] = .int .i64 a ∧ xs[j] = (.lit (.int .i64 a), []) ∧ (Lit.int .i64 a).wf = true := by
    intro j h1 h2
    have hj : j < fs.size := by omega
    have hfj : fs[j]? = some fs[j] := Array.getElem?_eq_getElem hj
    obtain ⟨o, k⟩ := hone_of hone j _ hfj
    have g := hat j _ hfj
    rw [o, k, List.getElem?_eq_getElem h2] at g
    have e : (((Value.agg cs).cells.toList.drop j).take 1) = [cs[j]] := by
      have : (Value.agg cs).cells.toList = cs.toList := by simp [Value.cells]
      rw [this, List.drop_eq_getElem_cons (by simpa using h1)]
      simp
    rw [e] at g
    obtain ⟨a, e1, e2, e3⟩ := DataW.trod_int (hi j _ hfj) g
    exact ⟨a, by simpa using e1, e2, e3⟩
  have hcl : cs.size = xs.length := by omega
  clear hat hf
  refine ⟨cs.toList.map intOf, by simp; omega, ?_, ?_⟩
  · congr 1
    apply Array.ext
    · simp
    · intro j h1 h2
      obtain ⟨a, e, -⟩ := key j h1 (by omega)
      simp [e, intOf]
  · simp only [Prod.mk.injEq] at hx
    refine ⟨?_, ?_, ?_⟩
    · rw [hx.1]
      congr 1
      apply List.ext_getElem
      · simp; omega
      · intro j h1 h2
        simp only [List.length_map] at h1
        obtain ⟨a, e1, e2, -⟩ := key j (by omega) h1
        simp [e1, e2, intOf]
    · rw [hx.2, List.flatMap_eq_nil_iff]
      intro y hy
      obtain ⟨j, hj, rfl⟩ := List.mem_iff_getElem.1 hy
      obtain ⟨a, -, e2, -⟩ := key j (by omega) hj
      rw [e2]
    · intro a ha
      rw [List.mem_map] at ha
      obtain ⟨u, hu, rfl⟩ := ha
      obtain ⟨j, hj, rfl⟩ := List.mem_iff_getElem.1 hu
      simp only [Array.length_toList] at hj
      obtain ⟨a, e1, -, e3⟩ := key j hj (by omega)
      simpa [e1, intOf] using e3
theorem mapM_some {α β : Type} (g : α → Option β) : ∀ (xs : List α) (ys : List β), xs.length = ys.length → (∀ i (h1 : i < xs.length) (h2 : i < ys.length), g xs[i] = some ys[i]) → xs.mapM g = some ys
  | [], [], _, _ => rfl
  | a :: xs, b :: ys, hl, h => by
    have h0 := h 0 (by simp) (by simp)
    have h1 := mapM_some g xs ys (by simpa using hl) fun i h1 h2 => by
      have := h (i + 1) (by simpa using h1) (by simpa using h2)
      simpa using this
    simp only [List.getElem_cons_zero] at h0
    rw [List.mapM_cons, h0, h1]
    rfl
  | [], _ :: _, hl, _ => by simp at hl
  | _ :: _, [], hl, _ => by simp at hl
theorem shutIntFields {t : TypeId} {fs : Array Field} {l : List Int} (hs : P.underlying t = some (.struct fs)) (hone : oneCellFields P fs = true) (hC : P.cellsOf t = fs.size)
    (hi : ∀ (j : Nat) (f : Field), fs[j]? = some f → P.underlying f.type = some (.int .i64)) (hl : l.length = fs.size) (hw : ∀ a ∈ l, (Lit.int .i64 a).wf = true) :
    DataW.Trod enc P w base spare held t (.agg (l.map (Value.int .i64)).toArray) (.agg (l.map fun a => .lit (.int .i64 a))) [] := by
  have hc : (Value.agg (l.map (Value.int .i64)).toArray).cells.toList = l.map (Value.int .i64) := by simp [Value.cells]
  have h := trod_struct_mk (enc := enc) (P := P) (w := w) (base := base) (spare := spare) (held := held) (n := 1) (cs := l.map (Value.int .i64)) (xs := l.map fun a => (.lit (.int .i64 a), [])) hs (by simp; omega) (mapM_some _ _ _ (by simpa using hl.symm) fun i h1 h2 => by
    have hj : i < fs.size := by simpa using h1
    have hli : i < l.length := by omega
    have hfj : fs[i]? = some fs[i] := Array.getElem?_eq_getElem hj
    obtain ⟨o, k⟩ := hone_of hone i _ hfj
    simp only [Array.getElem_toList, o, k, List.getElem_map]
    rw [List.drop_eq_getElem_cons (by simpa using hli)]
    have e := trod_int_mk (enc := enc) (P := P) (w := w) (base := base) (spare := spare) (held := held) (n := l[i]) 0 (hi i _ hfj) (hw _ (List.getElem_mem hli))
    simpa using e)
  refine ⟨2, ?_⟩
  rw [hc, h]
  simp
end
end Go.Proofs.YtlflblngbneacabGreatDoor
