/- Several texts in one file; each says what it proves and under which condition. No condition. -/
import Derived.Test.YtlflblngbneacabGreatDoorGBase
import Derived.Lib.Join
/- Plain facts on the parts of a text between the bytes that satisfy a test. No condition. -/
namespace Go.Proofs.YtlflblngbneacabGreatDoor
open Go.RowKit

/-- The parts that are closed before byte k, and where the part begins that is open there. -/
def spl (s : ByteArray) (p : UInt8 → Bool) : Nat → List ByteArray × Nat
  | 0 => ([], 0)
  | k + 1 => if h : k < s.size then (if p s[k] = true then ((spl s p k).1 ++ [s.extract (spl s p k).2 k], k + 1) else spl s p k) else spl s p k

def parts (s : ByteArray) (p : UInt8 → Bool) : List ByteArray := (spl s p s.size).1 ++ [s.extract (spl s p s.size).2 s.size]

theorem spl_yes {s : ByteArray} {p : UInt8 → Bool} {k fr : Nat} {ps : List ByteArray} (h : k < s.size) (hp : p s[k] = true) (hs : spl s p k = (ps, fr)) : spl s p (k + 1) = (ps ++ [s.extract fr k], k + 1) := by
  simp [spl, h, hp, hs]
theorem spl_no {s : ByteArray} {p : UInt8 → Bool} {k fr : Nat} {ps : List ByteArray} (h : k < s.size) (hp : p s[k] = false) (hs : spl s p k = (ps, fr)) : spl s p (k + 1) = (ps, fr) := by
  simp [spl, h, hp, hs]

theorem spl_le (s : ByteArray) (p : UInt8 → Bool) (k : Nat) : (spl s p k).1.length ≤ k := by
  induction k with
  | zero => simp [spl]
  | succ k ih =>
    unfold spl
    split
    · split
      · simp; omega
      · omega
    · omega

theorem parts_length (s : ByteArray) (p : UInt8 → Bool) : 1 ≤ (parts s p).length ∧ (parts s p).length ≤ s.size + 1 := by
  have := spl_le s p s.size
  simp [parts]
  omega

theorem parts_of {s : ByteArray} {p : UInt8 → Bool} {fr : Nat} {ps : List ByteArray} (hs : spl s p s.size = (ps, fr)) : parts s p = ps ++ [s.extract fr s.size] := by simp [parts, hs]

/-- The test: the byte occurs in y. -/
def isBy (y : ByteArray) (c : UInt8) : Bool := y.data.toList.contains c

theorem isBy_hit {y : ByteArray} {m : Nat} {c : UInt8} (h : m < y.size) (e : (c.toNat : Int) = (y[m].toNat : Int)) : isBy y c = true := by
  unfold isBy
  rw [List.contains_iff_mem]
  have e2 : c = y[m] := UInt8.toNat_inj.1 (by omega)
  rw [e2]
  exact Array.getElem_mem_toList (xs := y.data) h

theorem isBy_miss {y : ByteArray} {c : UInt8} (h : ∀ m (hm : m < y.size), ¬ (c.toNat : Int) = (y[m].toNat : Int)) : isBy y c = false := by
  unfold isBy
  rw [Bool.eq_false_iff]
  intro hc
  rw [List.contains_iff_mem, List.mem_iff_getElem] at hc
  obtain ⟨m, hm, e⟩ := hc
  have hm' : m < y.size := by simpa using hm
  apply h m hm'
  rw [← e]
  rfl

theorem cell_one_str (w : World) (a : Value) (t : TypeId) : ∀ j u, [a][j]? = some u → (w.alloc (.cells #[a] t)).cell? ((⟨w.heap.size, 0, none⟩ : Addr).add j) = some u := by
  intro j u hj
  match j, hj with
  | 0, hj => simp at hj; subst hj; simp [Addr.add]
  | j + 1, hj => simp at hj
end Go.Proofs.YtlflblngbneacabGreatDoor

/- The joined text, plainly, and that what is split at a separator is joined by it again. No condition. -/
namespace Go.Proofs.YtlflblngbneacabGreatDoor
open Go.RowKit

def joinB (l : List ByteArray) (y : ByteArray) : ByteArray := ⟨(Lib.join (l.map (·.data.toList)) y.data.toList).toArray⟩

/-! ### what is split at a separator is joined by it again -/
def sepSp : ByteArray := ⟨#[32]⟩

theorem isBy_sp (c : UInt8) : isBy sepSp c = (c == 32) := by
  show [32].contains c = (c == 32)
  simp
  rfl

theorem join_snoc (xs : List (List UInt8)) (y : List UInt8) (sep : List UInt8) (h : xs ≠ []) : Lib.join (xs ++ [y]) sep = Lib.join xs sep ++ sep ++ y := by
  cases xs with
  | nil => exact absurd rfl h
  | cons x r =>
    rw [List.cons_append, Lib.join_cons, Lib.join_cons]
    simp [Lib.joinTail, List.append_assoc]

theorem extract_list (s : ByteArray) (a b : Nat) : (s.extract a b).data.toList = (s.data.toList.drop a).take (b - a) := by
  simp

/-- The closed parts before byte k, each with its separator: the text before the open part. -/
theorem spl_flat (s : ByteArray) (k : Nat) (hk : k ≤ s.size) :
    (spl s (isBy sepSp) k).2 ≤ k ∧ ((spl s (isBy sepSp) k).1.map (fun x => x.data.toList ++ [32])).flatten = s.data.toList.take (spl s (isBy sepSp) k).2 := by
  induction k with
  | zero => simp [spl]
  | succ k ih =>
    have hlt : k < s.size := by omega
    obtain ⟨h1, h2⟩ := ih (by omega)
    obtain ⟨fr, hfr⟩ : ∃ fr, (spl s (isBy sepSp) k).2 = fr := ⟨_, rfl⟩
    obtain ⟨ps, hps⟩ : ∃ ps, (spl s (isBy sepSp) k).1 = ps := ⟨_, rfl⟩
    have he : spl s (isBy sepSp) k = (ps, fr) := by rw [← hps, ← hfr]
    rw [hfr] at h1 h2
    rw [hps] at h2
    cases hp : isBy sepSp s[k] with
    | true =>
      rw [spl_yes hlt hp he]
      refine ⟨Nat.le_refl _, ?_⟩
      rw [isBy_sp] at hp
      have hc : s[k] = 32 := eq_of_beq hp
      rw [List.map_append, List.flatten_append, h2]
      simp only [List.map_cons, List.map_nil, List.flatten_cons, List.flatten_nil, List.append_nil]
      rw [take_snoc s k hlt, hc, extract_list, ← List.append_assoc]
      congr 1
      rw [← List.drop_take]
      have : s.data.toList.take fr = (s.data.toList.take k).take fr := by rw [List.take_take]; congr 1; omega
      rw [this, List.take_append_drop]
    | false =>
      rw [spl_no hlt hp he]
      exact ⟨by omega, h2⟩

theorem join_two (x z : List UInt8) (r : List (List UInt8)) (sep : List UInt8) : Lib.join (x :: z :: r) sep = x ++ sep ++ Lib.join (z :: r) sep := by
  rw [Lib.join_cons, Lib.join_cons]
  simp [Lib.joinTail, List.append_assoc]

theorem join_flat (xs : List (List UInt8)) (y : List UInt8) : Lib.join (xs ++ [y]) [32] = (xs.map (· ++ [32])).flatten ++ y := by
  induction xs with
  | nil => simp [Lib.join_one]
  | cons x r ih =>
    cases r with
    | nil => rw [List.cons_append, List.nil_append, join_two, Lib.join_one]; simp
    | cons z r =>
      rw [List.cons_append, List.cons_append, join_two, ← List.cons_append, ih]
      simp [List.append_assoc]

theorem split_join (s : ByteArray) : (Lib.join ((parts s (isBy sepSp)).map (·.data.toList)) sepSp.data.toList) = s.data.toList := by
  obtain ⟨h1, h2⟩ := spl_flat s s.size (Nat.le_refl _)
  unfold parts
  rw [List.map_append, List.map_cons, List.map_nil]
  show Lib.join _ [32] = _
  rw [join_flat, List.map_map]
  have : (fun x : List UInt8 => x ++ [32]) ∘ (fun x : ByteArray => x.data.toList) = fun x : ByteArray => x.data.toList ++ [32] := rfl
  rw [this, h2, extract_list, ← List.drop_take]
  have : s.data.toList.take (spl s (isBy sepSp) s.size).2 = (s.data.toList.take s.size).take (spl s (isBy sepSp) s.size).2 := by rw [List.take_take]; congr 1; omega
  rw [this, List.take_append_drop]
  exact List.take_of_length_le (by simp)
end Go.Proofs.YtlflblngbneacabGreatDoor
