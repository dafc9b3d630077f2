/- Plain facts on the parts of a text between the bytes that satisfy a test. No condition. -/
import Derived.Test.YtdafhbblkopelaaDoorGBase
namespace Go.Proofs.YtdafhbblkopelaaDoor
open Go.RowKit

/-- The parts that are closed before byte k, and where the part begins that is open there. -/
def spl (s : ByteArray) (p : UInt8 → Bool) : Nat → List ByteArray × Nat
  | 0 => ([], 0)
  | k + 1 => if h : k < s.size then (if p s[k] = true then ((spl s p k).1 ++ [s.extract (spl s p k).2 k], k + 1) else spl s p k) else spl s p k

def parts (s : ByteArray) (p : UInt8 → Bool) : List ByteArray := (spl s p s.size).1 ++ [s.extract (spl s p s.size).2 s.size]

theorem spl_yes {s : ByteArray} {p : UInt8 → Bool} {k fr : Nat} {ps : List ByteArray} (h : k < s.size) (hp : p s[k] = true) (hs : spl s p k = (ps, fr)) : spl s p (k + 1) = (ps ++ [s.extract fr k], k + 1) := by
  simp [spl, h, hp, hs]
theorem spl_no {s : ByteArray} {p : UInt8 → Bool} {k fr : Nat} {ps : List ByteArray} (h : k < s.size) (hp : p s[k] = false) (hs : spl s p k = (ps, fr)) : spl s p (k + 1) = (ps, fr) := by
  simp [spl, h, hp, hs]

theorem spl_le (s : ByteArray) (p : UInt8 → Bool) (k : Nat) : (spl s p k).1.length ≤ k := by
  induction k with
  | zero => simp [spl]
  | succ k ih =>
    unfold spl
    split
    · split
      · simp; omega
      · omega
    · omega

theorem parts_length (s : ByteArray) (p : UInt8 → Bool) : 1 ≤ (parts s p).length ∧ (parts s p).length ≤ s.size + 1 := by
  have := spl_le s p s.size
  simp [parts]
  omega

theorem parts_of {s : ByteArray} {p : UInt8 → Bool} {fr : Nat} {ps : List ByteArray} (hs : spl s p s.size = (ps, fr)) : parts s p = ps ++ [s.extract fr s.size] := by simp [parts, hs]

/-- The test: the byte occurs in y. -/
def isBy (y : ByteArray) (c : UInt8) : Bool := y.data.toList.contains c

theorem isBy_hit {y : ByteArray} {m : Nat} {c : UInt8} (h : m < y.size) (e : (c.toNat : Int) = (y[m].toNat : Int)) : isBy y c = true := by
  unfold isBy
  rw [List.contains_iff_mem]
  have e2 : c = y[m] := UInt8.toNat_inj.1 (by omega)
  rw [e2]
  exact Array.getElem_mem_toList (xs := y.data) h

theorem isBy_miss {y : ByteArray} {c : UInt8} (h : ∀ m (hm : m < y.size), ¬ (c.toNat : Int) = (y[m].toNat : Int)) : isBy y c = false := by
  unfold isBy
  rw [Bool.eq_false_iff]
  intro hc
  rw [List.contains_iff_mem, List.mem_iff_getElem] at hc
  obtain ⟨m, hm, e⟩ := hc
  have hm' : m < y.size := by simpa using hm
  apply h m hm'
  rw [← e]
  rfl

theorem cell_one_str (w : World) (a : Value) (t : TypeId) : ∀ j u, [a][j]? = some u → (w.alloc (.cells #[a] t)).cell? ((⟨w.heap.size, 0, none⟩ : Addr).add j) = some u := by
  intro j u hj
  match j, hj with
  | 0, hj => simp at hj; subst hj; simp [Addr.add]
  | j + 1, hj => simp at hj
end Go.Proofs.YtdafhbblkopelaaDoor
