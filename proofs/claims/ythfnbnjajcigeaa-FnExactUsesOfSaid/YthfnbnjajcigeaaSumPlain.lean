/- Pools that are counted, plainly: what they show, whether they detect all sets, which sets have such and such numbers. No condition. -/
import Derived.Test.YthfnbnjajcigeaaDisPlain
namespace Go.Proofs.Ythfnbnjajcigeaa
open Go.RowKit

/-- How many bad items each pool has. -/
def sumL (P : List Int) (bad : Int) : List Int := P.map fun p => cntI (andI p bad)
theorem sumL_len (P : List Int) (bad : Int) : (sumL P bad).length = P.length := by simp [sumL]
theorem sumL_take (P : List Int) (bad : Int) {i : Nat} (h : i < P.length) : sumL (P.take (i + 1)) bad = sumL (P.take i) bad ++ [cntI (andI P[i] bad)] := by
  rw [List.take_succ_eq_append_getElem h]
  unfold sumL
  rw [List.map_append]
  rfl
def sumO (n : Int) (P : List Int) (bad : Int) : List Int := if testsB n P bad = true then sumL P bad else []
/-- Whether no two of the first N sets have the same numbers. -/
def detAt (P : List Int) (a b : Nat) : Bool := !decide (sumL P a = sumL P b)
def detF (P : List Int) (N : Nat) : Bool := allFrom (fun a => allFrom (detAt P a) a 0) N 0
def detB (n : Int) (P : List Int) : Bool := poolsB n P && detF P (2 ^ n.toNat)
/-- The first k sets that have these numbers. -/
def decK (P S : List Int) : Nat → List Int
  | 0 => []
  | k + 1 => if sumL P (k : Int) = S then decK P S k ++ [(k : Int)] else decK P S k
theorem decK_len (P S : List Int) : ∀ k, (decK P S k).length ≤ k
  | 0 => by simp [decK]
  | k + 1 => by
    have := decK_len P S k
    unfold decK
    split
    · rw [List.length_append]; simp; omega
    · omega
def decS (n : Int) (P S : List Int) : List Int := if poolsB n P = true then decK P S (2 ^ n.toNat) else []
theorem decS_len (n : Int) (P S : List Int) : (decS n P S).length ≤ 1024 := by
  unfold decS
  split
  · rename_i h
    obtain ⟨⟨n1, n10⟩, -, -⟩ := pools_in h
    have h1 : 2 ^ n.toNat ≤ 1024 := Nat.pow_le_pow_right (n := 2) (by decide) (show n.toNat ≤ 10 by omega)
    have := decK_len P S (2 ^ n.toNat)
    omega
  · simp
theorem sumO_len (n : Int) (P : List Int) (bad : Int) : (sumO n P bad).length ≤ 12 := by
  unfold sumO
  split
  · rename_i h
    unfold testsB at h
    rw [Bool.and_eq_true] at h
    have := (pools_in h.1).2.1
    rw [sumL_len]
    exact this
  · simp
/-- One more item, and its pool. -/
def extB (n : Int) (P : List Int) : Bool := detB n P && (!decide (n = 10) && !decide (P.length = 12))
def extL (n : Int) (P : List Int) : List Int := if extB n P = true then P ++ [2 ^ n.toNat] else []
theorem detB_in {n : Int} {P : List Int} (h : detB n P = true) : poolsB n P = true := by
  unfold detB at h
  rw [Bool.and_eq_true] at h
  exact h.1
theorem extL_len (n : Int) (P : List Int) : (extL n P).length ≤ 13 := by
  unfold extL
  split
  · rename_i h
    unfold extB at h
    rw [Bool.and_eq_true] at h
    have := (pools_in (detB_in h.1)).2.1
    rw [List.length_append]
    simp
    exact this
  · simp
/-- The different lists of numbers of the first k sets. -/
def seenK (P : List Int) : Nat → List (List Int)
  | 0 => []
  | k + 1 => if ((seenK P k).any fun x => decide (x = sumL P (k : Int))) = true then seenK P k else seenK P k ++ [sumL P (k : Int)]
theorem seenK_len (P : List Int) : ∀ k, (seenK P k).length ≤ k
  | 0 => by simp [seenK]
  | k + 1 => by
    have := seenK_len P k
    unfold seenK
    split
    · omega
    · rw [List.length_append]; simp; omega
theorem seenK_in (P : List Int) : ∀ k, ∀ s ∈ seenK P k, s.length = P.length
  | 0, s, h => by simp [seenK] at h
  | k + 1, s, h => by
    unfold seenK at h
    split at h
    · exact seenK_in P k s h
    · rw [List.mem_append, List.mem_singleton] at h
      rcases h with h | rfl
      · exact seenK_in P k s h
      · exact sumL_len _ _
def tellI (n : Int) (P : List Int) : Int := if poolsB n P = true then ((seenK P (2 ^ n.toNat)).length : Int) else -1
end Go.Proofs.Ythfnbnjajcigeaa
