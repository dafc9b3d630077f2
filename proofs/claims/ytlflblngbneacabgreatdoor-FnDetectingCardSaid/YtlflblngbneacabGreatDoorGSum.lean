/- Several texts in one file; each says what it proves and under which condition. No condition. -/
import Derived.Test.YtlflblngbneacabGreatDoorGDis
import Derived.Test.YtlflblngbneacabGreatDoorGBase
import Derived.Maps.AppendAt
import Derived.Test.YtlflblngbneacabGreatDoorPoolsSpec
/- Pools that are counted, plainly: what they show, whether they detect all sets, which sets have such and such numbers. No condition. -/
namespace Go.Proofs.YtlflblngbneacabGreatDoor
open Go.RowKit

/-- How many bad items each pool has. -/
def sumL (P : List Int) (bad : Int) : List Int := P.map fun p => cntI (andI p bad)
theorem sumL_len (P : List Int) (bad : Int) : (sumL P bad).length = P.length := by simp [sumL]
theorem sumL_take (P : List Int) (bad : Int) {i : Nat} (h : i < P.length) : sumL (P.take (i + 1)) bad = sumL (P.take i) bad ++ [cntI (andI P[i] bad)] := by
  rw [List.take_succ_eq_append_getElem h]
  unfold sumL
  rw [List.map_append]
  rfl
def sumO (n : Int) (P : List Int) (bad : Int) : List Int := if testsB n P bad = true then sumL P bad else []
/-- Whether no two of the first N sets have the same numbers. -/
def detAt (P : List Int) (a b : Nat) : Bool := !decide (sumL P a = sumL P b)
def detF (P : List Int) (N : Nat) : Bool := allFrom (fun a => allFrom (detAt P a) a 0) N 0
def detB (n : Int) (P : List Int) : Bool := poolsB n P && detF P (2 ^ n.toNat)
/-- The first k sets that have these numbers. -/
def decK (P S : List Int) : Nat → List Int
  | 0 => []
  | k + 1 => if sumL P (k : Int) = S then decK P S k ++ [(k : Int)] else decK P S k
theorem decK_len (P S : List Int) : ∀ k, (decK P S k).length ≤ k
  | 0 => by simp [decK]
  | k + 1 => by
    have := decK_len P S k
    unfold decK
    split
    · rw [List.length_append]; simp; omega
    · omega
def decS (n : Int) (P S : List Int) : List Int := if poolsB n P = true then decK P S (2 ^ n.toNat) else []
theorem decS_len (n : Int) (P S : List Int) : (decS n P S).length ≤ 1024 := by
  unfold decS
  split
  · rename_i h
    obtain ⟨⟨n1, n10⟩, -, -⟩ := pools_in h
    have h1 : 2 ^ n.toNat ≤ 1024 := Nat.pow_le_pow_right (n := 2) (by decide) (show n.toNat ≤ 10 by omega)
    have := decK_len P S (2 ^ n.toNat)
    omega
  · simp
theorem sumO_len (n : Int) (P : List Int) (bad : Int) : (sumO n P bad).length ≤ 12 := by
  unfold sumO
  split
  · rename_i h
    unfold testsB at h
    rw [Bool.and_eq_true] at h
    have := (pools_in h.1).2.1
    rw [sumL_len]
    exact this
  · simp
/-- One more item, and its pool. -/
def extB (n : Int) (P : List Int) : Bool := detB n P && (!decide (n = 10) && !decide (P.length = 12))
def extL (n : Int) (P : List Int) : List Int := if extB n P = true then P ++ [2 ^ n.toNat] else []
theorem detB_in {n : Int} {P : List Int} (h : detB n P = true) : poolsB n P = true := by
  unfold detB at h
  rw [Bool.and_eq_true] at h
  exact h.1
theorem extL_len (n : Int) (P : List Int) : (extL n P).length ≤ 13 := by
  unfold extL
  split
  · rename_i h
    unfold extB at h
    rw [Bool.and_eq_true] at h
    have := (pools_in (detB_in h.1)).2.1
    rw [List.length_append]
    simp
    exact this
  · simp
/-- The different lists of numbers of the first k sets. -/
def seenK (P : List Int) : Nat → List (List Int)
  | 0 => []
  | k + 1 => if ((seenK P k).any fun x => decide (x = sumL P (k : Int))) = true then seenK P k else seenK P k ++ [sumL P (k : Int)]
theorem seenK_len (P : List Int) : ∀ k, (seenK P k).length ≤ k
  | 0 => by simp [seenK]
  | k + 1 => by
    have := seenK_len P k
    unfold seenK
    split
    · omega
    · rw [List.length_append]; simp; omega
theorem seenK_in (P : List Int) : ∀ k, ∀ s ∈ seenK P k, s.length = P.length
  | 0, s, h => by simp [seenK] at h
  | k + 1, s, h => by
    unfold seenK at h
    split at h
    · exact seenK_in P k s h
    · rw [List.mem_append, List.mem_singleton] at h
      rcases h with h | rfl
      · exact seenK_in P k s h
      · exact sumL_len _ _
def tellI (n : Int) (P : List Int) : Int := if poolsB n P = true then ((seenK P (2 ^ n.toNat)).length : Int) else -1
end Go.Proofs.YtlflblngbneacabGreatDoor

/- The contract of the model's comparison of two lists of integers. Conditions: both read as integers and are short enough to be counted. -/
namespace Go.Proofs.YtlflblngbneacabGreatDoor
open Go.RowKit

end Go.Proofs.YtlflblngbneacabGreatDoor

/- A row of lists of integers of the call's own that grows. No condition. -/
namespace Go.Proofs.YtlflblngbneacabGreatDoor
open Go.RowKit

theorem infoLstI : (Tryz.prog.info? 26).map (fun i => (i.zero, i.size, i.bytes)) = some (some (.slice none 0 0), 1, 24) := by kernel_rfl
theorem rowFormI {w : World} {B e s n : Nat} {v : Value} {xs : List Value} (h : w.ownsRow B e s v n xs) : ∃ a m c, v = .slice a m c := by
  rcases h.2 with ⟨rfl, _⟩ | ⟨g, cap, cur, rfl, _⟩
  · exact ⟨_, _, _, rfl⟩
  · exact ⟨_, _, _, rfl⟩
/-- A row of lists of integers of the call's own; the lists lie in other blocks. -/
def RowsI (w : World) (lo : Nat) (ov : Value) (S : List (List Int)) (us : List Value) : Prop :=
  us.length = S.length ∧ w.ownsRow lo 26 1 ov S.length us ∧ ∀ i (h : i < S.length) (h' : i < us.length), IntsAt w us[i] S[i] ∧ Blk (fun b => ov.ownBlock ≠ some b ∧ b < w.heap.size) us[i]
theorem RowsI.below {w w' : World} {lo : Nat} {ov : Value} {S : List (List Int)} {us : List Value} (h : RowsI w lo ov S us) (hb : Below w.heap.size w w') : RowsI w' lo ov S us :=
  ⟨h.1, owns_below h.2.1 hb, fun i h1 h2 => ⟨(h.2.2 i h1 h2).1.below hb, fun b e => ⟨((h.2.2 i h1 h2).2 b e).1, Nat.lt_of_lt_of_le ((h.2.2 i h1 h2).2 b e).2 hb.size⟩⟩⟩
theorem RowsI.push {w w' : World} {lo : Nat} {ov ov' : Value} {S : List (List Int)} {us : List Value} (h : RowsI w lo ov S us) {s : List Int} {u : Value}
    (hg : w.grownBy w' ov.ownBlock) (hown : w'.ownsRow lo 26 1 ov' (S.length + 1) (us ++ [u])) (hat : ov'.ownBlock = ov.ownBlock ∨ ov'.ownBlock = some w.heap.size)
    (hu : IntsAt w u s) (hbu : Blk (fun b => ov.ownBlock ≠ some b ∧ b < w.heap.size) u) : RowsI w' lo ov' (S ++ [s]) (us ++ [u]) := by
  have T := Only.of_grown hg
  have key : ∀ (x : Value) (l : List Int), IntsAt w x l → Blk (fun b => ov.ownBlock ≠ some b ∧ b < w.heap.size) x → IntsAt w' x l ∧ Blk (fun b => ov'.ownBlock ≠ some b ∧ b < w'.heap.size) x := fun x l hx hb =>
    ⟨hx.only T fun b e => (hb b e).1, fun b e => ⟨by
      have h1 := hb b e
      rcases hat with e' | e'
      · rw [e']; exact h1.1
      · rw [e']; intro e2; simp at e2; omega, Nat.lt_of_lt_of_le (hb b e).2 T.size⟩⟩
  refine ⟨by simp [h.1], by simpa using hown, fun i h1 h2 => ?_⟩
  by_cases e : i < S.length
  · have e' : i < us.length := by rw [h.1]; exact e
    rw [List.getElem_append_left e, List.getElem_append_left e']
    exact key _ _ (h.2.2 i e e').1 (h.2.2 i e e').2
  · have e1 : i = S.length := by simp at h1; omega
    have g1 : (S ++ [s])[i] = s := by rw [List.getElem_append_right (by omega)]; simp [e1]
    have g2 : (us ++ [u])[i] = u := by rw [List.getElem_append_right (by rw [h.1]; omega)]; simp [e1, h.1]
    rw [g1, g2]
    exact key u s hu hbu
theorem any_takeI {S : List (List Int)} {s : List Int} {j : Nat} (h : j < S.length) : ((S.take (j + 1)).any fun x => decide (x = s)) = (((S.take j).any fun x => decide (x = s)) || decide (S[j] = s)) := by
  rw [List.take_succ_eq_append_getElem h, List.any_append]
  simp
end Go.Proofs.YtlflblngbneacabGreatDoor

/- The contracts of the model's SumPools, IsDetecting and DecodeSums, and of what they call. Conditions: the slices read as integers. -/
namespace Go.Proofs.YtlflblngbneacabGreatDoor
open Go.RowKit

/-- A list of the call's own. -/
def ListsS (L : List Int) (w : World) (e : Ending) (w' : World) : Prop := ∃ v, e = .returned v ∧ Own w' w.heap.size v L ∧ Below w.heap.size w w'
/-- .. and whether it is one. -/
def GivesS (L : List Int) (b : Bool) (w : World) (e : Ending) (w' : World) : Prop :=
  ∃ u, e = .returned (.tuple #[u, .bool b]) ∧ Own w' w.heap.size u L ∧ Below w.heap.size w w'

end Go.Proofs.YtlflblngbneacabGreatDoor

/- The contracts of the model's IsDetecting, DecodeSums, SumsTell and ExtendDetecting. Conditions: the slices read as integers. -/
namespace Go.Proofs.YtlflblngbneacabGreatDoor
open Go.RowKit

end Go.Proofs.YtlflblngbneacabGreatDoor

/- The contracts of the model's SumsTell and ExtendDetecting. Conditions: the slices read as integers. -/
namespace Go.Proofs.YtlflblngbneacabGreatDoor
open Go.RowKit

theorem rowsI_cells {w : World} {lo : Nat} {ov : Value} {S : List (List Int)} {us : List Value} (h : RowsI w lo ov S us) :
    ∃ av cv, ov = .slice av S.length cv ∧ ∀ j (hj : j < S.length), ∃ g u, av = some ⟨g, 0, none⟩ ∧ w.cell? ⟨g, j, none⟩ = some u ∧ IntsAt w u S[j] := by
  rcases h.2.1.2 with ⟨h0, hn⟩ | ⟨g, cap, cur, h0, _⟩
  · exact ⟨none, 0, by rw [h0, hn], fun i hi => by omega⟩
  · have h1 := h.2.1
    subst h0
    refine ⟨_, cap, rfl, fun i hi => ?_⟩
    have hi' : i < us.length := by rw [h.1]; exact hi
    exact ⟨g, us[i], rfl, by rw [h1.cellAt i (by omega), List.getElem?_eq_getElem hi'], (h.2.2 i hi hi').1⟩

end Go.Proofs.YtlflblngbneacabGreatDoor
