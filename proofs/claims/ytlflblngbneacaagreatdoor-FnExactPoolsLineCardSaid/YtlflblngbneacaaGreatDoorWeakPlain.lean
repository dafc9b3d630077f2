/- Two sets with the same results, looked for in a list of the sets of few items, plainly. No condition. -/
import Derived.Test.YtlflblngbneacaaGreatDoorGDis
import Derived.Test.YtlflblngbneacaaGreatDoorSetsOf
namespace Go.Proofs.YtlflblngbneacaaGreatDoor
open Go.RowKit

/-- The first pair of a list, by its first and then by its second member, for which h tells something. -/
def pairsF {β : Type} (h : Nat → Nat → Option β) : List Nat → Option β
  | [] => none
  | a :: t => (t.findSome? (h a)).or (pairsF h t)
theorem seek_filter {β : Type} (p : Nat → Bool) (g : Nat → Option β) : ∀ m a, seekF (fun b => if p b = true then g b else none) m a = ((List.range' a m).filter p).findSome? g
  | 0, _ => rfl
  | m + 1, a => by
    rw [seekF, seek_filter p g m (a + 1), List.range'_succ, List.filter_cons]
    cases p a with
    | false => rfl
    | true =>
      simp only [if_true, List.findSome?_cons]
      cases g a <;> rfl
theorem seek_pairs {β : Type} (p : Nat → Bool) (h : Nat → Nat → Option β) (G : Nat → Option β) (N : Nat)
    (hG : ∀ a, a < N → G a = if p a = true then seekF (fun b => if p b = true then h a b else none) (N - (a + 1)) (a + 1) else none) :
    ∀ m a, a + m = N → seekF G m a = pairsF h ((List.range' a m).filter p)
  | 0, _, _ => rfl
  | m + 1, a, e => by
    have e1 : N - (a + 1) = m := by omega
    rw [seekF, seek_pairs p h G N hG m (a + 1) (by omega), List.range'_succ, List.filter_cons, hG a (by omega), e1, seek_filter]
    cases p a with
    | false => rfl
    | true => rfl
def pairO (P : List Int) (a b : Nat) : Option (Int × Int) := if (resL P a == resL P b) = true then some ((a : Int), (b : Int)) else none
theorem weak_pairs {n : Int} {P : List Int} {d : Int} (h : okD n P d = true) : weakO n P d = pairsF (pairO P) (setsK d (2 ^ n.toNat)) := by
  unfold weakO
  rw [if_pos h]
  refine (seek_pairs (fun j => decide (cntI (j : Int) ≤ d)) (pairO P) _ (2 ^ n.toNat) (fun a _ => ?_) _ 0 (by omega)).trans ?_
  · unfold weakA
    have he : sameAt P d a = fun (b : Nat) => if decide (cntI (b : Int) ≤ d) = true then pairO P a b else none := by
      funext b
      unfold sameAt pairO
      cases decide (cntI (b : Int) ≤ d) <;> simp
    rw [he]
    by_cases hc : cntI (a : Int) ≤ d
    · rw [if_pos hc, if_pos (decide_eq_true hc)]
    · rw [if_neg hc, if_neg (by simpa using hc)]
  · unfold setsK
    rw [List.range_eq_range']
theorem pairs_at {β : Type} (h : Nat → Nat → Option β) {S : List Nat} {i : Nat} (hi : i < S.length) : pairsF h (S.drop i) = ((S.drop (i + 1)).findSome? (h S[i])).or (pairsF h (S.drop (i + 1))) := by
  rw [List.drop_eq_getElem_cons hi, pairsF]
theorem find_at {β : Type} (f : Nat → Option β) {S : List Nat} {j : Nat} (hj : j < S.length) : (S.drop j).findSome? f = (f S[j]).or ((S.drop (j + 1)).findSome? f) := by
  rw [List.drop_eq_getElem_cons hj, List.findSome?_cons]
  cases f S[j] <;> rfl
theorem pairs_end {β : Type} (h : Nat → Nat → Option β) {S : List Nat} {i : Nat} (hi : S.length ≤ i) : pairsF h (S.drop i) = none := by
  rw [List.drop_eq_nil_of_le hi]
  rfl
theorem find_end {β : Type} (f : Nat → Option β) {S : List Nat} {i : Nat} (hi : S.length ≤ i) : (S.drop i).findSome? f = none := by
  rw [List.drop_eq_nil_of_le hi]
  rfl
theorem sets_le {d : Int} {N x : Nat} (h : x ∈ setsK d N) : x < N := by
  unfold setsK at h
  rw [List.mem_filter, List.mem_range] at h
  exact h.1
end Go.Proofs.YtlflblngbneacaaGreatDoor
