/- The contracts of the law's own helpers on lists of integers: comparing a list with itself returns true, marks are written into a list of the call's own, and marks that were written are found. Conditions: fewer than 100000000 elements, and the list is one of the call's own where it is written. -/
import Derived.Test.YtfabcaodiohmaaaProg
import Derived.Test.YtfabcaodiohmaaaPlain
import Derived.Test.YtfabcaodiohmaaaStrRows
import Derived.BigQuiet
import Derived.IntWalk
import Derived.Deep.QuietTactic
import Derived.Maps.AppendAt
import Derived.Maps.RangeWalk
import Derived.OwnWalk
namespace Go.Proofs.Ytfabcaodiohmaaa
open Go.RowKit

/-- The slice value v reads as the integers l in the world w. -/
def IntsAt (w : World) (v : Value) (l : List Int) : Prop :=
  ∃ a cap, v = .slice a l.length cap ∧ (l = [] ∨ ∃ b off, a = some ⟨b, off, none⟩ ∧ ∀ i (h : i < l.length), w.cell? ⟨b, off + i, none⟩ = some (.int .i64 l[i]))

theorem IntsAt.below {w w' : World} {v : Value} {l : List Int} (h : IntsAt w v l) (hb : Below w.heap.size w w') : IntsAt w' v l := by
  obtain ⟨a, cap, rfl, h⟩ := h
  refine ⟨a, cap, rfl, ?_⟩
  rcases h with h | ⟨b, off, rfl, hc⟩
  · exact .inl h
  · refine .inr ⟨b, off, rfl, fun i hi => ?_⟩
    have hlt := World.block_lt_of_cell? w _ (hc i hi)
    rw [hb.cell (p := ⟨b, off + i, none⟩) hlt]
    exact hc i hi

theorem IntsAt.of_owns {w : World} {B e : Nat} {v : Value} {l : List Int} (h : w.ownsRow B e 1 v l.length (l.map (Value.int .i64))) : IntsAt w v l := by
  rcases h.2 with ⟨rfl, h0⟩ | ⟨g, cap, cur, rfl, hB, hh, hn, hc, hs, ht⟩
  · have : l = [] := List.eq_nil_of_length_eq_zero h0
    subst this
    exact ⟨none, 0, rfl, .inl rfl⟩
  · refine ⟨some ⟨g, 0, none⟩, cap, rfl, .inr ⟨g, 0, rfl, fun i hi => ?_⟩⟩
    have := h.cellAt i (by omega)
    rw [Nat.zero_add, this]
    simp [hi]

theorem IntsAt.of_owns_n {w : World} {B e n : Nat} {v : Value} {l : List Int} (h : w.ownsRow B e 1 v n (l.map (Value.int .i64))) (hn : l.length = n) : IntsAt w v l := by
  subst hn
  exact IntsAt.of_owns h

/-- n marks from q on. -/
def imarks (q : Int) (n : Nat) : List Int := (List.range n).map fun (i : Nat) => q + (i : Int)
theorem imarks_length (q : Int) (n : Nat) : (imarks q n).length = n := by simp [imarks]
theorem imarks_at (q : Int) (n i : Nat) (h : i < (imarks q n).length) : (imarks q n)[i] = q + i := by simp [imarks]
theorem imarks_succ (q : Int) (n : Nat) : imarks q (n + 1) = imarks q n ++ [q + n] := by
  simp [imarks, List.range_succ]

/-- k marks in front of what the list held. -/
def imarked (q : Int) (l : List Int) (k : Nat) : List Int := imarks q k ++ l.drop k
theorem imarked_length (q : Int) (l : List Int) (k : Nat) (h : k ≤ l.length) : (imarked q l k).length = l.length := by
  simp [imarked, imarks_length]; omega
theorem imarked_zero (q : Int) (l : List Int) : imarked q l 0 = l := by simp [imarked, imarks]
theorem imarked_all (q : Int) (l : List Int) : imarked q l l.length = imarks q l.length := by simp [imarked]
theorem imarked_set (q : Int) (l : List Int) (k : Nat) (h : k < l.length) : (imarked q l k).set k (q + k) = imarked q l (k + 1) := by
  unfold imarked
  rw [imarks_succ, List.drop_eq_getElem_cons h, List.set_append_right _ _ (by rw [imarks_length]; exact Nat.le_refl _), imarks_length, Nat.sub_self, List.set_cons_zero, List.append_assoc]
  rfl

end Go.Proofs.Ytfabcaodiohmaaa
