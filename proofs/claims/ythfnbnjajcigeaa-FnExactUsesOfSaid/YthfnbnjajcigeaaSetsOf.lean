/- The contract of the program's setsOf, and of the iterator that it returns: the sets of at most so many items in ascending order. Condition: a number of items from 1 to 10. -/
import Derived.Test.YthfnbnjajcigeaaCountImpl
import Derived.Test.YthfnbnjajcigeaaPoolsSpec
import Derived.Stop.RegionWithIn
namespace Go.Proofs.Ythfnbnjajcigeaa
open Go.RowKit Go.Shelf
attribute [local go_sem] Oper.semAt_some

/-- The sets of at most so many items among the first k; all of them. -/
def setsK (most : Int) (k : Nat) : List Nat := (List.range k).filter fun j => decide (cntI (j : Int) ≤ most)
theorem setsK_yes {most : Int} {k : Nat} (h : cntI (k : Int) ≤ most) : setsK most (k + 1) = setsK most k ++ [k] := by
  unfold setsK
  rw [List.range_succ, List.filter_append]
  simp [h]
theorem setsK_no {most : Int} {k : Nat} (h : ¬ cntI (k : Int) ≤ most) : setsK most (k + 1) = setsK most k := by
  unfold setsK
  rw [List.range_succ, List.filter_append]
  simp [h]
theorem setsK_len (most : Int) (k : Nat) : (setsK most k).length ≤ k := by
  unfold setsK
  refine Nat.le_trans (List.length_filter_le _ _) ?_
  rw [List.length_range]
  exact Nat.le_refl _
theorem setsK_up (most : Int) (k : Nat) : ∀ d, setsK most k <+: setsK most (k + d)
  | 0 => List.prefix_refl _
  | d + 1 => by
    rw [show k + (d + 1) = (k + d) + 1 by omega]
    by_cases h : cntI ((k + d : Nat) : Int) ≤ most
    · rw [setsK_yes h]; exact (setsK_up most k d).trans (List.prefix_append _ _)
    · rw [setsK_no h]; exact setsK_up most k d
theorem setsK_pre {most : Int} {k N : Nat} (h : k ≤ N) : setsK most k <+: setsK most N := by
  have := setsK_up most k (N - k)
  rwa [show k + (N - k) = N by omega] at this

/-- What abides an iterator's steps abides whatever makes new blocks alone. -/
theorem abides_below {β : Type} {B : Nat} {J : β → World → Prop} (h : AbidesFrom B J) {s : β} {W W' : World} (hj : J s W) (hb : Below W.heap.size W W') : J s W' :=
  h s W W' none hj ⟨hb.os, hb.tape, hb.output, hb.size, fun k hk _ => hb.block k hk⟩ (fun r e => by cases e)
theorem boxedDeep {W W' : World} {b : Nat} {t : TypeId} {v : Value} (h : Boxed W b t v) (hb : Below W.heap.size W W') : Boxed W' b t v := (hb.block b h.lt).trans h
/-- How a round ends, in one word. -/
def YieldEnd (b : Nat) (Y N : World → Prop) (W : World) (e : Ending) (W' : World) : Prop := ∃ c, e = .returned (.bool c) ∧ (c = true → Y W' ∧ SameBlk b W W') ∧ (c = false → N W')

end Go.Proofs.Ythfnbnjajcigeaa
