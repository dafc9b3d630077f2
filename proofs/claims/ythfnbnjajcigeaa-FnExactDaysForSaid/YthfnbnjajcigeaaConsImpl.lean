/- The contracts of slices.Equal on truth values and of the program's ConsistentSets. Conditions: the slices read as integers and as truth values, and are short enough to be counted. -/
import Derived.Test.YthfnbnjajcigeaaSetsOf
import Derived.Test.YthfnbnjajcigeaaSureImpl
import Derived.Test.YthfnbnjajcigeaaRoundOrders
import Derived.Deep.QuietTactic
import Derived.Maps.AppendAt
namespace Go.Proofs.Ythfnbnjajcigeaa
open Go.RowKit Go.Shelf

/-- A set of at most ten items. -/
abbrev SetN := { x : Nat // x ≤ 1023 }
def sets0 (l : List SetN) : List Nat := l.map (·.1)
theorem sets0_snoc (l : List SetN) (x : SetN) : sets0 (l ++ [x]) = sets0 l ++ [x.1] := by simp [sets0]
theorem sets0_len (l : List SetN) : (sets0 l).length = l.length := by simp [sets0]

/-- The consistent ones among the sets that have come. -/
def fitL (P : List Int) (R : List Bool) (l : List Nat) : List Int := (l.map fun (j : Nat) => (j : Int)).filter fun b => resL P b == R
theorem fit_snoc (P : List Int) (R : List Bool) (l : List SetN) (x : SetN) : fitL P R (sets0 (l ++ [x])) = if (resL P (x.1 : Nat) == R) = true then fitL P R (sets0 l) ++ [(x.1 : Int)] else fitL P R (sets0 l) := by
  rw [sets0_snoc]
  unfold fitL
  rw [List.map_append, List.filter_append]
  split <;> rename_i h <;> simp [h]
theorem fit_len (P : List Int) (R : List Bool) (l : List Nat) : (fitL P R l).length ≤ l.length := by
  unfold fitL
  refine Nat.le_trans (List.length_filter_le _ _) ?_
  simp
theorem fit_cons (n : Int) (P : List Int) (R : List Bool) (most : Int) : fitL P R (setsK most (2 ^ n.toNat)) = consL n P R most := by
  unfold fitL setsK consL
  rw [List.filter_map, List.filter_map, List.filter_filter]
  congr 1
  refine List.filter_congr fun x _ => ?_
  simp [Function.comp, Bool.and_comm]
theorem cons_none {n : Int} {P : List Int} {R : List Bool} {most : Int} (h : rokB n P R = false) : consR n P R most = [] := by
  unfold consR
  split
  · rename_i hp
    unfold rokB at h
    rw [hp, Bool.true_and, beq_eq_false_iff_ne] at h
    unfold consL
    rw [List.filter_eq_nil_iff]
    intro x _
    rw [Bool.and_eq_true, not_and]
    intro _ he
    rw [beq_iff_eq] at he
    exact h (by rw [← he, resL_len])
  · rfl
end Go.Proofs.Ythfnbnjajcigeaa
