/- The contracts of the model's FormatState, FormatPick and StateLine. Condition: numbers that fit Go's int. -/
import Derived.Test.YtlflblngbneacabGreatDoorFmtWeighSpec
import Derived.Test.YtlflblngbneacabGreatDoorGStates
import Derived.Test.YtlflblngbneacabGreatDoorGFinds
import Derived.Deep.RegionHeld3
namespace Go.Proofs.YtlflblngbneacabGreatDoor
open Go.RowKit

/-- Every number of a list fits Go's int. -/
def Fit (l : List Int) : Prop := ∀ x ∈ l, -9223372036854775808 ≤ x ∧ x ≤ 9223372036854775807

/-- The text of a state, its cases and its number of weighings. -/
def stateT (s : SD) : ByteArray := if stateB s = true then (((listB s.list ++ ⟨#[32, 99, 97, 115, 101, 115, 32]⟩) ++ fmtB (casesS s)) ++ ⟨#[32, 119, 101, 105, 103, 104, 105, 110, 103, 115, 32]⟩) ++ fmtB (fewestI s) else ⟨#[]⟩
theorem fewest_in (s : SD) : -1 ≤ fewestI s ∧ fewestI s ≤ 3 := by
  unfold fewestI
  split
  · omega
  · split
    · omega
    · split
      · omega
      · split <;> omega
theorem cases_in {s : SD} (h : stateB s = true) : 0 ≤ casesS s ∧ casesS s ≤ 100 := by
  have := stateB_in h
  unfold casesS countS
  rw [if_pos h]
  omega
theorem state_fit {s : SD} (h : stateB s = true) : Fit s.list := fun x hx => by
  have := stateB_in h
  simp only [SD.list, List.mem_cons, List.not_mem_nil, or_false] at hx
  rcases hx with rfl | rfl | rfl | rfl <;> omega

end Go.Proofs.YtlflblngbneacabGreatDoor
