/- The contracts of the model's CountSigns, DesignSolves and DecodeSigns. Conditions: the slice reads as weighings and is short enough to be counted. -/
import Derived.Test.YtlflblngbneacabGreatDoorDesignSpec
import Derived.WalkSmall
namespace Go.Proofs.YtlflblngbneacabGreatDoor
open Go.RowKit

/-- Whether a problem and a design are valid. -/
def goodD (P : List WD) (n : Int) (h l _z : Bool) : Bool := probB n h l && designB P n

/-- The cases that are decoded. -/
def decR (P : List WD) (n : Int) (h l z : Bool) (S : List Int) : List Int := if goodD P n h l z = true then (casesL n h l z).filter (fun c => decide (signsL P c = S)) else []
theorem decR_len (P : List WD) (n : Int) (h l z : Bool) (S : List Int) : (decR P n h l z S).length ≤ 27 := by
  unfold decR
  split
  · exact Nat.le_trans (List.length_filter_le _ _) (cases_len _ _ _ _)
  · simp
/-- One's own list grows; another list stays. -/
theorem keep_other {X W2 : World} {ov v' vl : Value} {L : List Int} (hL : IntsAt X vl L) (hB : Blk (· < X.heap.size) vl) (hS : Sep ov vl) (hg : X.grownBy W2 ov.ownBlock) (hat : v'.ownBlock = ov.ownBlock ∨ v'.ownBlock = some X.heap.size) :
    IntsAt W2 vl L ∧ Blk (· < W2.heap.size) vl ∧ Sep v' vl := by
  have T := Only.of_grown hg
  refine ⟨hL.only T fun k hk e => hS k e hk, fun k hk => Nat.lt_of_lt_of_le (hB k hk) T.size, fun k h1 h2 => ?_⟩
  rcases hat with e | e
  · exact hS k (e ▸ h1) h2
  · rw [e] at h1
    have := hB k h2
    have : X.heap.size = k := by simpa using h1
    omega

end Go.Proofs.YtlflblngbneacabGreatDoor
