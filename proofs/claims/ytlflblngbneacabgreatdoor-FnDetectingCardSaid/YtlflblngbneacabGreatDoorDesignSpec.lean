/- The contracts of the model's DesignOk, of the signs of a case, SignsOf and DecodeSigns. Conditions: the slice reads as weighings and is short enough to be counted. -/
import Derived.Test.YtlflblngbneacabGreatDoorGWd
import Derived.Test.YtlflblngbneacabGreatDoorSame
import Derived.Test.YtlflblngbneacabGreatDoorCasesFacts
import Derived.Test.YtlflblngbneacabGreatDoorGWei
namespace Go.Proofs.YtlflblngbneacabGreatDoor
open Go.RowKit

/-- Whether a design is valid for m coins. -/
def designB (D : List WD) (m : Int) : Bool := (decide (D.length ≤ 6) && (decide (1 ≤ m) && decide (m ≤ 13))) && D.all fun d => weighB d.L d.R m
/-- The signs of a case. -/
def signsL (D : List WD) (c : Int) : List Int := D.map fun d => outcI d.L d.R c
theorem signsL_len (D : List WD) (c : Int) : (signsL D c).length = D.length := by simp [signsL]
theorem design_size {D : List WD} {m : Int} (h : designB D m = true) : D.length ≤ 6 ∧ 1 ≤ m ∧ m ≤ 13 := by
  simp only [designB, Bool.and_eq_true, decide_eq_true_eq] at h
  exact ⟨h.1.1, h.1.2.1, h.1.2.2⟩
theorem designAll_drop {D : List WD} {k : Nat} (f : WD → Bool) (h : k < D.length) : (D.drop k).all f = (f D[k] && (D.drop (k + 1)).all f) := by
  rw [List.drop_eq_getElem_cons h, List.all_cons]
theorem designAll_end {D : List WD} {k : Nat} (f : WD → Bool) (h : D.length ≤ k) : (D.drop k).all f = true := by
  rw [List.drop_of_length_le h]; rfl

theorem signsL_take {D : List WD} {c : Int} {k : Nat} (h : k < D.length) : signsL (D.take (k + 1)) c = signsL (D.take k) c ++ [outcI D[k].L D[k].R c] := by
  unfold signsL
  rw [List.take_succ_eq_append_getElem h, List.map_append]
  rfl

/-- Whether the signs of a case can be told. -/
def sokB (P : List WD) (m c : Int) : Bool := designB P m && (decide (-m ≤ c) && decide (c ≤ m))
/-- The signs that are given back. -/
def sgR (P : List WD) (m c : Int) : List Int := if sokB P m c = true then signsL P c else []
theorem sgR_len (P : List WD) (m c : Int) : (sgR P m c).length ≤ 60 := by
  unfold sgR
  split
  · rename_i h
    unfold sokB at h
    rw [Bool.and_eq_true] at h
    have := (design_size h.1).1
    rw [signsL_len]
    omega
  · simp
/-- What a function that tells signs gives back. -/
def SignsR (P : List WD) (m c : Int) (w : World) (e : Ending) (w' : World) : Prop :=
  ∃ u, e = .returned (.tuple #[u, .bool (sokB P m c)]) ∧ Own w' w.heap.size u (sgR P m c) ∧ Below w.heap.size w w'

end Go.Proofs.YtlflblngbneacabGreatDoor
