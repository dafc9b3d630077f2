/- The contracts of the model's outcome of a weighing. Conditions: the sides read as integers and are short enough to be counted; a case that fits Go's int. -/
import Derived.Test.YtdfcjdepfikboaaDoorWeighSpec
namespace Go.Proofs.YtdfcjdepfikboaaDoor
open Go.RowKit

/-- The outcome of a valid weighing. -/
def outcI (L R : List Int) (c : Int) : Int :=
  if hasI L (coinI c) = true then (if c < 0 then -1 else 1) else if hasI R (coinI c) = true then (if c < 0 then 1 else -1) else 0
/-- The outcome of a weighing. -/
def outI (L R : List Int) (c : Int) : Int := if (weighB L R 13 && inB c) = true then outcI L R c else 0

theorem quiet_of {P : Program} {f : FuncId} {args : Array Value} {w : World} {n : Nat} {v : Value}
    (h : Calls P f args (w.drewN n) fun e w' => e = .returned v ∧ w.drewN n = w') : Calls P f args (w.drewN n) fun e w'' => e = .returned v ∧ ∃ m, w'' = w.drewN m :=
  Calls.quiet_of_same (h.mono fun _ _ hh => ⟨hh.1, hh.2.symm⟩)
theorem IntsAt.drewN {w : World} {v : Value} {l : List Int} (h : IntsAt w v l) (n : Nat) : IntsAt (w.drewN n) v l := h.below (below_drewN (Below.refl _ _) n)

end Go.Proofs.YtdfcjdepfikboaaDoor
