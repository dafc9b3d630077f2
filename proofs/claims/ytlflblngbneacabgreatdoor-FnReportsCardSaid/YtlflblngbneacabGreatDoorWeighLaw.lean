/- The walks of the laws of WeighingOk and OutcomeOf round the contracts of the program's functions: each law returns true for every argument. Condition: the sides that came in read as integers. -/
import Derived.Test.YtlflblngbneacabGreatDoorGWei
namespace Go.Proofs.YtlflblngbneacabGreatDoor
open Go.RowKit

theorem range_of {n : Int} (h : (Lit.int .i64 n).wf = true) : -9223372036854775808 ≤ n ∧ n ≤ 9223372036854775807 := by
  simpa [Lit.wf, IntKind.min, IntKind.max, IntKind.signed, IntKind.bits] using h

/-- In the world W the weighing that came in at the world w lies in the law's own variable and reads as L and R. -/
structure In (w W : World) (vl vr : Value) (L R : List Int) : Prop where
  two : TwoAt W w.heap.size vl vr
  left : IntsAt W vl L
  right : IntsAt W vr R
  bel : Below w.heap.size w W
theorem In.below {w W W' : World} {vl vr : Value} {L R : List Int} (h : In w W vl vr L R) (hb : Below W.heap.size W W') : In w W' vl vr L R := ⟨h.two.below hb, h.left.below hb, h.right.below hb, below_up h.bel hb⟩
theorem In.new {w : World} {vl vr : Value} {L R : List Int} (ty : TypeId) (hl : IntsAt w vl L) (hr : IntsAt w vr R) : In w (w.alloc (.cells #[vl, vr] ty)) vl vr L R :=
  ⟨TwoAt.new w ty vl vr, hl.below (alloc_below _ _), hr.below (alloc_below _ _), alloc_below _ _⟩
theorem TwoAt.drewT {X : World} {b : Nat} {x y : Value} (hp : TwoAt X b x y) : TwoAt X.drew b x y := hp.below ((Below.refl _ _).drew)
theorem IntsAt.drewT {w : World} {v : Value} {l : List Int} (h : IntsAt w v l) : IntsAt w.drew v l := h.below ((Below.refl _ _).drew)

/-- The contract of a function that tells whether a weighing is valid. -/
def OkIs (f : FuncId) (L R : List Int) (n : Int) : Prop :=
  ∀ W vl vr, IntsAt W vl L → IntsAt W vr R → Calls Tryz.prog f #[.agg #[vl, vr], .int .i64 n] W fun e w' => e = .returned (.bool (weighB L R n)) ∧ Below W.heap.size W w'

/-- The contract of a function that tells the outcome of a weighing. -/
def OutIs (f : FuncId) (L R : List Int) (n : Int) : Prop :=
  ∀ W vl vr, IntsAt W vl L → IntsAt W vr R → Calls Tryz.prog f #[.agg #[vl, vr], .int .i64 n] W fun e w' => e = .returned (.int .i64 (outI L R n)) ∧ Below W.heap.size W w'

end Go.Proofs.YtlflblngbneacabGreatDoor
