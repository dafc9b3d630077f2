/- The walks of the exact laws of PoolsOk, TestPools, CountItems, ConsistentSets, SurelyGood and SurelyBad: each returns true for every argument. No condition. -/
import Derived.Test.YtdafhbblkopelaaConsSets
import Derived.Test.YtdafhbblkopelaaPoolLaws
namespace Go.Proofs.Ytdafhbblkopelaa
open Go.RowKit

theorem pure_below {P : Program} {f : FuncId} {args : Array Value} {W : World} {v : Value} (h : Calls P f args W fun e w' => e = .returned v ∧ W = w') : Calls P f args W fun e w' => e = .returned v ∧ Below W.heap.size W w' :=
  h.mono fun _ _ ⟨he, hw⟩ => ⟨he, by rw [← hw]; exact Below.refl _ _⟩
theorem int_span {s : Int} (h : (Lit.int .i64 s).wf = true) : -9223372036854775808 ≤ s ∧ s ≤ 9223372036854775807 := by
  simpa [Lit.wf, IntKind.min, IntKind.max, IntKind.signed, IntKind.bits] using h
theorem walkFnExactPoolsOk (w : World) (n : Int) (_ : (Lit.int .i64 n).wf = true) (v : Value) (P : List Int) (cp : CameInts w v P) :
    Calls Try.prog 3 #[.int .i64 n, v] w fun e w' => e = .returned (.bool true) ∧ Below w.heap.size w w' :=
  lawPoolsOk n P w v cp.1 fun hm W vP hP => pure_below (implPoolsOk n vP P W hP (by unfold maxLen; omega))
theorem walkFnExactTestPools (w : World) (n : Int) (_ : (Lit.int .i64 n).wf = true) (v : Value) (P : List Int) (cp : CameInts w v P) (b : Int) (_ : (Lit.int .i64 b).wf = true) :
    Calls Try.prog 4 #[.int .i64 n, v, .int .i64 b] w fun e w' => e = .returned (.bool true) ∧ Below w.heap.size w w' :=
  lawTestPools n P b w v cp.1 fun hm W vP hP => implTestPools n vP P b W hP hm
theorem walkFnExactCountItems (s : Int) (ws : (Lit.int .i64 s).wf = true) (w : World) :
    Calls Try.prog 5 #[.int .i64 s] w fun e w' => e = .returned (.bool true) ∧ Below w.heap.size w w' :=
  lawCountItems s (int_span ws).2 (fun W => implCount s (int_span ws).2 W) w
theorem walkFnExactConsistentSets (w : World) (n : Int) (_ : (Lit.int .i64 n).wf = true) (v : Value) (P : List Int) (cp : CameInts w v P) (vr : Value) (R : List Bool) (cr : CameBools w vr R) (m : Int) (_ : (Lit.int .i64 m).wf = true) :
    Calls Try.prog 6 #[.int .i64 n, v, vr, .int .i64 m] w fun e w' => e = .returned (.bool true) ∧ Below w.heap.size w w' :=
  lawConsistentSets n P R m w v vr cp.1 cr.1 fun hm _ W vP vR hP hR => implCons n vP vR P R m W hP hR hm
theorem walkFnExactSurelyGood (w : World) (n : Int) (_ : (Lit.int .i64 n).wf = true) (v : Value) (P : List Int) (cp : CameInts w v P) (vr : Value) (R : List Bool) (cr : CameBools w vr R) :
    Calls Try.prog 7 #[.int .i64 n, v, vr] w fun e w' => e = .returned (.bool true) ∧ Below w.heap.size w w' :=
  lawSurelyGood n P R w v vr cp.1 cr.1 fun hm _ W vP vR hP hR => pure_below (implGood n vP vR P R W hP hR hm)
theorem walkFnExactSurelyBad (w : World) (n : Int) (_ : (Lit.int .i64 n).wf = true) (v : Value) (P : List Int) (cp : CameInts w v P) (vr : Value) (R : List Bool) (cr : CameBools w vr R) :
    Calls Try.prog 8 #[.int .i64 n, v, vr] w fun e w' => e = .returned (.bool true) ∧ Below w.heap.size w w' :=
  lawSurelyBad n P R w v vr cp.1 cr.1 fun hm _ W vP vR hP hR => implBad n vP vR P R W hP hR hm
end Go.Proofs.Ytdafhbblkopelaa
