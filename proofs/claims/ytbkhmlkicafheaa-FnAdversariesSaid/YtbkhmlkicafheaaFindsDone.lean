/- The walk of FnFinds about the program itself: it returns true for every code. No condition. -/
import Derived.Test.YtbkhmlkicafheaaFindsWalk
import Derived.Test.YtbkhmlkicafheaaFindImpl
import Derived.Test.YtbkhmlkicafheaaBoundImpl
namespace Go.Proofs.Ytbkhmlkicafheaa
open Go.RowKit

/-- A valid pick's numbers are Go integers. -/
theorem pick_num {s : SD} {p : PD} (h : pickB s p = true) : ∀ x ∈ p.list, I64 x := by
  unfold pickB at h
  simp only [Bool.and_eq_true] at h
  intro x hx
  have := cntB_iff.1 (List.all_eq_true.1 h.2.1 x hx)
  unfold I64
  omega
theorem walkFnFinds (W : World) (a : Option Addr) (len cap : Nat) (zs : List Int) (h : IsBytes W a len cap zs) :
    Calls Try.prog 9 #[.slice a len cap] W fun e w' => e = .returned (.bool true) ∧ Below W.heap.size W w' :=
  lawFinds specMakeState (fun s W => implCountCases s W) implFewest (fun s W => implStateOk s W) implInfoBound (fun s k => implCanFind s k) (fun s k => implFirstPick s k)
    (fun s p hp W => implPickOk s p (pick_num hp) W) (fun s p x hp W => implAfterPick s p x (pick_num hp) W) W a len cap (bytesAt_of h)
end Go.Proofs.Ytbkhmlkicafheaa
