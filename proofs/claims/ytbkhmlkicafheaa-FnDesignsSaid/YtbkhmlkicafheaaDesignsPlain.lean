/- The fixed designs of two and three weighings, plainly: they are valid, solve the problem that asks for everything, have no weighing too many, and their signs decode to the case. No condition. -/
import Derived.Test.YtbkhmlkicafheaaVectorLaw
import Derived.Test.YtbkhmlkicafheaaSpareSpec
import Derived.Test.YtbkhmlkicafheaaGBounds
namespace Go.Proofs.Ytbkhmlkicafheaa

/-- The design of k weighings, with all that is asked of it. -/
structure FineD (k : Nat) (D : List WD) (n : Int) : Prop where
  len : D.length = k
  most : mostI k false = n
  ok : designB D n = true
  good : goodD D n true true true = true
  solves : dsolB D n true true true = true
  spare : spareR D n true true true = -1
  even : ∀ d ∈ D, d.L.length = d.R.length ∧ 3 * (d.L.length : Int) = n
  count : cntR D n true true true = 2 * n + 1
theorem fine2 : FineD 2 (vecD 2) 3 := ⟨by decide +kernel, by decide +kernel, by decide +kernel, by decide +kernel, by decide +kernel, by decide +kernel, by decide +kernel, by decide +kernel⟩
theorem fine3 : FineD 3 (vecD 3) 12 := ⟨by decide +kernel, by decide +kernel, by decide +kernel, by decide +kernel, by decide +kernel, by decide +kernel, by decide +kernel, by decide +kernel⟩
theorem signs2 : ∀ m : Nat, m ≤ 6 → decR (vecD 2) 3 true true true (signsL (vecD 2) ((m : Int) - 3)) = [(m : Int) - 3] ∧ signsL (vecD 2) (-((m : Int) - 3)) = (signsL (vecD 2) ((m : Int) - 3)).map (fun x => -x) := by decide +kernel
theorem signs3 : ∀ m : Nat, m ≤ 24 → decR (vecD 3) 12 true true true (signsL (vecD 3) ((m : Int) - 12)) = [(m : Int) - 12] ∧ signsL (vecD 3) (-((m : Int) - 12)) = (signsL (vecD 3) ((m : Int) - 12)).map (fun x => -x) := by decide +kernel
end Go.Proofs.Ytbkhmlkicafheaa
