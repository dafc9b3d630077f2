/- The walks of the exact laws of StateOk, CountCases, PickOk and AfterPick: each returns true for every argument. No condition. -/
import Derived.Test.YtfabcaodiohmaaaAfterImpl
namespace Go.Proofs.Ytfabcaodiohmaaa
open Go.RowKit

theorem walkFnExactStateOk (b : Int) (_ : (Lit.int .i64 b).wf = true) (h : Int) (_ : (Lit.int .i64 h).wf = true) (l : Int) (_ : (Lit.int .i64 l).wf = true) (g : Int) (_ : (Lit.int .i64 g).wf = true) (W : World) :
    Calls Try.prog 3 #[.agg #[.int .i64 b, .int .i64 h, .int .i64 l, .int .i64 g]] W fun e w' => e = .returned (.bool true) ∧ Below W.heap.size W w' :=
  lawStateOk ⟨b, h, l, g⟩ (fun W => implStateOk ⟨b, h, l, g⟩ W) W
theorem walkFnExactCountCases (b : Int) (_ : (Lit.int .i64 b).wf = true) (h : Int) (_ : (Lit.int .i64 h).wf = true) (l : Int) (_ : (Lit.int .i64 l).wf = true) (g : Int) (_ : (Lit.int .i64 g).wf = true) (W : World) :
    Calls Try.prog 4 #[.agg #[.int .i64 b, .int .i64 h, .int .i64 l, .int .i64 g]] W fun e w' => e = .returned (.bool true) ∧ Below W.heap.size W w' :=
  lawCountCases ⟨b, h, l, g⟩ (fun W => implCountCases ⟨b, h, l, g⟩ W) W
theorem pick_i64 {a b c d e f g h : Int} (w0 : (Lit.int .i64 a).wf = true) (w1 : (Lit.int .i64 b).wf = true) (w2 : (Lit.int .i64 c).wf = true) (w3 : (Lit.int .i64 d).wf = true) (w4 : (Lit.int .i64 e).wf = true) (w5 : (Lit.int .i64 f).wf = true) (w6 : (Lit.int .i64 g).wf = true) (w7 : (Lit.int .i64 h).wf = true) :
    ∀ y ∈ (PD.mk a b c d e f g h).list, I64 y := by
  intro y hy
  simp only [PD.list, List.mem_cons, List.not_mem_nil, or_false] at hy
  rcases hy with rfl | rfl | rfl | rfl | rfl | rfl | rfl | rfl
  all_goals exact i64_of (by assumption)
theorem walkFnExactPickOk (b : Int) (_ : (Lit.int .i64 b).wf = true) (h : Int) (_ : (Lit.int .i64 h).wf = true) (l : Int) (_ : (Lit.int .i64 l).wf = true) (g : Int) (_ : (Lit.int .i64 g).wf = true)
    (p0 : Int) (w0 : (Lit.int .i64 p0).wf = true) (p1 : Int) (w1 : (Lit.int .i64 p1).wf = true) (p2 : Int) (w2 : (Lit.int .i64 p2).wf = true) (p3 : Int) (w3 : (Lit.int .i64 p3).wf = true) (p4 : Int) (w4 : (Lit.int .i64 p4).wf = true) (p5 : Int) (w5 : (Lit.int .i64 p5).wf = true) (p6 : Int) (w6 : (Lit.int .i64 p6).wf = true) (p7 : Int) (w7 : (Lit.int .i64 p7).wf = true) (W : World) :
    Calls Try.prog 5 #[.agg #[.int .i64 b, .int .i64 h, .int .i64 l, .int .i64 g], .agg #[.int .i64 p0, .int .i64 p1, .int .i64 p2, .int .i64 p3, .int .i64 p4, .int .i64 p5, .int .i64 p6, .int .i64 p7]] W fun e w' => e = .returned (.bool true) ∧ Below W.heap.size W w' :=
  lawPickOk ⟨b, h, l, g⟩ ⟨p0, p1, p2, p3, p4, p5, p6, p7⟩ (fun W => implPickOk _ _ (pick_i64 w0 w1 w2 w3 w4 w5 w6 w7) W) W
theorem walkFnExactAfterPick (b : Int) (_ : (Lit.int .i64 b).wf = true) (h : Int) (_ : (Lit.int .i64 h).wf = true) (l : Int) (_ : (Lit.int .i64 l).wf = true) (g : Int) (_ : (Lit.int .i64 g).wf = true)
    (p0 : Int) (w0 : (Lit.int .i64 p0).wf = true) (p1 : Int) (w1 : (Lit.int .i64 p1).wf = true) (p2 : Int) (w2 : (Lit.int .i64 p2).wf = true) (p3 : Int) (w3 : (Lit.int .i64 p3).wf = true) (p4 : Int) (w4 : (Lit.int .i64 p4).wf = true) (p5 : Int) (w5 : (Lit.int .i64 p5).wf = true) (p6 : Int) (w6 : (Lit.int .i64 p6).wf = true) (p7 : Int) (w7 : (Lit.int .i64 p7).wf = true) (x : Int) (_ : (Lit.int .i64 x).wf = true) (W : World) :
    Calls Try.prog 6 #[.agg #[.int .i64 b, .int .i64 h, .int .i64 l, .int .i64 g], .agg #[.int .i64 p0, .int .i64 p1, .int .i64 p2, .int .i64 p3, .int .i64 p4, .int .i64 p5, .int .i64 p6, .int .i64 p7], .int .i64 x] W fun e w' => e = .returned (.bool true) ∧ Below W.heap.size W w' :=
  lawAfterPick ⟨b, h, l, g⟩ ⟨p0, p1, p2, p3, p4, p5, p6, p7⟩ x (fun W => implAfterPick _ _ _ (pick_i64 w0 w1 w2 w3 w4 w5 w6 w7) W) W
end Go.Proofs.Ytfabcaodiohmaaa
