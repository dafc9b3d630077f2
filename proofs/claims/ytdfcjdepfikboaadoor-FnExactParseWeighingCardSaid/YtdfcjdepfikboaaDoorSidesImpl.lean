/- The contract of the program's weighingOf: the weighing of two sides, in either order. Condition: the sides' values lie in a list of two. -/
import Derived.Test.YtdfcjdepfikboaaDoorOutImpl
namespace Go.Proofs.YtdfcjdepfikboaaDoor
open Go.RowKit

set_option maxHeartbeats 1600000 in
theorem weighRL (b cap : Nat) (ax ay : Option Addr) (nx cx ny cy : Nat) (w : World) (h0 : w.cell? ⟨b, 0, none⟩ = some (.iface 52 (.slice ax nx cx))) (h1 : w.cell? ⟨b, 1, none⟩ = some (.iface 51 (.slice ay ny cy))) :
    Calls Tryd.prog 27 #[.slice (some ⟨b, 0, none⟩) 2 cap] w fun e w' => e = .returned (.agg #[.slice ay ny cy, .slice ax nx cx]) ∧ Below w.heap.size w w' := by
  have q1 := asLL
  have q2 := asRL
  have q3 := asRR
  have hb := World.block_lt_of_cell? w _ h0
  go_enter Tryd.func27, Tryd.ntmps27
  go_wp2_with fail
  refine wp_loop_rounds 3 ?_
  rw [rounds_succ]
  go_wp2_with fail
  rw [rounds_succ]
  go_wp2_with fail
  rw [rounds_succ]
  go_wp2_with fail
  refine bodyPost_ret (v := .agg #[.slice ay ny cy, .slice ax nx cx]) (by simp [results, Tryd.results27, go_sem]) rfl ⟨rfl, ((Below.refl _ _).alloc (Nat.le_refl _) _).alloc (by simp) _⟩

set_option maxHeartbeats 1600000 in
theorem weighLR (b cap : Nat) (ax ay : Option Addr) (nx cx ny cy : Nat) (w : World) (h0 : w.cell? ⟨b, 0, none⟩ = some (.iface 51 (.slice ax nx cx))) (h1 : w.cell? ⟨b, 1, none⟩ = some (.iface 52 (.slice ay ny cy))) :
    Calls Tryd.prog 27 #[.slice (some ⟨b, 0, none⟩) 2 cap] w fun e w' => e = .returned (.agg #[.slice ax nx cx, .slice ay ny cy]) ∧ Below w.heap.size w w' := by
  have q1 := asLL
  have q2 := asRL
  have q3 := asRR
  have hb := World.block_lt_of_cell? w _ h0
  go_enter Tryd.func27, Tryd.ntmps27
  go_wp2_with fail
  refine wp_loop_rounds 3 ?_
  rw [rounds_succ]
  go_wp2_with fail
  rw [rounds_succ]
  go_wp2_with fail
  rw [rounds_succ]
  go_wp2_with fail
  refine bodyPost_ret (v := .agg #[.slice ax nx cx, .slice ay ny cy]) (by simp [results, Tryd.results27, go_sem]) rfl ⟨rfl, ((Below.refl _ _).alloc (Nat.le_refl _) _).alloc (by simp) _⟩
end Go.Proofs.YtdfcjdepfikboaaDoor
