/- What FnTop asks of the numbers: plain facts. -/
import Derived.Test.YtlflblngbneacabDoorGBounds
namespace Go.Proofs.YtlflblngbneacabDoor
open Go.RowKit

theorem top_one : fewestI ⟨1, 0, 0, 0⟩ = -1 := by decide +kernel
theorem top_two : fewestI ⟨2, 0, 0, 0⟩ = -1 := by decide +kernel
theorem top_heavy : ∀ m : Nat, m ≤ 12 → 1 ≤ m → fewestI ⟨0, (m : Int), 0, 0⟩ = infoI (m : Int) := by decide +kernel
theorem top_most : mostI 3 false = 12 ∧ mostI 3 true = 13 ∧ mostI 0 true = 0 ∧ mostI 0 false = 0 ∧ mostI 1 false = 0 := by decide +kernel
theorem top_state {b h g : Int} (b0 : 0 ≤ b) (h0 : 0 ≤ h) (g0 : 0 ≤ g) (h1 : 1 ≤ b + h + g) (h2 : b + h + g ≤ 13) : stateB ⟨b, h, 0, g⟩ = true := by
  rw [stateB_iff]
  unfold SIn sumS
  simp only []
  omega
theorem top_a {n : Int} (h1 : 1 ≤ n) (h2 : n ≤ 12) :
    (3 ≤ n → 2 ≤ fewestI ⟨n, 0, 0, 0⟩ ∧ n ≤ mostI (fewestI ⟨n, 0, 0, 0⟩) false ∧ mostI (fewestI ⟨n, 0, 0, 0⟩ - 1) false < n) ∧ (n < 3 → fewestI ⟨n, 0, 0, 0⟩ = -1) := by
  refine ⟨fun h3 => ?_, fun h3 => ?_⟩
  · have hs := top_state (b := n) (h := 0) (g := 0) (by omega) (by omega) (by omega) (by omega) (by omega)
    obtain ⟨e1, e2⟩ := every5 hs (by unfold countS; simp; omega) rfl rfl
    obtain ⟨l0, l3, -⟩ := finds0 hs
    simp only [Int.lt_irrefl, decide_false, not_false_eq_true, true_and] at e1 e2
    have hne : fewestI ⟨n, 0, 0, 0⟩ ≠ -1 := fun e => by
      have := e1 e
      rw [top_most.1] at this
      omega
    obtain ⟨e3, e4⟩ := e2 hne
    refine ⟨?_, e3, e4⟩
    obtain ⟨k, hk⟩ : ∃ k, fewestI ⟨n, 0, 0, 0⟩ = k := ⟨_, rfl⟩
    rw [hk] at l0 l3 hne e3 ⊢
    have : ¬ k = 0 := fun e => by rw [e, top_most.2.2.2.1] at e3; omega
    have : ¬ k = 1 := fun e => by rw [e, top_most.2.2.2.2] at e3; omega
    omega
  · rcases (show n = 1 ∨ n = 2 by omega) with rfl | rfl
    · exact top_one
    · exact top_two
theorem top_b {n : Int} (h1 : 1 ≤ n) (h2 : n ≤ 12) :
    1 ≤ fewestI ⟨n, 0, 0, 1⟩ ∧ n ≤ mostI (fewestI ⟨n, 0, 0, 1⟩) true ∧ mostI (fewestI ⟨n, 0, 0, 1⟩ - 1) true < n := by
  have hs := top_state (b := n) (h := 0) (g := 1) (by omega) (by omega) (by omega) (by omega) (by omega)
  obtain ⟨e1, e2⟩ := every5 hs (by unfold countS; simp; omega) rfl rfl
  obtain ⟨l0, l3, -⟩ := finds0 hs
  rw [decide_eq_true (show (0 : Int) < 1 by omega)] at e1 e2
  have hne : fewestI ⟨n, 0, 0, 1⟩ ≠ -1 := fun e => by
    have := e1 e
    rw [top_most.2.1] at this
    simp at this
    omega
  obtain ⟨e3, e4⟩ := e2 hne
  replace e3 : n ≤ mostI (fewestI ⟨n, 0, 0, 1⟩) true := e3
  replace e4 : mostI (fewestI ⟨n, 0, 0, 1⟩ - 1) true < n := e4
  refine ⟨?_, e3, e4⟩
  obtain ⟨k, hk⟩ : ∃ k, fewestI ⟨n, 0, 0, 1⟩ = k := ⟨_, rfl⟩
  rw [hk] at l0 l3 hne e3 ⊢
  have : ¬ k = 0 := fun e => by rw [e, top_most.2.2.1] at e3; omega
  omega
end Go.Proofs.YtlflblngbneacabDoor
