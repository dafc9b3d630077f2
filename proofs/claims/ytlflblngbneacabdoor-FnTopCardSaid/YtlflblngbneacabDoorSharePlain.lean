/- The pairs of numbers that shares yields, plainly. No condition. -/
import Derived.Test.YtlflblngbneacabDoorGStates
namespace Go.Proofs.YtlflblngbneacabDoor

theorem range_prefix {k n : Nat} (h : k ≤ n) : List.range k <+: List.range n := by
  have e : (List.range n).take k = List.range k := by rw [List.take_range, Nat.min_eq_left h]
  rw [← e]; exact List.take_prefix _ _
theorem map_prefix {α β : Type} {l m : List α} (f : α → β) (h : l <+: m) : l.map f <+: m.map f := by
  obtain ⟨t, rfl⟩ := h; exact ⟨t.map f, by simp⟩
theorem flatMap_prefix {α β : Type} {l m : List α} (f : α → List β) (h : l <+: m) : l.flatMap f <+: m.flatMap f := by
  obtain ⟨t, rfl⟩ := h; exact ⟨t.flatMap f, by simp⟩

/-- The pairs with left number a, up to the j-th; all pairs whose left number is less than i; all pairs. -/
def rowL (a j : Nat) : List (Nat × Nat) := (List.range j).map fun b => (a, b)
def rowsL (c i : Nat) : List (Nat × Nat) := (List.range i).flatMap fun a => rowL a (c - a + 1)
def pairsL (c : Nat) : List (Nat × Nat) := rowsL c (c + 1)
theorem rowL_succ (a j : Nat) : rowL a (j + 1) = rowL a j ++ [(a, j)] := by simp [rowL, List.range_succ]
theorem rowsL_succ (c i : Nat) : rowsL c (i + 1) = rowsL c i ++ rowL i (c - i + 1) := by simp [rowsL, List.range_succ]
theorem rows_prefix {c i j : Nat} (hi : i ≤ c) (hj : j ≤ c - i + 1) : rowsL c i ++ rowL i j <+: pairsL c := by
  have h1 : rowsL c (i + 1) <+: pairsL c := flatMap_prefix _ (range_prefix (by omega))
  refine List.IsPrefix.trans ?_ h1
  rw [rowsL_succ, List.prefix_append_right_inj]
  exact map_prefix _ (range_prefix hj)
theorem pairs_lt {c i j : Nat} (hi : i ≤ c) (hj : j < c - i + 1) : (rowsL c i ++ rowL i j).length < (pairsL c).length := by
  have h := (rows_prefix hi (show j + 1 ≤ c - i + 1 by omega)).length_le
  rw [rowL_succ] at h
  simp only [List.length_append, List.length_cons, List.length_nil] at h ⊢
  omega
theorem mem_pairs {c : Nat} {x : Nat × Nat} : x ∈ pairsL c ↔ x.1 + x.2 ≤ c := by
  obtain ⟨a, b⟩ := x
  simp only [pairsL, rowsL, rowL, List.mem_flatMap, List.mem_range, List.mem_map, Prod.mk.injEq]
  constructor
  · rintro ⟨i, hi, j, hj, rfl, rfl⟩; omega
  · intro h; exact ⟨a, by omega, b, by omega, rfl, rfl⟩
/-- A number of coins, for whatever number. -/
def cl (n : Nat) : Int := ((min n 13 : Nat) : Int)
theorem cl_of {n : Nat} (h : n ≤ 13) : cl n = (n : Int) := by unfold cl; rw [Nat.min_eq_left h]
theorem cl_in (n : Nat) : 0 ≤ cl n ∧ cl n ≤ 13 := by unfold cl; omega
end Go.Proofs.YtlflblngbneacabDoor
