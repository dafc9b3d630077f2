/- Lists of integers whose slice has room for them. No condition. -/
import Derived.Test.YtlflblngbneacabDoorGBase
namespace Go.Proofs.YtlflblngbneacabDoor
open Go.RowKit

theorem own_cap {w : World} {B : Nat} {v : Value} {l : List Int} (h : Own w B v l) : ∃ a c, v = .slice a l.length c ∧ l.length ≤ c := by
  rcases h.2 with ⟨e, h0⟩ | ⟨g, cap, cur, e, -, -, h1, -⟩
  · exact ⟨none, 0, by rw [e, h0], by omega⟩
  · exact ⟨_, cap, e, h1⟩
/-- The slice value v reads as the list L and has room for it. -/
def CapAt (w : World) (v : Value) (L : List Int) : Prop := ∃ a c, v = .slice a L.length c ∧ L.length ≤ c ∧ IntsAt w v L
theorem CapAt.reads {w : World} {v : Value} {L : List Int} (h : CapAt w v L) : IntsAt w v L := by
  obtain ⟨a, c, -, -, h⟩ := h
  exact h
theorem CapAt.below {w w' : World} {v : Value} {L : List Int} (h : CapAt w v L) (hb : Below w.heap.size w w') : CapAt w' v L := by
  obtain ⟨a, c, h1, h2, h3⟩ := h
  exact ⟨a, c, h1, h2, h3.below hb⟩
theorem Own.capAt {w : World} {B : Nat} {v : Value} {L : List Int} (h : Own w B v L) : CapAt w v L := by
  obtain ⟨a, c, h1, h2⟩ := own_cap h
  exact ⟨a, c, h1, h2, h.reads⟩
end Go.Proofs.YtlflblngbneacabDoor
