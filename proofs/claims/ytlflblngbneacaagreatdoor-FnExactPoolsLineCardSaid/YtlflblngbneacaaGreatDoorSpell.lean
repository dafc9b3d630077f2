/- The program's spellings of signs and of results: the values and their marks; the mark of a value; the value of a mark. Conditions: the spelling lies as the program makes it; for the value of a mark: the mark is one byte, or begins with a byte beyond 127; the library's variable MaxLen holds an integer. -/
import Derived.Test.YtlflblngbneacaaGreatDoorGRun
import Derived.Test.YtlflblngbneacaaGreatDoorShelf
import Derived.Test.YtlflblngbneacaaGreatDoorGWei
namespace Go.Proofs.YtlflblngbneacaaGreatDoor
open Go.RowKit

/-- The library's variable MaxLen holds an integer. -/
def MaxOk (w : World) : Prop := ∃ m, w.cell? ⟨4, 0, none⟩ = some (.int .i64 m)
theorem MaxOk.below {w w' : World} (h : MaxOk w) (hb : Below w.heap.size w w') : MaxOk w' := by
  obtain ⟨m, hm⟩ := h
  exact ⟨m, by rw [hb.cell (p := ⟨4, 0, none⟩) (World.block_lt_of_cell? w _ hm)]; exact hm⟩
def PieceOk (x : ByteArray) : Prop := (∃ a, x = oneB a) ∨ ∃ a l, x.data.toList = a :: l ∧ 128 ≤ a.toNat
theorem pieces_ok (t : ByteArray) : ∀ x ∈ runesL t, PieceOk x := fun x hx => by
  rcases piece_two t t.size 0 x hx with ⟨i, h, e⟩ | h
  · exact .inl ⟨_, e⟩
  · exact .inr h
theorem oneB_list (a : UInt8) : (oneB a).data.toList = [a] := rfl
theorem oneB_inj {a b : UInt8} (h : oneB a = oneB b) : a = b := by
  have := congrArg (fun z : ByteArray => z.data.toList) h
  simpa [oneB] using this

/-! ### int -/
def SpellI (w : World) (v : Value) : Prop := ∃ b, v = .agg #[.slice (some ⟨b, 0, none⟩) 3 3, .string ⟨#[60, 61, 62]⟩] ∧ w.cell? ⟨b, 0, none⟩ = some (.int .i64 (-1)) ∧ w.cell? ⟨b, 1, none⟩ = some (.int .i64 0) ∧ w.cell? ⟨b, 2, none⟩ = some (.int .i64 1)
theorem SpellI.below {w w' : World} {v : Value} (h : SpellI w v) (hb : Below w.heap.size w w') : SpellI w' v := by
  obtain ⟨b, rfl, h0, h1, h2⟩ := h
  have hl := World.block_lt_of_cell? w _ h0
  refine ⟨b, rfl, ?_, ?_, ?_⟩
  · rw [hb.cell (p := ⟨b, 0, none⟩) hl]; exact h0
  · rw [hb.cell (p := ⟨b, 1, none⟩) hl]; exact h1
  · rw [hb.cell (p := ⟨b, 2, none⟩) hl]; exact h2
def idxI (x : Int) : Int := if x = -1 then 0 else if x = 0 then 1 else if x = 1 then 2 else -1
set_option maxHeartbeats 1600000 in
theorem implIndexI (x : Int) (b : Nat) (w : World) (h0 : w.cell? ⟨b, 0, none⟩ = some (.int .i64 (-1))) (h1 : w.cell? ⟨b, 1, none⟩ = some (.int .i64 0)) (h2 : w.cell? ⟨b, 2, none⟩ = some (.int .i64 1)) : Calls Tryz.prog 134 #[.slice (some ⟨b, 0, none⟩) 3 3, .int .i64 x] w fun e w' => e = .returned (.int .i64 (idxI x)) ∧ w' = w := by
  by_cases e0 : x = -1
  · subst e0
    have hr : idxI (-1) = 0 := rfl
    rw [hr]
    go_enter Tryz.func134, Tryz.ntmps134
    go_wp2
    refine wp_loop_rounds 1 ?_
    rw [rounds_succ]
    go_wp2
    go_ret
    exact ⟨rfl, rfl⟩
  · by_cases e1 : x = 0
    · subst e1
      have hr : idxI 0 = 1 := rfl
      rw [hr]
      go_enter Tryz.func134, Tryz.ntmps134
      go_wp2
      refine wp_loop_rounds 2 ?_
      rw [rounds_succ]
      go_wp2
      rw [rounds_succ]
      go_wp2
      go_ret
      exact ⟨rfl, rfl⟩
    · by_cases e2 : x = 1
      · subst e2
        have hr : idxI 1 = 2 := rfl
        rw [hr]
        go_enter Tryz.func134, Tryz.ntmps134
        go_wp2
        refine wp_loop_rounds 3 ?_
        rw [rounds_succ]
        go_wp2
        rw [rounds_succ]
        go_wp2
        rw [rounds_succ]
        go_wp2
        go_ret
        exact ⟨rfl, rfl⟩
      · have hr : idxI x = -1 := by unfold idxI; rw [if_neg e0, if_neg e1, if_neg e2]
        rw [hr]
        go_enter Tryz.func134, Tryz.ntmps134
        go_wp2
        refine wp_loop_rounds 4 ?_
        rw [rounds_succ]
        go_wp2
        rw [rounds_succ]
        go_wp2
        rw [rounds_succ]
        go_wp2
        rw [rounds_succ]
        go_wp2
        go_ret
        exact ⟨rfl, rfl⟩
/-! ### bool -/
def SpellB (w : World) (v : Value) : Prop := ∃ b, v = .agg #[.slice (some ⟨b, 0, none⟩) 2 2, .string ⟨#[43, 46]⟩] ∧ w.cell? ⟨b, 0, none⟩ = some (.bool true) ∧ w.cell? ⟨b, 1, none⟩ = some (.bool false)
theorem SpellB.below {w w' : World} {v : Value} (h : SpellB w v) (hb : Below w.heap.size w w') : SpellB w' v := by
  obtain ⟨b, rfl, h0, h1⟩ := h
  have hl := World.block_lt_of_cell? w _ h0
  refine ⟨b, rfl, ?_, ?_⟩
  · rw [hb.cell (p := ⟨b, 0, none⟩) hl]; exact h0
  · rw [hb.cell (p := ⟨b, 1, none⟩) hl]; exact h1
def idxB (x : Bool) : Int := if x = true then 0 else 1
end Go.Proofs.YtlflblngbneacaaGreatDoor
