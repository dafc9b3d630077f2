/- The program's spellings of signs and of results: the values and their marks; the mark of a value; the value of a mark. Conditions: the spelling lies as the program makes it; for the value of a mark: the mark is one byte, or begins with a byte beyond 127; the library's variable MaxLen holds an integer. -/
import Derived.Test.YtlflblngbneacabGreatDoorGRun
import Derived.Test.YtlflblngbneacabGreatDoorShelf
import Derived.Test.YtlflblngbneacabGreatDoorGWei
namespace Go.Proofs.YtlflblngbneacabGreatDoor
open Go.RowKit

/-- The library's variable MaxLen holds an integer. -/
def MaxOk (w : World) : Prop := ∃ m, w.cell? ⟨3, 0, none⟩ = some (.int .i64 m)
theorem MaxOk.below {w w' : World} (h : MaxOk w) (hb : Below w.heap.size w w') : MaxOk w' := by
  obtain ⟨m, hm⟩ := h
  exact ⟨m, by rw [hb.cell (p := ⟨3, 0, none⟩) (World.block_lt_of_cell? w _ hm)]; exact hm⟩
def PieceOk (x : ByteArray) : Prop := (∃ a, x = oneB a) ∨ ∃ a l, x.data.toList = a :: l ∧ 128 ≤ a.toNat
theorem pieces_ok (t : ByteArray) : ∀ x ∈ runesL t, PieceOk x := fun x hx => by
  rcases piece_two t t.size 0 x hx with ⟨i, h, e⟩ | h
  · exact .inl ⟨_, e⟩
  · exact .inr h
theorem oneB_list (a : UInt8) : (oneB a).data.toList = [a] := rfl
theorem oneB_inj {a b : UInt8} (h : oneB a = oneB b) : a = b := by
  have := congrArg (fun z : ByteArray => z.data.toList) h
  simpa [oneB] using this

/-! ### int -/
def SpellI (w : World) (v : Value) : Prop := ∃ b, v = .agg #[.slice (some ⟨b, 0, none⟩) 3 3, .string ⟨#[60, 61, 62]⟩] ∧ w.cell? ⟨b, 0, none⟩ = some (.int .i64 (-1)) ∧ w.cell? ⟨b, 1, none⟩ = some (.int .i64 0) ∧ w.cell? ⟨b, 2, none⟩ = some (.int .i64 1)
theorem SpellI.below {w w' : World} {v : Value} (h : SpellI w v) (hb : Below w.heap.size w w') : SpellI w' v := by
  obtain ⟨b, rfl, h0, h1, h2⟩ := h
  have hl := World.block_lt_of_cell? w _ h0
  refine ⟨b, rfl, ?_, ?_, ?_⟩
  · rw [hb.cell (p := ⟨b, 0, none⟩) hl]; exact h0
  · rw [hb.cell (p := ⟨b, 1, none⟩) hl]; exact h1
  · rw [hb.cell (p := ⟨b, 2, none⟩) hl]; exact h2
set_option maxHeartbeats 1600000 in
theorem implsignSpelling (w : World) : Calls Tryz.prog 62 #[] w fun e w' => ∃ v, e = .returned v ∧ SpellI w' v ∧ Below w.heap.size w w' := by
  go_enter Tryz.func62, Tryz.ntmps62
  go_wp2
  refine bodyPost_ret (v := .agg #[.slice (some ⟨w.heap.size + 1, 0, none⟩) 3 3, .string ⟨#[60, 61, 62]⟩]) (by simp [results, Tryz.results62, go_sem]) rfl ⟨_, rfl, ⟨_, rfl, by simp, by simp, by simp⟩, ?_⟩
  exact (((Below.refl w.heap.size w).alloc (Nat.le_refl _) _).alloc (by simp) _)

def idxI (x : Int) : Int := if x = -1 then 0 else if x = 0 then 1 else if x = 1 then 2 else -1
set_option maxHeartbeats 1600000 in
theorem implIndexI (x : Int) (b : Nat) (w : World) (h0 : w.cell? ⟨b, 0, none⟩ = some (.int .i64 (-1))) (h1 : w.cell? ⟨b, 1, none⟩ = some (.int .i64 0)) (h2 : w.cell? ⟨b, 2, none⟩ = some (.int .i64 1)) : Calls Tryz.prog 102 #[.slice (some ⟨b, 0, none⟩) 3 3, .int .i64 x] w fun e w' => e = .returned (.int .i64 (idxI x)) ∧ w' = w := by
  by_cases e0 : x = -1
  · subst e0
    have hr : idxI (-1) = 0 := rfl
    rw [hr]
    go_enter Tryz.func102, Tryz.ntmps102
    go_wp2
    refine wp_loop_rounds 1 ?_
    rw [rounds_succ]
    go_wp2
    go_ret
    exact ⟨rfl, rfl⟩
  · by_cases e1 : x = 0
    · subst e1
      have hr : idxI 0 = 1 := rfl
      rw [hr]
      go_enter Tryz.func102, Tryz.ntmps102
      go_wp2
      refine wp_loop_rounds 2 ?_
      rw [rounds_succ]
      go_wp2
      rw [rounds_succ]
      go_wp2
      go_ret
      exact ⟨rfl, rfl⟩
    · by_cases e2 : x = 1
      · subst e2
        have hr : idxI 1 = 2 := rfl
        rw [hr]
        go_enter Tryz.func102, Tryz.ntmps102
        go_wp2
        refine wp_loop_rounds 3 ?_
        rw [rounds_succ]
        go_wp2
        rw [rounds_succ]
        go_wp2
        rw [rounds_succ]
        go_wp2
        go_ret
        exact ⟨rfl, rfl⟩
      · have hr : idxI x = -1 := by unfold idxI; rw [if_neg e0, if_neg e1, if_neg e2]
        rw [hr]
        go_enter Tryz.func102, Tryz.ntmps102
        go_wp2
        refine wp_loop_rounds 4 ?_
        rw [rounds_succ]
        go_wp2
        rw [rounds_succ]
        go_wp2
        rw [rounds_succ]
        go_wp2
        rw [rounds_succ]
        go_wp2
        go_ret
        exact ⟨rfl, rfl⟩
set_option maxHeartbeats 1600000 in
theorem implMarkI (x : Int) (v : Value) (w : World) (h : SpellI w v) : Calls Tryz.prog 106 #[v, .int .i64 x] w fun e w' => e = .returned (.string (signB x)) ∧ Below w.heap.size w w' := by
  have B1 := Lib.hid (alloc_below w (.cells v.cells 97))
  have h' := h.below B1.out
  obtain ⟨b, rfl, h0, h1, h2⟩ := h'
  have C := implIndexI x b _ h0 h1 h2
  clear h0 h1 h2 h
  by_cases e0 : x = -1
  · subst e0

    have hi : idxI (-1) = 0 := rfl
    rw [hi] at C
    have C := Lib.hid C
    have hr : signB (-1) = ⟨#[60]⟩ := rfl
    rw [hr]
    go_enter Tryz.func106, Tryz.ntmps106
    go_wp2_with fail
    refine C.out.mono ?_
    rintro e w1 ⟨rfl, rfl⟩
    go_wp2
    go_ret
    exact ⟨rfl, B1.out⟩
  by_cases e1 : x = 0
  · subst e1

    have hi : idxI (0) = 1 := rfl
    rw [hi] at C
    have C := Lib.hid C
    have hr : signB (0) = ⟨#[61]⟩ := rfl
    rw [hr]
    go_enter Tryz.func106, Tryz.ntmps106
    go_wp2_with fail
    refine C.out.mono ?_
    rintro e w1 ⟨rfl, rfl⟩
    go_wp2
    go_ret
    exact ⟨rfl, B1.out⟩
  by_cases e2 : x = 1
  · subst e2

    have hi : idxI (1) = 2 := rfl
    rw [hi] at C
    have C := Lib.hid C
    have hr : signB (1) = ⟨#[62]⟩ := rfl
    rw [hr]
    go_enter Tryz.func106, Tryz.ntmps106
    go_wp2_with fail
    refine C.out.mono ?_
    rintro e w1 ⟨rfl, rfl⟩
    go_wp2
    go_ret
    exact ⟨rfl, B1.out⟩
  have hi : idxI x = -1 := by unfold idxI; rw [if_neg e0, if_neg e1, if_neg e2]
  rw [hi] at C
  have C := Lib.hid C
  rw [sign_no e0 e1 e2]
  go_enter Tryz.func106, Tryz.ntmps106
  go_wp2_with fail
  refine C.out.mono ?_
  rintro e w1 ⟨rfl, rfl⟩
  go_wp2
  go_ret
  exact ⟨rfl, B1.out⟩

/-! ### bool -/
def SpellB (w : World) (v : Value) : Prop := ∃ b, v = .agg #[.slice (some ⟨b, 0, none⟩) 2 2, .string ⟨#[43, 46]⟩] ∧ w.cell? ⟨b, 0, none⟩ = some (.bool true) ∧ w.cell? ⟨b, 1, none⟩ = some (.bool false)
theorem SpellB.below {w w' : World} {v : Value} (h : SpellB w v) (hb : Below w.heap.size w w') : SpellB w' v := by
  obtain ⟨b, rfl, h0, h1⟩ := h
  have hl := World.block_lt_of_cell? w _ h0
  refine ⟨b, rfl, ?_, ?_⟩
  · rw [hb.cell (p := ⟨b, 0, none⟩) hl]; exact h0
  · rw [hb.cell (p := ⟨b, 1, none⟩) hl]; exact h1
set_option maxHeartbeats 1600000 in
theorem implresultSpelling (w : World) : Calls Tryz.prog 69 #[] w fun e w' => ∃ v, e = .returned v ∧ SpellB w' v ∧ Below w.heap.size w w' := by
  go_enter Tryz.func69, Tryz.ntmps69
  go_wp2
  refine bodyPost_ret (v := .agg #[.slice (some ⟨w.heap.size + 1, 0, none⟩) 2 2, .string ⟨#[43, 46]⟩]) (by simp [results, Tryz.results69, go_sem]) rfl ⟨_, rfl, ⟨_, rfl, by simp, by simp⟩, ?_⟩
  exact (((Below.refl w.heap.size w).alloc (Nat.le_refl _) _).alloc (by simp) _)

def idxB (x : Bool) : Int := if x = true then 0 else 1
set_option maxHeartbeats 1600000 in
theorem implIndexB (x : Bool) (b : Nat) (w : World) (h0 : w.cell? ⟨b, 0, none⟩ = some (.bool true)) (h1 : w.cell? ⟨b, 1, none⟩ = some (.bool false)) : Calls Tryz.prog 142 #[.slice (some ⟨b, 0, none⟩) 2 2, .bool x] w fun e w' => e = .returned (.int .i64 (idxB x)) ∧ w' = w := by
  cases x with
  | true =>
    have hr : idxB true = 0 := rfl
    rw [hr]
    go_enter Tryz.func142, Tryz.ntmps142
    go_wp2
    refine wp_loop_rounds 1 ?_
    rw [rounds_succ]
    go_wp2
    go_ret
    exact ⟨rfl, rfl⟩
  | false =>
    have hr : idxB false = 1 := rfl
    rw [hr]
    go_enter Tryz.func142, Tryz.ntmps142
    go_wp2
    refine wp_loop_rounds 2 ?_
    rw [rounds_succ]
    go_wp2
    rw [rounds_succ]
    go_wp2
    go_ret
    exact ⟨rfl, rfl⟩
set_option maxHeartbeats 1600000 in
theorem implMarkB (x : Bool) (v : Value) (w : World) (h : SpellB w v) : Calls Tryz.prog 111 #[v, .bool x] w fun e w' => e = .returned (.string (resB x)) ∧ Below w.heap.size w w' := by
  have B1 := Lib.hid (alloc_below w (.cells v.cells 105))
  have h' := h.below B1.out
  obtain ⟨b, rfl, h0, h1⟩ := h'
  have C := implIndexB x b _ h0 h1
  clear h0 h1 h
  cases x with
  | true =>

    have hi : idxB true = 0 := rfl
    rw [hi] at C
    have C := Lib.hid C
    have hr : resB true = ⟨#[43]⟩ := rfl
    rw [hr]
    go_enter Tryz.func111, Tryz.ntmps111
    go_wp2_with fail
    refine C.out.mono ?_
    rintro e w1 ⟨rfl, rfl⟩
    go_wp2
    go_ret
    exact ⟨rfl, B1.out⟩
  | false =>

    have hi : idxB false = 1 := rfl
    rw [hi] at C
    have C := Lib.hid C
    have hr : resB false = ⟨#[46]⟩ := rfl
    rw [hr]
    go_enter Tryz.func111, Tryz.ntmps111
    go_wp2_with fail
    refine C.out.mono ?_
    rintro e w1 ⟨rfl, rfl⟩
    go_wp2
    go_ret
    exact ⟨rfl, B1.out⟩
end Go.Proofs.YtlflblngbneacabGreatDoor
