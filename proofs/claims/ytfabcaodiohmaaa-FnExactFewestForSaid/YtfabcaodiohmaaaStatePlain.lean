/- States of coins and picks, plainly: which are valid, how many cases there are, what is left behind a pick; and how they lie in memory. No condition. -/
import Derived.Test.YtfabcaodiohmaaaIntFields
import Derived.Test.YtfabcaodiohmaaaCase
namespace Go.Proofs.Ytfabcaodiohmaaa
open Go.RowKit

/-- A state of coins. -/
structure SD where
  b : Int
  h : Int
  l : Int
  g : Int
/-- A pick of coins. -/
structure PD where
  bl : Int
  br : Int
  hl : Int
  hr : Int
  ll : Int
  lr : Int
  gl : Int
  gr : Int
def SD.list (s : SD) : List Int := [s.b, s.h, s.l, s.g]
def PD.list (p : PD) : List Int := [p.bl, p.br, p.hl, p.hr, p.ll, p.lr, p.gl, p.gr]
def stateV (s : SD) : Value := .agg #[.int .i64 s.b, .int .i64 s.h, .int .i64 s.l, .int .i64 s.g]
def pickV (p : PD) : Value := .agg #[.int .i64 p.bl, .int .i64 p.br, .int .i64 p.hl, .int .i64 p.hr, .int .i64 p.ll, .int .i64 p.lr, .int .i64 p.gl, .int .i64 p.gr]
/-- A number of coins. -/
def cntB (x : Int) : Bool := decide (0 ≤ x) && decide (x ≤ 13)
def sumS (s : SD) : Int := s.b + s.h + s.l + s.g
def stateB (s : SD) : Bool := s.list.all cntB && (decide (1 ≤ sumS s) && decide (sumS s ≤ 13))
def countS (s : SD) : Int := 2 * s.b + s.h + s.l
def leftP (p : PD) : Int := p.bl + p.hl + p.ll + p.gl
def rightP (p : PD) : Int := p.br + p.hr + p.lr + p.gr
def pickB (s : SD) (p : PD) : Bool :=
  stateB s && (p.list.all cntB && (decide (leftP p = rightP p) && (decide (0 < leftP p) && (decide (p.bl + p.br ≤ s.b) && (decide (p.hl + p.hr ≤ s.h) && (decide (p.ll + p.lr ≤ s.l) && decide (p.gl + p.gr ≤ s.g)))))))
/-- The state with the good coins that it lacks to be as many as before. -/
def goodS (s : SD) (b h l : Int) : SD := ⟨b, h, l, s.b + s.h + s.l + s.g - b - h - l⟩
def afterS (s : SD) (p : PD) (x : Int) : SD :=
  if x = 1 then goodS s 0 (p.bl + p.hl) (p.br + p.lr)
  else if x = -1 then goodS s 0 (p.br + p.hr) (p.bl + p.ll)
  else goodS s (s.b - p.bl - p.br) (s.h - p.hl - p.hr) (s.l - p.ll - p.lr)
theorem cntB_iff {x : Int} : cntB x = true ↔ 0 ≤ x ∧ x ≤ 13 := by unfold cntB; simp

/-- A state's four cells lie in block b. -/
def StateAt (w : World) (b : Nat) (s : SD) : Prop :=
  w.cell? ⟨b, 0, none⟩ = some (.int .i64 s.b) ∧ w.cell? ⟨b, 1, none⟩ = some (.int .i64 s.h) ∧ w.cell? ⟨b, 2, none⟩ = some (.int .i64 s.l) ∧ w.cell? ⟨b, 3, none⟩ = some (.int .i64 s.g) ∧ b < w.heap.size
theorem StateAt.below {w w' : World} {b : Nat} {s : SD} (h : StateAt w b s) (hb : Below w.heap.size w w') : StateAt w' b s := by
  obtain ⟨e0, e1, e2, e3, hlt⟩ := h
  refine ⟨?_, ?_, ?_, ?_, Nat.lt_of_lt_of_le hlt hb.size⟩
  · rw [hb.cell (p := ⟨b, 0, none⟩) hlt]; exact e0
  · rw [hb.cell (p := ⟨b, 1, none⟩) hlt]; exact e1
  · rw [hb.cell (p := ⟨b, 2, none⟩) hlt]; exact e2
  · rw [hb.cell (p := ⟨b, 3, none⟩) hlt]; exact e3
theorem StateAt.new (w : World) (ty : TypeId) (s : SD) : StateAt (w.alloc (.cells #[.int .i64 s.b, .int .i64 s.h, .int .i64 s.l, .int .i64 s.g] ty)) w.heap.size s := by
  refine ⟨?_, ?_, ?_, ?_, ?_⟩ <;> simp
/-- A pick's eight cells lie in block b. -/
def PickAt (w : World) (b : Nat) (p : PD) : Prop :=
  w.cell? ⟨b, 0, none⟩ = some (.int .i64 p.bl) ∧ w.cell? ⟨b, 1, none⟩ = some (.int .i64 p.br) ∧ w.cell? ⟨b, 2, none⟩ = some (.int .i64 p.hl) ∧ w.cell? ⟨b, 3, none⟩ = some (.int .i64 p.hr) ∧
  w.cell? ⟨b, 4, none⟩ = some (.int .i64 p.ll) ∧ w.cell? ⟨b, 5, none⟩ = some (.int .i64 p.lr) ∧ w.cell? ⟨b, 6, none⟩ = some (.int .i64 p.gl) ∧ w.cell? ⟨b, 7, none⟩ = some (.int .i64 p.gr) ∧ b < w.heap.size
theorem PickAt.below {w w' : World} {b : Nat} {p : PD} (h : PickAt w b p) (hb : Below w.heap.size w w') : PickAt w' b p := by
  obtain ⟨e0, e1, e2, e3, e4, e5, e6, e7, hlt⟩ := h
  refine ⟨?_, ?_, ?_, ?_, ?_, ?_, ?_, ?_, Nat.lt_of_lt_of_le hlt hb.size⟩
  · rw [hb.cell (p := ⟨b, 0, none⟩) hlt]; exact e0
  · rw [hb.cell (p := ⟨b, 1, none⟩) hlt]; exact e1
  · rw [hb.cell (p := ⟨b, 2, none⟩) hlt]; exact e2
  · rw [hb.cell (p := ⟨b, 3, none⟩) hlt]; exact e3
  · rw [hb.cell (p := ⟨b, 4, none⟩) hlt]; exact e4
  · rw [hb.cell (p := ⟨b, 5, none⟩) hlt]; exact e5
  · rw [hb.cell (p := ⟨b, 6, none⟩) hlt]; exact e6
  · rw [hb.cell (p := ⟨b, 7, none⟩) hlt]; exact e7
theorem PickAt.new (w : World) (ty : TypeId) (p : PD) : PickAt (w.alloc (.cells #[.int .i64 p.bl, .int .i64 p.br, .int .i64 p.hl, .int .i64 p.hr, .int .i64 p.ll, .int .i64 p.lr, .int .i64 p.gl, .int .i64 p.gr] ty)) w.heap.size p := by
  refine ⟨?_, ?_, ?_, ?_, ?_, ?_, ?_, ?_, ?_⟩ <;> simp
end Go.Proofs.Ytfabcaodiohmaaa
