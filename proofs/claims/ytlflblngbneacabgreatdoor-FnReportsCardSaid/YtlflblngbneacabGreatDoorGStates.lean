/- Several texts in one file; each says what it proves and under which condition. No condition. -/
import Derived.Test.YtlflblngbneacabGreatDoorGBase
import Derived.Test.YtlflblngbneacabGreatDoorGWei
import Derived.Deep.QuietTactic
import Derived.BigQuiet
import Derived.Deep.RegionLaw
import Derived.Deep.RegionHeld3
/- States of coins and picks, plainly: which are valid, how many cases there are, what is left behind a pick; and how they lie in memory. No condition. -/
namespace Go.Proofs.YtlflblngbneacabGreatDoor
open Go.RowKit

/-- A state of coins. -/
structure SD where
  b : Int
  h : Int
  l : Int
  g : Int
/-- A pick of coins. -/
structure PD where
  bl : Int
  br : Int
  hl : Int
  hr : Int
  ll : Int
  lr : Int
  gl : Int
  gr : Int
def SD.list (s : SD) : List Int := [s.b, s.h, s.l, s.g]
def PD.list (p : PD) : List Int := [p.bl, p.br, p.hl, p.hr, p.ll, p.lr, p.gl, p.gr]
def stateV (s : SD) : Value := .agg #[.int .i64 s.b, .int .i64 s.h, .int .i64 s.l, .int .i64 s.g]
def pickV (p : PD) : Value := .agg #[.int .i64 p.bl, .int .i64 p.br, .int .i64 p.hl, .int .i64 p.hr, .int .i64 p.ll, .int .i64 p.lr, .int .i64 p.gl, .int .i64 p.gr]
/-- A number of coins. -/
def cntB (x : Int) : Bool := decide (0 ≤ x) && decide (x ≤ 13)
def sumS (s : SD) : Int := s.b + s.h + s.l + s.g
def stateB (s : SD) : Bool := s.list.all cntB && (decide (1 ≤ sumS s) && decide (sumS s ≤ 13))
def countS (s : SD) : Int := 2 * s.b + s.h + s.l
def leftP (p : PD) : Int := p.bl + p.hl + p.ll + p.gl
def rightP (p : PD) : Int := p.br + p.hr + p.lr + p.gr
def pickB (s : SD) (p : PD) : Bool :=
  stateB s && (p.list.all cntB && (decide (leftP p = rightP p) && (decide (0 < leftP p) && (decide (p.bl + p.br ≤ s.b) && (decide (p.hl + p.hr ≤ s.h) && (decide (p.ll + p.lr ≤ s.l) && decide (p.gl + p.gr ≤ s.g)))))))
/-- The state with the good coins that it lacks to be as many as before. -/
def goodS (s : SD) (b h l : Int) : SD := ⟨b, h, l, s.b + s.h + s.l + s.g - b - h - l⟩
def afterS (s : SD) (p : PD) (x : Int) : SD :=
  if x = 1 then goodS s 0 (p.bl + p.hl) (p.br + p.lr)
  else if x = -1 then goodS s 0 (p.br + p.hr) (p.bl + p.ll)
  else goodS s (s.b - p.bl - p.br) (s.h - p.hl - p.hr) (s.l - p.ll - p.lr)
theorem cntB_iff {x : Int} : cntB x = true ↔ 0 ≤ x ∧ x ≤ 13 := by unfold cntB; simp

/-- A state's four cells lie in block b. -/
def StateAt (w : World) (b : Nat) (s : SD) : Prop :=
  w.cell? ⟨b, 0, none⟩ = some (.int .i64 s.b) ∧ w.cell? ⟨b, 1, none⟩ = some (.int .i64 s.h) ∧ w.cell? ⟨b, 2, none⟩ = some (.int .i64 s.l) ∧ w.cell? ⟨b, 3, none⟩ = some (.int .i64 s.g) ∧ b < w.heap.size
theorem StateAt.below {w w' : World} {b : Nat} {s : SD} (h : StateAt w b s) (hb : Below w.heap.size w w') : StateAt w' b s := by
  obtain ⟨e0, e1, e2, e3, hlt⟩ := h
  refine ⟨?_, ?_, ?_, ?_, Nat.lt_of_lt_of_le hlt hb.size⟩
  · rw [hb.cell (p := ⟨b, 0, none⟩) hlt]; exact e0
  · rw [hb.cell (p := ⟨b, 1, none⟩) hlt]; exact e1
  · rw [hb.cell (p := ⟨b, 2, none⟩) hlt]; exact e2
  · rw [hb.cell (p := ⟨b, 3, none⟩) hlt]; exact e3
theorem StateAt.new (w : World) (ty : TypeId) (s : SD) : StateAt (w.alloc (.cells #[.int .i64 s.b, .int .i64 s.h, .int .i64 s.l, .int .i64 s.g] ty)) w.heap.size s := by
  refine ⟨?_, ?_, ?_, ?_, ?_⟩ <;> simp
/-- A pick's eight cells lie in block b. -/
def PickAt (w : World) (b : Nat) (p : PD) : Prop :=
  w.cell? ⟨b, 0, none⟩ = some (.int .i64 p.bl) ∧ w.cell? ⟨b, 1, none⟩ = some (.int .i64 p.br) ∧ w.cell? ⟨b, 2, none⟩ = some (.int .i64 p.hl) ∧ w.cell? ⟨b, 3, none⟩ = some (.int .i64 p.hr) ∧
  w.cell? ⟨b, 4, none⟩ = some (.int .i64 p.ll) ∧ w.cell? ⟨b, 5, none⟩ = some (.int .i64 p.lr) ∧ w.cell? ⟨b, 6, none⟩ = some (.int .i64 p.gl) ∧ w.cell? ⟨b, 7, none⟩ = some (.int .i64 p.gr) ∧ b < w.heap.size
theorem PickAt.below {w w' : World} {b : Nat} {p : PD} (h : PickAt w b p) (hb : Below w.heap.size w w') : PickAt w' b p := by
  obtain ⟨e0, e1, e2, e3, e4, e5, e6, e7, hlt⟩ := h
  refine ⟨?_, ?_, ?_, ?_, ?_, ?_, ?_, ?_, Nat.lt_of_lt_of_le hlt hb.size⟩
  · rw [hb.cell (p := ⟨b, 0, none⟩) hlt]; exact e0
  · rw [hb.cell (p := ⟨b, 1, none⟩) hlt]; exact e1
  · rw [hb.cell (p := ⟨b, 2, none⟩) hlt]; exact e2
  · rw [hb.cell (p := ⟨b, 3, none⟩) hlt]; exact e3
  · rw [hb.cell (p := ⟨b, 4, none⟩) hlt]; exact e4
  · rw [hb.cell (p := ⟨b, 5, none⟩) hlt]; exact e5
  · rw [hb.cell (p := ⟨b, 6, none⟩) hlt]; exact e6
  · rw [hb.cell (p := ⟨b, 7, none⟩) hlt]; exact e7
theorem PickAt.new (w : World) (ty : TypeId) (p : PD) : PickAt (w.alloc (.cells #[.int .i64 p.bl, .int .i64 p.br, .int .i64 p.hl, .int .i64 p.hr, .int .i64 p.ll, .int .i64 p.lr, .int .i64 p.gl, .int .i64 p.gr] ty)) w.heap.size p := by
  refine ⟨?_, ?_, ?_, ?_, ?_, ?_, ?_, ?_, ?_⟩ <;> simp
end Go.Proofs.YtlflblngbneacabGreatDoor

/- The contracts of the model's StateOk and CountCases. No condition. -/
namespace Go.Proofs.YtlflblngbneacabGreatDoor
open Go.RowKit

/-- A literal row's cells. -/
theorem lit_cells (W : World) (b : Nat) (hb : W.heap.size = b) (l : List Int) (hl : l.length ≤ 100) : ∀ j (h : j < l.length), (W.alloc (.cells (l.map (Value.int .i64)).toArray 3)).cell? ⟨b, j, none⟩ = some (.int .i64 l[j]) := by
  intro j h
  have o := World.ownsRow_lit (base := 0) (e := 3) (size := 1) W (l.map (Value.int .i64)).toArray l.length (Nat.zero_le _) (by unfold maxLen; omega) (by simp)
  rw [hb] at o
  have c := o.cellAt j (by omega)
  rw [c]
  simp [h]

/-- What the numbers of coins up to j are. -/
def Upj (l : List Int) (j : Nat) : Prop := ∀ i (h : i < l.length), i < j → cntB l[i] = true
theorem upj_succ {l : List Int} {j : Nat} (h : Upj l j) (hj : j < l.length) (hc : cntB l[j] = true) : Upj l (j + 1) := fun i hi hlt => by
  by_cases e : i = j
  · subst e; exact hc
  · exact h i hi (by omega)
theorem upj_all {l : List Int} (h : Upj l l.length) : l.all cntB = true := by
  rw [List.all_eq_true]
  intro x hx
  obtain ⟨i, hi, rfl⟩ := List.mem_iff_getElem.1 hx
  exact h i hi hi
theorem not_all {l : List Int} {j : Nat} (hj : j < l.length) (hc : ¬ cntB l[j] = true) : l.all cntB = false := by
  rw [Bool.eq_false_iff]
  intro e
  rw [List.all_eq_true] at e
  exact hc (e _ (List.getElem_mem hj))

/-- How many cases a state has, as the program answers. -/
def casesS (s : SD) : Int := if stateB s = true then countS s else -1
theorem stateB_in {s : SD} (h : stateB s = true) : (0 ≤ s.b ∧ s.b ≤ 13) ∧ (0 ≤ s.h ∧ s.h ≤ 13) ∧ (0 ≤ s.l ∧ s.l ≤ 13) ∧ (0 ≤ s.g ∧ s.g ≤ 13) ∧ 1 ≤ s.b + s.h + s.l + s.g ∧ s.b + s.h + s.l + s.g ≤ 13 := by
  unfold stateB sumS SD.list cntB at h
  simp only [List.all_cons, List.all_nil, Bool.and_eq_true, decide_eq_true_eq, Bool.and_true] at h
  omega

end Go.Proofs.YtlflblngbneacabGreatDoor

/- The contract of the model's PickOk. No condition. -/
namespace Go.Proofs.YtlflblngbneacabGreatDoor
open Go.RowKit

/-- The numbers of a pick are numbers of coins. -/
def PickIn (p : PD) : Prop := (0 ≤ p.bl ∧ p.bl ≤ 13) ∧ (0 ≤ p.br ∧ p.br ≤ 13) ∧ (0 ≤ p.hl ∧ p.hl ≤ 13) ∧ (0 ≤ p.hr ∧ p.hr ≤ 13) ∧ (0 ≤ p.ll ∧ p.ll ≤ 13) ∧ (0 ≤ p.lr ∧ p.lr ≤ 13) ∧ (0 ≤ p.gl ∧ p.gl ≤ 13) ∧ (0 ≤ p.gr ∧ p.gr ≤ 13)
theorem pickIn_of {p : PD} (h : p.list.all cntB = true) : PickIn p := by
  unfold PD.list cntB at h
  simp only [List.all_cons, List.all_nil, Bool.and_eq_true, decide_eq_true_eq, Bool.and_true] at h
  unfold PickIn
  omega

end Go.Proofs.YtlflblngbneacabGreatDoor

/- The walks of the exact laws of StateOk and CountCases round the contracts of the program's functions: each returns true for every argument. No condition. -/
namespace Go.Proofs.YtlflblngbneacabGreatDoor
open Go.RowKit

/-- The contracts of functions of a state, and of a state and a pick. -/
def StateOkIs (f : FuncId) (s : SD) : Prop := ∀ W, Calls Tryz.prog f #[stateV s] W fun e w' => e = .returned (.bool (stateB s)) ∧ Below W.heap.size W w'
def CountCasesIs (f : FuncId) (s : SD) : Prop := ∀ W, Calls Tryz.prog f #[stateV s] W fun e w' => e = .returned (.int .i64 (casesS s)) ∧ Below W.heap.size W w'
def PickOkIs (f : FuncId) (s : SD) (p : PD) : Prop := ∀ W, Calls Tryz.prog f #[stateV s, pickV p] W fun e w' => e = .returned (.bool (pickB s p)) ∧ Below W.heap.size W w'

end Go.Proofs.YtlflblngbneacabGreatDoor

/- The walk of the exact law of PickOk round the contract of the program's function: it returns true for every argument. No condition. -/
namespace Go.Proofs.YtlflblngbneacabGreatDoor
open Go.RowKit

theorem StateAt.drewT {w : World} {b : Nat} {s : SD} (h : StateAt w b s) : StateAt w.drew b s := h.below (Below.refl _ _).drew
theorem PickAt.drewT {w : World} {b : Nat} {p : PD} (h : PickAt w b p) : PickAt w.drew b p := h.below (Below.refl _ _).drew

end Go.Proofs.YtlflblngbneacabGreatDoor

/- The search for a pick, plainly: the first success in a row of tries, completed picks, the first pick that fits, whether a case can be found. No condition. -/
namespace Go.Proofs.YtlflblngbneacabGreatDoor
open Go.RowKit

/-- The first success among n tries from the i-th on. -/
def firstFrom {α : Type} (f : Nat → Option α) : Nat → Nat → Option α
  | 0, _ => none
  | n + 1, i => (f i).or (firstFrom f n (i + 1))
theorem firstFrom_step {α : Type} (f : Nat → Option α) {n i : Nat} (h : i < n) : firstFrom f (n - i) i = (f i).or (firstFrom f (n - (i + 1)) (i + 1)) := by
  rw [show n - i = (n - (i + 1)) + 1 by omega]; rfl
theorem firstFrom_end {α : Type} (f : Nat → Option α) {n i : Nat} (h : n ≤ i) : firstFrom f (n - i) i = none := by
  rw [show n - i = 0 by omega]; rfl
/-- A pick that has no good coins is completed with as few good coins as possible; and whether there are enough. -/
def goodsP (p : PD) : PD := if leftP p < rightP p then { p with gl := rightP p - leftP p } else { p with gr := leftP p - rightP p }
def goodsB (s : SD) (p : PD) : Bool := decide ((goodsP p).gl + (goodsP p).gr ≤ s.g) && decide (0 < leftP p + rightP p)
/-- Whether a pick leaves states that are small enough and can be told. -/
def fitB (can : SD → Bool) (m : Int) (s : SD) (p : PD) : Bool :=
  ([0, 1, -1].all fun x => decide (countS (afterS s p x) ≤ m)) && ([0, 1, -1].all fun x => can (afterS s p x))
def tryP (can : SD → Bool) (m : Int) (s : SD) (p : PD) : Option PD := if (goodsB s p && fitB can m s (goodsP p)) = true then some (goodsP p) else none
def lightsP (can : SD → Bool) (m : Int) (s : SD) (p : PD) : Option PD :=
  firstFrom (fun a => firstFrom (fun b => tryP can m s { p with ll := a, lr := b }) (s.l.toNat + 1 - a) 0) (s.l.toNat + 1) 0
def firstP (can : SD → Bool) (m : Int) (s : SD) : Option PD :=
  firstFrom (fun a => firstFrom (fun b => firstFrom (fun c => firstFrom (fun d => lightsP can m s ⟨a, b, c, d, 0, 0, 0, 0⟩) (s.h.toNat + 1 - c) 0) (s.h.toNat + 1) 0) (s.b.toNat + 1 - a) 0) (s.b.toNat + 1) 0
/-- Whether the case of a valid state can be found with k weighings. -/
def canS : Nat → SD → Bool
  | 0, s => decide (countS s ≤ 1)
  | k + 1, s => decide (countS s ≤ 1) || (decide (countS s ≤ 3 ^ (k + 1)) && (firstP (canS k) (3 ^ k) s).isSome)
def findB (s : SD) (k : Int) : Bool := stateB s && ((decide (0 ≤ k) && decide (k ≤ 3)) && canS k.toNat s)
def fewestI (s : SD) : Int := if findB s 0 = true then 0 else if findB s 1 = true then 1 else if findB s 2 = true then 2 else if findB s 3 = true then 3 else -1
def pickO (s : SD) (k : Int) : Option PD := if (stateB s && (decide (1 ≤ k) && decide (k ≤ 3))) = true then firstP (canS (k.toNat - 1)) (3 ^ (k.toNat - 1)) s else none
def zeroP : PD := ⟨0, 0, 0, 0, 0, 0, 0, 0⟩
/-- What a state with as many coins in all may hold. -/
def SIn (s : SD) : Prop := 0 ≤ s.b ∧ 0 ≤ s.h ∧ 0 ≤ s.l ∧ 0 ≤ s.g ∧ 1 ≤ sumS s ∧ sumS s ≤ 13
theorem stateB_iff {s : SD} : stateB s = true ↔ SIn s := by
  unfold stateB SIn sumS SD.list cntB
  simp only [List.all_cons, List.all_nil, Bool.and_eq_true, decide_eq_true_eq, Bool.and_true]
  omega
/-- The coins of a pick that are not good, within a state. -/
def PIn (s : SD) (p : PD) : Prop := 0 ≤ p.bl ∧ 0 ≤ p.br ∧ 0 ≤ p.hl ∧ 0 ≤ p.hr ∧ 0 ≤ p.ll ∧ 0 ≤ p.lr ∧ p.bl + p.br ≤ s.b ∧ p.hl + p.hr ≤ s.h ∧ p.ll + p.lr ≤ s.l
theorem after_in {s : SD} {p : PD} {x : Int} (hs : SIn s) (hp : PIn s p) : SIn (afterS s p x) := by
  unfold SIn PIn sumS at *
  unfold afterS goodS
  split
  · simp only []; omega
  · split
    · simp only []; omega
    · simp only []; omega
theorem after_goods (s : SD) (p : PD) (x : Int) : afterS s (goodsP p) x = afterS s p x := by
  unfold goodsP
  split <;> rfl
end Go.Proofs.YtlflblngbneacabGreatDoor

/- The contracts of the helpers of the model's search: powers of three, the state behind a pick, a completed pick. Conditions: a valid state, a pick within it. -/
namespace Go.Proofs.YtlflblngbneacabGreatDoor
open Go.RowKit

end Go.Proofs.YtlflblngbneacabGreatDoor

/- The contract of the model's AfterPick. No condition. -/
namespace Go.Proofs.YtlflblngbneacabGreatDoor
open Go.RowKit

def zeroS : SD := ⟨0, 0, 0, 0⟩
/-- The state after a weighing, if the pick and the outcome are valid. -/
def afterO (s : SD) (p : PD) (x : Int) : Option SD := if (pickB s p && (decide (-1 ≤ x) && decide (x ≤ 1))) = true then some (afterS s p x) else none
theorem pick_in {s : SD} {p : PD} (h : pickB s p = true) : SIn s ∧ PIn s p := by
  unfold pickB PD.list at h
  simp only [List.all_cons, List.all_nil, Bool.and_eq_true, decide_eq_true_eq, Bool.and_true, cntB_iff] at h
  refine ⟨stateB_iff.1 h.1, ?_⟩
  unfold PIn
  omega
/-- A state's four cells lie in block b and may be written. -/
def FourVar (w : World) (b : Nat) (s : SD) : Prop :=
  StateAt w b s ∧ w.frozen? ⟨b, 0, none⟩ = false ∧ w.frozen? ⟨b, 1, none⟩ = false ∧ w.frozen? ⟨b, 2, none⟩ = false ∧ w.frozen? ⟨b, 3, none⟩ = false
theorem FourVar.below {w w' : World} {b : Nat} {s : SD} (h : FourVar w b s) (hb : Below w.heap.size w w') : FourVar w' b s := by
  have hlt : b < w.heap.size := h.1.2.2.2.2
  obtain ⟨hp, f0, f1, f2, f3⟩ := h
  refine ⟨hp.below hb, ?_, ?_, ?_, ?_⟩
  · rw [hb.frozen (p := ⟨b, 0, none⟩) hlt]; exact f0
  · rw [hb.frozen (p := ⟨b, 1, none⟩) hlt]; exact f1
  · rw [hb.frozen (p := ⟨b, 2, none⟩) hlt]; exact f2
  · rw [hb.frozen (p := ⟨b, 3, none⟩) hlt]; exact f3
theorem FourVar.new (w : World) (ty : TypeId) (s : SD) : FourVar (w.alloc (.cells #[.int .i64 s.b, .int .i64 s.h, .int .i64 s.l, .int .i64 s.g] ty)) w.heap.size s := by
  refine ⟨StateAt.new w ty s, ?_, ?_, ?_, ?_⟩ <;> simp
theorem below_fill4 {B : Nat} {a w : World} (h : Below B a w) {b : Nat} (hb : B ≤ b) (q : SD) : Below B a ((((w.setCell ⟨b, 0, none⟩ (.int .i64 q.b)).setCell ⟨b, 1, none⟩ (.int .i64 q.h)).setCell ⟨b, 2, none⟩ (.int .i64 q.l)).setCell ⟨b, 3, none⟩ (.int .i64 q.g)) := by
  exact ((((h.setCell hb _).setCell hb _).setCell hb _).setCell hb _)

end Go.Proofs.YtlflblngbneacabGreatDoor
