/- The search for a pick, plainly: the first success in a row of tries, completed picks, the first pick that fits, whether a case can be found. No condition. -/
import Derived.Test.YtfabcaodiohmaaaStatePlain
namespace Go.Proofs.Ytfabcaodiohmaaa
open Go.RowKit

/-- The first success among n tries from the i-th on. -/
def firstFrom {α : Type} (f : Nat → Option α) : Nat → Nat → Option α
  | 0, _ => none
  | n + 1, i => (f i).or (firstFrom f n (i + 1))
theorem firstFrom_step {α : Type} (f : Nat → Option α) {n i : Nat} (h : i < n) : firstFrom f (n - i) i = (f i).or (firstFrom f (n - (i + 1)) (i + 1)) := by
  rw [show n - i = (n - (i + 1)) + 1 by omega]; rfl
theorem firstFrom_end {α : Type} (f : Nat → Option α) {n i : Nat} (h : n ≤ i) : firstFrom f (n - i) i = none := by
  rw [show n - i = 0 by omega]; rfl
/-- A pick that has no good coins is completed with as few good coins as possible; and whether there are enough. -/
def goodsP (p : PD) : PD := if leftP p < rightP p then { p with gl := rightP p - leftP p } else { p with gr := leftP p - rightP p }
def goodsB (s : SD) (p : PD) : Bool := decide ((goodsP p).gl + (goodsP p).gr ≤ s.g) && decide (0 < leftP p + rightP p)
/-- Whether a pick leaves states that are small enough and can be told. -/
def fitB (can : SD → Bool) (m : Int) (s : SD) (p : PD) : Bool :=
  ([0, 1, -1].all fun x => decide (countS (afterS s p x) ≤ m)) && ([0, 1, -1].all fun x => can (afterS s p x))
def tryP (can : SD → Bool) (m : Int) (s : SD) (p : PD) : Option PD := if (goodsB s p && fitB can m s (goodsP p)) = true then some (goodsP p) else none
def lightsP (can : SD → Bool) (m : Int) (s : SD) (p : PD) : Option PD :=
  firstFrom (fun a => firstFrom (fun b => tryP can m s { p with ll := a, lr := b }) (s.l.toNat + 1 - a) 0) (s.l.toNat + 1) 0
def firstP (can : SD → Bool) (m : Int) (s : SD) : Option PD :=
  firstFrom (fun a => firstFrom (fun b => firstFrom (fun c => firstFrom (fun d => lightsP can m s ⟨a, b, c, d, 0, 0, 0, 0⟩) (s.h.toNat + 1 - c) 0) (s.h.toNat + 1) 0) (s.b.toNat + 1 - a) 0) (s.b.toNat + 1) 0
/-- Whether the case of a valid state can be found with k weighings. -/
def canS : Nat → SD → Bool
  | 0, s => decide (countS s ≤ 1)
  | k + 1, s => decide (countS s ≤ 1) || (decide (countS s ≤ 3 ^ (k + 1)) && (firstP (canS k) (3 ^ k) s).isSome)
def findB (s : SD) (k : Int) : Bool := stateB s && ((decide (0 ≤ k) && decide (k ≤ 3)) && canS k.toNat s)
def fewestI (s : SD) : Int := if findB s 0 = true then 0 else if findB s 1 = true then 1 else if findB s 2 = true then 2 else if findB s 3 = true then 3 else -1
def pickO (s : SD) (k : Int) : Option PD := if (stateB s && (decide (1 ≤ k) && decide (k ≤ 3))) = true then firstP (canS (k.toNat - 1)) (3 ^ (k.toNat - 1)) s else none
def zeroP : PD := ⟨0, 0, 0, 0, 0, 0, 0, 0⟩
/-- What a state with as many coins in all may hold. -/
def SIn (s : SD) : Prop := 0 ≤ s.b ∧ 0 ≤ s.h ∧ 0 ≤ s.l ∧ 0 ≤ s.g ∧ 1 ≤ sumS s ∧ sumS s ≤ 13
theorem stateB_iff {s : SD} : stateB s = true ↔ SIn s := by
  unfold stateB SIn sumS SD.list cntB
  simp only [List.all_cons, List.all_nil, Bool.and_eq_true, decide_eq_true_eq, Bool.and_true]
  omega
/-- The coins of a pick that are not good, within a state. -/
def PIn (s : SD) (p : PD) : Prop := 0 ≤ p.bl ∧ 0 ≤ p.br ∧ 0 ≤ p.hl ∧ 0 ≤ p.hr ∧ 0 ≤ p.ll ∧ 0 ≤ p.lr ∧ p.bl + p.br ≤ s.b ∧ p.hl + p.hr ≤ s.h ∧ p.ll + p.lr ≤ s.l
theorem after_in {s : SD} {p : PD} {x : Int} (hs : SIn s) (hp : PIn s p) : SIn (afterS s p x) := by
  unfold SIn PIn sumS at *
  unfold afterS goodS
  split
  · simp only []; omega
  · split
    · simp only []; omega
    · simp only []; omega
theorem after_goods (s : SD) (p : PD) (x : Int) : afterS s (goodsP p) x = afterS s p x := by
  unfold goodsP
  split <;> rfl
end Go.Proofs.Ytfabcaodiohmaaa
