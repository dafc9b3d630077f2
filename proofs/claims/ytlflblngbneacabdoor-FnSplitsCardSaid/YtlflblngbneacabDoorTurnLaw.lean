/- The walk of the law of TurnWeighing round the contract of the program's function: it returns true for every argument. Condition: the sides that came in read as integers. -/
import Derived.Test.YtlflblngbneacabDoorWeighLaw
import Derived.Test.YtlflblngbneacabDoorGWei
namespace Go.Proofs.YtlflblngbneacabDoor
open Go.RowKit

/-- A list read from blocks in S. -/
def Rd (S : Nat → Prop) (W : World) (v : Value) (l : List Int) : Prop := IntsAt W v l ∧ (l = [] ∨ Blk S v)
theorem IntsAt.rd {W : World} {v : Value} {l : List Int} (h : IntsAt W v l) : Rd (· < W.heap.size) W v l := by
  refine ⟨h, ?_⟩
  obtain ⟨a, cap, rfl, h⟩ := h
  rcases h with h | ⟨b, off, rfl, hc⟩
  · exact .inl h
  · by_cases hl : l = []
    · exact .inl hl
    · refine .inr fun k hk => ?_
      have : b = k := by simpa [Value.ownBlock] using hk
      subst this
      exact World.block_lt_of_cell? W _ (hc 0 (by cases l with | nil => exact absurd rfl hl | cons => simp))
theorem Rd.only {S T : Nat → Prop} {W W' : World} {v : Value} {l : List Int} (h : Rd S W v l) (ho : Only T W W') (hd : ∀ k, S k → ¬ T k) : Rd S W' v l := by
  refine ⟨?_, h.2⟩
  rcases h.2 with rfl | hb
  · obtain ⟨a, cap, rfl, _⟩ := h.1
    exact ⟨a, cap, rfl, .inl rfl⟩
  · exact h.1.only ho fun k hk => hd k (hb k hk)
theorem Rd.below {S : Nat → Prop} {W W' : World} {v : Value} {l : List Int} (h : Rd S W v l) (hb : Below W.heap.size W W') : Rd S W' v l := ⟨h.1.below hb, h.2⟩
theorem Rd.mono {S S' : Nat → Prop} {W : World} {v : Value} {l : List Int} (h : Rd S W v l) (hS : ∀ k, S k → S' k) : Rd S' W v l := ⟨h.1, h.2.imp id fun hb => hb.mono hS⟩

/-- In the world W the weighing that came in at w lies in the law's own variable and reads as L and R, all below the law's own blocks. -/
structure InB (w W : World) (vl vr : Value) (L R : List Int) : Prop where
  two : TwoAt W w.heap.size vl vr
  left : Rd (· < w.heap.size) W vl L
  right : Rd (· < w.heap.size) W vr R
  bel : Below w.heap.size w W
theorem InB.below {w W W' : World} {vl vr : Value} {L R : List Int} (h : InB w W vl vr L R) (hb : Below W.heap.size W W') : InB w W' vl vr L R := ⟨h.two.below hb, h.left.below hb, h.right.below hb, below_up h.bel hb⟩
theorem InB.only {w W W' : World} {vl vr : Value} {L R : List Int} {T : Nat → Prop} (h : InB w W vl vr L R) (ho : Only T W W') (hT : ∀ k, T k → w.heap.size < k) : InB w W' vl vr L R :=
  ⟨h.two.only ho fun e => by have := hT _ e; omega, h.left.only ho fun k hk e => by have := hT k e; omega, h.right.only ho fun k hk e => by have := hT k e; omega,
   h.bel.trans (ho.below h.bel.size fun k e => by have := hT k e; omega)⟩
theorem InB.new {w : World} {vl vr : Value} {L R : List Int} (ty : TypeId) (hl : IntsAt w vl L) (hr : IntsAt w vr R) : InB w (w.alloc (.cells #[vl, vr] ty)) vl vr L R :=
  ⟨TwoAt.new w ty vl vr, hl.rd.below (alloc_below _ _), hr.rd.below (alloc_below _ _), alloc_below _ _⟩

/-- In the world W a weighing of the law's own, its lists in the blocks from lo up to hi, lies in a variable in block b. -/
structure Var (W : World) (b lo hi : Nat) (vl vr : Value) (L R : List Int) : Prop where
  two : TwoAt W b vl vr
  left : Own W lo vl L
  right : Own W lo vr R
  ul : Blk (· < hi) vl
  ur : Blk (· < hi) vr
  sep : Sep vl vr
  hb : hi ≤ b
  lh : lo ≤ hi
theorem Var.below {W W' : World} {b lo hi : Nat} {vl vr : Value} {L R : List Int} (h : Var W b lo hi vl vr L R) (hb : Below W.heap.size W W') : Var W' b lo hi vl vr L R :=
  ⟨h.two.below hb, h.left.below hb, h.right.below hb, h.ul, h.ur, h.sep, h.hb, h.lh⟩
theorem Var.only {W W' : World} {b lo hi : Nat} {vl vr : Value} {L R : List Int} {T : Nat → Prop} (h : Var W b lo hi vl vr L R) (ho : Only T W W') (hT : ∀ k, T k → k < lo ∨ hi ≤ k ∧ k ≠ b) : Var W' b lo hi vl vr L R := by
  have hbb := h.hb
  have hlh := h.lh
  refine ⟨h.two.only ho fun e => ?_, h.left.only ho fun k hk e => ?_, h.right.only ho fun k hk e => ?_, h.ul, h.ur, h.sep, h.hb, h.lh⟩
  · rcases hT _ e with h1 | h1
    · omega
    · exact h1.2 rfl
  · have a1 := (h.left.blk k hk).1
    have a2 := h.ul k hk
    rcases hT k e with h1 | h1 <;> omega
  · have a1 := (h.right.blk k hk).1
    have a2 := h.ur k hk
    rcases hT k e with h1 | h1 <;> omega
theorem Var.new {W : World} {lo : Nat} {vl vr : Value} {L R : List Int} (ty : TypeId) (h1 : Own W lo vl L) (h2 : Own W lo vr R) (hs : Sep vl vr) (hl : lo ≤ W.heap.size) : Var (W.alloc (.cells #[vl, vr] ty)) W.heap.size lo W.heap.size vl vr L R :=
  ⟨TwoAt.new W ty vl vr, h1.below (alloc_below _ _), h2.below (alloc_below _ _), fun k hk => (h1.blk k hk).2, fun k hk => (h2.blk k hk).2, hs, Nat.le_refl _, hl⟩
theorem Var.sides {W : World} {b lo hi : Nat} {vl vr : Value} {L R : List Int} (h : Var W b lo hi vl vr L R) : ∀ k, Sides vl vr k → lo ≤ k ∧ k < hi := by
  rintro k (hk | hk)
  · exact ⟨(h.left.blk k hk).1, h.ul k hk⟩
  · exact ⟨(h.right.blk k hk).1, h.ur k hk⟩
/-- Marks in the lists of the variable itself. -/
theorem Var.marked {W W' : World} {b lo hi : Nat} {vl vr : Value} {L R L' R' : List Int} (h : Var W b lo hi vl vr L R) (ho : Only (Sides vl vr) W W') (h1 : Own W' lo vl L') (h2 : Own W' lo vr R') : Var W' b lo hi vl vr L' R' :=
  ⟨h.two.only ho fun e => by have := h.sides _ e; have := h.hb; omega, h1, h2, h.ul, h.ur, h.sep, h.hb, h.lh⟩

/-- A weighing whose sides are lists of the call's own, from block B on, in different blocks. -/
def OwnF (w : World) (B : Nat) (v : Value) (L R : List Int) : Prop := ∃ vl vr, v = .agg #[vl, vr] ∧ Own w B vl L ∧ Own w B vr R ∧ Sep vl vr

/-- The contract of a function that exchanges the sides. -/
def TurnIs (f : FuncId) (L R : List Int) : Prop :=
  ∀ W gl cl gr cr, IntsAt W (.slice (some ⟨gl, 0, none⟩) L.length cl) L → IntsAt W (.slice (some ⟨gr, 0, none⟩) R.length cr) R → gl < W.heap.size → gr < W.heap.size →
    Calls Tryd.prog f #[.agg #[.slice (some ⟨gl, 0, none⟩) L.length cl, .slice (some ⟨gr, 0, none⟩) R.length cr]] W fun e w' => ∃ v, e = .returned v ∧ OwnF w' W.heap.size v R L ∧ Below W.heap.size W w'

/-- A solid slice that reads as a list is written out. -/
theorem solid_form {W : World} {B : Nat} {v : Value} {l : List Int} (h : Own W B v l) (hs : Solid v) : ∃ g c, v = .slice (some ⟨g, 0, none⟩) l.length c ∧ g < W.heap.size := by
  obtain ⟨g, n, c, rfl⟩ := hs
  obtain ⟨a, c', hv, _⟩ := h.reads
  cases hv
  exact ⟨g, c, rfl, (h.blk g rfl).2⟩

end Go.Proofs.YtlflblngbneacabDoor
