/- The contracts of the program's branches: the closures of branchesOf, the row that it makes, and the cases of a branch. Conditions: a valid pick, an outcome from -1 to 1. -/
import Derived.Test.YtbkhmlkicafheaaAfterImpl
import Derived.Test.YtbkhmlkicafheaaGSearch
import Derived.Test.YtbkhmlkicafheaaWorstSpec
import Derived.Laws.EntriesVeiled
namespace Go.Proofs.Ytbkhmlkicafheaa
open Go.RowKit

/-- A branch's closure: its three boxes hold the state, the pick and the outcome. -/
def leftV (bs bp bx : Nat) : Value := .func (.func 104) #[] #[.pointer (some ⟨bs, 0, none⟩), .pointer (some ⟨bp, 0, none⟩), .pointer (some ⟨bx, 0, none⟩)]
/-- The value v is the closure of the outcome x of the pick p in the state s. -/
def BrAt (w : World) (lo : Nat) (v : Value) (s : SD) (p : PD) (x : Int) : Prop := ∃ bs bp bx, v = leftV bs bp bx ∧ (lo ≤ bs ∧ lo ≤ bp ∧ lo ≤ bx) ∧ StateAt w bs s ∧ PickAt w bp p ∧ NumBox w bx x
theorem BrAt.below {w w' : World} {lo : Nat} {v : Value} {s : SD} {p : PD} {x : Int} (h : BrAt w lo v s p x) (hb : Below w.heap.size w w') : BrAt w' lo v s p x := by
  obtain ⟨bs, bp, bx, e, hl, h1, h2, h3⟩ := h
  exact ⟨bs, bp, bx, e, hl, h1.below hb, h2.below hb, h3.below hb⟩
theorem BrAt.lower {w : World} {lo lo' : Nat} {v : Value} {s : SD} {p : PD} {x : Int} (h : BrAt w lo v s p x) (hl : lo' ≤ lo) : BrAt w lo' v s p x := by
  obtain ⟨bs, bp, bx, e, ⟨l1, l2, l3⟩, h1, h2, h3⟩ := h
  exact ⟨bs, bp, bx, e, ⟨by omega, by omega, by omega⟩, h1, h2, h3⟩
theorem BrAt.only {T : Nat → Prop} {w w' : World} {lo : Nat} {v : Value} {s : SD} {p : PD} {x : Int} (h : BrAt w lo v s p x) (ho : Only T w w') (hT : ∀ k, T k → k < lo) : BrAt w' lo v s p x := by
  obtain ⟨bs, bp, bx, e, ⟨l1, l2, l3⟩, h1, h2, h3⟩ := h
  exact ⟨bs, bp, bx, e, ⟨l1, l2, l3⟩, h1.only ho (fun t => by have := hT _ t; omega), h2.only ho (fun t => by have := hT _ t; omega), h3.only ho (fun t => by have := hT _ t; omega)⟩
/-- Two cells: an outcome and its closure. -/
def TwoBr (w : World) (b o : Nat) (x : Int) (v : Value) : Prop := w.cell? ⟨b, o, none⟩ = some (.int .i64 x) ∧ w.cell? ⟨b, o + 1, none⟩ = some v ∧ b < w.heap.size
theorem TwoBr.below {w w' : World} {b o : Nat} {x : Int} {v : Value} (h : TwoBr w b o x v) (hb : Below w.heap.size w w') : TwoBr w' b o x v := by
  obtain ⟨e0, e1, hlt⟩ := h
  refine ⟨?_, ?_, Nat.lt_of_lt_of_le hlt hb.size⟩
  · rw [hb.cell (p := ⟨b, o, none⟩) hlt]; exact e0
  · rw [hb.cell (p := ⟨b, o + 1, none⟩) hlt]; exact e1
theorem TwoBr.drewT {w : World} {b o : Nat} {x : Int} {v : Value} (h : TwoBr w b o x v) : TwoBr w.drew b o x v := h.below (Below.refl _ _).drew
theorem TwoBr.new (w : World) (t : TypeId) (x : Int) (v : Value) : TwoBr (w.alloc (.cells #[.int .i64 x, v] t)) w.heap.size 0 x v := by refine ⟨?_, ?_, ?_⟩ <;> simp

set_option maxRecDepth 100000 in
set_option maxHeartbeats 3200000 in
theorem implLeft (s : SD) (p : PD) (x : Int) (hp : pickB s p = true) (hx : -1 ≤ x ∧ x ≤ 1) (bs bp bx : Nat) (w : World) (hS : StateAt w bs s) (hP : PickAt w bp p) (hX : NumBox w bx x) :
    Calls Try.prog 104 #[.pointer (some ⟨bs, 0, none⟩), .pointer (some ⟨bp, 0, none⟩), .pointer (some ⟨bx, 0, none⟩)] w fun e w' => e = .returned (stateV (afterS s p x)) ∧ Below w.heap.size w w' := by
  have C := Lib.hid (fun W => after_ok hp hx W)
  have R0 := FourVar.new w 32 zeroS
  have B0 := alloc_below w (.cells #[.int .i64 0, .int .i64 0, .int .i64 0, .int .i64 0] 32)
  have S1 := Lib.hid (hS.below B0)
  have P1 := Lib.hid (hP.below B0)
  have N1 := Lib.hid (hX.below B0)
  clear hS hP hX hp hx
  change FourVar (w.alloc (.cells #[.int .i64 0, .int .i64 0, .int .i64 0, .int .i64 0] 32)) _ _ at R0
  generalize afterS s p x = q at C ⊢
  generalize hX0 : w.alloc (.cells #[.int .i64 0, .int .i64 0, .int .i64 0, .int .i64 0] 32) = X0 at R0 B0 S1 P1 N1
  have R1 := Lib.hid R0
  have B1 := Lib.hid B0
  clear R0 B0
  unfold stateV at C ⊢
  unfold pickV at C
  obtain ⟨e0, e1, e2, e3, -⟩ := S1.out
  obtain ⟨q0, q1, q2, q3, q4, q5, q6, q7, -⟩ := P1.out
  obtain ⟨n0, -⟩ := N1.out
  go_enter Try.func104, Try.ntmps104
  go_wp2_with fail
  refine (C.out _).mono ?_
  rintro e w3 ⟨rfl, b3⟩
  have B3 := Lib.hid (below_up B1.out b3)
  obtain ⟨⟨r0, r1, r2, r3, rl⟩, g0, g1, g2, g3⟩ := R1.out.below b3
  clear b3 e0 e1 e2 e3 q0 q1 q2 q3 q4 q5 q6 q7 n0 C S1 P1 N1
  go_wp2
  refine bodyPost_ret (v := .agg #[.int .i64 q.b, .int .i64 q.h, .int .i64 q.l, .int .i64 q.g]) (by simp [results, Try.results104, go_sem, r0, r1, r2, r3]) rfl ⟨rfl, ?_⟩
  exact below_fill4 B3.out (b := w.heap.size) (Nat.le_refl _) q

/-- Two cells of the call's own. -/
def TwoBrVar (w : World) (b : Nat) (x : Int) (v : Value) : Prop := TwoBr w b 0 x v ∧ w.frozen? ⟨b, 0, none⟩ = false ∧ w.frozen? ⟨b, 1, none⟩ = false
theorem TwoBrVar.below {w w' : World} {b : Nat} {x : Int} {v : Value} (h : TwoBrVar w b x v) (hb : Below w.heap.size w w') : TwoBrVar w' b x v :=
  ⟨h.1.below hb, by rw [hb.frozen (p := ⟨b, 0, none⟩) h.1.2.2]; exact h.2.1, by rw [hb.frozen (p := ⟨b, 1, none⟩) h.1.2.2]; exact h.2.2⟩
theorem TwoBrVar.new (w : World) (t : TypeId) (x : Int) (v : Value) : TwoBrVar (w.alloc (.cells #[.int .i64 x, v] t)) w.heap.size x v := ⟨TwoBr.new w t x v, by simp, by simp⟩

set_option maxRecDepth 100000 in
set_option maxHeartbeats 3200000 in
theorem implBranch (x : Int) (bs bp : Nat) (w : World) :
    Calls Try.prog 103 #[.int .i64 x, .pointer (some ⟨bs, 0, none⟩), .pointer (some ⟨bp, 0, none⟩)] w fun e w' => ∃ bx, e = .returned (.agg #[.int .i64 x, leftV bs bp bx]) ∧ NumBox w' bx x ∧ w.heap.size ≤ bx ∧ Below w.heap.size w w' := by
  have N0 := NumBox.new w 3 x
  have B0 := alloc_below w (.cells #[.int .i64 x] 3)
  have s0 : (w.alloc (.cells #[.int .i64 x] 3)).heap.size = w.heap.size + 1 := by simp
  generalize hX0 : w.alloc (.cells #[.int .i64 x] 3) = X0 at N0 B0 s0
  have V0 := TwoBrVar.new X0 81 0 .nilFunc
  have B1 := alloc_below X0 (.cells #[.int .i64 0, .nilFunc] 81)
  rw [s0] at V0
  generalize hX1 : X0.alloc (.cells #[.int .i64 0, .nilFunc] 81) = X1 at V0 B1
  have BX := Lib.hid (below_up B0 B1)
  have N1 := Lib.hid (N0.below B1)
  obtain ⟨⟨r0, r1, rl⟩, g0, g1⟩ := V0
  rw [Nat.zero_add] at r1
  obtain ⟨n0, -⟩ := N1.out
  clear N0 B0 B1
  unfold leftV
  go_enter Try.func103, Try.ntmps103
  go_wp2
  refine bodyPost_ret (v := .agg #[.int .i64 x, .func (.func 104) #[] #[.pointer (some ⟨bs, 0, none⟩), .pointer (some ⟨bp, 0, none⟩), .pointer (some ⟨w.heap.size, 0, none⟩)]]) (by simp [results, Try.results103, go_sem, r0, r1]) rfl ⟨w.heap.size, rfl, ?_, Nat.le_refl _, ?_⟩
  · obtain ⟨e, h⟩ := N1.out
    refine ⟨?_, by simp only [setCell_size]; exact h⟩
    rw [World.cell?_setCell_far _ _ _ _ (by simp), World.cell?_setCell_far _ _ _ _ (by simp)]
    exact e
  · exact (BX.out.setCell (p := ⟨w.heap.size + 1, 0, none⟩) (Nat.le_add_right _ 1) _).setCell (p := ⟨w.heap.size + 1, 1, none⟩) (Nat.le_add_right _ 1) _
end Go.Proofs.Ytbkhmlkicafheaa
