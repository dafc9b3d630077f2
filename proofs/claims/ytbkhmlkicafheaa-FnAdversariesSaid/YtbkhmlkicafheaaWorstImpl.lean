/- The contracts of the program's branchesOf, of the cases of a branch, and of worstBranch. Conditions: a valid pick; the numbers of a pick are Go integers. -/
import Derived.Test.YtbkhmlkicafheaaBranchImpl
namespace Go.Proofs.Ytbkhmlkicafheaa
open Go.RowKit

/-- The three branches of a pick lie in a row of six cells. -/
def BrRow (w : World) (lo B : Nat) (s : SD) (p : PD) : Prop :=
  ∃ v0 v1 v2, (TwoBr w B 0 (-1) v0 ∧ TwoBr w B 2 0 v1 ∧ TwoBr w B 4 1 v2) ∧ BrAt w lo v0 s p (-1) ∧ BrAt w lo v1 s p 0 ∧ BrAt w lo v2 s p 1

set_option maxRecDepth 100000 in
set_option maxHeartbeats 3200000 in
theorem implBranches (s : SD) (p : PD) (w : World) :
    Calls Try.prog 84 #[stateV s, pickV p] w fun e w' => ∃ B, e = .returned (.slice (some ⟨B, 0, none⟩) 3 3) ∧ BrRow w' w.heap.size B s p ∧ Below w.heap.size w w' := by
  have C := Lib.hid (fun x bs bp W => implBranch x bs bp W)
  have P0 := StateAt.new w 32 s
  have B0 := alloc_below w (.cells #[.int .i64 s.b, .int .i64 s.h, .int .i64 s.l, .int .i64 s.g] 32)
  have s0 : (w.alloc (.cells #[.int .i64 s.b, .int .i64 s.h, .int .i64 s.l, .int .i64 s.g] 32)).heap.size = w.heap.size + 1 := by simp
  generalize hX0 : w.alloc (.cells #[.int .i64 s.b, .int .i64 s.h, .int .i64 s.l, .int .i64 s.g] 32) = X0 at P0 B0 s0
  have Q0 := PickAt.new X0 34 p
  have B1 := alloc_below X0 (.cells #[.int .i64 p.bl, .int .i64 p.br, .int .i64 p.hl, .int .i64 p.hr, .int .i64 p.ll, .int .i64 p.lr, .int .i64 p.gl, .int .i64 p.gr] 34)
  generalize hX1 : X0.alloc (.cells #[.int .i64 p.bl, .int .i64 p.br, .int .i64 p.hl, .int .i64 p.hr, .int .i64 p.ll, .int .i64 p.lr, .int .i64 p.gl, .int .i64 p.gr] 34) = X1 at Q0 B1
  rw [s0] at Q0
  have P1 := Lib.hid (P0.below B1)
  have Q1 := Lib.hid Q0
  have BX := Lib.hid (below_up B0 B1)
  clear P0 B0 B1 Q0
  unfold leftV at C
  unfold stateV pickV
  go_enter Try.func84, Try.ntmps84
  go_wp2_with fail
  refine (C.out _ _ _ _).mono ?_
  rintro e w1 ⟨b1, rfl, n1, l1, bb⟩
  have P2 := Lib.hid (P1.out.below bb)
  have Q2 := Lib.hid (Q1.out.below bb)
  have N2 := Lib.hid n1
  have B2 := Lib.hid (below_up BX.out bb)
  have L1 : Hid (w.heap.size ≤ b1) := Nat.le_trans BX.out.size l1
  clear n1 l1 bb
  go_wp2_with fail
  refine (C.out _ _ _ _).mono ?_
  rintro e w2 ⟨b2, rfl, n1, l1, bb⟩
  have P3 := Lib.hid (P2.out.below bb)
  have Q3 := Lib.hid (Q2.out.below bb)
  have N3 := Lib.hid (N2.out.below bb)
  have M3 := Lib.hid n1
  have B3 := Lib.hid (below_up B2.out bb)
  have L2 : Hid (w.heap.size ≤ b2) := Nat.le_trans B2.out.size l1
  clear n1 l1 bb
  go_wp2_with fail
  refine (C.out _ _ _ _).mono ?_
  rintro e w3 ⟨b3, rfl, n1, l1, bb⟩
  have P4 := P3.out.below bb
  have Q4 := Q3.out.below bb
  have N4 := N3.out.below bb
  have M4 := M3.out.below bb
  have K4 := n1
  have B4 := below_up B3.out bb
  have L3 : Hid (w.heap.size ≤ b3) := Nat.le_trans B3.out.size l1
  clear n1 l1 bb C hX0 hX1 s0 P1 P2 P3 Q1 Q2 Q3 N2 N3 M3 BX B2 B3
  have B5 := alloc_below w3 (.cells #[.int .i64 (-1), leftV w.heap.size (w.heap.size + 1) b1, .int .i64 0, leftV w.heap.size (w.heap.size + 1) b2, .int .i64 1, leftV w.heap.size (w.heap.size + 1) b3] 81)
  have R5 : BrRow (w3.alloc (.cells #[.int .i64 (-1), leftV w.heap.size (w.heap.size + 1) b1, .int .i64 0, leftV w.heap.size (w.heap.size + 1) b2, .int .i64 1, leftV w.heap.size (w.heap.size + 1) b3] 81)) w.heap.size w3.heap.size s p := by
    refine ⟨leftV w.heap.size (w.heap.size + 1) b1, leftV w.heap.size (w.heap.size + 1) b2, leftV w.heap.size (w.heap.size + 1) b3, ⟨⟨?_, ?_, ?_⟩, ⟨?_, ?_, ?_⟩, ⟨?_, ?_, ?_⟩⟩, ?_, ?_, ?_⟩
    iterate 9 simp
    · exact ⟨_, _, _, rfl, ⟨Nat.le_refl _, by omega, L1.out⟩, P4.below B5, Q4.below B5, N4.below B5⟩
    · exact ⟨_, _, _, rfl, ⟨Nat.le_refl _, by omega, L2.out⟩, P4.below B5, Q4.below B5, M4.below B5⟩
    · exact ⟨_, _, _, rfl, ⟨Nat.le_refl _, by omega, L3.out⟩, P4.below B5, Q4.below B5, K4.below B5⟩
  have R6 := Lib.hid R5
  have B6 := Lib.hid (below_up B4 B5)
  unfold leftV at R6 B6
  clear R5 B5 P4 Q4 N4 M4 K4 B4 L1 L2 L3
  go_wp2
  go_ret
  exact ⟨_, rfl, R6.out, B6.out⟩

set_option maxRecDepth 100000 in
set_option maxHeartbeats 3200000 in
theorem implCasesOfBr (s : SD) (p : PD) (x : Int) (v : Value) (lo : Nat) (hp : pickB s p = true) (hx : -1 ≤ x ∧ x ≤ 1) (w : World) (hb : BrAt w lo v s p x) :
    Calls Try.prog 63 #[.agg #[.int .i64 x, v]] w fun e w' => e = .returned (.int .i64 (countS (afterS s p x))) ∧ Below w.heap.size w w' := by
  obtain ⟨bs, bp, bx, rfl, -, hS, hP, hN⟩ := hb
  have CC : Hid (∀ W, Calls Try.prog 36 #[stateV (afterS s p x)] W fun e w' => e = .returned (.int .i64 (countS (afterS s p x))) ∧ Below W.heap.size W w') := fun W => by
    have := implCountCases (afterS s p x) W
    have hv : stateB (afterS s p x) = true := stateB_iff.2 (after_in (pick_in hp).1 (pick_in hp).2)
    unfold casesS at this
    rwa [hv] at this
  have V0 := TwoBr.new w 81 x (leftV bs bp bx)
  have B0 := alloc_below w (.cells #[.int .i64 x, leftV bs bp bx] 81)
  have CL := Lib.hid (implLeft s p x hp hx bs bp bx _ (hS.below B0) (hP.below B0) (hN.below B0))
  clear hS hP hN hp hx
  generalize countS (afterS s p x) = n at CC ⊢
  generalize afterS s p x = q at CC CL
  unfold leftV at V0 B0 CL ⊢
  unfold stateV at CC CL
  generalize hX0 : w.alloc (.cells #[.int .i64 x, .func (.func 104) #[] #[.pointer (some ⟨bs, 0, none⟩), .pointer (some ⟨bp, 0, none⟩), .pointer (some ⟨bx, 0, none⟩)]] 81) = X0 at V0 B0 CL
  obtain ⟨e0, e1, -⟩ := V0
  rw [Nat.zero_add] at e1
  have B1 := Lib.hid B0
  clear B0
  go_enter Try.func63, Try.ntmps63
  go_wp2_with fail
  refine CL.out.mono ?_
  rintro e w1 ⟨rfl, b1⟩
  have B2 := Lib.hid (below_up B1.out b1)
  clear b1 e0 e1
  go_wp2_with fail
  refine (CC.out _).mono ?_
  rintro e w2 ⟨rfl, b2⟩
  have B3 := Lib.hid (below_up B2.out b2)
  clear b2
  go_wp2
  go_ret
  exact ⟨rfl, B3.out⟩
end Go.Proofs.Ytbkhmlkicafheaa
