/- The contracts of the program's WorstOutcome and LostCases, and the walks of their laws. Condition: the numbers of a pick are Go integers. -/
import Derived.Test.YtbkhmlkicafheaaWorstBranch
import Derived.Test.YtbkhmlkicafheaaBoundLaws
namespace Go.Proofs.Ytbkhmlkicafheaa
open Go.RowKit

set_option maxRecDepth 100000 in
set_option maxHeartbeats 3200000 in
theorem implWorstOutcome (s : SD) (p : PD) (hn : ∀ y ∈ p.list, I64 y) : WorstOutcomeIs 20 s p := by
  intro w
  have C := Lib.hid (fun W => implWorstBranch s p hn W)
  have HO : Hid (worstO s p = if pickB s p = true then some (worstI s p) else none) := rfl
  generalize worstO s p = o at HO ⊢
  clear hn
  have P0 := StateAt.new w 32 s
  have B0 := alloc_below w (.cells #[.int .i64 s.b, .int .i64 s.h, .int .i64 s.l, .int .i64 s.g] 32)
  have s0 : (w.alloc (.cells #[.int .i64 s.b, .int .i64 s.h, .int .i64 s.l, .int .i64 s.g] 32)).heap.size = w.heap.size + 1 := by simp
  generalize hX0 : w.alloc (.cells #[.int .i64 s.b, .int .i64 s.h, .int .i64 s.l, .int .i64 s.g] 32) = X0 at P0 B0 s0
  have Q0 := PickAt.new X0 34 p
  have B1 := alloc_below X0 (.cells #[.int .i64 p.bl, .int .i64 p.br, .int .i64 p.hl, .int .i64 p.hr, .int .i64 p.ll, .int .i64 p.lr, .int .i64 p.gl, .int .i64 p.gr] 34)
  generalize hX1 : X0.alloc (.cells #[.int .i64 p.bl, .int .i64 p.br, .int .i64 p.hl, .int .i64 p.hr, .int .i64 p.ll, .int .i64 p.lr, .int .i64 p.gl, .int .i64 p.gr] 34) = X1 at Q0 B1
  rw [s0] at Q0
  have P1 := Lib.hid (P0.below B1)
  have BX := Lib.hid (below_up B0 B1)
  obtain ⟨e0, e1, e2, e3, -⟩ := P1.out
  obtain ⟨q0, q1, q2, q3, q4, q5, q6, q7, -⟩ := Q0
  clear P0 B0 B1
  unfold stateV at C ⊢
  unfold pickV at C ⊢
  go_enter Try.func20, Try.ntmps20
  go_wp2_with fail
  refine (C.out _).mono ?_
  rintro e w1 ⟨x, v, rfl, h1, h2, b1⟩
  have B1 := Lib.hid (below_up BX.out b1)
  clear e0 e1 e2 e3 q0 q1 q2 q3 q4 q5 q6 q7 hX0 hX1 s0 BX P1 C b1
  generalize pickB s p = sb at HO h1 h2
  cases sb with
  | false =>
    obtain ⟨rfl, rfl⟩ := h1 rfl
    have HE : Hid (o = none) := HO.out
    have V := TwoBrVar.new w1 81 0 .nilFunc
    have b2 := alloc_below w1 (.cells #[.int .i64 0, .nilFunc] 81)
    generalize hX2 : w1.alloc (.cells #[.int .i64 0, .nilFunc] 81) = X2 at V b2
    have B2 := Lib.hid (below_up B1.out b2)
    have SZ := Lib.hid B1.out.size
    obtain ⟨k0, k1, -⟩ := V.cells
    obtain ⟨-, f0, f1⟩ := V
    clear h1 h2 b2 HO
    go_wp2
    go_ret2
    exact ⟨by rw [HE.out]; rfl, (B2.out.setCell (p := ⟨w1.heap.size, 0, none⟩) SZ.out _).setCell (p := ⟨w1.heap.size, 1, none⟩) SZ.out _⟩
  | true =>
    obtain ⟨hx, ⟨bs, bp, bx, rfl, -⟩⟩ := h2 rfl
    have HE : Hid (o = some x) := by unfold Hid; rw [HO.out, hx]; rfl
    unfold leftV
    have V := TwoBr.new w1 81 x (.func (.func 104) #[] #[.pointer (some ⟨bs, 0, none⟩), .pointer (some ⟨bp, 0, none⟩), .pointer (some ⟨bx, 0, none⟩)])
    have b2 := alloc_below w1 (.cells #[.int .i64 x, .func (.func 104) #[] #[.pointer (some ⟨bs, 0, none⟩), .pointer (some ⟨bp, 0, none⟩), .pointer (some ⟨bx, 0, none⟩)]] 81)
    generalize hX2 : w1.alloc (.cells #[.int .i64 x, .func (.func 104) #[] #[.pointer (some ⟨bs, 0, none⟩), .pointer (some ⟨bp, 0, none⟩), .pointer (some ⟨bx, 0, none⟩)]] 81) = X2 at V b2
    have B2 := Lib.hid (below_up B1.out b2)
    obtain ⟨k0, k1, -⟩ := V.cells
    clear h1 h2 V b2 HO hx
    go_wp2
    go_ret2
    exact ⟨by rw [HE.out]; rfl, B2.out⟩

set_option maxRecDepth 100000 in
set_option maxHeartbeats 3200000 in
theorem implLostCases (s : SD) (p : PD) (hn : ∀ y ∈ p.list, I64 y) : LostCasesIs 34 s p := by
  intro w
  have C := Lib.hid (fun W => implWorstBranch s p hn W)
  obtain ⟨c, m, HO, HM, HC, CM, CN⟩ : ∃ (c m : Int), Hid (lostI s p = if pickB s p = true then m - Int.tdiv (c + 2) 3 else -1) ∧ Hid (pickB s p = true → 0 ≤ m ∧ m ≤ 26) ∧ Hid (pickB s p = true → 0 ≤ c ∧ c ≤ 26) ∧
      Hid (pickB s p = true → ∀ v lo W, BrAt W lo v s p (worstI s p) → Calls Try.prog 63 #[.agg #[.int .i64 (worstI s p), v]] W fun e w' => e = .returned (.int .i64 m) ∧ Below W.heap.size W w') ∧
      Hid (pickB s p = true → ∀ W, Calls Try.prog 36 #[stateV s] W fun e w' => e = .returned (.int .i64 c) ∧ Below W.heap.size W w') :=
    ⟨countS s, countS (afterS s p (worstI s p)), Lib.hid rfl, fun h => count_in (stateB_iff.2 (after_in (pick_in h).1 (pick_in h).2)), fun h => count_in (stateB_iff.2 (pick_in h).1),
      fun h v lo W hb => implCasesOfBr s p _ v lo h (worst_in s p) W hb,
      fun h W => by
        have := implCountCases s W
        unfold casesS at this
        rwa [stateB_iff.2 (pick_in h).1] at this⟩
  generalize lostI s p = o at HO ⊢
  clear hn
  have P0 := StateAt.new w 32 s
  have B0 := alloc_below w (.cells #[.int .i64 s.b, .int .i64 s.h, .int .i64 s.l, .int .i64 s.g] 32)
  have s0 : (w.alloc (.cells #[.int .i64 s.b, .int .i64 s.h, .int .i64 s.l, .int .i64 s.g] 32)).heap.size = w.heap.size + 1 := by simp
  generalize hX0 : w.alloc (.cells #[.int .i64 s.b, .int .i64 s.h, .int .i64 s.l, .int .i64 s.g] 32) = X0 at P0 B0 s0
  have Q0 := PickAt.new X0 34 p
  have B1 := alloc_below X0 (.cells #[.int .i64 p.bl, .int .i64 p.br, .int .i64 p.hl, .int .i64 p.hr, .int .i64 p.ll, .int .i64 p.lr, .int .i64 p.gl, .int .i64 p.gr] 34)
  generalize hX1 : X0.alloc (.cells #[.int .i64 p.bl, .int .i64 p.br, .int .i64 p.hl, .int .i64 p.hr, .int .i64 p.ll, .int .i64 p.lr, .int .i64 p.gl, .int .i64 p.gr] 34) = X1 at Q0 B1
  rw [s0] at Q0
  have P1 := Lib.hid (P0.below B1)
  have BX := Lib.hid (below_up B0 B1)
  obtain ⟨e0, e1, e2, e3, -⟩ := P1.out
  obtain ⟨q0, q1, q2, q3, q4, q5, q6, q7, -⟩ := Q0
  clear P0 B0 B1
  unfold stateV at C CN ⊢
  unfold pickV at C ⊢
  go_enter Try.func34, Try.ntmps34
  go_wp2_with fail
  refine (C.out _).mono ?_
  rintro e w1 ⟨x, v, rfl, h1, h2, b1⟩
  have B1 := Lib.hid (below_up BX.out b1)
  have P2 := Lib.hid (P1.out.below b1)
  clear e0 e1 e2 e3 q0 q1 q2 q3 q4 q5 q6 q7 hX0 hX1 s0 BX P1 C b1
  generalize pickB s p = sb at HO HM HC CM CN h1 h2
  cases sb with
  | false =>
    obtain ⟨rfl, rfl⟩ := h1 rfl
    have HE : Hid (o = -1) := HO.out
    have V := TwoBrVar.new w1 81 0 .nilFunc
    have b2 := alloc_below w1 (.cells #[.int .i64 0, .nilFunc] 81)
    generalize hX2 : w1.alloc (.cells #[.int .i64 0, .nilFunc] 81) = X2 at b2 V
    have B2 := Lib.hid (below_up B1.out b2)
    have SZ := Lib.hid B1.out.size
    obtain ⟨k0, k1, -⟩ := V.cells
    obtain ⟨-, f0, f1⟩ := V
    clear h1 h2 b2 HO HM HC CM CN P2
    go_wp2
    go_ret
    exact ⟨ret_int HE.out.symm, (B2.out.setCell (p := ⟨w1.heap.size, 0, none⟩) SZ.out _).setCell (p := ⟨w1.heap.size, 1, none⟩) SZ.out _⟩
  | true =>
    obtain ⟨hx, hb⟩ := h2 rfl
    have HB := Lib.hid hb
    obtain ⟨bs, bp, bx, rfl, -⟩ := hb
    have HE : Hid (o = m - Int.tdiv (c + 2) 3) := HO.out
    obtain ⟨m0, m1⟩ := HM.out rfl
    obtain ⟨c0, c1⟩ := HC.out rfl
    have hd := tdiv3_in c0 c1
    have v1 : IntKind.i64.wrap (c + 2) = c + 2 := by rw [IntKind.wrap_i64]; omega
    have v2 : IntKind.i64.wrap ((c + 2).tdiv 3) = (c + 2).tdiv 3 := by rw [IntKind.wrap_i64]; omega
    have v3 : IntKind.i64.wrap (m - (c + 2).tdiv 3) = m - (c + 2).tdiv 3 := by rw [IntKind.wrap_i64]; omega
    have CM2 : Hid (∀ W, BrAt W X1.heap.size (leftV bs bp bx) s p x → Calls Try.prog 63 #[.agg #[.int .i64 x, leftV bs bp bx]] W fun e w' => e = .returned (.int .i64 m) ∧ Below W.heap.size W w') := by
      rw [hx]
      exact fun W hb => CM.out rfl _ _ W hb
    have CN2 := Lib.hid (CN.out rfl)
    unfold leftV at CM2 HB ⊢
    have V := TwoBr.new w1 81 x (.func (.func 104) #[] #[.pointer (some ⟨bs, 0, none⟩), .pointer (some ⟨bp, 0, none⟩), .pointer (some ⟨bx, 0, none⟩)])
    have b2 := alloc_below w1 (.cells #[.int .i64 x, .func (.func 104) #[] #[.pointer (some ⟨bs, 0, none⟩), .pointer (some ⟨bp, 0, none⟩), .pointer (some ⟨bx, 0, none⟩)]] 81)
    generalize hX2 : w1.alloc (.cells #[.int .i64 x, .func (.func 104) #[] #[.pointer (some ⟨bs, 0, none⟩), .pointer (some ⟨bp, 0, none⟩), .pointer (some ⟨bx, 0, none⟩)]] 81) = X2 at V b2
    have B2 := Lib.hid (below_up B1.out b2)
    have P3 := Lib.hid (P2.out.below b2)
    have HB2 := Lib.hid (HB.out.below b2)
    have V2 := Lib.hid V
    clear h1 h2 V b2 HO hx HM HC CM CN m0 m1 c0 c1 hd HB P2
    obtain ⟨e0, e1, e2, e3, -⟩ := P3.out
    go_wp2_with fail
    refine (CN2.out _).mono ?_
    rintro e w3 ⟨rfl, b3⟩
    have B3 := Lib.hid (below_up B2.out b3)
    have HB3 := Lib.hid (HB2.out.below b3)
    obtain ⟨k0, k1, -⟩ := (V2.out.below b3).cells
    clear b3 e0 e1 e2 e3 hX2
    go_wp2_with fail
    refine (CM2.out _ HB3.out).mono ?_
    rintro e w4 ⟨rfl, b4⟩
    have B4 := Lib.hid (below_up B3.out b4)
    clear b4 k0 k1
    go_wp2
    go_ret
    exact ⟨ret_int HE.out.symm, B4.out⟩

theorem pick_i64W {a b c d e f g h : Int} (w0 : (Lit.int .i64 a).wf = true) (w1 : (Lit.int .i64 b).wf = true) (w2 : (Lit.int .i64 c).wf = true) (w3 : (Lit.int .i64 d).wf = true) (w4 : (Lit.int .i64 e).wf = true) (w5 : (Lit.int .i64 f).wf = true) (w6 : (Lit.int .i64 g).wf = true) (w7 : (Lit.int .i64 h).wf = true) :
    ∀ y ∈ (PD.mk a b c d e f g h).list, I64 y := by
  intro y hy
  simp only [PD.list, List.mem_cons, List.not_mem_nil, or_false] at hy
  rcases hy with rfl | rfl | rfl | rfl | rfl | rfl | rfl | rfl
  all_goals exact i64_of (by assumption)
theorem walkFnExactWorstOutcome (b : Int) (_ : (Lit.int .i64 b).wf = true) (h : Int) (_ : (Lit.int .i64 h).wf = true) (l : Int) (_ : (Lit.int .i64 l).wf = true) (g : Int) (_ : (Lit.int .i64 g).wf = true)
    (p0 : Int) (w0 : (Lit.int .i64 p0).wf = true) (p1 : Int) (w1 : (Lit.int .i64 p1).wf = true) (p2 : Int) (w2 : (Lit.int .i64 p2).wf = true) (p3 : Int) (w3 : (Lit.int .i64 p3).wf = true) (p4 : Int) (w4 : (Lit.int .i64 p4).wf = true) (p5 : Int) (w5 : (Lit.int .i64 p5).wf = true) (p6 : Int) (w6 : (Lit.int .i64 p6).wf = true) (p7 : Int) (w7 : (Lit.int .i64 p7).wf = true) (W : World) :
    Calls Try.prog 5 #[.agg #[.int .i64 b, .int .i64 h, .int .i64 l, .int .i64 g], .agg #[.int .i64 p0, .int .i64 p1, .int .i64 p2, .int .i64 p3, .int .i64 p4, .int .i64 p5, .int .i64 p6, .int .i64 p7]] W fun e w' => e = .returned (.bool true) ∧ Below W.heap.size W w' :=
  lawWorstOutcome ⟨b, h, l, g⟩ ⟨p0, p1, p2, p3, p4, p5, p6, p7⟩ (implWorstOutcome _ _ (pick_i64W w0 w1 w2 w3 w4 w5 w6 w7)) W
theorem walkFnExactLostCases (b : Int) (_ : (Lit.int .i64 b).wf = true) (h : Int) (_ : (Lit.int .i64 h).wf = true) (l : Int) (_ : (Lit.int .i64 l).wf = true) (g : Int) (_ : (Lit.int .i64 g).wf = true)
    (p0 : Int) (w0 : (Lit.int .i64 p0).wf = true) (p1 : Int) (w1 : (Lit.int .i64 p1).wf = true) (p2 : Int) (w2 : (Lit.int .i64 p2).wf = true) (p3 : Int) (w3 : (Lit.int .i64 p3).wf = true) (p4 : Int) (w4 : (Lit.int .i64 p4).wf = true) (p5 : Int) (w5 : (Lit.int .i64 p5).wf = true) (p6 : Int) (w6 : (Lit.int .i64 p6).wf = true) (p7 : Int) (w7 : (Lit.int .i64 p7).wf = true) (W : World) :
    Calls Try.prog 8 #[.agg #[.int .i64 b, .int .i64 h, .int .i64 l, .int .i64 g], .agg #[.int .i64 p0, .int .i64 p1, .int .i64 p2, .int .i64 p3, .int .i64 p4, .int .i64 p5, .int .i64 p6, .int .i64 p7]] W fun e w' => e = .returned (.bool true) ∧ Below W.heap.size W w' :=
  lawLostCases ⟨b, h, l, g⟩ ⟨p0, p1, p2, p3, p4, p5, p6, p7⟩ (implLostCases _ _ (pick_i64W w0 w1 w2 w3 w4 w5 w6 w7)) W
end Go.Proofs.Ytbkhmlkicafheaa
