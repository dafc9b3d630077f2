/- The contract of the program's worstBranch. Condition: the numbers of a pick are Go integers. -/
import Derived.Test.YtbkhmlkicafheaaWorstImpl
namespace Go.Proofs.Ytbkhmlkicafheaa
open Go.RowKit

theorem TwoBr.cells {w : World} {b : Nat} {x : Int} {v : Value} (h : TwoBr w b 0 x v) : w.cell? ⟨b, 0, none⟩ = some (.int .i64 x) ∧ w.cell? ⟨b, 1, none⟩ = some v ∧ b < w.heap.size := ⟨h.1, by simpa using h.2.1, h.2.2⟩
theorem TwoBrVar.cells {w : World} {b : Nat} {x : Int} {v : Value} (h : TwoBrVar w b x v) : w.cell? ⟨b, 0, none⟩ = some (.int .i64 x) ∧ w.cell? ⟨b, 1, none⟩ = some v ∧ b < w.heap.size := h.1.cells
theorem TwoBrVar.drewT {w : World} {b : Nat} {x : Int} {v : Value} (h : TwoBrVar w b x v) : TwoBrVar w.drew b x v := h.below (Below.refl _ _).drew
theorem TwoBrVar.fill {w : World} {b : Nat} {x : Int} {v : Value} (h : TwoBrVar w b x v) (y : Int) (u : Value) : TwoBrVar ((w.setCell ⟨b, 0, none⟩ (.int .i64 y)).setCell ⟨b, 1, none⟩ u) b y u := by
  obtain ⟨⟨e0, e1, hlt⟩, f0, f1⟩ := h
  refine ⟨⟨?_, ?_, by simp only [setCell_size]; exact hlt⟩, ?_, ?_⟩
  · rw [World.cell?_setCell_other _ _ _ _ (by simp)]
    exact World.cell?_setCell_same _ _ _ e0
  · exact World.cell?_setCell_same _ _ _ ((World.cell?_setCell_other _ _ _ _ (by simp)).trans (by simpa using e1))
  all_goals (simp only [World.frozen?_setCell]; assumption)

/-- What worstBranch gives back. -/
def WBr (s : SD) (p : PD) (sb : Bool) (w : World) (e : Ending) (w' : World) : Prop := ∃ x v, e = .returned (.tuple #[.agg #[.int .i64 x, v], .bool sb]) ∧ (sb = false → x = 0 ∧ v = .nilFunc) ∧ (sb = true → x = worstI s p ∧ BrAt w' w.heap.size v s p x) ∧ Below w.heap.size w w'
theorem WBr.none (s : SD) (p : PD) {w w' : World} (hb : Below w.heap.size w w') : WBr s p false w (.returned (.tuple #[.agg #[.int .i64 0, .nilFunc], .bool false])) w' := ⟨0, .nilFunc, rfl, fun _ => ⟨rfl, rfl⟩, fun h => (by cases h), hb⟩
theorem WBr.some {s : SD} {p : PD} {x : Int} {v : Value} {w w' : World} (hx : x = worstI s p) (h : BrAt w' w.heap.size v s p x) (hb : Below w.heap.size w w') : WBr s p true w (.returned (.tuple #[.agg #[.int .i64 x, v], .bool true])) w' := ⟨x, v, rfl, fun h => (by cases h), fun _ => ⟨hx, h⟩, hb⟩

set_option maxRecDepth 100000 in
set_option maxHeartbeats 6400000 in
theorem implWorstBranch (s : SD) (p : PD) (hn : ∀ y ∈ p.list, I64 y) (w : World) :
    Calls Try.prog 59 #[stateV s, pickV p] w (WBr s p (pickB s p) w) := by
  have C1 := Lib.hid (fun W => implPickOk s p hn W)
  have CB := Lib.hid (fun W => implBranches s p W)
  obtain ⟨n, HW, CC⟩ : ∃ (n : Int → Int), Hid (worstI s p = wstep n 2) ∧ Hid (pickB s p = true → ∀ x v lo W, -1 ≤ x → x ≤ 1 → BrAt W lo v s p x → Calls Try.prog 63 #[.agg #[.int .i64 x, v]] W fun e w' => e = .returned (.int .i64 (n x)) ∧ Below W.heap.size W w') :=
    ⟨fun x => countS (afterS s p x), Lib.hid (worst_step s p), Lib.hid fun hp x v lo W h1 h2 hb => implCasesOfBr s p x v lo hp ⟨h1, h2⟩ W hb⟩
  generalize pickB s p = sb at C1 CC ⊢
  clear hn
  have P0 := StateAt.new w 32 s
  have B0 := alloc_below w (.cells #[.int .i64 s.b, .int .i64 s.h, .int .i64 s.l, .int .i64 s.g] 32)
  have s0 : (w.alloc (.cells #[.int .i64 s.b, .int .i64 s.h, .int .i64 s.l, .int .i64 s.g] 32)).heap.size = w.heap.size + 1 := by simp
  generalize hX0 : w.alloc (.cells #[.int .i64 s.b, .int .i64 s.h, .int .i64 s.l, .int .i64 s.g] 32) = X0 at P0 B0 s0
  have Q0 := PickAt.new X0 34 p
  have B1 := alloc_below X0 (.cells #[.int .i64 p.bl, .int .i64 p.br, .int .i64 p.hl, .int .i64 p.hr, .int .i64 p.ll, .int .i64 p.lr, .int .i64 p.gl, .int .i64 p.gr] 34)
  have s1 : (X0.alloc (.cells #[.int .i64 p.bl, .int .i64 p.br, .int .i64 p.hl, .int .i64 p.hr, .int .i64 p.ll, .int .i64 p.lr, .int .i64 p.gl, .int .i64 p.gr] 34)).heap.size = w.heap.size + 2 := by simp [s0]
  generalize hX1 : X0.alloc (.cells #[.int .i64 p.bl, .int .i64 p.br, .int .i64 p.hl, .int .i64 p.hr, .int .i64 p.ll, .int .i64 p.lr, .int .i64 p.gl, .int .i64 p.gr] 34) = X1 at Q0 B1 s1
  rw [s0] at Q0
  have R0 := TwoBrVar.new X1 81 0 .nilFunc
  have B2 := alloc_below X1 (.cells #[.int .i64 0, .nilFunc] 81)
  rw [s1] at R0
  have P2 := Lib.hid ((P0.below B1).below B2)
  have Q2 := Lib.hid (Q0.below B2)
  have BX := Lib.hid (below_up (below_up B0 B1) B2)
  generalize hX2 : X1.alloc (.cells #[.int .i64 0, .nilFunc] 81) = X2 at R0 P2 Q2 BX
  have R2 := Lib.hid R0
  clear P0 B0 B1 B2 Q0 R0
  unfold stateV at C1 CB ⊢
  unfold pickV at C1 CB ⊢
  obtain ⟨e0, e1, e2, e3, -⟩ := P2.out
  obtain ⟨q0, q1, q2, q3, q4, q5, q6, q7, -⟩ := Q2.out
  go_enter Try.func59, Try.ntmps59
  go_wp2_with fail
  refine (C1.out _).mono ?_
  rintro e w1 ⟨rfl, b1⟩
  have B1 := Lib.hid (below_up BX.out b1)
  have P1 := Lib.hid (P2.out.below b1)
  have Q1 := Lib.hid (Q2.out.below b1)
  have R1 := Lib.hid (R2.out.below b1)
  clear b1 e0 e1 e2 e3 q0 q1 q2 q3 q4 q5 q6 q7 BX P2 Q2 R2 hX0 hX1 hX2 s0 s1
  cases sb with
  | false =>
    obtain ⟨⟨r0, r1, rl⟩, g0, g1⟩ := R1.out
    rw [Nat.zero_add] at r1
    clear CC CB
    go_wp2
    refine bodyPost_ret (v := .tuple #[.agg #[.int .i64 0, .nilFunc], .bool false]) (by simp [results, Try.results59, go_sem, r0, r1]) rfl (WBr.none s p ?_)
    exact (B1.out.setCell (p := ⟨w.heap.size + 2, 0, none⟩) (Nat.le_add_right _ 2) _).setCell (p := ⟨w.heap.size + 2, 1, none⟩) (Nat.le_add_right _ 2) _
  | true =>
    replace CC := Lib.hid (CC.out rfl)
    obtain ⟨e0, e1, e2, e3, -⟩ := P1.out
    obtain ⟨q0, q1, q2, q3, q4, q5, q6, q7, -⟩ := Q1.out
    go_wp2_with fail
    refine (CB.out _).mono ?_
    rintro e w2 ⟨B, rfl, ⟨v0, v1, v2, ⟨t0, t1, t2⟩, h0, h1, h2⟩, b2⟩
    have B2 := Lib.hid (below_up B1.out b2)
    have R2 := Lib.hid (R1.out.below b2)
    have RL : Hid (w.heap.size + 2 < w1.heap.size) := R1.out.1.2.2
    have LW : Hid (w.heap.size ≤ w1.heap.size) := B1.out.size
    have T1 := Lib.hid t1
    have T2 := Lib.hid t2
    have H0 := Lib.hid h0
    have H1 := Lib.hid h1
    have H2 := Lib.hid h2
    obtain ⟨bs0, bp0, bx0, hv, -⟩ := h0
    subst hv
    obtain ⟨bs1, bp1, bx1, hv, -⟩ := h1
    subst hv
    obtain ⟨bs2, bp2, bx2, hv, -⟩ := h2
    subst hv
    unfold leftV at t0 T1 T2 H0 H1 H2
    obtain ⟨a0, a1, -⟩ := t0
    rw [Nat.zero_add] at a1
    have V3 := TwoBrVar.new w2 81 (-1) (.func (.func 104) #[] #[.pointer (some ⟨bs0, 0, none⟩), .pointer (some ⟨bp0, 0, none⟩), .pointer (some ⟨bx0, 0, none⟩)])
    have A3 := alloc_below w2 (.cells #[.int .i64 (-1), .func (.func 104) #[] #[.pointer (some ⟨bs0, 0, none⟩), .pointer (some ⟨bp0, 0, none⟩), .pointer (some ⟨bx0, 0, none⟩)]] 81)
    generalize hX3 : w2.alloc (.cells #[.int .i64 (-1), .func (.func 104) #[] #[.pointer (some ⟨bs0, 0, none⟩), .pointer (some ⟨bp0, 0, none⟩), .pointer (some ⟨bx0, 0, none⟩)]] 81) = X3 at V3 A3
    have V4 := Lib.hid V3
    have A4 := Lib.hid A3
    clear t1 t2 b2 V3 A3 e0 e1 e2 e3 q0 q1 q2 q3 q4 q5 q6 q7 P1 Q1 R1 CB C1 B1
    go_wp2
    clear a0 a1
    go_loopw [24] (fun jv wr => ∃ (x : Int) (v : Value), ((jv = .int .i64 0 ∧ Hid (x = wstep n 0)) ∨ (jv = .int .i64 1 ∧ Hid (x = wstep n 1)) ∨ (jv = .int .i64 2 ∧ Hid (x = wstep n 2))) ∧ Hid (-1 ≤ x ∧ x ≤ 1) ∧ Hid (Below w2.heap.size w2 wr) ∧ Hid (BrAt w2 w1.heap.size v s p x) ∧ Hid (TwoBrVar wr w2.heap.size x v)) (fun jv _ => 3 - (intOf jv).toNat)
    case atStart => exact ⟨-1, _, .inl ⟨rfl, Lib.hid rfl⟩, Lib.hid (by omega), A4, H0, V4⟩
    case round =>
      clear V4 A4 hX3
      obtain ⟨x, v, hj, hx, A5, H5, V5⟩ := hrel
      have hv := H5.out
      obtain ⟨bs3, bp3, bx3, hv, -⟩ := hv
      subst hv
      unfold leftV at H5 V5
      have CW : Hid (∀ W, Below w2.heap.size w2 W → Calls Try.prog 63 #[.agg #[.int .i64 x, .func (.func 104) #[] #[.pointer (some ⟨bs3, 0, none⟩), .pointer (some ⟨bp3, 0, none⟩), .pointer (some ⟨bx3, 0, none⟩)]]] W fun e w' => e = .returned (.int .i64 (n x)) ∧ Below W.heap.size W w') :=
        fun W hW => CC.out x _ _ W hx.out.1 hx.out.2 (H5.out.below hW)
      rcases hj with ⟨rfl, HX⟩ | ⟨rfl, HX⟩ | ⟨rfl, HX⟩
      · obtain ⟨a0, a1, -⟩ := T1.out.below A5.out
        simp only [Nat.reduceAdd] at a1
        have CJ : Hid (∀ W, Below w2.heap.size w2 W → Calls Try.prog 63 #[.agg #[.int .i64 0, .func (.func 104) #[] #[.pointer (some ⟨bs1, 0, none⟩), .pointer (some ⟨bp1, 0, none⟩), .pointer (some ⟨bx1, 0, none⟩)]]] W fun e w' => e = .returned (.int .i64 (n 0)) ∧ Below W.heap.size W w') :=
          fun W hW => CC.out 0 _ _ W (by omega) (by omega) (H1.out.below hW)
        have HN : Hid (wstep n 1 = if n x < n 0 then 0 else x) := by unfold Hid; rw [HX.out]; rfl
        have E6 := TwoBr.new wr 81 0 (.func (.func 104) #[] #[.pointer (some ⟨bs1, 0, none⟩), .pointer (some ⟨bp1, 0, none⟩), .pointer (some ⟨bx1, 0, none⟩)])
        have b6 := alloc_below wr (.cells #[.int .i64 0, .func (.func 104) #[] #[.pointer (some ⟨bs1, 0, none⟩), .pointer (some ⟨bp1, 0, none⟩), .pointer (some ⟨bx1, 0, none⟩)]] 81)
        have A6 := Lib.hid (below_up A5.out b6)
        have V6 := Lib.hid (V5.out.below b6)
        generalize hX6 : wr.alloc (.cells #[.int .i64 0, .func (.func 104) #[] #[.pointer (some ⟨bs1, 0, none⟩), .pointer (some ⟨bp1, 0, none⟩), .pointer (some ⟨bx1, 0, none⟩)]] 81) = X6 at E6 A6 V6
        have E7 := Lib.hid E6
        clear E6 b6 HX CC
        by_cases hb : n x < n 0
        all_goals
          go_wp2_with fail
          clear a0 a1 hX6
          go_region_held3 (fun w' => (w'.cell? ⟨w2.heap.size, 0, none⟩ = some (.int .i64 x) ∧ w'.cell? ⟨w2.heap.size, 1, none⟩ = some (.func (.func 104) #[] #[.pointer (some ⟨bs3, 0, none⟩), .pointer (some ⟨bp3, 0, none⟩), .pointer (some ⟨bx3, 0, none⟩)]) ∧ w2.heap.size < w'.heap.size) ∧ (w'.cell? ⟨wr.heap.size, 0, none⟩ = some (.int .i64 0) ∧ w'.cell? ⟨wr.heap.size, 1, none⟩ = some (.func (.func 104) #[] #[.pointer (some ⟨bs1, 0, none⟩), .pointer (some ⟨bp1, 0, none⟩), .pointer (some ⟨bx1, 0, none⟩)]) ∧ wr.heap.size < w'.heap.size))
            (first | with_reducible exact ⟨V9.out.cells, E9.out.cells⟩ | with_reducible exact ⟨V8.out.cells, E8.out.cells⟩ | with_reducible exact ⟨V6.out.drewT.cells, E7.out.drewT.cells⟩ | fail)
            (first
              | (go_at_call 63; (first
                  | (have b4 := A8; clear b4; refine (CW.out _ A8.out).mono ?_; rintro e w9 ⟨rfl, b9⟩; have A9 := Lib.hid (below_up A8.out b9); have V9 := Lib.hid (V8.out.below b9); have E9 := Lib.hid (E8.out.below b9); clear b9)
                  | (refine (CJ.out _ A6.out.drew).mono ?_; rintro e w8 ⟨rfl, b8⟩; have A8 := Lib.hid (below_up A6.out.drew b8); have V8 := Lib.hid (V6.out.drewT.below b8); have E8 := Lib.hid (E7.out.drewT.below b8); clear b8)))
              | fail)
        · obtain ⟨k0, k1, -⟩ := E9.out.cells
          obtain ⟨⟨r0, r1, -⟩, g0, g1⟩ := V9.out
          rw [Nat.zero_add] at r1
          go_wp2
          go_roundw
          case rel => exact ⟨0, _, .inr <| .inl ⟨by go_num, by unfold Hid; rw [HN.out, if_pos hb]⟩, Lib.hid (by omega), Lib.hid ((A9.out.setCell (p := ⟨w2.heap.size, 0, none⟩) (Nat.le_refl _) _).setCell (p := ⟨w2.heap.size, 1, none⟩) (Nat.le_refl _) _), H1, Lib.hid (V9.out.fill _ _)⟩
          case measure => simp [intOf]
        · go_wp2
          go_roundw
          case rel => exact ⟨x, _, .inr <| .inl ⟨by go_num, by unfold Hid; rw [HN.out, if_neg (Int.not_lt.2 hb)]⟩, hx, A9, H5, V9⟩
          case measure => simp [intOf]
      · obtain ⟨a0, a1, -⟩ := T2.out.below A5.out
        simp only [Nat.reduceAdd] at a1
        have CJ : Hid (∀ W, Below w2.heap.size w2 W → Calls Try.prog 63 #[.agg #[.int .i64 1, .func (.func 104) #[] #[.pointer (some ⟨bs2, 0, none⟩), .pointer (some ⟨bp2, 0, none⟩), .pointer (some ⟨bx2, 0, none⟩)]]] W fun e w' => e = .returned (.int .i64 (n 1)) ∧ Below W.heap.size W w') :=
          fun W hW => CC.out 1 _ _ W (by omega) (by omega) (H2.out.below hW)
        have HN : Hid (wstep n 2 = if n x < n 1 then 1 else x) := by unfold Hid; rw [HX.out]; rfl
        have E6 := TwoBr.new wr 81 1 (.func (.func 104) #[] #[.pointer (some ⟨bs2, 0, none⟩), .pointer (some ⟨bp2, 0, none⟩), .pointer (some ⟨bx2, 0, none⟩)])
        have b6 := alloc_below wr (.cells #[.int .i64 1, .func (.func 104) #[] #[.pointer (some ⟨bs2, 0, none⟩), .pointer (some ⟨bp2, 0, none⟩), .pointer (some ⟨bx2, 0, none⟩)]] 81)
        have A6 := Lib.hid (below_up A5.out b6)
        have V6 := Lib.hid (V5.out.below b6)
        generalize hX6 : wr.alloc (.cells #[.int .i64 1, .func (.func 104) #[] #[.pointer (some ⟨bs2, 0, none⟩), .pointer (some ⟨bp2, 0, none⟩), .pointer (some ⟨bx2, 0, none⟩)]] 81) = X6 at E6 A6 V6
        have E7 := Lib.hid E6
        clear E6 b6 HX CC
        by_cases hb : n x < n 1
        all_goals
          go_wp2_with fail
          clear a0 a1 hX6
          go_region_held3 (fun w' => (w'.cell? ⟨w2.heap.size, 0, none⟩ = some (.int .i64 x) ∧ w'.cell? ⟨w2.heap.size, 1, none⟩ = some (.func (.func 104) #[] #[.pointer (some ⟨bs3, 0, none⟩), .pointer (some ⟨bp3, 0, none⟩), .pointer (some ⟨bx3, 0, none⟩)]) ∧ w2.heap.size < w'.heap.size) ∧ (w'.cell? ⟨wr.heap.size, 0, none⟩ = some (.int .i64 1) ∧ w'.cell? ⟨wr.heap.size, 1, none⟩ = some (.func (.func 104) #[] #[.pointer (some ⟨bs2, 0, none⟩), .pointer (some ⟨bp2, 0, none⟩), .pointer (some ⟨bx2, 0, none⟩)]) ∧ wr.heap.size < w'.heap.size))
            (first | with_reducible exact ⟨V9.out.cells, E9.out.cells⟩ | with_reducible exact ⟨V8.out.cells, E8.out.cells⟩ | with_reducible exact ⟨V6.out.drewT.cells, E7.out.drewT.cells⟩ | fail)
            (first
              | (go_at_call 63; (first
                  | (have b4 := A8; clear b4; refine (CW.out _ A8.out).mono ?_; rintro e w9 ⟨rfl, b9⟩; have A9 := Lib.hid (below_up A8.out b9); have V9 := Lib.hid (V8.out.below b9); have E9 := Lib.hid (E8.out.below b9); clear b9)
                  | (refine (CJ.out _ A6.out.drew).mono ?_; rintro e w8 ⟨rfl, b8⟩; have A8 := Lib.hid (below_up A6.out.drew b8); have V8 := Lib.hid (V6.out.drewT.below b8); have E8 := Lib.hid (E7.out.drewT.below b8); clear b8)))
              | fail)
        · obtain ⟨k0, k1, -⟩ := E9.out.cells
          obtain ⟨⟨r0, r1, -⟩, g0, g1⟩ := V9.out
          rw [Nat.zero_add] at r1
          go_wp2
          go_roundw
          case rel => exact ⟨1, _, .inr <| .inr ⟨by go_num, by unfold Hid; rw [HN.out, if_pos hb]⟩, Lib.hid (by omega), Lib.hid ((A9.out.setCell (p := ⟨w2.heap.size, 0, none⟩) (Nat.le_refl _) _).setCell (p := ⟨w2.heap.size, 1, none⟩) (Nat.le_refl _) _), H2, Lib.hid (V9.out.fill _ _)⟩
          case measure => simp [intOf]
        · go_wp2
          go_roundw
          case rel => exact ⟨x, _, .inr <| .inr ⟨by go_num, by unfold Hid; rw [HN.out, if_neg (Int.not_lt.2 hb)]⟩, hx, A9, H5, V9⟩
          case measure => simp [intOf]
      · have HE : Hid (x = worstI s p) := by unfold Hid; rw [HX.out, HW.out]
        obtain ⟨⟨k0, k1, -⟩, -⟩ := V5.out
        rw [Nat.zero_add] at k1
        have R3 := R2.out.below A5.out
        obtain ⟨⟨r0, r1, rl⟩, g0, g1⟩ := R3
        rw [Nat.zero_add] at r1
        have H6 : Hid (BrAt wr w1.heap.size (.func (.func 104) #[] #[.pointer (some ⟨bs3, 0, none⟩), .pointer (some ⟨bp3, 0, none⟩), .pointer (some ⟨bx3, 0, none⟩)]) s p x) := H5.out.below A5.out
        have B5 := Lib.hid (below_up B2.out A5.out)
        clear HX CC CW H0 H1 H2 T1 T2 H5 hx
        go_wp2
        refine bodyPost_ret (v := .tuple #[.agg #[.int .i64 x, .func (.func 104) #[] #[.pointer (some ⟨bs3, 0, none⟩), .pointer (some ⟨bp3, 0, none⟩), .pointer (some ⟨bx3, 0, none⟩)]], .bool true]) (by simp [results, Try.results59, go_sem, r0, r1]) rfl (WBr.some HE.out ?_ ?_)
        · refine BrAt.lower (BrAt.only (T := fun k => k = w.heap.size + 2) H6.out ((Only.of_set _ _ 0 _).trans (Only.of_set _ _ 1 _)) ?_) LW.out
          intro k hk
          subst hk
          exact RL.out
        · exact (B5.out.setCell (p := ⟨w.heap.size + 2, 0, none⟩) (Nat.le_add_right _ 2) _).setCell (p := ⟨w.heap.size + 2, 1, none⟩) (Nat.le_add_right _ 2) _
end Go.Proofs.Ytbkhmlkicafheaa
