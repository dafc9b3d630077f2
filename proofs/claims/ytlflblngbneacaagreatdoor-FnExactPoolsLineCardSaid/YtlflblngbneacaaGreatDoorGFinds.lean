/- Several texts in one file; each says what it proves and under which condition. No condition. -/
import Derived.Test.YtlflblngbneacaaGreatDoorGStates
/- The contract of the model's completion of a pick by good coins. Conditions: a valid state, a pick within it without good coins. -/
namespace Go.Proofs.YtlflblngbneacaaGreatDoor
open Go.RowKit

/-- A pick's eight cells lie in block b and may be written. -/
def EightVar (w : World) (b : Nat) (p : PD) : Prop :=
  PickAt w b p ∧ w.frozen? ⟨b, 0, none⟩ = false ∧ w.frozen? ⟨b, 1, none⟩ = false ∧ w.frozen? ⟨b, 2, none⟩ = false ∧ w.frozen? ⟨b, 3, none⟩ = false ∧ w.frozen? ⟨b, 4, none⟩ = false ∧ w.frozen? ⟨b, 5, none⟩ = false ∧ w.frozen? ⟨b, 6, none⟩ = false ∧ w.frozen? ⟨b, 7, none⟩ = false
theorem EightVar.below {w w' : World} {b : Nat} {p : PD} (h : EightVar w b p) (hb : Below w.heap.size w w') : EightVar w' b p := by
  have hlt : b < w.heap.size := h.1.2.2.2.2.2.2.2.2
  obtain ⟨hp, f0, f1, f2, f3, f4, f5, f6, f7⟩ := h
  refine ⟨hp.below hb, ?_, ?_, ?_, ?_, ?_, ?_, ?_, ?_⟩
  · rw [hb.frozen (p := ⟨b, 0, none⟩) hlt]; exact f0
  · rw [hb.frozen (p := ⟨b, 1, none⟩) hlt]; exact f1
  · rw [hb.frozen (p := ⟨b, 2, none⟩) hlt]; exact f2
  · rw [hb.frozen (p := ⟨b, 3, none⟩) hlt]; exact f3
  · rw [hb.frozen (p := ⟨b, 4, none⟩) hlt]; exact f4
  · rw [hb.frozen (p := ⟨b, 5, none⟩) hlt]; exact f5
  · rw [hb.frozen (p := ⟨b, 6, none⟩) hlt]; exact f6
  · rw [hb.frozen (p := ⟨b, 7, none⟩) hlt]; exact f7
theorem EightVar.new (w : World) (ty : TypeId) (p : PD) : EightVar (w.alloc (.cells #[.int .i64 p.bl, .int .i64 p.br, .int .i64 p.hl, .int .i64 p.hr, .int .i64 p.ll, .int .i64 p.lr, .int .i64 p.gl, .int .i64 p.gr] ty)) w.heap.size p := by
  refine ⟨PickAt.new w ty p, ?_, ?_, ?_, ?_, ?_, ?_, ?_, ?_⟩ <;> simp

set_option maxRecDepth 100000 in
set_option maxHeartbeats 3200000 in
theorem specGoods (s : SD) (p : PD) (hs : SIn s) (hp : PIn s p) (h0 : p.gl = 0) (h1 : p.gr = 0) (w : World) :
    Calls Tryz.prog 168 #[stateV s, pickV p] w fun e w' => e = .returned (.tuple #[pickV (goodsP p), .bool (goodsB s p)]) ∧ Below w.heap.size w w' := by
  obtain ⟨sb, sh, sl, sg, s1', s13⟩ := id hs
  have hp' := hp
  unfold PIn at hp'
  unfold sumS at s1' s13
  have hlr : leftP p = p.bl + p.hl + p.ll := by unfold leftP; omega
  have hrr : rightP p = p.br + p.hr + p.lr := by unfold rightP; omega
  have S := Lib.hid (fun W => specSides p ⟨by omega, by omega, by omega, by omega, by omega, by omega, by omega, by omega⟩ W)
  have hl0 : 0 ≤ leftP p ∧ leftP p ≤ 13 := by omega
  have hr0 : 0 ≤ rightP p ∧ rightP p ≤ 13 := by omega
  have HG : Hid (goodsP p = if leftP p < rightP p then { p with gl := rightP p - leftP p } else { p with gr := leftP p - rightP p }) := rfl
  have HB : Hid (goodsB s p = (decide ((goodsP p).gl + (goodsP p).gr ≤ s.g) && decide (0 < leftP p + rightP p))) := rfl
  have HZ : Hid (p.gl = 0 ∧ p.gr = 0) := ⟨h0, h1⟩
  clear hlr hrr hp' hp h0 h1
  have P0 := StateAt.new w 36 s
  have B0 := alloc_below w (.cells #[.int .i64 s.b, .int .i64 s.h, .int .i64 s.l, .int .i64 s.g] 36)
  have s0 : (w.alloc (.cells #[.int .i64 s.b, .int .i64 s.h, .int .i64 s.l, .int .i64 s.g] 36)).heap.size = w.heap.size + 1 := by simp
  generalize hX0 : w.alloc (.cells #[.int .i64 s.b, .int .i64 s.h, .int .i64 s.l, .int .i64 s.g] 36) = X0 at P0 B0 s0
  have Q0 := EightVar.new X0 139 p
  have B1 := alloc_below X0 (.cells #[.int .i64 p.bl, .int .i64 p.br, .int .i64 p.hl, .int .i64 p.hr, .int .i64 p.ll, .int .i64 p.lr, .int .i64 p.gl, .int .i64 p.gr] 139)
  have s1 : (X0.alloc (.cells #[.int .i64 p.bl, .int .i64 p.br, .int .i64 p.hl, .int .i64 p.hr, .int .i64 p.ll, .int .i64 p.lr, .int .i64 p.gl, .int .i64 p.gr] 139)).heap.size = w.heap.size + 2 := by simp [s0]
  generalize hX1 : X0.alloc (.cells #[.int .i64 p.bl, .int .i64 p.br, .int .i64 p.hl, .int .i64 p.hr, .int .i64 p.ll, .int .i64 p.lr, .int .i64 p.gl, .int .i64 p.gr] 139) = X1 at Q0 B1 s1
  rw [s0] at Q0
  have Q2 := EightVar.new X1 139 zeroP
  have B2 := alloc_below X1 (.cells #[.int .i64 0, .int .i64 0, .int .i64 0, .int .i64 0, .int .i64 0, .int .i64 0, .int .i64 0, .int .i64 0] 139)
  have Q1 := Q0.below B2
  rw [s1] at Q2
  have BX := Lib.hid (below_up (below_up B0 B1) B2)
  have P1 := Lib.hid ((P0.below B1).below B2)
  have s2 : (X1.alloc (.cells #[.int .i64 0, .int .i64 0, .int .i64 0, .int .i64 0, .int .i64 0, .int .i64 0, .int .i64 0, .int .i64 0] 139)).heap.size = w.heap.size + 3 := by simp [s1]
  change EightVar (X1.alloc (.cells #[.int .i64 0, .int .i64 0, .int .i64 0, .int .i64 0, .int .i64 0, .int .i64 0, .int .i64 0, .int .i64 0] 139)) _ _ at Q2
  generalize hX2 : X1.alloc (.cells #[.int .i64 0, .int .i64 0, .int .i64 0, .int .i64 0, .int .i64 0, .int .i64 0, .int .i64 0, .int .i64 0] 139) = X2 at Q1 Q2 P1 BX s2
  have H1 := Lib.hid Q1
  have H2 := Lib.hid Q2
  clear P0 B0 B1 B2 Q0 Q1 Q2
  generalize leftP p = a at S hl0 HG HB
  generalize rightP p = b at S hr0 HG HB
  unfold stateV pickV
  unfold pickV at S
  obtain ⟨⟨q0, q1, q2, q3, q4, q5, q6, q7, -⟩, -⟩ := H1.out
  go_enter Tryz.func168, Tryz.ntmps168
  go_wp2_with fail
  refine (S.out _).mono ?_
  rintro e w1 ⟨rfl, b1⟩
  clear q0 q1 q2 q3 q4 q5 q6 q7
  have B1 := Lib.hid (below_up BX.out b1)
  obtain ⟨e0, e1, e2, e3, elt⟩ := P1.out.below b1
  obtain ⟨⟨q0, q1, q2, q3, q4, q5, q6, q7, ql⟩, f0, f1, f2, f3, f4, f5, f6, f7⟩ := H1.out.below b1
  obtain ⟨⟨r0, r1, r2, r3, r4, r5, r6, r7, rl⟩, g0, g1, g2, g3, g4, g5, g6, g7⟩ := H2.out.below b1
  clear b1
  obtain ⟨z0, z1⟩ := HZ.out
  rw [z0] at q6
  rw [z1] at q7
  by_cases hab : a < b
  · have HG2 : Hid (goodsP p = ⟨p.bl, p.br, p.hl, p.hr, p.ll, p.lr, b - a, 0⟩) := by unfold Hid; rw [HG.out, if_pos hab, z1]
    have hw : IntKind.i64.wrap (b - a) = b - a := by rw [IntKind.wrap_i64]; omega
    have hp : (0 : Int) < a + b := by omega
    have HB2 : Hid (goodsB s p = decide (b - a ≤ s.g)) := by unfold Hid; rw [HB.out, HG2.out, decide_eq_true hp]; simp
    clear HG HB z0 z1
    by_cases hc : b - a ≤ s.g
    · have HB2 : Hid (goodsB s p = true) := by unfold Hid; rw [HB2.out]; exact decide_eq_true hc
      go_wp2
      refine bodyPost_ret (v := .tuple #[.agg #[.int .i64 p.bl, .int .i64 p.br, .int .i64 p.hl, .int .i64 p.hr, .int .i64 p.ll, .int .i64 p.lr, .int .i64 (b - a), .int .i64 (0)], .bool true]) (by simp [results, Tryz.results168, go_sem, r0, r1, r2, r3, r4, r5, r6, r7]) rfl ⟨?_, ?_⟩
      · rw [HG2.out, HB2.out]
      · exact ((((((((B1.out.setCell (by simp) _).setCell (by simp) _).setCell (by simp) _).setCell (by simp) _).setCell (by simp) _).setCell (by simp) _).setCell (by simp) _).setCell (by simp) _).setCell (by simp) _
    · have HB2 : Hid (goodsB s p = false) := by unfold Hid; rw [HB2.out]; exact decide_eq_false hc
      go_wp2
      refine bodyPost_ret (v := .tuple #[.agg #[.int .i64 p.bl, .int .i64 p.br, .int .i64 p.hl, .int .i64 p.hr, .int .i64 p.ll, .int .i64 p.lr, .int .i64 (b - a), .int .i64 (0)], .bool false]) (by simp [results, Tryz.results168, go_sem, r0, r1, r2, r3, r4, r5, r6, r7]) rfl ⟨?_, ?_⟩
      · rw [HG2.out, HB2.out]
      · exact ((((((((B1.out.setCell (by simp) _).setCell (by simp) _).setCell (by simp) _).setCell (by simp) _).setCell (by simp) _).setCell (by simp) _).setCell (by simp) _).setCell (by simp) _).setCell (by simp) _
  · have HG2 : Hid (goodsP p = ⟨p.bl, p.br, p.hl, p.hr, p.ll, p.lr, 0, a - b⟩) := by unfold Hid; rw [HG.out, if_neg hab, z0]
    have hw : IntKind.i64.wrap (a - b) = a - b := by rw [IntKind.wrap_i64]; omega
    have HB2 : Hid (goodsB s p = (decide (a - b ≤ s.g) && decide (0 < a + b))) := by unfold Hid; rw [HB.out, HG2.out]; simp
    clear HG HB z0 z1
    by_cases hc : a - b ≤ s.g
    · by_cases hd : 0 < a + b
      · have HB2 : Hid (goodsB s p = true) := by unfold Hid; rw [HB2.out, decide_eq_true hc, decide_eq_true hd]; rfl
        go_wp2
        refine bodyPost_ret (v := .tuple #[.agg #[.int .i64 p.bl, .int .i64 p.br, .int .i64 p.hl, .int .i64 p.hr, .int .i64 p.ll, .int .i64 p.lr, .int .i64 (0), .int .i64 (a - b)], .bool true]) (by simp [results, Tryz.results168, go_sem, r0, r1, r2, r3, r4, r5, r6, r7]) rfl ⟨?_, ?_⟩
        · rw [HG2.out, HB2.out]
        · exact ((((((((B1.out.setCell (by simp) _).setCell (by simp) _).setCell (by simp) _).setCell (by simp) _).setCell (by simp) _).setCell (by simp) _).setCell (by simp) _).setCell (by simp) _).setCell (by simp) _
      · have HB2 : Hid (goodsB s p = false) := by unfold Hid; rw [HB2.out, decide_eq_true hc, decide_eq_false hd]; rfl
        go_wp2
        refine bodyPost_ret (v := .tuple #[.agg #[.int .i64 p.bl, .int .i64 p.br, .int .i64 p.hl, .int .i64 p.hr, .int .i64 p.ll, .int .i64 p.lr, .int .i64 (0), .int .i64 (a - b)], .bool false]) (by simp [results, Tryz.results168, go_sem, r0, r1, r2, r3, r4, r5, r6, r7]; omega) rfl ⟨?_, ?_⟩
        · rw [HG2.out, HB2.out]
        · exact ((((((((B1.out.setCell (by simp) _).setCell (by simp) _).setCell (by simp) _).setCell (by simp) _).setCell (by simp) _).setCell (by simp) _).setCell (by simp) _).setCell (by simp) _).setCell (by simp) _
    · have HB2 : Hid (goodsB s p = false) := by unfold Hid; rw [HB2.out, decide_eq_false hc]; rfl
      go_wp2
      refine bodyPost_ret (v := .tuple #[.agg #[.int .i64 p.bl, .int .i64 p.br, .int .i64 p.hl, .int .i64 p.hr, .int .i64 p.ll, .int .i64 p.lr, .int .i64 (0), .int .i64 (a - b)], .bool false]) (by simp [results, Tryz.results168, go_sem, r0, r1, r2, r3, r4, r5, r6, r7]) rfl ⟨?_, ?_⟩
      · rw [HG2.out, HB2.out]
      · exact ((((((((B1.out.setCell (by simp) _).setCell (by simp) _).setCell (by simp) _).setCell (by simp) _).setCell (by simp) _).setCell (by simp) _).setCell (by simp) _).setCell (by simp) _).setCell (by simp) _
end Go.Proofs.YtlflblngbneacaaGreatDoor

/- The contract of the model's test of a pick, round the contract of the search with one weighing fewer. Conditions: a valid state, a pick within it. -/
namespace Go.Proofs.YtlflblngbneacaaGreatDoor
open Go.RowKit

theorem all_step {α : Type} {l : List α} {i : Nat} (f : α → Bool) (h : i < l.length) : (l.drop i).all f = (f l[i] && (l.drop (i + 1)).all f) := by
  rw [List.drop_eq_getElem_cons h, List.all_cons]
theorem all_over {α : Type} {l : List α} {i : Nat} (f : α → Bool) (h : l.length ≤ i) : (l.drop i).all f = true := by
  rw [List.drop_of_length_le h]; rfl
/-- A function that tells whether the case of a valid state can be found with j weighings. -/
def CanIs (j : Nat) (can : SD → Bool) : Prop := ∀ s, SIn s → ∀ W, Calls Tryz.prog 88 #[stateV s, .int .i64 j] W fun e w' => e = .returned (.bool (can s)) ∧ Below W.heap.size W w'

set_option maxRecDepth 100000 in
set_option maxHeartbeats 6400000 in
theorem specFits (j : Nat) (hj : j ≤ 2) (K : Int) (hK : K = (j : Int) + 1) (can : SD → Bool) (HCAN : CanIs j can) (s : SD) (p : PD) (hs : SIn s) (hp : PIn s p) (w : World) :
    Calls Tryz.prog 169 #[stateV s, pickV p, .int .i64 K] w fun e w' => e = .returned (.bool (fitB can (3 ^ j) s p)) ∧ Below w.heap.size w w' := by
  have CA := Lib.hid (fun x W => specAfter s p x hs hp W)
  have CN := Lib.hid (fun x W => specCountOf (afterS s p x) (stateB_iff.2 (after_in hs hp)) W)
  have CP := Lib.hid (fun W => specPower j (by omega) W)
  have CC := Lib.hid (fun x W => HCAN (afterS s p x) (after_in hs hp) W)
  have hwj : IntKind.i64.wrap (K - 1) = (j : Int) := by rw [IntKind.wrap_i64]; omega
  have HX : Hid (fitB can (3 ^ j) s p = ((([0, 1, -1] : List Int).drop 0).all (fun x => decide (countS (afterS s p x) ≤ 3 ^ j)) && (([0, 1, -1] : List Int).drop 0).all (fun x => can (afterS s p x)))) := rfl
  clear hs hp HCAN hK
  have P0 := StateAt.new w 36 s
  have B0 := alloc_below w (.cells #[.int .i64 s.b, .int .i64 s.h, .int .i64 s.l, .int .i64 s.g] 36)
  have s0 : (w.alloc (.cells #[.int .i64 s.b, .int .i64 s.h, .int .i64 s.l, .int .i64 s.g] 36)).heap.size = w.heap.size + 1 := by simp
  generalize hX0 : w.alloc (.cells #[.int .i64 s.b, .int .i64 s.h, .int .i64 s.l, .int .i64 s.g] 36) = X0 at P0 B0 s0
  have Q0 := PickAt.new X0 139 p
  have B1 := alloc_below X0 (.cells #[.int .i64 p.bl, .int .i64 p.br, .int .i64 p.hl, .int .i64 p.hr, .int .i64 p.ll, .int .i64 p.lr, .int .i64 p.gl, .int .i64 p.gr] 139)
  have s1 : (X0.alloc (.cells #[.int .i64 p.bl, .int .i64 p.br, .int .i64 p.hl, .int .i64 p.hr, .int .i64 p.ll, .int .i64 p.lr, .int .i64 p.gl, .int .i64 p.gr] 139)).heap.size = w.heap.size + 2 := by simp [s0]
  generalize hX1 : X0.alloc (.cells #[.int .i64 p.bl, .int .i64 p.br, .int .i64 p.hl, .int .i64 p.hr, .int .i64 p.ll, .int .i64 p.lr, .int .i64 p.gl, .int .i64 p.gr] 139) = X1 at Q0 B1 s1
  rw [s0] at Q0
  have hc := lit_cells X1 (w.heap.size + 2) s1 [0, 1, -1] (by simp)
  have B2 := alloc_below X1 (.cells #[.int .i64 0, .int .i64 1, .int .i64 (-1)] 3)
  change ∀ j (h : j < ([0, 1, -1] : List Int).length), (X1.alloc (.cells #[.int .i64 0, .int .i64 1, .int .i64 (-1)] 3)).cell? ⟨w.heap.size + 2, j, none⟩ = some (.int .i64 ([0, 1, -1] : List Int)[j]) at hc
  have P2 := Lib.hid ((P0.below B1).below B2)
  have Q2 := Lib.hid (Q0.below B2)
  have BX := Lib.hid (below_up (below_up B0 B1) B2)
  have s2 : (X1.alloc (.cells #[.int .i64 0, .int .i64 1, .int .i64 (-1)] 3)).heap.size = w.heap.size + 3 := by simp [s1]
  generalize hX2 : X1.alloc (.cells #[.int .i64 0, .int .i64 1, .int .i64 (-1)] 3) = X2 at hc P2 Q2 BX s2
  have HC := Lib.hid hc
  clear P0 B0 B1 B2 Q0 hc
  obtain ⟨xs, hxs⟩ : ∃ xs : List Int, xs = [0, 1, -1] := ⟨_, rfl⟩
  rw [← hxs] at HX HC
  have hx3 : xs.length = 3 := by rw [hxs]; rfl
  have HXS := Lib.hid hxs
  clear hxs
  generalize fitB can (3 ^ j) s p = r at HX ⊢
  unfold stateV at CA CN CC ⊢
  unfold pickV at CA ⊢
  go_enter Tryz.func169, Tryz.ntmps169
  go_wp2
  go_loopw [13] (fun iv wr => ∃ i : Nat, i ≤ 3 ∧ iv = .int .i64 i ∧ Hid (r = ((xs.drop i).all (fun x => decide (countS (afterS s p x) ≤ 3 ^ j)) && (xs.drop 0).all (fun x => can (afterS s p x)))) ∧ Hid (Below X2.heap.size X2 wr)) (fun iv _ => 3 - (intOf iv).toNat)
  case atStart => exact ⟨0, by omega, rfl, HX, Below.refl _ _⟩
  case round =>
    clear HX
    obtain ⟨i, hi3, rfl, HR, BR⟩ := hrel
    by_cases hlt : i < 3
    · have hil : i < xs.length := by omega
      have c0 : wr.cell? ⟨w.heap.size + 2, i, none⟩ = some (.int .i64 xs[i]) := by rw [BR.out.cell (p := ⟨w.heap.size + 2, i, none⟩) (by rw [s2]; exact Nat.lt_succ_self _)]; exact HC.out i hil
      have HT := Lib.hid (all_step (fun x => decide (countS (afterS s p x) ≤ 3 ^ j)) hil)
      generalize xs[i] = x at c0 HT
      clear hil
      have CAx := Lib.hid (CA.out x)
      have CNx := Lib.hid (CN.out x)
      have P3 := Lib.hid (P2.out.below BR.out)
      have Q3 := Lib.hid (Q2.out.below BR.out)
      obtain ⟨e0, e1, e2, e3, -⟩ := P3.out
      obtain ⟨q0, q1, q2, q3, q4, q5, q6, q7, -⟩ := Q3.out
      have i0 : (0 : Int) ≤ (i : Int) := by omega
      have i1 : (i : Int) < 3 := by omega
      generalize afterS s p x = sx at CAx CNx HT
      go_wp2_with fail
      refine (CAx.out wr).mono ?_
      rintro e w3 ⟨rfl, b3⟩
      have B3 := Lib.hid (below_up BR.out b3)
      clear b3 c0 e0 e1 e2 e3 q0 q1 q2 q3 q4 q5 q6 q7
      go_wp2_with fail
      refine (CNx.out w3).mono ?_
      rintro e w4 ⟨rfl, b4⟩
      have B4 := Lib.hid (below_up B3.out b4)
      clear b4
      go_wp2_with fail
      refine (CP.out w4).mono ?_
      rintro e w5 ⟨rfl, rfl⟩
      by_cases hle : countS sx ≤ 3 ^ j
      · have HF : Hid (r = ((xs.drop (i + 1)).all (fun x => decide (countS (afterS s p x) ≤ 3 ^ j)) && (xs.drop 0).all (fun x => can (afterS s p x)))) := by
          unfold Hid; rw [HR.out, HT.out, decide_eq_true hle, Bool.true_and]
        have hn : ¬ ((3 : Int) ^ j < countS sx) := by omega
        clear HR HT hle
        go_wp2
        go_roundw
        case rel => exact ⟨i + 1, by omega, by go_num, HF, B4⟩
        case measure => simp [intOf]; omega
      · have HF : Hid (r = false) := by unfold Hid; rw [HR.out, HT.out, decide_eq_false hle]; rfl
        have hn : (3 : Int) ^ j < countS sx := by omega
        clear HR HT hle
        go_wp2
        go_ret
        exact ⟨ret_bool HF.out.symm, below_up BX.out B4.out⟩
    · have HF : Hid (r = (xs.drop 0).all (fun x => can (afterS s p x))) := by
        unfold Hid; rw [HR.out, all_over _ (by omega), Bool.true_and]
      clear HR
      have P3 := Lib.hid (P2.out.below BR.out)
      have Q3 := Lib.hid (Q2.out.below BR.out)
      have BX3 := Lib.hid (below_up BX.out BR.out)
      have hc2 := lit_cells wr wr.heap.size rfl [0, 1, -1] (by simp)
      change ∀ j (h : j < ([0, 1, -1] : List Int).length), (wr.alloc (.cells #[.int .i64 0, .int .i64 1, .int .i64 (-1)] 3)).cell? ⟨wr.heap.size, j, none⟩ = some (.int .i64 ([0, 1, -1] : List Int)[j]) at hc2
      have B4 := alloc_below wr (.cells #[.int .i64 0, .int .i64 1, .int .i64 (-1)] 3)
      have P4 := Lib.hid (P3.out.below B4)
      have Q4 := Lib.hid (Q3.out.below B4)
      have BX4 := Lib.hid (below_up BX3.out B4)
      have hs4 : wr.heap.size < (wr.alloc (.cells #[.int .i64 0, .int .i64 1, .int .i64 (-1)] 3)).heap.size := by simp
      generalize hX4 : wr.alloc (.cells #[.int .i64 0, .int .i64 1, .int .i64 (-1)] 3) = X4 at hc2 P4 Q4 BX4 hs4
      have HC4 : Hid (∀ j (h : j < xs.length), X4.cell? ⟨wr.heap.size, j, none⟩ = some (.int .i64 xs[j])) := by
        have e := HXS.out
        subst e
        exact hc2
      have HS4 := Lib.hid hs4
      clear hc2 B4 P3 Q3 BX3 hs4
      obtain ⟨b4, hb4⟩ : ∃ b4, wr.heap.size = b4 := ⟨_, rfl⟩
      rw [hb4] at HC4 HS4
      have HB4 := Lib.hid hb4
      clear hb4
      go_wp2
      rw [HB4.out]
      go_loopw [29] (fun iv ws => ∃ i : Nat, i ≤ 3 ∧ iv = .int .i64 i ∧ Hid (r = (xs.drop i).all (fun x => can (afterS s p x))) ∧ Hid (Below X4.heap.size X4 ws)) (fun iv _ => 3 - (intOf iv).toNat)
      case atStart => exact ⟨0, by omega, rfl, HF, Below.refl _ _⟩
      case round =>
        clear HF
        obtain ⟨i, hi3, rfl, HR, BR4⟩ := hrel
        by_cases hlt : i < 3
        · have hil : i < xs.length := by omega
          have c0 : wr.cell? ⟨b4, i, none⟩ = some (.int .i64 xs[i]) := by rw [BR4.out.cell (p := ⟨b4, i, none⟩) HS4.out]; exact HC4.out i hil
          have HT := Lib.hid (all_step (fun x => can (afterS s p x)) hil)
          generalize xs[i] = x at c0 HT
          clear hil
          have CAx := Lib.hid (CA.out x)
          have CCx := Lib.hid (CC.out x)
          have P5 := Lib.hid (P4.out.below BR4.out)
          have Q5 := Lib.hid (Q4.out.below BR4.out)
          obtain ⟨e0, e1, e2, e3, -⟩ := P5.out
          obtain ⟨q0, q1, q2, q3, q4, q5, q6, q7, -⟩ := Q5.out
          have i0 : (0 : Int) ≤ (i : Int) := by omega
          have i1 : (i : Int) < 3 := by omega
          generalize afterS s p x = sx at CAx CCx HT
          go_wp2_with fail
          refine (CAx.out wr).mono ?_
          rintro e w3 ⟨rfl, b3⟩
          have B3 := Lib.hid (below_up BR4.out b3)
          clear b3 c0 e0 e1 e2 e3 q0 q1 q2 q3 q4 q5 q6 q7
          go_wp2_with fail
          refine (CCx.out w3).mono ?_
          rintro e w4 ⟨rfl, b5⟩
          have B4 := Lib.hid (below_up B3.out b5)
          clear b5
          cases hcan : can sx with
          | true =>
            have HF : Hid (r = (xs.drop (i + 1)).all (fun x => can (afterS s p x))) := by unfold Hid; rw [HR.out, HT.out, hcan, Bool.true_and]
            clear HR HT hcan
            go_wp2
            go_roundw
            case rel => exact ⟨i + 1, by omega, by go_num, HF, B4⟩
            case measure => simp [intOf]; omega
          | false =>
            have HF : Hid (r = false) := by unfold Hid; rw [HR.out, HT.out, hcan]; rfl
            clear HR HT hcan
            go_wp2
            go_ret
            exact ⟨ret_bool HF.out.symm, below_up BX4.out B4.out⟩
        · have HF : Hid (r = true) := by unfold Hid; rw [HR.out, all_over _ (by omega)]
          go_wp2
          go_ret
          exact ⟨ret_bool HF.out.symm, below_up BX4.out BR4.out⟩
end Go.Proofs.YtlflblngbneacaaGreatDoor

/- The contract of the model's search over the light coins of a pick, round the contract of the search with one weighing fewer. Conditions: a valid state, a pick of its other coins. -/
namespace Go.Proofs.YtlflblngbneacaaGreatDoor
open Go.RowKit

theorem StateAt.far {w : World} {b : Nat} {s : SD} (h : StateAt w b s) (c k : Nat) (v : Value) (hne : c ≠ b) : StateAt (w.setCell ⟨c, k, none⟩ v) b s := by
  obtain ⟨e0, e1, e2, e3, hlt⟩ := h
  refine ⟨?_, ?_, ?_, ?_, by rw [setCell_size]; exact hlt⟩
  all_goals (rw [World.cell?_setCell_far _ _ _ _ hne]; assumption)
theorem EightVar.far {w : World} {b : Nat} {p : PD} (h : EightVar w b p) (c k : Nat) (v : Value) (hne : c ≠ b) : EightVar (w.setCell ⟨c, k, none⟩ v) b p := by
  obtain ⟨⟨e0, e1, e2, e3, e4, e5, e6, e7, hlt⟩, f0, f1, f2, f3, f4, f5, f6, f7⟩ := h
  refine ⟨⟨?_, ?_, ?_, ?_, ?_, ?_, ?_, ?_, by rw [setCell_size]; exact hlt⟩, ?_, ?_, ?_, ?_, ?_, ?_, ?_, ?_⟩
  all_goals first
    | (rw [World.cell?_setCell_far _ _ _ _ hne]; assumption)
    | (rw [World.frozen?_setCell]; assumption)
theorem EightVar.set0 {w : World} {b : Nat} {p : PD} (h : EightVar w b p) (x : Int) : EightVar (w.setCell ⟨b, 0, none⟩ (.int .i64 x)) b { p with bl := x } := by
  obtain ⟨⟨e0, e1, e2, e3, e4, e5, e6, e7, hlt⟩, f0, f1, f2, f3, f4, f5, f6, f7⟩ := h
  exact ⟨⟨World.cell?_setCell_same _ _ _ e0, (World.cell?_setCell_other _ _ _ _ (by simp)).trans e1, (World.cell?_setCell_other _ _ _ _ (by simp)).trans e2, (World.cell?_setCell_other _ _ _ _ (by simp)).trans e3, (World.cell?_setCell_other _ _ _ _ (by simp)).trans e4, (World.cell?_setCell_other _ _ _ _ (by simp)).trans e5, (World.cell?_setCell_other _ _ _ _ (by simp)).trans e6, (World.cell?_setCell_other _ _ _ _ (by simp)).trans e7, by rw [setCell_size]; exact hlt⟩, (by rw [World.frozen?_setCell]; exact f0), (by rw [World.frozen?_setCell]; exact f1), (by rw [World.frozen?_setCell]; exact f2), (by rw [World.frozen?_setCell]; exact f3), (by rw [World.frozen?_setCell]; exact f4), (by rw [World.frozen?_setCell]; exact f5), (by rw [World.frozen?_setCell]; exact f6), (by rw [World.frozen?_setCell]; exact f7)⟩
theorem EightVar.set1 {w : World} {b : Nat} {p : PD} (h : EightVar w b p) (x : Int) : EightVar (w.setCell ⟨b, 1, none⟩ (.int .i64 x)) b { p with br := x } := by
  obtain ⟨⟨e0, e1, e2, e3, e4, e5, e6, e7, hlt⟩, f0, f1, f2, f3, f4, f5, f6, f7⟩ := h
  exact ⟨⟨(World.cell?_setCell_other _ _ _ _ (by simp)).trans e0, World.cell?_setCell_same _ _ _ e1, (World.cell?_setCell_other _ _ _ _ (by simp)).trans e2, (World.cell?_setCell_other _ _ _ _ (by simp)).trans e3, (World.cell?_setCell_other _ _ _ _ (by simp)).trans e4, (World.cell?_setCell_other _ _ _ _ (by simp)).trans e5, (World.cell?_setCell_other _ _ _ _ (by simp)).trans e6, (World.cell?_setCell_other _ _ _ _ (by simp)).trans e7, by rw [setCell_size]; exact hlt⟩, (by rw [World.frozen?_setCell]; exact f0), (by rw [World.frozen?_setCell]; exact f1), (by rw [World.frozen?_setCell]; exact f2), (by rw [World.frozen?_setCell]; exact f3), (by rw [World.frozen?_setCell]; exact f4), (by rw [World.frozen?_setCell]; exact f5), (by rw [World.frozen?_setCell]; exact f6), (by rw [World.frozen?_setCell]; exact f7)⟩
theorem EightVar.set2 {w : World} {b : Nat} {p : PD} (h : EightVar w b p) (x : Int) : EightVar (w.setCell ⟨b, 2, none⟩ (.int .i64 x)) b { p with hl := x } := by
  obtain ⟨⟨e0, e1, e2, e3, e4, e5, e6, e7, hlt⟩, f0, f1, f2, f3, f4, f5, f6, f7⟩ := h
  exact ⟨⟨(World.cell?_setCell_other _ _ _ _ (by simp)).trans e0, (World.cell?_setCell_other _ _ _ _ (by simp)).trans e1, World.cell?_setCell_same _ _ _ e2, (World.cell?_setCell_other _ _ _ _ (by simp)).trans e3, (World.cell?_setCell_other _ _ _ _ (by simp)).trans e4, (World.cell?_setCell_other _ _ _ _ (by simp)).trans e5, (World.cell?_setCell_other _ _ _ _ (by simp)).trans e6, (World.cell?_setCell_other _ _ _ _ (by simp)).trans e7, by rw [setCell_size]; exact hlt⟩, (by rw [World.frozen?_setCell]; exact f0), (by rw [World.frozen?_setCell]; exact f1), (by rw [World.frozen?_setCell]; exact f2), (by rw [World.frozen?_setCell]; exact f3), (by rw [World.frozen?_setCell]; exact f4), (by rw [World.frozen?_setCell]; exact f5), (by rw [World.frozen?_setCell]; exact f6), (by rw [World.frozen?_setCell]; exact f7)⟩
theorem EightVar.set3 {w : World} {b : Nat} {p : PD} (h : EightVar w b p) (x : Int) : EightVar (w.setCell ⟨b, 3, none⟩ (.int .i64 x)) b { p with hr := x } := by
  obtain ⟨⟨e0, e1, e2, e3, e4, e5, e6, e7, hlt⟩, f0, f1, f2, f3, f4, f5, f6, f7⟩ := h
  exact ⟨⟨(World.cell?_setCell_other _ _ _ _ (by simp)).trans e0, (World.cell?_setCell_other _ _ _ _ (by simp)).trans e1, (World.cell?_setCell_other _ _ _ _ (by simp)).trans e2, World.cell?_setCell_same _ _ _ e3, (World.cell?_setCell_other _ _ _ _ (by simp)).trans e4, (World.cell?_setCell_other _ _ _ _ (by simp)).trans e5, (World.cell?_setCell_other _ _ _ _ (by simp)).trans e6, (World.cell?_setCell_other _ _ _ _ (by simp)).trans e7, by rw [setCell_size]; exact hlt⟩, (by rw [World.frozen?_setCell]; exact f0), (by rw [World.frozen?_setCell]; exact f1), (by rw [World.frozen?_setCell]; exact f2), (by rw [World.frozen?_setCell]; exact f3), (by rw [World.frozen?_setCell]; exact f4), (by rw [World.frozen?_setCell]; exact f5), (by rw [World.frozen?_setCell]; exact f6), (by rw [World.frozen?_setCell]; exact f7)⟩
theorem EightVar.set4 {w : World} {b : Nat} {p : PD} (h : EightVar w b p) (x : Int) : EightVar (w.setCell ⟨b, 4, none⟩ (.int .i64 x)) b { p with ll := x } := by
  obtain ⟨⟨e0, e1, e2, e3, e4, e5, e6, e7, hlt⟩, f0, f1, f2, f3, f4, f5, f6, f7⟩ := h
  exact ⟨⟨(World.cell?_setCell_other _ _ _ _ (by simp)).trans e0, (World.cell?_setCell_other _ _ _ _ (by simp)).trans e1, (World.cell?_setCell_other _ _ _ _ (by simp)).trans e2, (World.cell?_setCell_other _ _ _ _ (by simp)).trans e3, World.cell?_setCell_same _ _ _ e4, (World.cell?_setCell_other _ _ _ _ (by simp)).trans e5, (World.cell?_setCell_other _ _ _ _ (by simp)).trans e6, (World.cell?_setCell_other _ _ _ _ (by simp)).trans e7, by rw [setCell_size]; exact hlt⟩, (by rw [World.frozen?_setCell]; exact f0), (by rw [World.frozen?_setCell]; exact f1), (by rw [World.frozen?_setCell]; exact f2), (by rw [World.frozen?_setCell]; exact f3), (by rw [World.frozen?_setCell]; exact f4), (by rw [World.frozen?_setCell]; exact f5), (by rw [World.frozen?_setCell]; exact f6), (by rw [World.frozen?_setCell]; exact f7)⟩
theorem EightVar.set5 {w : World} {b : Nat} {p : PD} (h : EightVar w b p) (x : Int) : EightVar (w.setCell ⟨b, 5, none⟩ (.int .i64 x)) b { p with lr := x } := by
  obtain ⟨⟨e0, e1, e2, e3, e4, e5, e6, e7, hlt⟩, f0, f1, f2, f3, f4, f5, f6, f7⟩ := h
  exact ⟨⟨(World.cell?_setCell_other _ _ _ _ (by simp)).trans e0, (World.cell?_setCell_other _ _ _ _ (by simp)).trans e1, (World.cell?_setCell_other _ _ _ _ (by simp)).trans e2, (World.cell?_setCell_other _ _ _ _ (by simp)).trans e3, (World.cell?_setCell_other _ _ _ _ (by simp)).trans e4, World.cell?_setCell_same _ _ _ e5, (World.cell?_setCell_other _ _ _ _ (by simp)).trans e6, (World.cell?_setCell_other _ _ _ _ (by simp)).trans e7, by rw [setCell_size]; exact hlt⟩, (by rw [World.frozen?_setCell]; exact f0), (by rw [World.frozen?_setCell]; exact f1), (by rw [World.frozen?_setCell]; exact f2), (by rw [World.frozen?_setCell]; exact f3), (by rw [World.frozen?_setCell]; exact f4), (by rw [World.frozen?_setCell]; exact f5), (by rw [World.frozen?_setCell]; exact f6), (by rw [World.frozen?_setCell]; exact f7)⟩
theorem EightVar.set6 {w : World} {b : Nat} {p : PD} (h : EightVar w b p) (x : Int) : EightVar (w.setCell ⟨b, 6, none⟩ (.int .i64 x)) b { p with gl := x } := by
  obtain ⟨⟨e0, e1, e2, e3, e4, e5, e6, e7, hlt⟩, f0, f1, f2, f3, f4, f5, f6, f7⟩ := h
  exact ⟨⟨(World.cell?_setCell_other _ _ _ _ (by simp)).trans e0, (World.cell?_setCell_other _ _ _ _ (by simp)).trans e1, (World.cell?_setCell_other _ _ _ _ (by simp)).trans e2, (World.cell?_setCell_other _ _ _ _ (by simp)).trans e3, (World.cell?_setCell_other _ _ _ _ (by simp)).trans e4, (World.cell?_setCell_other _ _ _ _ (by simp)).trans e5, World.cell?_setCell_same _ _ _ e6, (World.cell?_setCell_other _ _ _ _ (by simp)).trans e7, by rw [setCell_size]; exact hlt⟩, (by rw [World.frozen?_setCell]; exact f0), (by rw [World.frozen?_setCell]; exact f1), (by rw [World.frozen?_setCell]; exact f2), (by rw [World.frozen?_setCell]; exact f3), (by rw [World.frozen?_setCell]; exact f4), (by rw [World.frozen?_setCell]; exact f5), (by rw [World.frozen?_setCell]; exact f6), (by rw [World.frozen?_setCell]; exact f7)⟩
theorem EightVar.set7 {w : World} {b : Nat} {p : PD} (h : EightVar w b p) (x : Int) : EightVar (w.setCell ⟨b, 7, none⟩ (.int .i64 x)) b { p with gr := x } := by
  obtain ⟨⟨e0, e1, e2, e3, e4, e5, e6, e7, hlt⟩, f0, f1, f2, f3, f4, f5, f6, f7⟩ := h
  exact ⟨⟨(World.cell?_setCell_other _ _ _ _ (by simp)).trans e0, (World.cell?_setCell_other _ _ _ _ (by simp)).trans e1, (World.cell?_setCell_other _ _ _ _ (by simp)).trans e2, (World.cell?_setCell_other _ _ _ _ (by simp)).trans e3, (World.cell?_setCell_other _ _ _ _ (by simp)).trans e4, (World.cell?_setCell_other _ _ _ _ (by simp)).trans e5, (World.cell?_setCell_other _ _ _ _ (by simp)).trans e6, World.cell?_setCell_same _ _ _ e7, by rw [setCell_size]; exact hlt⟩, (by rw [World.frozen?_setCell]; exact f0), (by rw [World.frozen?_setCell]; exact f1), (by rw [World.frozen?_setCell]; exact f2), (by rw [World.frozen?_setCell]; exact f3), (by rw [World.frozen?_setCell]; exact f4), (by rw [World.frozen?_setCell]; exact f5), (by rw [World.frozen?_setCell]; exact f6), (by rw [World.frozen?_setCell]; exact f7)⟩
theorem EightVar.fill {w : World} {b : Nat} {p : PD} (h : EightVar w b p) (q : PD) : EightVar ((((((((w.setCell ⟨b, 0, none⟩ (.int .i64 q.bl)).setCell ⟨b, 1, none⟩ (.int .i64 q.br)).setCell ⟨b, 2, none⟩ (.int .i64 q.hl)).setCell ⟨b, 3, none⟩ (.int .i64 q.hr)).setCell ⟨b, 4, none⟩ (.int .i64 q.ll)).setCell ⟨b, 5, none⟩ (.int .i64 q.lr)).setCell ⟨b, 6, none⟩ (.int .i64 q.gl)).setCell ⟨b, 7, none⟩ (.int .i64 q.gr)) b q := by
  exact ((((((((h.set0 q.bl).set1 q.br).set2 q.hl).set3 q.hr).set4 q.ll).set5 q.lr).set6 q.gl).set7 q.gr)
theorem EightVar.fillFar {w : World} {b c : Nat} {p : PD} (h : EightVar w b p) (hne : c ≠ b) (q : PD) : EightVar ((((((((w.setCell ⟨c, 0, none⟩ (.int .i64 q.bl)).setCell ⟨c, 1, none⟩ (.int .i64 q.br)).setCell ⟨c, 2, none⟩ (.int .i64 q.hl)).setCell ⟨c, 3, none⟩ (.int .i64 q.hr)).setCell ⟨c, 4, none⟩ (.int .i64 q.ll)).setCell ⟨c, 5, none⟩ (.int .i64 q.lr)).setCell ⟨c, 6, none⟩ (.int .i64 q.gl)).setCell ⟨c, 7, none⟩ (.int .i64 q.gr)) b p := by
  exact ((((((((h.far c 0 _ hne).far c 1 _ hne).far c 2 _ hne).far c 3 _ hne).far c 4 _ hne).far c 5 _ hne).far c 6 _ hne).far c 7 _ hne)
theorem StateAt.fillFar {w : World} {b c : Nat} {s : SD} (h : StateAt w b s) (hne : c ≠ b) (q : PD) : StateAt ((((((((w.setCell ⟨c, 0, none⟩ (.int .i64 q.bl)).setCell ⟨c, 1, none⟩ (.int .i64 q.br)).setCell ⟨c, 2, none⟩ (.int .i64 q.hl)).setCell ⟨c, 3, none⟩ (.int .i64 q.hr)).setCell ⟨c, 4, none⟩ (.int .i64 q.ll)).setCell ⟨c, 5, none⟩ (.int .i64 q.lr)).setCell ⟨c, 6, none⟩ (.int .i64 q.gl)).setCell ⟨c, 7, none⟩ (.int .i64 q.gr)) b s := by
  exact ((((((((h.far c 0 _ hne).far c 1 _ hne).far c 2 _ hne).far c 3 _ hne).far c 4 _ hne).far c 5 _ hne).far c 6 _ hne).far c 7 _ hne)
theorem below_fill {B : Nat} {a w : World} (h : Below B a w) {b : Nat} (hb : B ≤ b) (q : PD) : Below B a ((((((((w.setCell ⟨b, 0, none⟩ (.int .i64 q.bl)).setCell ⟨b, 1, none⟩ (.int .i64 q.br)).setCell ⟨b, 2, none⟩ (.int .i64 q.hl)).setCell ⟨b, 3, none⟩ (.int .i64 q.hr)).setCell ⟨b, 4, none⟩ (.int .i64 q.ll)).setCell ⟨b, 5, none⟩ (.int .i64 q.lr)).setCell ⟨b, 6, none⟩ (.int .i64 q.gl)).setCell ⟨b, 7, none⟩ (.int .i64 q.gr)) := by
  exact ((((((((h.setCell hb _).setCell hb _).setCell hb _).setCell hb _).setCell hb _).setCell hb _).setCell hb _).setCell hb _)

set_option maxRecDepth 100000 in
set_option maxHeartbeats 6400000 in
theorem specLights (j : Nat) (hj : j ≤ 2) (K : Int) (hK : K = (j : Int) + 1) (can : SD → Bool) (HCAN : CanIs j can) (s : SD) (p : PD) (hs : SIn s)
    (hp : 0 ≤ p.bl ∧ 0 ≤ p.br ∧ 0 ≤ p.hl ∧ 0 ≤ p.hr ∧ p.bl + p.br ≤ s.b ∧ p.hl + p.hr ≤ s.h) (h0 : p.gl = 0) (h1 : p.gr = 0) (w : World) :
    Calls Tryz.prog 140 #[stateV s, pickV p, .int .i64 K] w fun e w' => e = .returned (.tuple #[pickV ((lightsP can (3 ^ j) s p).getD zeroP), .bool (lightsP can (3 ^ j) s p).isSome]) ∧ Below w.heap.size w w' := by
  have hl0 : 0 ≤ s.l ∧ s.l ≤ 13 := by have := hs; unfold SIn sumS at this; omega
  obtain ⟨N, hN⟩ : ∃ N, N = s.l.toNat + 1 := ⟨_, rfl⟩
  have hNl : s.l = (N : Int) - 1 := by omega
  have CP : ∀ a b : Nat, a + b < N → PIn s { p with ll := (a : Int), lr := (b : Int) } := fun a b hab => by
    obtain ⟨p0, p1, p2, p3, p4, p5⟩ := hp
    exact ⟨p0, p1, p2, p3, by show (0 : Int) ≤ (a : Int); omega, by show (0 : Int) ≤ (b : Int); omega, p4, p5, by show (a : Int) + (b : Int) ≤ s.l; omega⟩
  have CG := Lib.hid (fun (a b : Nat) (hab : a + b < N) W => specGoods s { p with ll := (a : Int), lr := (b : Int) } hs (CP a b hab) h0 h1 W)
  have CF := Lib.hid (fun (a b : Nat) (hab : a + b < N) W => specFits j hj K hK can HCAN s (goodsP { p with ll := (a : Int), lr := (b : Int) }) hs
    (by have := CP a b hab; revert this; generalize ({ p with ll := (a : Int), lr := (b : Int) } : PD) = q; unfold goodsP PIn; split <;> exact fun h => h) W)
  have HR0 : Hid (lightsP can (3 ^ j) s p = firstFrom (fun a => firstFrom (fun b => tryP can (3 ^ j) s { p with ll := (a : Int), lr := (b : Int) }) (N - a) 0) (N - 0) 0) := by
    rw [hN]; rfl
  have HT : Hid (∀ a b : Nat, tryP can (3 ^ j) s { p with ll := (a : Int), lr := (b : Int) } = if (goodsB s { p with ll := (a : Int), lr := (b : Int) } && fitB can (3 ^ j) s (goodsP { p with ll := (a : Int), lr := (b : Int) })) = true then some (goodsP { p with ll := (a : Int), lr := (b : Int) }) else none) := fun a b => rfl
  generalize lightsP can (3 ^ j) s p = r at HR0 ⊢
  have HN := Lib.hid hNl
  have hN13 : N ≤ 14 := by omega
  clear hs hp h0 h1 CP HCAN hN hNl hl0 hK
  have P0 := StateAt.new w 36 s
  have B0 := alloc_below w (.cells #[.int .i64 s.b, .int .i64 s.h, .int .i64 s.l, .int .i64 s.g] 36)
  have s0 : (w.alloc (.cells #[.int .i64 s.b, .int .i64 s.h, .int .i64 s.l, .int .i64 s.g] 36)).heap.size = w.heap.size + 1 := by simp
  generalize hX0 : w.alloc (.cells #[.int .i64 s.b, .int .i64 s.h, .int .i64 s.l, .int .i64 s.g] 36) = X0 at P0 B0 s0
  have Q0 := EightVar.new X0 139 p
  have B1 := alloc_below X0 (.cells #[.int .i64 p.bl, .int .i64 p.br, .int .i64 p.hl, .int .i64 p.hr, .int .i64 p.ll, .int .i64 p.lr, .int .i64 p.gl, .int .i64 p.gr] 139)
  have s1 : (X0.alloc (.cells #[.int .i64 p.bl, .int .i64 p.br, .int .i64 p.hl, .int .i64 p.hr, .int .i64 p.ll, .int .i64 p.lr, .int .i64 p.gl, .int .i64 p.gr] 139)).heap.size = w.heap.size + 2 := by simp [s0]
  generalize hX1 : X0.alloc (.cells #[.int .i64 p.bl, .int .i64 p.br, .int .i64 p.hl, .int .i64 p.hr, .int .i64 p.ll, .int .i64 p.lr, .int .i64 p.gl, .int .i64 p.gr] 139) = X1 at Q0 B1 s1
  rw [s0] at Q0
  have Q2 := EightVar.new X1 139 zeroP
  have B2 := alloc_below X1 (.cells #[.int .i64 0, .int .i64 0, .int .i64 0, .int .i64 0, .int .i64 0, .int .i64 0, .int .i64 0, .int .i64 0] 139)
  have Q1 := Q0.below B2
  rw [s1] at Q2
  have BX := Lib.hid (below_up (below_up B0 B1) B2)
  have P1 := Lib.hid ((P0.below B1).below B2)
  change EightVar (X1.alloc (.cells #[.int .i64 0, .int .i64 0, .int .i64 0, .int .i64 0, .int .i64 0, .int .i64 0, .int .i64 0, .int .i64 0] 139)) _ _ at Q2
  generalize hX2 : X1.alloc (.cells #[.int .i64 0, .int .i64 0, .int .i64 0, .int .i64 0, .int .i64 0, .int .i64 0, .int .i64 0, .int .i64 0] 139) = X2 at Q1 Q2 P1 BX
  have HI : Hid (∃ la lb, EightVar X2 (w.heap.size + 1) { p with ll := la, lr := lb }) := ⟨p.ll, p.lr, Q1⟩
  have H2 := Lib.hid Q2
  clear P0 B0 B1 B2 Q0 Q1 Q2
  unfold stateV at CG CF ⊢
  unfold pickV at CG CF ⊢
  go_enter Tryz.func140, Tryz.ntmps140
  go_wp2
  go_loopw [8] (fun iv wr => ∃ a : Nat, a ≤ N ∧ iv = .int .i64 a ∧ Hid (r = firstFrom (fun a => firstFrom (fun b => tryP can (3 ^ j) s { p with ll := (a : Int), lr := (b : Int) }) (N - a) 0) (N - a) a) ∧
      Hid (Below w.heap.size w wr) ∧ Hid (StateAt wr w.heap.size s) ∧ Hid (∃ la lb, EightVar wr (w.heap.size + 1) { p with ll := la, lr := lb }) ∧ Hid (EightVar wr (w.heap.size + 2) zeroP)) (fun iv _ => N - (intOf iv).toNat)
  case atStart => exact ⟨0, by omega, rfl, HR0, BX, P1, HI, H2⟩
  case round =>
    clear HR0 BX P1 HI H2
    obtain ⟨a, haN, rfl, HR, BW, PW, IW, RW⟩ := hrel
    by_cases hlt : a < N
    · have HR1 : Hid (r = (firstFrom (fun b => tryP can (3 ^ j) s { p with ll := (a : Int), lr := (b : Int) }) (N - a - 0) 0).or (firstFrom (fun a => firstFrom (fun b => tryP can (3 ^ j) s { p with ll := (a : Int), lr := (b : Int) }) (N - a) 0) (N - (a + 1)) (a + 1))) := by
        unfold Hid; rw [HR.out, firstFrom_step _ hlt]; rfl
      clear HR
      have hle : ((a : Int) ≤ s.l) := by rw [HN.out]; omega
      obtain ⟨e0, e1, e2, e3, -⟩ := PW.out
      go_wp2
      clear e0 e1 e2 e3 hle
      go_loopw [9] (fun iv ws => ∃ b : Nat, a + b ≤ N ∧ iv = .int .i64 b ∧ Hid (r = (firstFrom (fun b => tryP can (3 ^ j) s { p with ll := (a : Int), lr := (b : Int) }) (N - a - b) b).or (firstFrom (fun a => firstFrom (fun b => tryP can (3 ^ j) s { p with ll := (a : Int), lr := (b : Int) }) (N - a) 0) (N - (a + 1)) (a + 1))) ∧
          Hid (Below w.heap.size w ws) ∧ Hid (StateAt ws w.heap.size s) ∧ Hid (∃ la lb, EightVar ws (w.heap.size + 1) { p with ll := la, lr := lb }) ∧ Hid (EightVar ws (w.heap.size + 2) zeroP)) (fun iv _ => N - (intOf iv).toNat)
      case atStart => exact ⟨0, by omega, rfl, HR1, BW, PW, IW, RW⟩
      case round =>
        clear HR1 BW PW IW RW
        obtain ⟨b, hbN, rfl, HR, BW, PW, IW, RW⟩ := hrel
        have hwab : IntKind.i64.wrap ((a : Int) + (b : Int)) = (a : Int) + (b : Int) := by rw [IntKind.wrap_i64]; omega
        by_cases hlt2 : a + b < N
        · have HT1 := Lib.hid (HT.out a b)
          have HR1 : Hid (r = ((tryP can (3 ^ j) s { p with ll := (a : Int), lr := (b : Int) }).or (firstFrom (fun b => tryP can (3 ^ j) s { p with ll := (a : Int), lr := (b : Int) }) (N - a - (b + 1)) (b + 1))).or (firstFrom (fun a => firstFrom (fun b => tryP can (3 ^ j) s { p with ll := (a : Int), lr := (b : Int) }) (N - a) 0) (N - (a + 1)) (a + 1))) := by
            unfold Hid; rw [HR.out, firstFrom_step _ (by omega)]
          clear HR
          have CGx := Lib.hid (CG.out a b hlt2)
          have CFx := Lib.hid (CF.out a b hlt2)
          have hle : ((a : Int) + (b : Int) ≤ s.l) := by rw [HN.out]; omega
          obtain ⟨e0, e1, e2, e3, elt⟩ := PW.out
          obtain ⟨la, lb, EW⟩ := IW.out
          have E2 := Lib.hid ((EW.set4 (a : Int)).set5 (b : Int))
          have P2 := Lib.hid ((PW.out.far (w.heap.size + 1) 4 (.int .i64 a) (by omega)).far (w.heap.size + 1) 5 (.int .i64 b) (by omega))
          have R2 := Lib.hid ((RW.out.far (w.heap.size + 1) 4 (.int .i64 a) (by omega)).far (w.heap.size + 1) 5 (.int .i64 b) (by omega))
          have B2 := Lib.hid ((BW.out.setCell (p := ⟨w.heap.size + 1, 4, none⟩) (by simp) (.int .i64 a)).setCell (p := ⟨w.heap.size + 1, 5, none⟩) (by simp) (.int .i64 b))
          obtain ⟨⟨q0, q1, q2, q3, q4, q5, q6, q7, ql⟩, f0, f1, f2, f3, f4, f5, f6, f7⟩ := EW
          clear BW PW IW RW
          obtain ⟨g, hg⟩ : ∃ g, goodsP { p with ll := (a : Int), lr := (b : Int) } = g := ⟨_, rfl⟩
          obtain ⟨gb, hgb⟩ : ∃ gb, goodsB s { p with ll := (a : Int), lr := (b : Int) } = gb := ⟨_, rfl⟩
          rw [hg, hgb] at HT1
          rw [hg, hgb] at CGx
          rw [hg] at CFx
          clear hg hgb
          generalize tryP can (3 ^ j) s { p with ll := (a : Int), lr := (b : Int) } = t at HT1 HR1
          obtain ⟨fb, hfb⟩ : ∃ fb, fitB can (3 ^ j) s g = fb := ⟨_, rfl⟩
          rw [hfb] at HT1 CFx
          clear hfb
          go_wp2_with fail
          refine (CGx.out _).mono ?_
          rintro e w3 ⟨rfl, b3⟩
          clear e0 e1 e2 e3 elt q0 q1 q2 q3 q4 q5 q6 q7 ql f0 f1 f2 f3 f4 f5 f6 f7 hle hwab
          have E3 : Hid (EightVar w3 (w.heap.size + 1) { p with ll := (a : Int), lr := (b : Int) }) := E2.out.below b3
          have P3 := Lib.hid (P2.out.below b3)
          have R3 := Lib.hid (R2.out.below b3)
          have B3 := Lib.hid (below_up B2.out b3)
          have hw3 : w.heap.size + 2 < w3.heap.size := R3.out.1.2.2.2.2.2.2.2.2
          clear b3 E2 P2 R2 B2
          have b4 := alloc_below w3 (.cells #[.int .i64 0, .int .i64 0, .int .i64 0, .int .i64 0, .int .i64 0, .int .i64 0, .int .i64 0, .int .i64 0] 139)
          have q4 := EightVar.new w3 139 zeroP
          have E4 : Hid (EightVar _ (w.heap.size + 1) { p with ll := (a : Int), lr := (b : Int) }) := E3.out.below b4
          have P4 := Lib.hid (P3.out.below b4)
          have R4 := Lib.hid (R3.out.below b4)
          have B4 := Lib.hid (below_up B3.out b4)
          change EightVar (w3.alloc (.cells #[.int .i64 0, .int .i64 0, .int .i64 0, .int .i64 0, .int .i64 0, .int .i64 0, .int .i64 0, .int .i64 0] 139)) _ _ at q4
          generalize hX4 : w3.alloc (.cells #[.int .i64 0, .int .i64 0, .int .i64 0, .int .i64 0, .int .i64 0, .int .i64 0, .int .i64 0, .int .i64 0] 139) = X4 at b4 q4 E4 P4 R4 B4
          have hne1 : ¬ (w.heap.size = w3.heap.size) := by omega
          have hne2 : ¬ (w3.heap.size = w.heap.size) := by omega
          have E5 := Lib.hid (E4.out.fillFar (c := w3.heap.size) (by omega) g)
          have P5 := Lib.hid (P4.out.fillFar (c := w3.heap.size) (by omega) g)
          have R5 := Lib.hid (R4.out.fillFar (c := w3.heap.size) (by omega) g)
          have B5 := Lib.hid (below_fill B4.out (b := w3.heap.size) (by omega) g)
          have Q5 := Lib.hid (q4.fill g)
          obtain ⟨e0, e1, e2, e3, elt⟩ := P4.out
          obtain ⟨⟨q0, q1, q2, q3, q4, q5, q6, q7, ql⟩, f0, f1, f2, f3, f4, f5, f6, f7⟩ := q4
          clear E3 P3 R3 B3 b4 E4 P4 R4 B4
          have HW3 := Lib.hid hw3
          clear hw3
          cases gb with
          | true =>
            go_wp2_with fail
            refine (CFx.out _).mono ?_
            rintro e w6 ⟨rfl, b6⟩
            clear e0 e1 e2 e3 elt q0 q1 q2 q3 q4 q5 q6 q7 ql f0 f1 f2 f3 f4 f5 f6 f7
            have E6 := Lib.hid (E5.out.below b6)
            have P6 := Lib.hid (P5.out.below b6)
            have R6 := Lib.hid (R5.out.below b6)
            have Q6 := Lib.hid (Q5.out.below b6)
            have B6 := Lib.hid (below_up B5.out b6)
            clear b6 E5 P5 R5 Q5 B5
            cases fb with
            | true =>
              have HF : Hid (r = some g) := by unfold Hid; rw [HR1.out, HT1.out]; rfl
              clear HR1 HT1
              obtain ⟨⟨q0, q1, q2, q3, q4, q5, q6, q7, ql⟩, f0, f1, f2, f3, f4, f5, f6, f7⟩ := Q6.out
              obtain ⟨⟨r0, r1, r2, r3, r4, r5, r6, r7, rl⟩, g0, g1, g2, g3, g4, g5, g6, g7⟩ := R6.out
              go_wp2
              refine bodyPost_ret (v := .tuple #[.agg #[.int .i64 g.bl, .int .i64 g.br, .int .i64 g.hl, .int .i64 g.hr, .int .i64 g.ll, .int .i64 g.lr, .int .i64 g.gl, .int .i64 g.gr], .bool true]) (by simp [results, Tryz.results140, go_sem, r0, r1, r2, r3, r4, r5, r6, r7]) rfl ⟨?_, ?_⟩
              · rw [HF.out]; rfl
              · exact below_fill B6.out (b := w.heap.size + 2) (by omega) g
            | false =>
              have HF : Hid (r = (firstFrom (fun b => tryP can (3 ^ j) s { p with ll := (a : Int), lr := (b : Int) }) (N - a - (b + 1)) (b + 1)).or (firstFrom (fun a => firstFrom (fun b => tryP can (3 ^ j) s { p with ll := (a : Int), lr := (b : Int) }) (N - a) 0) (N - (a + 1)) (a + 1))) := by
                unfold Hid; rw [HR1.out, HT1.out]; rfl
              clear HR1 HT1
              go_wp2
              go_roundw
              case rel => exact ⟨b + 1, by omega, by go_num, HF, B6, P6, ⟨_, _, E6.out⟩, R6⟩
              case measure => simp [intOf]; omega
          | false =>
            have HF : Hid (r = (firstFrom (fun b => tryP can (3 ^ j) s { p with ll := (a : Int), lr := (b : Int) }) (N - a - (b + 1)) (b + 1)).or (firstFrom (fun a => firstFrom (fun b => tryP can (3 ^ j) s { p with ll := (a : Int), lr := (b : Int) }) (N - a) 0) (N - (a + 1)) (a + 1))) := by
              unfold Hid; rw [HR1.out, HT1.out]; rfl
            clear HR1 HT1
            go_wp2
            go_roundw
            case rel => exact ⟨b + 1, by omega, by go_num, HF, B5, P5, ⟨_, _, E5.out⟩, R5⟩
            case measure => simp [intOf]; omega
        · have HF : Hid (r = firstFrom (fun a => firstFrom (fun b => tryP can (3 ^ j) s { p with ll := (a : Int), lr := (b : Int) }) (N - a) 0) (N - (a + 1)) (a + 1)) := by
            unfold Hid; rw [HR.out, firstFrom_end _ (by omega)]; rfl
          clear HR
          have hle : ¬ ((a : Int) + (b : Int) ≤ s.l) := by rw [HN.out]; omega
          obtain ⟨e0, e1, e2, e3, -⟩ := PW.out
          go_wp2
          clear e0 e1 e2 e3 hle
          go_roundw
          case rel => exact ⟨a + 1, by omega, by go_num, HF, BW, PW, IW, RW⟩
          case measure => simp [intOf]; omega
    · have HF : Hid (r = none) := by unfold Hid; rw [HR.out, firstFrom_end _ (by omega)]
      clear HR
      have hle : ¬ ((a : Int) ≤ s.l) := by rw [HN.out]; omega
      obtain ⟨e0, e1, e2, e3, -⟩ := PW.out
      obtain ⟨⟨r0, r1, r2, r3, r4, r5, r6, r7, rl⟩, g0, g1, g2, g3, g4, g5, g6, g7⟩ := RW.out
      go_wp2
      refine bodyPost_ret (v := .tuple #[.agg #[.int .i64 0, .int .i64 0, .int .i64 0, .int .i64 0, .int .i64 0, .int .i64 0, .int .i64 0, .int .i64 0], .bool false]) (by simp [results, Tryz.results140, go_sem, r0, r1, r2, r3, r4, r5, r6, r7]) rfl ⟨?_, ?_⟩
      · rw [HF.out]; rfl
      · exact below_fill BW.out (b := w.heap.size + 2) (by omega) zeroP
end Go.Proofs.YtlflblngbneacaaGreatDoor

/- The contract of the model's search for the first pick, round the contract of the search with one weighing fewer; and with it the search itself, by induction. Conditions: a valid state, at most three weighings. -/
namespace Go.Proofs.YtlflblngbneacaaGreatDoor
open Go.RowKit

theorem opt_split {α : Type} (t : Option α) (z : α) : ∃ g ok, t.getD z = g ∧ t.isSome = ok ∧ (ok = true → t = some g) ∧ (ok = false → t = none) := by
  cases t with
  | none => exact ⟨z, false, rfl, rfl, fun h => (Bool.false_ne_true h).elim, fun _ => rfl⟩
  | some g => exact ⟨g, true, rfl, rfl, fun _ => rfl, fun h => (Bool.false_ne_true h.symm).elim⟩

set_option maxRecDepth 100000 in
set_option maxHeartbeats 6400000 in
theorem specFirst (j : Nat) (hj : j ≤ 2) (K : Int) (hK : K = (j : Int) + 1) (can : SD → Bool) (HCAN : CanIs j can) (s : SD) (hs : SIn s) (w : World) :
    Calls Tryz.prog 118 #[stateV s, .int .i64 K] w fun e w' => e = .returned (.tuple #[pickV ((firstP can (3 ^ j) s).getD zeroP), .bool (firstP can (3 ^ j) s).isSome]) ∧ Below w.heap.size w w' := by
  have hb0 : 0 ≤ s.b ∧ s.b ≤ 13 ∧ 0 ≤ s.h ∧ s.h ≤ 13 := by have := hs; unfold SIn sumS at this; omega
  obtain ⟨NB, hNB⟩ : ∃ N, N = s.b.toNat + 1 := ⟨_, rfl⟩
  obtain ⟨NH, hNH⟩ : ∃ N, N = s.h.toNat + 1 := ⟨_, rfl⟩
  have hNb : s.b = (NB : Int) - 1 := by omega
  have hNh : s.h = (NH : Int) - 1 := by omega
  have CL := Lib.hid (fun (a b c d : Nat) (h : a + b < NB) (h' : c + d < NH) W => specLights j hj K hK can HCAN s ⟨(a : Int), (b : Int), (c : Int), (d : Int), 0, 0, 0, 0⟩ hs
    ⟨by show (0 : Int) ≤ (a : Int); omega, by show (0 : Int) ≤ (b : Int); omega, by show (0 : Int) ≤ (c : Int); omega, by show (0 : Int) ≤ (d : Int); omega, by show (a : Int) + (b : Int) ≤ s.b; omega, by show (c : Int) + (d : Int) ≤ s.h; omega⟩ rfl rfl W)
  obtain ⟨f4, h4⟩ : ∃ f4 : Nat → Nat → Nat → Nat → Option PD, f4 = fun (a b c d : Nat) => lightsP can (3 ^ j) s ⟨(a : Int), (b : Int), (c : Int), (d : Int), 0, 0, 0, 0⟩ := ⟨_, rfl⟩
  obtain ⟨f3, h3⟩ : ∃ f3 : Nat → Nat → Nat → Option PD, f3 = fun (a b c : Nat) => firstFrom (f4 a b c) (NH - c) 0 := ⟨_, rfl⟩
  obtain ⟨f2, h2⟩ : ∃ f2 : Nat → Nat → Option PD, f2 = fun (a b : Nat) => firstFrom (f3 a b) NH 0 := ⟨_, rfl⟩
  obtain ⟨f1, h1⟩ : ∃ f1 : Nat → Option PD, f1 = fun (a : Nat) => firstFrom (f2 a) (NB - a) 0 := ⟨_, rfl⟩
  have HR0 : Hid (firstP can (3 ^ j) s = firstFrom f1 (NB - 0) 0) := by
    rw [h1, h2, h3, h4, hNB, hNH]; rfl
  have H4 : Hid (∀ a b c d : Nat, lightsP can (3 ^ j) s ⟨(a : Int), (b : Int), (c : Int), (d : Int), 0, 0, 0, 0⟩ = f4 a b c d) := fun a b c d => by rw [h4]
  have H3 : Hid (∀ a b c, f3 a b c = firstFrom (f4 a b c) (NH - c - 0) 0) := fun a b c => by rw [h3]; rfl
  have H2 : Hid (∀ a b, f2 a b = firstFrom (f3 a b) (NH - 0) 0) := fun a b => by rw [h2]; rfl
  have H1 : Hid (∀ a, f1 a = firstFrom (f2 a) (NB - a - 0) 0) := fun a => by rw [h1]; rfl
  generalize firstP can (3 ^ j) s = r at HR0 ⊢
  have HB := Lib.hid hNb
  have HH := Lib.hid hNh
  have hNB14 : NB ≤ 14 := by omega
  have hNH14 : NH ≤ 14 := by omega
  clear h1 h2 h3 h4 hNB hNH hNb hNh hs hb0 HCAN hK
  have P0 := StateAt.new w 36 s
  have B0 := alloc_below w (.cells #[.int .i64 s.b, .int .i64 s.h, .int .i64 s.l, .int .i64 s.g] 36)
  have s0 : (w.alloc (.cells #[.int .i64 s.b, .int .i64 s.h, .int .i64 s.l, .int .i64 s.g] 36)).heap.size = w.heap.size + 1 := by simp
  generalize hX0 : w.alloc (.cells #[.int .i64 s.b, .int .i64 s.h, .int .i64 s.l, .int .i64 s.g] 36) = X0 at P0 B0 s0
  have Q1 := EightVar.new X0 139 zeroP
  have B1 := alloc_below X0 (.cells #[.int .i64 0, .int .i64 0, .int .i64 0, .int .i64 0, .int .i64 0, .int .i64 0, .int .i64 0, .int .i64 0] 139)
  have s1 : (X0.alloc (.cells #[.int .i64 0, .int .i64 0, .int .i64 0, .int .i64 0, .int .i64 0, .int .i64 0, .int .i64 0, .int .i64 0] 139)).heap.size = w.heap.size + 2 := by simp [s0]
  rw [s0] at Q1
  have BX := Lib.hid (below_up B0 B1)
  have P1 := Lib.hid (P0.below B1)
  change EightVar (X0.alloc (.cells #[.int .i64 0, .int .i64 0, .int .i64 0, .int .i64 0, .int .i64 0, .int .i64 0, .int .i64 0, .int .i64 0] 139)) _ _ at Q1
  generalize hX1 : X0.alloc (.cells #[.int .i64 0, .int .i64 0, .int .i64 0, .int .i64 0, .int .i64 0, .int .i64 0, .int .i64 0, .int .i64 0] 139) = X1 at Q1 P1 BX s1
  have R1 := Lib.hid Q1
  have S1 := Lib.hid s1
  clear P0 B0 B1 Q1 s1
  unfold stateV at CL ⊢
  unfold pickV at CL ⊢
  go_enter Tryz.func118, Tryz.ntmps118
  go_wp2
  go_loopw [6] (fun iv wr => ∃ a : Nat, a ≤ NB ∧ iv = .int .i64 a ∧ Hid (r = firstFrom f1 (NB - a) a) ∧ Hid (Below X1.heap.size X1 wr)) (fun iv _ => NB - (intOf iv).toNat)
  case atStart => exact ⟨0, by omega, rfl, HR0, Below.refl _ _⟩
  case round =>
    clear HR0
    obtain ⟨a, haN, rfl, HR, BW⟩ := hrel
    have PW := Lib.hid (P1.out.below BW.out)
    by_cases hlt : a < NB
    · obtain ⟨ra, hra⟩ : ∃ ra, firstFrom f1 (NB - (a + 1)) (a + 1) = ra := ⟨_, rfl⟩
      have HRA := Lib.hid hra
      have HR1 : Hid (r = (firstFrom (f2 a) (NB - a - 0) 0).or ra) := by
        unfold Hid; rw [HR.out, firstFrom_step _ hlt, H1.out, hra]
      clear HR hra
      have hle : ((a : Int) ≤ s.b) := by rw [HB.out]; omega
      obtain ⟨e0, e1, e2, e3, -⟩ := PW.out
      go_wp2
      clear e0 e1 e2 e3 hle PW
      go_loopw [7] (fun iv ws => ∃ b : Nat, a + b ≤ NB ∧ iv = .int .i64 b ∧ Hid (r = (firstFrom (f2 a) (NB - a - b) b).or ra) ∧ Hid (Below X1.heap.size X1 ws)) (fun iv _ => NB - (intOf iv).toNat)
      case atStart => exact ⟨0, by omega, rfl, HR1, BW⟩
      case round =>
        clear HR1 BW
        obtain ⟨b, hbN, rfl, HR, BW⟩ := hrel
        have PW := Lib.hid (P1.out.below BW.out)
        have hwab : IntKind.i64.wrap ((a : Int) + (b : Int)) = (a : Int) + (b : Int) := by rw [IntKind.wrap_i64]; omega
        by_cases hlt2 : a + b < NB
        · obtain ⟨rb, hrb⟩ : ∃ rb, (firstFrom (f2 a) (NB - a - (b + 1)) (b + 1)).or ra = rb := ⟨_, rfl⟩
          have HRB := Lib.hid hrb
          have HR1 : Hid (r = (firstFrom (f3 a b) (NH - 0) 0).or rb) := by
            unfold Hid; rw [HR.out, firstFrom_step _ (by omega), H2.out, Option.or_assoc, hrb]
          clear HR hrb
          have hle : ((a : Int) + (b : Int) ≤ s.b) := by rw [HB.out]; omega
          obtain ⟨e0, e1, e2, e3, -⟩ := PW.out
          go_wp2
          clear e0 e1 e2 e3 hle PW hwab
          go_loopw [8] (fun iv ws => ∃ c : Nat, c ≤ NH ∧ iv = .int .i64 c ∧ Hid (r = (firstFrom (f3 a b) (NH - c) c).or rb) ∧ Hid (Below X1.heap.size X1 ws)) (fun iv _ => NH - (intOf iv).toNat)
          case atStart => exact ⟨0, by omega, rfl, HR1, BW⟩
          case round =>
            clear HR1 BW
            obtain ⟨c, hcN, rfl, HR, BW⟩ := hrel
            have PW := Lib.hid (P1.out.below BW.out)
            by_cases hlt3 : c < NH
            · obtain ⟨rc, hrc⟩ : ∃ rc, (firstFrom (f3 a b) (NH - (c + 1)) (c + 1)).or rb = rc := ⟨_, rfl⟩
              have HRC := Lib.hid hrc
              have HR1 : Hid (r = (firstFrom (f4 a b c) (NH - c - 0) 0).or rc) := by
                unfold Hid; rw [HR.out, firstFrom_step _ hlt3, H3.out, Option.or_assoc, hrc]
              clear HR hrc
              have hle : ((c : Int) ≤ s.h) := by rw [HH.out]; omega
              obtain ⟨e0, e1, e2, e3, -⟩ := PW.out
              go_wp2
              clear e0 e1 e2 e3 hle PW
              go_loopw [9] (fun iv ws => ∃ d : Nat, c + d ≤ NH ∧ iv = .int .i64 d ∧ Hid (r = (firstFrom (f4 a b c) (NH - c - d) d).or rc) ∧ Hid (Below X1.heap.size X1 ws)) (fun iv _ => NH - (intOf iv).toNat)
              case atStart => exact ⟨0, by omega, rfl, HR1, BW⟩
              case round =>
                clear HR1 BW
                obtain ⟨d, hdN, rfl, HR, BW⟩ := hrel
                have PW := Lib.hid (P1.out.below BW.out)
                have hwcd : IntKind.i64.wrap ((c : Int) + (d : Int)) = (c : Int) + (d : Int) := by rw [IntKind.wrap_i64]; omega
                by_cases hlt4 : c + d < NH
                · have CLx := CL.out a b c d hlt2 hlt4
                  have h4 := H4.out a b c d
                  rw [h4] at CLx
                  clear h4
                  have HR1 : Hid (r = (f4 a b c d).or ((firstFrom (f4 a b c) (NH - c - (d + 1)) (d + 1)).or rc)) := by
                    unfold Hid; rw [HR.out, firstFrom_step _ (by omega), Option.or_assoc]
                  clear HR
                  generalize f4 a b c d = t at HR1 CLx
                  obtain ⟨g, ok, hg, hok, hsome, hnone⟩ := opt_split t zeroP
                  rw [hg, hok] at CLx
                  have CLx := Lib.hid CLx
                  have HS := Lib.hid hsome
                  have HE := Lib.hid hnone
                  clear hg hok hsome hnone
                  have hle : ((c : Int) + (d : Int) ≤ s.h) := by rw [HH.out]; omega
                  obtain ⟨e0, e1, e2, e3, elt⟩ := PW.out
                  clear PW
                  go_wp2_with fail
                  refine (CLx.out _).mono ?_
                  rintro e w3 ⟨rfl, b3⟩
                  clear e0 e1 e2 e3 elt hle hwcd
                  have B3 := Lib.hid (below_up BW.out b3)
                  have hw3 : X1.heap.size ≤ w3.heap.size := B3.out.size
                  rw [S1.out] at hw3
                  have b4 := alloc_below w3 (.cells #[.int .i64 0, .int .i64 0, .int .i64 0, .int .i64 0, .int .i64 0, .int .i64 0, .int .i64 0, .int .i64 0] 139)
                  have q4 := EightVar.new w3 139 zeroP
                  have B4 := Lib.hid (below_up B3.out b4)
                  have R4 := Lib.hid (R1.out.below B4.out)
                  change EightVar (w3.alloc (.cells #[.int .i64 0, .int .i64 0, .int .i64 0, .int .i64 0, .int .i64 0, .int .i64 0, .int .i64 0, .int .i64 0] 139)) _ _ at q4
                  generalize hX4 : w3.alloc (.cells #[.int .i64 0, .int .i64 0, .int .i64 0, .int .i64 0, .int .i64 0, .int .i64 0, .int .i64 0, .int .i64 0] 139) = X4 at b4 q4 R4 B4
                  have hne1 : ¬ (w.heap.size + 1 = w3.heap.size) := by omega
                  have hne2 : ¬ (w3.heap.size = w.heap.size + 1) := by omega
                  have B5 := Lib.hid (below_fill B4.out (b := w3.heap.size) (by rw [S1.out]; exact hw3) g)
                  obtain ⟨⟨q0, q1, q2, q3, q4, q5, q6, q7, ql⟩, f0, f1', f2', f3', f4', f5, f6, f7⟩ := q4
                  clear B3 b3 b4 BW
                  have HW3 := Lib.hid hw3
                  clear hw3
                  cases ok with
                  | true =>
                    have HF : Hid (r = some g) := by unfold Hid; rw [HR1.out, HS.out rfl]; rfl
                    clear HR1 HS HE
                    obtain ⟨⟨r0, r1, r2, r3, r4, r5, r6, r7, rl⟩, g0, g1, g2, g3, g4, g5, g6, g7⟩ := R4.out
                    go_wp2
                    refine bodyPost_ret (v := .tuple #[.agg #[.int .i64 g.bl, .int .i64 g.br, .int .i64 g.hl, .int .i64 g.hr, .int .i64 g.ll, .int .i64 g.lr, .int .i64 g.gl, .int .i64 g.gr], .bool true]) (by simp [results, Tryz.results118, go_sem, r0, r1, r2, r3, r4, r5, r6, r7]) rfl ⟨?_, ?_⟩
                    · rw [HF.out]; rfl
                    · exact below_fill (below_up BX.out B5.out) (b := w.heap.size + 1) (by omega) g
                  | false =>
                    have HF : Hid (r = (firstFrom (f4 a b c) (NH - c - (d + 1)) (d + 1)).or rc) := by
                      unfold Hid; rw [HR1.out, HE.out rfl]; rfl
                    clear HR1 HS HE
                    go_wp2
                    go_roundw
                    case rel => exact ⟨d + 1, by omega, by go_num, HF, B5⟩
                    case measure => simp [intOf]; omega
                · have HF : Hid (r = (firstFrom (f3 a b) (NH - (c + 1)) (c + 1)).or rb) := by
                    unfold Hid; rw [HR.out, firstFrom_end _ (by omega), HRC.out]; rfl
                  clear HR
                  have hle : ¬ ((c : Int) + (d : Int) ≤ s.h) := by rw [HH.out]; omega
                  obtain ⟨e0, e1, e2, e3, -⟩ := PW.out
                  go_wp2
                  clear e0 e1 e2 e3 hle
                  go_roundw
                  case rel => exact ⟨c + 1, by omega, by go_num, HF, BW⟩
                  case measure => simp [intOf]; omega
            · have HF : Hid (r = (firstFrom (f2 a) (NB - a - (b + 1)) (b + 1)).or ra) := by
                unfold Hid; rw [HR.out, firstFrom_end _ (by omega), HRB.out]; rfl
              clear HR
              have hle : ¬ ((c : Int) ≤ s.h) := by rw [HH.out]; omega
              obtain ⟨e0, e1, e2, e3, -⟩ := PW.out
              go_wp2
              clear e0 e1 e2 e3 hle
              go_roundw
              case rel => exact ⟨b + 1, by omega, by go_num, HF, BW⟩
              case measure => simp [intOf]; omega
        · have HF : Hid (r = firstFrom f1 (NB - (a + 1)) (a + 1)) := by
            unfold Hid; rw [HR.out, firstFrom_end _ (by omega), HRA.out]; rfl
          clear HR
          have hle : ¬ ((a : Int) + (b : Int) ≤ s.b) := by rw [HB.out]; omega
          obtain ⟨e0, e1, e2, e3, -⟩ := PW.out
          go_wp2
          clear e0 e1 e2 e3 hle
          go_roundw
          case rel => exact ⟨a + 1, by omega, by go_num, HF, BW⟩
          case measure => simp [intOf]; omega
    · have HF : Hid (r = none) := by unfold Hid; rw [HR.out, firstFrom_end _ (by omega)]
      clear HR
      have hle : ¬ ((a : Int) ≤ s.b) := by rw [HB.out]; omega
      obtain ⟨e0, e1, e2, e3, -⟩ := PW.out
      obtain ⟨⟨r0, r1, r2, r3, r4, r5, r6, r7, rl⟩, g0, g1, g2, g3, g4, g5, g6, g7⟩ := R1.out.below BW.out
      go_wp2
      refine bodyPost_ret (v := .tuple #[.agg #[.int .i64 0, .int .i64 0, .int .i64 0, .int .i64 0, .int .i64 0, .int .i64 0, .int .i64 0, .int .i64 0], .bool false]) (by simp [results, Tryz.results118, go_sem, r0, r1, r2, r3, r4, r5, r6, r7]) rfl ⟨?_, ?_⟩
      · rw [HF.out]; rfl
      · exact below_fill (below_up BX.out BW.out) (b := w.heap.size + 1) (by omega) zeroP
end Go.Proofs.YtlflblngbneacaaGreatDoor

/- The contract of the model's search for a case, by induction on the number of weighings. Conditions: a valid state, at most three weighings. -/
namespace Go.Proofs.YtlflblngbneacaaGreatDoor
open Go.RowKit

set_option maxRecDepth 100000 in
set_option maxHeartbeats 6400000 in
/-- One step of the search, round what the search for a first pick returns. -/
theorem canStep (k : Nat) (hk : k ≤ 3) (s : SD) (hs : SIn s) (g : PD) (ok : Bool)
    (HF : 1 ≤ k → ∀ W, Calls Tryz.prog 118 #[stateV s, .int .i64 k] W fun e w' => e = .returned (.tuple #[pickV g, .bool ok]) ∧ Below W.heap.size W w') (w : World) :
    Calls Tryz.prog 88 #[stateV s, .int .i64 k] w fun e w' => e = .returned (.bool (decide (countS s ≤ 1) || (decide (1 ≤ k) && (decide (countS s ≤ 3 ^ k) && ok)))) ∧ Below w.heap.size w w' := by
  have CN := Lib.hid (fun W => specCountOf s (stateB_iff.2 hs) W)
  have CP := Lib.hid (fun W => specPower k hk W)
  have CF := Lib.hid HF
  clear HF hs
  obtain ⟨r, hr⟩ : ∃ r, (decide (countS s ≤ 1) || (decide (1 ≤ k) && (decide (countS s ≤ 3 ^ k) && ok))) = r := ⟨_, rfl⟩
  rw [hr]
  have HR := Lib.hid hr
  clear hr
  have P0 := Lib.hid (StateAt.new w 36 s)
  have B0 := Lib.hid (alloc_below w (.cells #[.int .i64 s.b, .int .i64 s.h, .int .i64 s.l, .int .i64 s.g] 36))
  have s0 : (w.alloc (.cells #[.int .i64 s.b, .int .i64 s.h, .int .i64 s.l, .int .i64 s.g] 36)).heap.size = w.heap.size + 1 := by simp
  generalize hX0 : w.alloc (.cells #[.int .i64 s.b, .int .i64 s.h, .int .i64 s.l, .int .i64 s.g] 36) = X0 at P0 B0 s0
  have S0 := Lib.hid s0
  clear s0
  unfold stateV at CN CF ⊢
  unfold pickV at CF
  generalize countS s = n at CN HR
  obtain ⟨e0, e1, e2, e3, -⟩ := P0.out
  go_enter Tryz.func88, Tryz.ntmps88
  go_wp2_with fail
  refine (CN.out _).mono ?_
  rintro e w1 ⟨rfl, b1⟩
  have B1 := Lib.hid (below_up B0.out b1)
  have P1 := Lib.hid (P0.out.below b1)
  clear b1 e0 e1 e2 e3 hX0
  by_cases h1 : n ≤ 1
  · have HF : Hid (r = true) := by unfold Hid; rw [← HR.out, decide_eq_true h1]; rfl
    clear HR
    go_wp2
    go_ret
    exact ⟨ret_bool HF.out.symm, B1.out⟩
  · have HR1 : Hid ((decide (1 ≤ k) && (decide (n ≤ 3 ^ k) && ok)) = r) := by unfold Hid; rw [← HR.out, decide_eq_false h1]; rfl
    clear HR
    by_cases hk1 : 1 ≤ k
    · have HR2 : Hid ((decide (n ≤ 3 ^ k) && ok) = r) := by unfold Hid; rw [← HR1.out, decide_eq_true hk1]; rfl
      have CF := Lib.hid (CF.out hk1)
      clear HR1
      have hk2 : ¬ ((k : Int) < 1) := by omega
      obtain ⟨e0, e1, e2, e3, -⟩ := P1.out
      go_wp2_with fail
      refine (CN.out _).mono ?_
      rintro e w2 ⟨rfl, b2⟩
      have B2 := Lib.hid (below_up B1.out b2)
      have P2 := Lib.hid (P1.out.below b2)
      clear b2 e0 e1 e2 e3
      go_wp2_with fail
      refine (CP.out _).mono ?_
      rintro e w3 ⟨rfl, rfl⟩
      by_cases hp : n ≤ 3 ^ k
      · have HF : Hid (ok = r) := by unfold Hid; rw [← HR2.out, decide_eq_true hp]; rfl
        clear HR2
        have hp2 : ¬ ((3 : Int) ^ k < n) := by omega
        obtain ⟨e0, e1, e2, e3, -⟩ := P2.out
        go_wp2_with fail
        refine (CF.out _).mono ?_
        rintro e w4 ⟨rfl, b4⟩
        have B4 := Lib.hid (below_up B2.out b4)
        obtain ⟨-, -, -, -, hw4⟩ := P2.out.below b4
        clear e0 e1 e2 e3 b4
        have b5 := alloc_below w4 (.cells #[.int .i64 0, .int .i64 0, .int .i64 0, .int .i64 0, .int .i64 0, .int .i64 0, .int .i64 0, .int .i64 0] 139)
        have q5 := EightVar.new w4 139 zeroP
        have B5 := Lib.hid (below_up B4.out b5)
        change EightVar (w4.alloc (.cells #[.int .i64 0, .int .i64 0, .int .i64 0, .int .i64 0, .int .i64 0, .int .i64 0, .int .i64 0, .int .i64 0] 139)) _ _ at q5
        generalize hX5 : w4.alloc (.cells #[.int .i64 0, .int .i64 0, .int .i64 0, .int .i64 0, .int .i64 0, .int .i64 0, .int .i64 0, .int .i64 0] 139) = X5 at b5 q5 B5
        have B6 := Lib.hid (below_fill B5.out (b := w4.heap.size) (by omega) g)
        obtain ⟨⟨q0, q1, q2, q3, q4, q5, q6, q7, ql⟩, f0, f1, f2, f3, f4, f5, f6, f7⟩ := q5
        clear B4 b5 hw4
        go_wp2
        go_ret
        exact ⟨ret_bool HF.out, B6.out⟩
      · have HF : Hid (r = false) := by unfold Hid; rw [← HR2.out, decide_eq_false hp]; rfl
        clear HR2
        have hp2 : (3 : Int) ^ k < n := by omega
        go_wp2
        go_ret
        exact ⟨ret_bool HF.out.symm, B2.out⟩
    · have HF : Hid (r = false) := by unfold Hid; rw [← HR1.out, decide_eq_false hk1]; rfl
      clear HR1
      have hk2 : ((k : Int) < 1) := by omega
      go_wp2
      go_ret
      exact ⟨ret_bool HF.out.symm, B1.out⟩

/-- The model's search tells whether the case of a valid state can be found. -/
theorem specCan : ∀ k : Nat, k ≤ 3 → CanIs k (canS k)
  | 0, _ => fun s hs w => by
    have C := canStep 0 (by omega) s hs zeroP false (fun h => absurd h (by omega)) w
    refine C.mono ?_
    rintro e w' ⟨he, hb⟩
    refine ⟨?_, hb⟩
    rw [he]
    unfold canS
    simp
  | j + 1, hk => fun s hs w => by
    have C := canStep (j + 1) hk s hs ((firstP (canS j) (3 ^ j) s).getD zeroP) (firstP (canS j) (3 ^ j) s).isSome
      (fun _ W => specFirst j (by omega) ((j + 1 : Nat) : Int) (by omega) (canS j) (specCan j (by omega)) s hs W) w
    refine C.mono ?_
    rintro e w' ⟨he, hb⟩
    refine ⟨?_, hb⟩
    rw [he]
    conv => rhs; unfold canS
    simp
end Go.Proofs.YtlflblngbneacaaGreatDoor

/- The contracts of the model's CanFind, FewestFor and FirstPick. No condition. -/
namespace Go.Proofs.YtlflblngbneacaaGreatDoor
open Go.RowKit

set_option maxRecDepth 100000 in
set_option maxHeartbeats 3200000 in
theorem specCanFind (s : SD) (k : Int) (w : World) : Calls Tryz.prog 55 #[stateV s, .int .i64 k] w fun e w' => e = .returned (.bool (findB s k)) ∧ Below w.heap.size w w' := by
  have C1 := Lib.hid (fun W => specStateOk s W)
  have C2 := Lib.hid (fun W => l01In_is k 0 3 W)
  have C3 : Hid (stateB s = true → (decide (0 ≤ k) && decide (k ≤ 3)) = true → ∀ W, Calls Tryz.prog 88 #[stateV s, .int .i64 k] W fun e w' => e = .returned (.bool (canS k.toNat s)) ∧ Below W.heap.size W w') := by
    intro h h2 W
    simp only [Bool.and_eq_true, decide_eq_true_eq] at h2
    have C := specCan k.toNat (by omega) s (stateB_iff.1 h) W
    rw [show ((k.toNat : Nat) : Int) = k by omega] at C
    exact C
  have HR : Hid (findB s k = (stateB s && ((decide (0 ≤ k) && decide (k ≤ 3)) && canS k.toNat s))) := rfl
  generalize findB s k = r at HR ⊢
  generalize canS k.toNat s = cb at C3 HR
  generalize (decide (0 ≤ k) && decide (k ≤ 3)) = kb at C2 C3 HR
  generalize stateB s = sb at C1 C3 HR
  have P0 := Lib.hid (StateAt.new w 36 s)
  have B0 := Lib.hid (alloc_below w (.cells #[.int .i64 s.b, .int .i64 s.h, .int .i64 s.l, .int .i64 s.g] 36))
  generalize hX0 : w.alloc (.cells #[.int .i64 s.b, .int .i64 s.h, .int .i64 s.l, .int .i64 s.g] 36) = X0 at P0 B0
  unfold stateV at C1 C3 ⊢
  obtain ⟨e0, e1, e2, e3, -⟩ := P0.out
  go_enter Tryz.func55, Tryz.ntmps55
  go_wp2_with fail
  refine (C1.out _).mono ?_
  rintro e w1 ⟨rfl, b1⟩
  have B1 := Lib.hid (below_up B0.out b1)
  have P1 := Lib.hid (P0.out.below b1)
  clear b1 e0 e1 e2 e3 hX0
  cases sb with
  | false =>
    have HF : Hid (r = false) := by unfold Hid; rw [HR.out]; rfl
    clear HR C3
    go_wp2
    go_ret
    exact ⟨ret_bool HF.out.symm, B1.out⟩
  | true =>
    go_wp2_with fail
    refine (C2.out _).mono ?_
    rintro e w2 ⟨rfl, rfl⟩
    cases kb with
    | false =>
      have HF : Hid (r = false) := by unfold Hid; rw [HR.out]; rfl
      clear HR C3
      go_wp2
      go_ret
      exact ⟨ret_bool HF.out.symm, B1.out⟩
    | true =>
      have C4 : Hid (∀ W, Calls Tryz.prog 88 #[.agg #[.int .i64 s.b, .int .i64 s.h, .int .i64 s.l, .int .i64 s.g], .int .i64 k] W fun e w' => e = .returned (.bool cb) ∧ Below W.heap.size W w') := C3.out (by first | rfl | trivial) (by first | rfl | trivial)
      clear C3
      have HF : Hid (r = cb) := by unfold Hid; rw [HR.out]; rfl
      clear HR
      obtain ⟨e0, e1, e2, e3, -⟩ := P1.out
      go_wp2_with fail
      refine (C4.out _).mono ?_
      rintro e w3 ⟨rfl, b3⟩
      have B3 := Lib.hid (below_up B1.out b3)
      clear b3 e0 e1 e2 e3
      go_wp2
      go_ret
      exact ⟨ret_bool HF.out.symm, B3.out⟩

/-- No fewer weighings are enough. -/
def NoneTo (s : SD) (i : Nat) : Prop := ∀ j : Nat, j < i → findB s (j : Int) = false
theorem fewest_at {s : SD} {i : Nat} (h : NoneTo s i) (hi : i ≤ 3) (hf : findB s (i : Int) = true) : fewestI s = (i : Int) := by
  unfold fewestI
  rcases (show i = 0 ∨ i = 1 ∨ i = 2 ∨ i = 3 by omega) with rfl | rfl | rfl | rfl
  · rw [if_pos (show findB s 0 = true from hf)]; rfl
  · rw [if_neg (by rw [show (0 : Int) = ((0 : Nat) : Int) from rfl, h 0 (by omega)]; exact Bool.false_ne_true), if_pos (show findB s 1 = true from hf)]; rfl
  · rw [if_neg (by rw [show (0 : Int) = ((0 : Nat) : Int) from rfl, h 0 (by omega)]; exact Bool.false_ne_true), if_neg (by rw [show (1 : Int) = ((1 : Nat) : Int) from rfl, h 1 (by omega)]; exact Bool.false_ne_true), if_pos (show findB s 2 = true from hf)]; rfl
  · rw [if_neg (by rw [show (0 : Int) = ((0 : Nat) : Int) from rfl, h 0 (by omega)]; exact Bool.false_ne_true), if_neg (by rw [show (1 : Int) = ((1 : Nat) : Int) from rfl, h 1 (by omega)]; exact Bool.false_ne_true), if_neg (by rw [show (2 : Int) = ((2 : Nat) : Int) from rfl, h 2 (by omega)]; exact Bool.false_ne_true), if_pos (show findB s 3 = true from hf)]; rfl
theorem fewest_none {s : SD} (h : NoneTo s 4) : fewestI s = -1 := by
  unfold fewestI
  rw [if_neg (by rw [show (0 : Int) = ((0 : Nat) : Int) from rfl, h 0 (by omega)]; exact Bool.false_ne_true), if_neg (by rw [show (1 : Int) = ((1 : Nat) : Int) from rfl, h 1 (by omega)]; exact Bool.false_ne_true), if_neg (by rw [show (2 : Int) = ((2 : Nat) : Int) from rfl, h 2 (by omega)]; exact Bool.false_ne_true), if_neg (by rw [show (3 : Int) = ((3 : Nat) : Int) from rfl, h 3 (by omega)]; exact Bool.false_ne_true)]
theorem none_succ {s : SD} {i : Nat} (h : NoneTo s i) (hf : findB s (i : Int) = false) : NoneTo s (i + 1) := fun j hj => by
  by_cases e : j = i
  · subst e; exact hf
  · exact h j (by omega)

set_option maxRecDepth 100000 in
set_option maxHeartbeats 3200000 in
theorem specFewest (s : SD) (w : World) : Calls Tryz.prog 28 #[stateV s] w fun e w' => e = .returned (.int .i64 (fewestI s)) ∧ Below w.heap.size w w' := by
  have C1 := Lib.hid (fun k W => specCanFind s k W)
  obtain ⟨r, hr⟩ : ∃ r, r = fewestI s := ⟨_, rfl⟩
  rw [← hr]
  have HR := Lib.hid hr
  clear hr
  have P0 := Lib.hid (StateAt.new w 36 s)
  have B0 := Lib.hid (alloc_below w (.cells #[.int .i64 s.b, .int .i64 s.h, .int .i64 s.l, .int .i64 s.g] 36))
  generalize hX0 : w.alloc (.cells #[.int .i64 s.b, .int .i64 s.h, .int .i64 s.l, .int .i64 s.g] 36) = X0 at P0 B0
  unfold stateV at C1 ⊢
  go_enter Tryz.func28, Tryz.ntmps28
  go_wp2
  go_loopw [3] (fun iv wr => ∃ i : Nat, i ≤ 4 ∧ iv = .int .i64 i ∧ Hid (NoneTo s i) ∧ Hid (Below w.heap.size w wr) ∧ Hid (StateAt wr w.heap.size s)) (fun iv _ => 4 - (intOf iv).toNat)
  case atStart => exact ⟨0, by omega, rfl, fun j hj => absurd hj (by omega), B0, P0⟩
  case round =>
    clear B0 P0 hX0
    obtain ⟨i, hi4, rfl, HN, BW, PW⟩ := hrel
    by_cases hlt : i ≤ 3
    · have hle : (i : Int) ≤ 3 := by omega
      have C := Lib.hid (C1.out i)
      have HA := Lib.hid (fewest_at HN.out hlt)
      have HZ := Lib.hid (none_succ HN.out)
      generalize findB s (i : Int) = fb at C HA HZ
      obtain ⟨e0, e1, e2, e3, -⟩ := PW.out
      go_wp2_with fail
      refine (C.out _).mono ?_
      rintro e w2 ⟨rfl, b2⟩
      have B2 := Lib.hid (below_up BW.out b2)
      have P2 := Lib.hid (PW.out.below b2)
      clear b2 e0 e1 e2 e3 BW PW
      cases fb with
      | true =>
        have HF : Hid (r = (i : Int)) := by unfold Hid; rw [HR.out]; exact HA.out rfl
        clear HA HZ
        go_wp2
        go_ret
        exact ⟨by rw [HF.out]; rfl, B2.out⟩
      | false =>
        have HF := Lib.hid (HZ.out rfl)
        clear HA HZ
        go_wp2
        go_roundw
        case rel => exact ⟨i + 1, by omega, by go_num, HF, B2, P2⟩
        case measure => simp [intOf]; omega
    · have hle : ¬ (i : Int) ≤ 3 := by omega
      have HF : Hid (r = -1) := by unfold Hid; rw [HR.out]; exact fewest_none (fun j hj => HN.out j (by omega))
      go_wp2
      go_ret
      exact ⟨by rw [HF.out]; rfl, BW.out⟩

end Go.Proofs.YtlflblngbneacaaGreatDoor

/- The walks of the exact laws of CanFind, FewestFor and FirstPick round the contracts of the program's functions: each returns true for every argument. No condition. -/
namespace Go.Proofs.YtlflblngbneacaaGreatDoor
open Go.RowKit

/-- The contracts of functions of a state, and of a state and a number. -/
def CanFindIs (f : FuncId) (s : SD) (k : Int) : Prop := ∀ W, Calls Tryz.prog f #[stateV s, .int .i64 k] W fun e w' => e = .returned (.bool (findB s k)) ∧ Below W.heap.size W w'
def FewestIs (f : FuncId) (s : SD) : Prop := ∀ W, Calls Tryz.prog f #[stateV s] W fun e w' => e = .returned (.int .i64 (fewestI s)) ∧ Below W.heap.size W w'
def FirstPickIs (f : FuncId) (s : SD) (k : Int) : Prop := ∀ W, Calls Tryz.prog f #[stateV s, .int .i64 k] W fun e w' => e = .returned (.tuple #[pickV ((pickO s k).getD zeroP), .bool (pickO s k).isSome]) ∧ Below W.heap.size W w'

end Go.Proofs.YtlflblngbneacaaGreatDoor
