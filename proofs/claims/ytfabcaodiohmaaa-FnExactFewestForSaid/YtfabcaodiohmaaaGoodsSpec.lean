/- The contract of the model's completion of a pick by good coins. Conditions: a valid state, a pick within it without good coins. -/
import Derived.Test.YtfabcaodiohmaaaSearchSpec
namespace Go.Proofs.Ytfabcaodiohmaaa
open Go.RowKit

/-- A pick's eight cells lie in block b and may be written. -/
def EightVar (w : World) (b : Nat) (p : PD) : Prop :=
  PickAt w b p ∧ w.frozen? ⟨b, 0, none⟩ = false ∧ w.frozen? ⟨b, 1, none⟩ = false ∧ w.frozen? ⟨b, 2, none⟩ = false ∧ w.frozen? ⟨b, 3, none⟩ = false ∧ w.frozen? ⟨b, 4, none⟩ = false ∧ w.frozen? ⟨b, 5, none⟩ = false ∧ w.frozen? ⟨b, 6, none⟩ = false ∧ w.frozen? ⟨b, 7, none⟩ = false
theorem EightVar.below {w w' : World} {b : Nat} {p : PD} (h : EightVar w b p) (hb : Below w.heap.size w w') : EightVar w' b p := by
  have hlt : b < w.heap.size := h.1.2.2.2.2.2.2.2.2
  obtain ⟨hp, f0, f1, f2, f3, f4, f5, f6, f7⟩ := h
  refine ⟨hp.below hb, ?_, ?_, ?_, ?_, ?_, ?_, ?_, ?_⟩
  · rw [hb.frozen (p := ⟨b, 0, none⟩) hlt]; exact f0
  · rw [hb.frozen (p := ⟨b, 1, none⟩) hlt]; exact f1
  · rw [hb.frozen (p := ⟨b, 2, none⟩) hlt]; exact f2
  · rw [hb.frozen (p := ⟨b, 3, none⟩) hlt]; exact f3
  · rw [hb.frozen (p := ⟨b, 4, none⟩) hlt]; exact f4
  · rw [hb.frozen (p := ⟨b, 5, none⟩) hlt]; exact f5
  · rw [hb.frozen (p := ⟨b, 6, none⟩) hlt]; exact f6
  · rw [hb.frozen (p := ⟨b, 7, none⟩) hlt]; exact f7
theorem EightVar.new (w : World) (ty : TypeId) (p : PD) : EightVar (w.alloc (.cells #[.int .i64 p.bl, .int .i64 p.br, .int .i64 p.hl, .int .i64 p.hr, .int .i64 p.ll, .int .i64 p.lr, .int .i64 p.gl, .int .i64 p.gr] ty)) w.heap.size p := by
  refine ⟨PickAt.new w ty p, ?_, ?_, ?_, ?_, ?_, ?_, ?_, ?_⟩ <;> simp

set_option maxRecDepth 100000 in
set_option maxHeartbeats 3200000 in
theorem specGoods (s : SD) (p : PD) (hs : SIn s) (hp : PIn s p) (h0 : p.gl = 0) (h1 : p.gr = 0) (w : World) :
    Calls Try.prog 49 #[stateV s, pickV p] w fun e w' => e = .returned (.tuple #[pickV (goodsP p), .bool (goodsB s p)]) ∧ Below w.heap.size w w' := by
  obtain ⟨sb, sh, sl, sg, s1', s13⟩ := id hs
  have hp' := hp
  unfold PIn at hp'
  unfold sumS at s1' s13
  have hlr : leftP p = p.bl + p.hl + p.ll := by unfold leftP; omega
  have hrr : rightP p = p.br + p.hr + p.lr := by unfold rightP; omega
  have S := Lib.hid (fun W => specSides p ⟨by omega, by omega, by omega, by omega, by omega, by omega, by omega, by omega⟩ W)
  have hl0 : 0 ≤ leftP p ∧ leftP p ≤ 13 := by omega
  have hr0 : 0 ≤ rightP p ∧ rightP p ≤ 13 := by omega
  have HG : Hid (goodsP p = if leftP p < rightP p then { p with gl := rightP p - leftP p } else { p with gr := leftP p - rightP p }) := rfl
  have HB : Hid (goodsB s p = (decide ((goodsP p).gl + (goodsP p).gr ≤ s.g) && decide (0 < leftP p + rightP p))) := rfl
  have HZ : Hid (p.gl = 0 ∧ p.gr = 0) := ⟨h0, h1⟩
  clear hlr hrr hp' hp h0 h1
  have P0 := StateAt.new w 25 s
  have B0 := alloc_below w (.cells #[.int .i64 s.b, .int .i64 s.h, .int .i64 s.l, .int .i64 s.g] 25)
  have s0 : (w.alloc (.cells #[.int .i64 s.b, .int .i64 s.h, .int .i64 s.l, .int .i64 s.g] 25)).heap.size = w.heap.size + 1 := by simp
  generalize hX0 : w.alloc (.cells #[.int .i64 s.b, .int .i64 s.h, .int .i64 s.l, .int .i64 s.g] 25) = X0 at P0 B0 s0
  have Q0 := EightVar.new X0 32 p
  have B1 := alloc_below X0 (.cells #[.int .i64 p.bl, .int .i64 p.br, .int .i64 p.hl, .int .i64 p.hr, .int .i64 p.ll, .int .i64 p.lr, .int .i64 p.gl, .int .i64 p.gr] 32)
  have s1 : (X0.alloc (.cells #[.int .i64 p.bl, .int .i64 p.br, .int .i64 p.hl, .int .i64 p.hr, .int .i64 p.ll, .int .i64 p.lr, .int .i64 p.gl, .int .i64 p.gr] 32)).heap.size = w.heap.size + 2 := by simp [s0]
  generalize hX1 : X0.alloc (.cells #[.int .i64 p.bl, .int .i64 p.br, .int .i64 p.hl, .int .i64 p.hr, .int .i64 p.ll, .int .i64 p.lr, .int .i64 p.gl, .int .i64 p.gr] 32) = X1 at Q0 B1 s1
  rw [s0] at Q0
  have Q2 := EightVar.new X1 32 zeroP
  have B2 := alloc_below X1 (.cells #[.int .i64 0, .int .i64 0, .int .i64 0, .int .i64 0, .int .i64 0, .int .i64 0, .int .i64 0, .int .i64 0] 32)
  have Q1 := Q0.below B2
  rw [s1] at Q2
  have BX := Lib.hid (below_up (below_up B0 B1) B2)
  have P1 := Lib.hid ((P0.below B1).below B2)
  have s2 : (X1.alloc (.cells #[.int .i64 0, .int .i64 0, .int .i64 0, .int .i64 0, .int .i64 0, .int .i64 0, .int .i64 0, .int .i64 0] 32)).heap.size = w.heap.size + 3 := by simp [s1]
  change EightVar (X1.alloc (.cells #[.int .i64 0, .int .i64 0, .int .i64 0, .int .i64 0, .int .i64 0, .int .i64 0, .int .i64 0, .int .i64 0] 32)) _ _ at Q2
  generalize hX2 : X1.alloc (.cells #[.int .i64 0, .int .i64 0, .int .i64 0, .int .i64 0, .int .i64 0, .int .i64 0, .int .i64 0, .int .i64 0] 32) = X2 at Q1 Q2 P1 BX s2
  have H1 := Lib.hid Q1
  have H2 := Lib.hid Q2
  clear P0 B0 B1 B2 Q0 Q1 Q2
  generalize leftP p = a at S hl0 HG HB
  generalize rightP p = b at S hr0 HG HB
  unfold stateV pickV
  unfold pickV at S
  obtain ⟨⟨q0, q1, q2, q3, q4, q5, q6, q7, -⟩, -⟩ := H1.out
  go_enter Try.func49, Try.ntmps49
  go_wp2_with fail
  refine (S.out _).mono ?_
  rintro e w1 ⟨rfl, b1⟩
  clear q0 q1 q2 q3 q4 q5 q6 q7
  have B1 := Lib.hid (below_up BX.out b1)
  obtain ⟨e0, e1, e2, e3, elt⟩ := P1.out.below b1
  obtain ⟨⟨q0, q1, q2, q3, q4, q5, q6, q7, ql⟩, f0, f1, f2, f3, f4, f5, f6, f7⟩ := H1.out.below b1
  obtain ⟨⟨r0, r1, r2, r3, r4, r5, r6, r7, rl⟩, g0, g1, g2, g3, g4, g5, g6, g7⟩ := H2.out.below b1
  clear b1
  obtain ⟨z0, z1⟩ := HZ.out
  rw [z0] at q6
  rw [z1] at q7
  by_cases hab : a < b
  · have HG2 : Hid (goodsP p = ⟨p.bl, p.br, p.hl, p.hr, p.ll, p.lr, b - a, 0⟩) := by unfold Hid; rw [HG.out, if_pos hab, z1]
    have hw : IntKind.i64.wrap (b - a) = b - a := by rw [IntKind.wrap_i64]; omega
    have hp : (0 : Int) < a + b := by omega
    have HB2 : Hid (goodsB s p = decide (b - a ≤ s.g)) := by unfold Hid; rw [HB.out, HG2.out, decide_eq_true hp]; simp
    clear HG HB z0 z1
    by_cases hc : b - a ≤ s.g
    · have HB2 : Hid (goodsB s p = true) := by unfold Hid; rw [HB2.out]; exact decide_eq_true hc
      go_wp2
      refine bodyPost_ret (v := .tuple #[.agg #[.int .i64 p.bl, .int .i64 p.br, .int .i64 p.hl, .int .i64 p.hr, .int .i64 p.ll, .int .i64 p.lr, .int .i64 (b - a), .int .i64 (0)], .bool true]) (by simp [results, Try.results49, go_sem, r0, r1, r2, r3, r4, r5, r6, r7]) rfl ⟨?_, ?_⟩
      · rw [HG2.out, HB2.out]
      · exact ((((((((B1.out.setCell (by simp) _).setCell (by simp) _).setCell (by simp) _).setCell (by simp) _).setCell (by simp) _).setCell (by simp) _).setCell (by simp) _).setCell (by simp) _).setCell (by simp) _
    · have HB2 : Hid (goodsB s p = false) := by unfold Hid; rw [HB2.out]; exact decide_eq_false hc
      go_wp2
      refine bodyPost_ret (v := .tuple #[.agg #[.int .i64 p.bl, .int .i64 p.br, .int .i64 p.hl, .int .i64 p.hr, .int .i64 p.ll, .int .i64 p.lr, .int .i64 (b - a), .int .i64 (0)], .bool false]) (by simp [results, Try.results49, go_sem, r0, r1, r2, r3, r4, r5, r6, r7]) rfl ⟨?_, ?_⟩
      · rw [HG2.out, HB2.out]
      · exact ((((((((B1.out.setCell (by simp) _).setCell (by simp) _).setCell (by simp) _).setCell (by simp) _).setCell (by simp) _).setCell (by simp) _).setCell (by simp) _).setCell (by simp) _).setCell (by simp) _
  · have HG2 : Hid (goodsP p = ⟨p.bl, p.br, p.hl, p.hr, p.ll, p.lr, 0, a - b⟩) := by unfold Hid; rw [HG.out, if_neg hab, z0]
    have hw : IntKind.i64.wrap (a - b) = a - b := by rw [IntKind.wrap_i64]; omega
    have HB2 : Hid (goodsB s p = (decide (a - b ≤ s.g) && decide (0 < a + b))) := by unfold Hid; rw [HB.out, HG2.out]; simp
    clear HG HB z0 z1
    by_cases hc : a - b ≤ s.g
    · by_cases hd : 0 < a + b
      · have HB2 : Hid (goodsB s p = true) := by unfold Hid; rw [HB2.out, decide_eq_true hc, decide_eq_true hd]; rfl
        go_wp2
        refine bodyPost_ret (v := .tuple #[.agg #[.int .i64 p.bl, .int .i64 p.br, .int .i64 p.hl, .int .i64 p.hr, .int .i64 p.ll, .int .i64 p.lr, .int .i64 (0), .int .i64 (a - b)], .bool true]) (by simp [results, Try.results49, go_sem, r0, r1, r2, r3, r4, r5, r6, r7]) rfl ⟨?_, ?_⟩
        · rw [HG2.out, HB2.out]
        · exact ((((((((B1.out.setCell (by simp) _).setCell (by simp) _).setCell (by simp) _).setCell (by simp) _).setCell (by simp) _).setCell (by simp) _).setCell (by simp) _).setCell (by simp) _).setCell (by simp) _
      · have HB2 : Hid (goodsB s p = false) := by unfold Hid; rw [HB2.out, decide_eq_true hc, decide_eq_false hd]; rfl
        go_wp2
        refine bodyPost_ret (v := .tuple #[.agg #[.int .i64 p.bl, .int .i64 p.br, .int .i64 p.hl, .int .i64 p.hr, .int .i64 p.ll, .int .i64 p.lr, .int .i64 (0), .int .i64 (a - b)], .bool false]) (by simp [results, Try.results49, go_sem, r0, r1, r2, r3, r4, r5, r6, r7]; omega) rfl ⟨?_, ?_⟩
        · rw [HG2.out, HB2.out]
        · exact ((((((((B1.out.setCell (by simp) _).setCell (by simp) _).setCell (by simp) _).setCell (by simp) _).setCell (by simp) _).setCell (by simp) _).setCell (by simp) _).setCell (by simp) _).setCell (by simp) _
    · have HB2 : Hid (goodsB s p = false) := by unfold Hid; rw [HB2.out, decide_eq_false hc]; rfl
      go_wp2
      refine bodyPost_ret (v := .tuple #[.agg #[.int .i64 p.bl, .int .i64 p.br, .int .i64 p.hl, .int .i64 p.hr, .int .i64 p.ll, .int .i64 p.lr, .int .i64 (0), .int .i64 (a - b)], .bool false]) (by simp [results, Try.results49, go_sem, r0, r1, r2, r3, r4, r5, r6, r7]) rfl ⟨?_, ?_⟩
      · rw [HG2.out, HB2.out]
      · exact ((((((((B1.out.setCell (by simp) _).setCell (by simp) _).setCell (by simp) _).setCell (by simp) _).setCell (by simp) _).setCell (by simp) _).setCell (by simp) _).setCell (by simp) _).setCell (by simp) _
end Go.Proofs.Ytfabcaodiohmaaa
