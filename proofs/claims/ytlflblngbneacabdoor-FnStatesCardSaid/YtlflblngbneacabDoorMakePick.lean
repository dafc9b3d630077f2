/- The contracts of the model's drawing of a pick and of MakePick: it returns a valid pick, or the empty one. Conditions: a valid state, a code that reads as bytes. -/
import Derived.Test.YtlflblngbneacabDoorMakeState
import Derived.Test.YtlflblngbneacabDoorGFinds
import Derived.Deep.DeepCutAuto
namespace Go.Proofs.YtlflblngbneacabDoor
open Go.RowKit

set_option maxRecDepth 100000 in
set_option maxHeartbeats 3200000 in
theorem specGoodsW (s : SD) (p : PD) (hp : PickIn p) (h0 : p.gl = 0) (h1 : p.gr = 0) (w : World) :
    Calls Tryd.prog 121 #[stateV s, pickV p] w fun e w' => e = .returned (.tuple #[pickV (goodsP p), .bool (goodsB s p)]) ∧ Below w.heap.size w w' := by
  have hp' := hp
  unfold PickIn at hp'
  have hlr : leftP p = p.bl + p.hl + p.ll := by unfold leftP; omega
  have hrr : rightP p = p.br + p.hr + p.lr := by unfold rightP; omega
  have S := Lib.hid (fun W => specSides p hp W)
  have hl0 : 0 ≤ leftP p ∧ leftP p ≤ 39 := by omega
  have hr0 : 0 ≤ rightP p ∧ rightP p ≤ 39 := by omega
  have HG : Hid (goodsP p = if leftP p < rightP p then { p with gl := rightP p - leftP p } else { p with gr := leftP p - rightP p }) := rfl
  have HB : Hid (goodsB s p = (decide ((goodsP p).gl + (goodsP p).gr ≤ s.g) && decide (0 < leftP p + rightP p))) := rfl
  have HZ : Hid (p.gl = 0 ∧ p.gr = 0) := ⟨h0, h1⟩
  clear hlr hrr hp' hp h0 h1
  have P0 := StateAt.new w 49 s
  have B0 := alloc_below w (.cells #[.int .i64 s.b, .int .i64 s.h, .int .i64 s.l, .int .i64 s.g] 49)
  have s0 : (w.alloc (.cells #[.int .i64 s.b, .int .i64 s.h, .int .i64 s.l, .int .i64 s.g] 49)).heap.size = w.heap.size + 1 := by simp
  generalize hX0 : w.alloc (.cells #[.int .i64 s.b, .int .i64 s.h, .int .i64 s.l, .int .i64 s.g] 49) = X0 at P0 B0 s0
  have Q0 := EightVar.new X0 52 p
  have B1 := alloc_below X0 (.cells #[.int .i64 p.bl, .int .i64 p.br, .int .i64 p.hl, .int .i64 p.hr, .int .i64 p.ll, .int .i64 p.lr, .int .i64 p.gl, .int .i64 p.gr] 52)
  have s1 : (X0.alloc (.cells #[.int .i64 p.bl, .int .i64 p.br, .int .i64 p.hl, .int .i64 p.hr, .int .i64 p.ll, .int .i64 p.lr, .int .i64 p.gl, .int .i64 p.gr] 52)).heap.size = w.heap.size + 2 := by simp [s0]
  generalize hX1 : X0.alloc (.cells #[.int .i64 p.bl, .int .i64 p.br, .int .i64 p.hl, .int .i64 p.hr, .int .i64 p.ll, .int .i64 p.lr, .int .i64 p.gl, .int .i64 p.gr] 52) = X1 at Q0 B1 s1
  rw [s0] at Q0
  have Q2 := EightVar.new X1 52 zeroP
  have B2 := alloc_below X1 (.cells #[.int .i64 0, .int .i64 0, .int .i64 0, .int .i64 0, .int .i64 0, .int .i64 0, .int .i64 0, .int .i64 0] 52)
  have Q1 := Q0.below B2
  rw [s1] at Q2
  have BX := Lib.hid (below_up (below_up B0 B1) B2)
  have P1 := Lib.hid ((P0.below B1).below B2)
  have s2 : (X1.alloc (.cells #[.int .i64 0, .int .i64 0, .int .i64 0, .int .i64 0, .int .i64 0, .int .i64 0, .int .i64 0, .int .i64 0] 52)).heap.size = w.heap.size + 3 := by simp [s1]
  change EightVar (X1.alloc (.cells #[.int .i64 0, .int .i64 0, .int .i64 0, .int .i64 0, .int .i64 0, .int .i64 0, .int .i64 0, .int .i64 0] 52)) _ _ at Q2
  generalize hX2 : X1.alloc (.cells #[.int .i64 0, .int .i64 0, .int .i64 0, .int .i64 0, .int .i64 0, .int .i64 0, .int .i64 0, .int .i64 0] 52) = X2 at Q1 Q2 P1 BX s2
  have H1 := Lib.hid Q1
  have H2 := Lib.hid Q2
  clear P0 B0 B1 B2 Q0 Q1 Q2
  generalize leftP p = a at S hl0 HG HB
  generalize rightP p = b at S hr0 HG HB
  unfold stateV pickV
  unfold pickV at S
  obtain ⟨⟨q0, q1, q2, q3, q4, q5, q6, q7, -⟩, -⟩ := H1.out
  go_enter Tryd.func121, Tryd.ntmps121
  go_wp2_with fail
  refine (S.out _).mono ?_
  rintro e w1 ⟨rfl, b1⟩
  clear q0 q1 q2 q3 q4 q5 q6 q7
  have B1 := Lib.hid (below_up BX.out b1)
  obtain ⟨e0, e1, e2, e3, elt⟩ := P1.out.below b1
  obtain ⟨⟨q0, q1, q2, q3, q4, q5, q6, q7, ql⟩, f0, f1, f2, f3, f4, f5, f6, f7⟩ := H1.out.below b1
  obtain ⟨⟨r0, r1, r2, r3, r4, r5, r6, r7, rl⟩, g0, g1, g2, g3, g4, g5, g6, g7⟩ := H2.out.below b1
  clear b1
  obtain ⟨z0, z1⟩ := HZ.out
  rw [z0] at q6
  rw [z1] at q7
  by_cases hab : a < b
  · have HG2 : Hid (goodsP p = ⟨p.bl, p.br, p.hl, p.hr, p.ll, p.lr, b - a, 0⟩) := by unfold Hid; rw [HG.out, if_pos hab, z1]
    have hw : IntKind.i64.wrap (b - a) = b - a := by rw [IntKind.wrap_i64]; omega
    have hp : (0 : Int) < a + b := by omega
    have HB2 : Hid (goodsB s p = decide (b - a ≤ s.g)) := by unfold Hid; rw [HB.out, HG2.out, decide_eq_true hp]; simp
    clear HG HB z0 z1
    by_cases hc : b - a ≤ s.g
    · have HB2 : Hid (goodsB s p = true) := by unfold Hid; rw [HB2.out]; exact decide_eq_true hc
      go_wp2
      refine bodyPost_ret (v := .tuple #[.agg #[.int .i64 p.bl, .int .i64 p.br, .int .i64 p.hl, .int .i64 p.hr, .int .i64 p.ll, .int .i64 p.lr, .int .i64 (b - a), .int .i64 (0)], .bool true]) (by simp [results, Tryd.results121, go_sem, r0, r1, r2, r3, r4, r5, r6, r7]) rfl ⟨?_, ?_⟩
      · rw [HG2.out, HB2.out]
      · exact ((((((((B1.out.setCell (by simp) _).setCell (by simp) _).setCell (by simp) _).setCell (by simp) _).setCell (by simp) _).setCell (by simp) _).setCell (by simp) _).setCell (by simp) _).setCell (by simp) _
    · have HB2 : Hid (goodsB s p = false) := by unfold Hid; rw [HB2.out]; exact decide_eq_false hc
      go_wp2
      refine bodyPost_ret (v := .tuple #[.agg #[.int .i64 p.bl, .int .i64 p.br, .int .i64 p.hl, .int .i64 p.hr, .int .i64 p.ll, .int .i64 p.lr, .int .i64 (b - a), .int .i64 (0)], .bool false]) (by simp [results, Tryd.results121, go_sem, r0, r1, r2, r3, r4, r5, r6, r7]) rfl ⟨?_, ?_⟩
      · rw [HG2.out, HB2.out]
      · exact ((((((((B1.out.setCell (by simp) _).setCell (by simp) _).setCell (by simp) _).setCell (by simp) _).setCell (by simp) _).setCell (by simp) _).setCell (by simp) _).setCell (by simp) _).setCell (by simp) _
  · have HG2 : Hid (goodsP p = ⟨p.bl, p.br, p.hl, p.hr, p.ll, p.lr, 0, a - b⟩) := by unfold Hid; rw [HG.out, if_neg hab, z0]
    have hw : IntKind.i64.wrap (a - b) = a - b := by rw [IntKind.wrap_i64]; omega
    have HB2 : Hid (goodsB s p = (decide (a - b ≤ s.g) && decide (0 < a + b))) := by unfold Hid; rw [HB.out, HG2.out]; simp
    clear HG HB z0 z1
    by_cases hc : a - b ≤ s.g
    · by_cases hd : 0 < a + b
      · have HB2 : Hid (goodsB s p = true) := by unfold Hid; rw [HB2.out, decide_eq_true hc, decide_eq_true hd]; rfl
        go_wp2
        refine bodyPost_ret (v := .tuple #[.agg #[.int .i64 p.bl, .int .i64 p.br, .int .i64 p.hl, .int .i64 p.hr, .int .i64 p.ll, .int .i64 p.lr, .int .i64 (0), .int .i64 (a - b)], .bool true]) (by simp [results, Tryd.results121, go_sem, r0, r1, r2, r3, r4, r5, r6, r7]) rfl ⟨?_, ?_⟩
        · rw [HG2.out, HB2.out]
        · exact ((((((((B1.out.setCell (by simp) _).setCell (by simp) _).setCell (by simp) _).setCell (by simp) _).setCell (by simp) _).setCell (by simp) _).setCell (by simp) _).setCell (by simp) _).setCell (by simp) _
      · have HB2 : Hid (goodsB s p = false) := by unfold Hid; rw [HB2.out, decide_eq_true hc, decide_eq_false hd]; rfl
        go_wp2
        refine bodyPost_ret (v := .tuple #[.agg #[.int .i64 p.bl, .int .i64 p.br, .int .i64 p.hl, .int .i64 p.hr, .int .i64 p.ll, .int .i64 p.lr, .int .i64 (0), .int .i64 (a - b)], .bool false]) (by simp [results, Tryd.results121, go_sem, r0, r1, r2, r3, r4, r5, r6, r7]; omega) rfl ⟨?_, ?_⟩
        · rw [HG2.out, HB2.out]
        · exact ((((((((B1.out.setCell (by simp) _).setCell (by simp) _).setCell (by simp) _).setCell (by simp) _).setCell (by simp) _).setCell (by simp) _).setCell (by simp) _).setCell (by simp) _).setCell (by simp) _
    · have HB2 : Hid (goodsB s p = false) := by unfold Hid; rw [HB2.out, decide_eq_false hc]; rfl
      go_wp2
      refine bodyPost_ret (v := .tuple #[.agg #[.int .i64 p.bl, .int .i64 p.br, .int .i64 p.hl, .int .i64 p.hr, .int .i64 p.ll, .int .i64 p.lr, .int .i64 (0), .int .i64 (a - b)], .bool false]) (by simp [results, Tryd.results121, go_sem, r0, r1, r2, r3, r4, r5, r6, r7]) rfl ⟨?_, ?_⟩
      · rw [HG2.out, HB2.out]
      · exact ((((((((B1.out.setCell (by simp) _).setCell (by simp) _).setCell (by simp) _).setCell (by simp) _).setCell (by simp) _).setCell (by simp) _).setCell (by simp) _).setCell (by simp) _).setCell (by simp) _

/-- Five numbers lie in block d. -/
def Row5 (w : World) (d : Nat) : Prop := (∀ j : Nat, j < 5 → ∃ z, w.cell? ⟨d, j, none⟩ = some (.int .i64 z)) ∧ d < w.heap.size
theorem Row5.only {T : Nat → Prop} {w w' : World} {d : Nat} (h : Row5 w d) (ho : Only T w w') (hd : ¬ T d) : Row5 w' d := by
  refine ⟨fun j hj => ?_, Nat.lt_of_lt_of_le h.2 ho.size⟩
  obtain ⟨z, hz⟩ := h.1 j hj
  exact ⟨z, (World.cell?_of_block (a := ⟨d, j, none⟩) (ho.block d h.2 hd)).trans hz⟩
theorem EightVar.only {T : Nat → Prop} {w w' : World} {b : Nat} {p : PD} (h : EightVar w b p) (ho : Only T w w') (hb : ¬ T b) : EightVar w' b p := by
  have e := ho.block b h.1.lt hb
  obtain ⟨⟨e0, e1, e2, e3, e4, e5, e6, e7, hlt⟩, f0, f1, f2, f3, f4, f5, f6, f7⟩ := h
  refine ⟨⟨?_, ?_, ?_, ?_, ?_, ?_, ?_, ?_, Nat.lt_of_lt_of_le hlt ho.size⟩, ?_, ?_, ?_, ?_, ?_, ?_, ?_, ?_⟩
  · exact (World.cell?_of_block (a := ⟨b, 0, none⟩) e).trans e0
  · exact (World.cell?_of_block (a := ⟨b, 1, none⟩) e).trans e1
  · exact (World.cell?_of_block (a := ⟨b, 2, none⟩) e).trans e2
  · exact (World.cell?_of_block (a := ⟨b, 3, none⟩) e).trans e3
  · exact (World.cell?_of_block (a := ⟨b, 4, none⟩) e).trans e4
  · exact (World.cell?_of_block (a := ⟨b, 5, none⟩) e).trans e5
  · exact (World.cell?_of_block (a := ⟨b, 6, none⟩) e).trans e6
  · exact (World.cell?_of_block (a := ⟨b, 7, none⟩) e).trans e7
  · rw [World.frozen?_of_block (w := w) (a := ⟨b, 0, none⟩) e]; exact f0
  · rw [World.frozen?_of_block (w := w) (a := ⟨b, 1, none⟩) e]; exact f1
  · rw [World.frozen?_of_block (w := w) (a := ⟨b, 2, none⟩) e]; exact f2
  · rw [World.frozen?_of_block (w := w) (a := ⟨b, 3, none⟩) e]; exact f3
  · rw [World.frozen?_of_block (w := w) (a := ⟨b, 4, none⟩) e]; exact f4
  · rw [World.frozen?_of_block (w := w) (a := ⟨b, 5, none⟩) e]; exact f5
  · rw [World.frozen?_of_block (w := w) (a := ⟨b, 6, none⟩) e]; exact f6
  · rw [World.frozen?_of_block (w := w) (a := ⟨b, 7, none⟩) e]; exact f7
theorem StateAt.onlyC {T : Nat → Prop} {w w' : World} {b : Nat} {s : SD} (h : StateAt w b s) (ho : Only T w w') (hb : ¬ T b) : StateAt w' b s := by
  have e := ho.block b h.lt hb
  obtain ⟨e0, e1, e2, e3, hlt⟩ := h
  exact ⟨(World.cell?_of_block (a := ⟨b, 0, none⟩) e).trans e0, (World.cell?_of_block (a := ⟨b, 1, none⟩) e).trans e1, (World.cell?_of_block (a := ⟨b, 2, none⟩) e).trans e2, (World.cell?_of_block (a := ⟨b, 3, none⟩) e).trans e3, Nat.lt_of_lt_of_le hlt ho.size⟩
theorem only_cur {b : Nat} {w w' : World} (h : w.grownBy w' (some b)) : Only (fun k => k = b) w w' := (Only.of_grown h).mono fun k e => by simpa using e.symm

set_option maxHeartbeats 1600000 in
theorem pick5_any (W w : World) (b d : Nat) (a : Option Addr) (len cap : Nat) (hB : BytesAt W a len) (hC : CurOk W w b a len cap) (hl : len ≤ 1048576) (hR : Row5 w d) (hd : ¬ d = b) :
    Calls Tryd.prog 149 #[.pointer (some ⟨b, 0, none⟩), .slice (some ⟨d, 0, none⟩) 5 5] w fun e w' => ∃ x : Int, e = .returned (.int .i64 x) ∧ CurOk W w' b a len cap ∧ Only (fun k => k = b) w w' := by
  have C := Lib.hid (below_any W w b a len cap 5 hB hC hl (by omega) (by omega))
  have HR := Lib.hid hR
  have HD := Lib.hid hd
  clear hB hC hR hd hl
  go_enter Tryd.func149, Tryd.ntmps149
  go_wp2_with fail
  refine C.out.mono ?_
  rintro e w2 ⟨x, rfl, x0, x1, hc, hg⟩
  have K2 := Lib.hid hc
  have O2 := Lib.hid (only_cur hg)
  have R2 := HR.out.only O2.out HD.out
  obtain ⟨j, rfl⟩ := Int.eq_ofNat_of_zero_le x0
  obtain ⟨z, hz⟩ := R2.1 j (by omega)
  clear hc hg R2 C
  go_wp2
  go_ret
  exact ⟨z, rfl, K2.out, O2.out⟩

set_option maxRecDepth 100000 in
set_option maxHeartbeats 3200000 in
theorem near_any (W w : World) (b : Nat) (a : Option Addr) (len cap : Nat) (hB : BytesAt W a len) (hC : CurOk W w b a len cap) (hl : len ≤ 1048576) :
    Calls Tryd.prog 122 #[.pointer (some ⟨b, 0, none⟩), .int .i64 0, .int .i64 2] w fun e w' => ∃ x : Int, e = .returned (.int .i64 x) ∧ CurOk W w' b a len cap ∧ Only (fun k => k = b) w w' := by
  have C := Lib.hid (below_any W w b a len cap 12 hB hC hl (by omega) (by omega))
  have C3 := Lib.hid (fun V h => below_any W V b a len cap 3 hB h hl (by omega) (by omega))
  have C5 := Lib.hid (fun V d h hR hd => pick5_any W V b d a len cap hB h hl hR hd)
  have HBW := Lib.hid hC.lt
  clear hB hC hl
  go_enter Tryd.func122, Tryd.ntmps122
  go_wp2_with fail
  refine C.out.mono ?_
  rintro e w2 ⟨k, rfl, k0, k1, hc, hg⟩
  have K2 := Lib.hid hc
  have O2 := Lib.hid (only_cur hg)
  clear hc hg C
  have hk : k = 0 ∨ k = 1 ∨ k = 2 ∨ k = 3 ∨ k = 4 ∨ 5 ≤ k := by omega
  rcases hk with rfl | rfl | rfl | rfl | rfl | hk
  · go_wp2
    go_ret
    exact ⟨_, rfl, K2.out, O2.out⟩
  · go_wp2
    go_ret
    exact ⟨_, rfl, K2.out, O2.out⟩
  · go_wp2
    go_ret
    exact ⟨_, rfl, K2.out, O2.out⟩
  · go_wp2
    go_ret
    exact ⟨_, rfl, K2.out, O2.out⟩
  · have B3 := alloc_below w2 (.cells #[.int .i64 9223372036854775807, .int .i64 (-9223372036854775808), .int .i64 (-1), .int .i64 0, .int .i64 1000000000] 3)
    have R3 : Hid (Row5 (w2.alloc (.cells #[.int .i64 9223372036854775807, .int .i64 (-9223372036854775808), .int .i64 (-1), .int .i64 0, .int .i64 1000000000] 3)) w2.heap.size) := by
      refine ⟨fun j hj => ?_, by simp⟩
      have := lit_cells w2 w2.heap.size rfl [9223372036854775807, -9223372036854775808, -1, 0, 1000000000] (by simp) j (by simpa using hj)
      exact ⟨_, this⟩
    have K3 := Lib.hid (K2.out.only (Only.fresh (T := fun _ => False) B3) (fun _ h => h.elim))
    have O3 := Lib.hid (O2.out.trans (Only.fresh B3))
    have HNE : Hid (¬ w2.heap.size = b) := by unfold Hid; have := K2.out.lt; omega
    clear B3
    generalize hX3 : w2.alloc (.cells #[.int .i64 9223372036854775807, .int .i64 (-9223372036854775808), .int .i64 (-1), .int .i64 0, .int .i64 1000000000] 3) = X3 at R3 K3 O3
    go_wp2_with fail
    clear hX3
    refine (C5.out _ _ K3.out R3.out HNE.out).mono ?_
    rintro e w4 ⟨x, rfl, hc, ho⟩
    have K4 := Lib.hid hc
    have O4 := Lib.hid (O3.out.trans ho)
    clear hc ho
    go_wp2
    go_ret
    exact ⟨_, rfl, K4.out, O4.out⟩
  · have n0 : (k == 0) = false := beq_eq_false_iff_ne.2 (by omega)
    have n1 : (k == 1) = false := beq_eq_false_iff_ne.2 (by omega)
    have n2 : (k == 2) = false := beq_eq_false_iff_ne.2 (by omega)
    have n3 : (k == 3) = false := beq_eq_false_iff_ne.2 (by omega)
    have n4 : (k == 4) = false := beq_eq_false_iff_ne.2 (by omega)
    go_wp2_with fail
    refine (C3.out _ K2.out).mono ?_
    rintro e w4 ⟨x, rfl, x0, x1, hc, hg⟩
    have K4 := Lib.hid hc
    have O4 := Lib.hid (O2.out.trans (only_cur hg))
    clear hc hg
    go_wp2
    go_ret
    exact ⟨_, rfl, K4.out, O4.out⟩

theorem StateAt.setFarS {w : World} {b c : Nat} {s : SD} (h : StateAt w b s) (hn : b < c) (j : Nat) (v : Value) : StateAt (w.setCell ⟨c, j, none⟩ v) b s := by
  obtain ⟨e0, e1, e2, e3, hlt⟩ := h
  refine ⟨?_, ?_, ?_, ?_, by simp only [setCell_size]; exact hlt⟩
  all_goals (rw [World.cell?_setCell_far _ _ _ _ (Nat.ne_of_gt hn)]; assumption)
/-- What is kept of a pick that is being drawn. -/
def PDraw (p : PD) : Prop := PickIn p ∧ p.gl = 0 ∧ p.gr = 0
theorem EightVar.setFar {w : World} {b c : Nat} {p : PD} (h : EightVar w b p) (hn : c ≠ b) (j : Nat) (v : Value) : EightVar (w.setCell ⟨c, j, none⟩ v) b p := by
  obtain ⟨⟨e0, e1, e2, e3, e4, e5, e6, e7, hlt⟩, f0, f1, f2, f3, f4, f5, f6, f7⟩ := h
  refine ⟨⟨?_, ?_, ?_, ?_, ?_, ?_, ?_, ?_, by simp only [setCell_size]; exact hlt⟩, ?_, ?_, ?_, ?_, ?_, ?_, ?_, ?_⟩
  all_goals first | (rw [World.cell?_setCell_far _ _ _ _ hn]; assumption) | (simp only [World.frozen?_setCell]; assumption)
theorem EightVar.cells {w : World} {b : Nat} {p : PD} (h : EightVar w b p) : Cells w b 8 (fun o => if o = 0 then .int .i64 p.bl else if o = 1 then .int .i64 p.br else if o = 2 then .int .i64 p.hl else if o = 3 then .int .i64 p.hr else if o = 4 then .int .i64 p.ll else if o = 5 then .int .i64 p.lr else if o = 6 then .int .i64 p.gl else .int .i64 p.gr) := by
  obtain ⟨⟨e0, e1, e2, e3, e4, e5, e6, e7, hlt⟩, f0, f1, f2, f3, f4, f5, f6, f7⟩ := h
  refine ⟨hlt, fun o ho => ?_⟩
  rcases (show o = 0 ∨ o = 1 ∨ o = 2 ∨ o = 3 ∨ o = 4 ∨ o = 5 ∨ o = 6 ∨ o = 7 by omega) with rfl | rfl | rfl | rfl | rfl | rfl | rfl | rfl
  · exact ⟨e0, f0⟩
  · exact ⟨e1, f1⟩
  · exact ⟨e2, f2⟩
  · exact ⟨e3, f3⟩
  · exact ⟨e4, f4⟩
  · exact ⟨e5, f5⟩
  · exact ⟨e6, f6⟩
  · exact ⟨e7, f7⟩
theorem eight_of {w : World} {b : Nat} {f : Nat → Value} (h : Cells w b 8 f) {p : PD} (e0 : f 0 = .int .i64 p.bl) (e1 : f 1 = .int .i64 p.br) (e2 : f 2 = .int .i64 p.hl) (e3 : f 3 = .int .i64 p.hr) (e4 : f 4 = .int .i64 p.ll) (e5 : f 5 = .int .i64 p.lr) (e6 : f 6 = .int .i64 p.gl) (e7 : f 7 = .int .i64 p.gr) : EightVar w b p := by
  have k := fun o ho => h.2 o ho
  refine ⟨⟨?_, ?_, ?_, ?_, ?_, ?_, ?_, ?_, h.1⟩, (k 0 (by omega)).2, (k 1 (by omega)).2, (k 2 (by omega)).2, (k 3 (by omega)).2, (k 4 (by omega)).2, (k 5 (by omega)).2, (k 6 (by omega)).2, (k 7 (by omega)).2⟩
  · rw [(k 0 (by omega)).1, e0]
  · rw [(k 1 (by omega)).1, e1]
  · rw [(k 2 (by omega)).1, e2]
  · rw [(k 3 (by omega)).1, e3]
  · rw [(k 4 (by omega)).1, e4]
  · rw [(k 5 (by omega)).1, e5]
  · rw [(k 6 (by omega)).1, e6]
  · rw [(k 7 (by omega)).1, e7]
/-- Eight cells written one behind another. -/
def set8s (w : World) (b : Nat) (p : PD) : World :=
  (((((((w.setCell ⟨b, 0, none⟩ (.int .i64 p.bl)).setCell ⟨b, 1, none⟩ (.int .i64 p.br)).setCell ⟨b, 2, none⟩ (.int .i64 p.hl)).setCell ⟨b, 3, none⟩ (.int .i64 p.hr)).setCell ⟨b, 4, none⟩ (.int .i64 p.ll)).setCell ⟨b, 5, none⟩ (.int .i64 p.lr)).setCell ⟨b, 6, none⟩ (.int .i64 p.gl)).setCell ⟨b, 7, none⟩ (.int .i64 p.gr)
theorem EightVar.set8s {w : World} {b : Nat} {p : PD} (h : EightVar w b p) (q : PD) : EightVar (set8s w b q) b q :=
  eight_of ((((((((h.cells.set 0 (by omega) (.int .i64 q.bl)).set 1 (by omega) (.int .i64 q.br)).set 2 (by omega) (.int .i64 q.hl)).set 3 (by omega) (.int .i64 q.hr)).set 4 (by omega) (.int .i64 q.ll)).set 5 (by omega) (.int .i64 q.lr)).set 6 (by omega) (.int .i64 q.gl)).set 7 (by omega) (.int .i64 q.gr)) rfl rfl rfl rfl rfl rfl rfl rfl
theorem EightVar.same {w : World} {b : Nat} {p : PD} (h : EightVar w b p) : EightVar (((w.setCell ⟨b, 1, none⟩ (.int .i64 p.bl)).setCell ⟨b, 3, none⟩ (.int .i64 p.hl)).setCell ⟨b, 5, none⟩ (.int .i64 p.ll)) b ⟨p.bl, p.bl, p.hl, p.hl, p.ll, p.ll, p.gl, p.gr⟩ :=
  eight_of (((h.cells.set 1 (by omega) (.int .i64 p.bl)).set 3 (by omega) (.int .i64 p.hl)).set 5 (by omega) (.int .i64 p.ll)) rfl rfl rfl rfl rfl rfl rfl rfl
theorem EightVar.good {w : World} {b : Nat} {p : PD} (h : EightVar w b p) (x : Int) : EightVar (w.setCell ⟨b, 6, none⟩ (.int .i64 x)) b { p with gl := x } :=
  eight_of (h.cells.set 6 (by omega) (.int .i64 x)) rfl rfl rfl rfl rfl rfl rfl rfl
theorem EightVar.far8 {w : World} {b c : Nat} {p : PD} (h : EightVar w b p) (hn : c ≠ b) (q : PD) : EightVar (Go.Proofs.YtlflblngbneacabDoor.set8s w c q) b p :=
  (((((((h.setFar hn 0 _).setFar hn 1 _).setFar hn 2 _).setFar hn 3 _).setFar hn 4 _).setFar hn 5 _).setFar hn 6 _).setFar hn 7 _
theorem only_set8s {T : Nat → Prop} {w w' : World} (h : Only T w w') {c : Nat} (hc : w.heap.size ≤ c) (q : PD) : Only T w (set8s w' c q) :=
  (((((((h.setNew hc 0 _).setNew hc 1 _).setNew hc 2 _).setNew hc 3 _).setNew hc 4 _).setNew hc 5 _).setNew hc 6 _).setNew hc 7 _
theorem below_set8s {B : Nat} {w w' : World} (h : Below B w w') {c : Nat} (hc : B ≤ c) (q : PD) : Below B w (set8s w' c q) :=
  (((((((h.setCell (p := ⟨c, 0, none⟩) hc _).setCell (p := ⟨c, 1, none⟩) hc _).setCell (p := ⟨c, 2, none⟩) hc _).setCell (p := ⟨c, 3, none⟩) hc _).setCell (p := ⟨c, 4, none⟩) hc _).setCell (p := ⟨c, 5, none⟩) hc _).setCell (p := ⟨c, 6, none⟩) hc _).setCell (p := ⟨c, 7, none⟩) hc _
theorem Only.of_setC (w : World) (b j : Nat) (v : Value) : Only (fun k => k = b) w (w.setCell ⟨b, j, none⟩ v) :=
  ⟨rfl, rfl, rfl, by simp only [setCell_size]; exact Nat.le_refl _, fun k _ hk => Below.heap_setCell _ _ _ k hk⟩
theorem CurOk.far {W w : World} {b c : Nat} {a : Option Addr} {len cap : Nat} (h : CurOk W w b a len cap) (hc : W.heap.size ≤ c) (hn : c ≠ b) (j : Nat) (v : Value) : CurOk W (w.setCell ⟨c, j, none⟩ v) b a len cap :=
  h.only (Only.of_setC w c j v) (fun k e => by subst e; exact ⟨hc, hn⟩)
theorem CurOk.far8 {W w : World} {b c : Nat} {a : Option Addr} {len cap : Nat} (h : CurOk W w b a len cap) (hc : W.heap.size ≤ c) (hn : c ≠ b) (q : PD) : CurOk W (set8s w c q) b a len cap :=
  (((((((h.far hc hn 0 _).far hc hn 1 _).far hc hn 2 _).far hc hn 3 _).far hc hn 4 _).far hc hn 5 _).far hc hn 6 _).far hc hn 7 _

set_option maxRecDepth 100000 in
set_option maxHeartbeats 6400000 in
theorem pickDraw (W w : World) (b : Nat) (a : Option Addr) (len cap : Nat) (s : SD) (hB : BytesAt W a len) (hC : CurOk W w b a len cap) (hl : len ≤ 1048576) (hs : 0 ≤ s.b ∧ s.b ≤ 13) (hWw : W.heap.size ≤ w.heap.size) :
    Calls Tryd.prog 80 #[.pointer (some ⟨b, 0, none⟩), stateV s] w fun e w' => ∃ p, e = .returned (pickV p) ∧ CurOk W w' b a len cap ∧ Only (fun k => k = b) w w' := by
  have hbw := hC.lt
  have P0 := StateAt.new w 49 s
  have B0 := alloc_below w (.cells #[.int .i64 s.b, .int .i64 s.h, .int .i64 s.l, .int .i64 s.g] 49)
  have s0 : (w.alloc (.cells #[.int .i64 s.b, .int .i64 s.h, .int .i64 s.l, .int .i64 s.g] 49)).heap.size = w.heap.size + 1 := by simp
  have K0 := hC.only (Only.fresh (T := fun _ => False) B0) (fun _ h => h.elim)
  have O0 := Only.fresh (T := fun k => k = b) B0
  generalize hX0 : w.alloc (.cells #[.int .i64 s.b, .int .i64 s.h, .int .i64 s.l, .int .i64 s.g] 49) = X0 at P0 B0 s0 K0 O0
  have R0 := EightVar.new X0 52 zeroP
  have B1 := alloc_below X0 (.cells #[.int .i64 0, .int .i64 0, .int .i64 0, .int .i64 0, .int .i64 0, .int .i64 0, .int .i64 0, .int .i64 0] 52)
  rw [s0] at R0
  change EightVar (X0.alloc (.cells #[.int .i64 0, .int .i64 0, .int .i64 0, .int .i64 0, .int .i64 0, .int .i64 0, .int .i64 0, .int .i64 0] 52)) _ _ at R0
  have K1 := Lib.hid (K0.only (Only.fresh (T := fun _ => False) B1) (fun _ h => h.elim))
  have O1 := Lib.hid (O0.trans (Only.fresh (T := fun k => k = b) B1))
  have P1 := Lib.hid (P0.below B1)
  generalize hX1 : X0.alloc (.cells #[.int .i64 0, .int .i64 0, .int .i64 0, .int .i64 0, .int .i64 0, .int .i64 0, .int .i64 0, .int .i64 0] 52) = X1 at R0 B1 K1 O1 P1
  have R1 := Lib.hid R0
  have HN1 : Hid (¬ w.heap.size = b) := by unfold Hid; omega
  have HN2 : Hid (¬ w.heap.size + 1 = b) := by unfold Hid; omega
  have C2 := Lib.hid (fun V h => below_any W V b a len cap 2 hB h hl (by omega) (by omega))
  have CO2 := Lib.hid (fun V h => once_any W V b a len cap 2 hB h hl (by omega) (by omega))
  have CO4 := Lib.hid (fun V h => once_any W V b a len cap 4 hB h hl (by omega) (by omega))
  have CO10 := Lib.hid (fun V h => once_any W V b a len cap 10 hB h hl (by omega) (by omega))
  have CN := Lib.hid (fun V h => near_any W V b a len cap hB h hl)
  have CG := Lib.hid (fun p hp h0 h1 V => specGoodsW s p hp h0 h1 V)
  have HWw := Lib.hid hWw
  replace hB := Lib.hid hB
  replace hl := Lib.hid hl
  obtain ⟨hs0, hs1⟩ := hs
  have vb : IntKind.i64.wrap (s.b + 1) = s.b + 1 := by rw [IntKind.wrap_i64]; omega
  clear P0 B0 R0 B1 K0 O0 hC hbw
  unfold stateV at CG ⊢
  go_enter Tryd.func80, Tryd.ntmps80
  go_upto_region 1 with fail
  go_cut [5] (fun v5 wx => ∃ d, v5 = .pointer (some ⟨d, 0, none⟩) ∧ Hid (¬ d = b) ∧ Hid (w.heap.size + 1 < d) ∧ ∃ (p : PD), Hid (PDraw p) ∧ Hid (EightVar wx d p) ∧ Hid (EightVar wx (w.heap.size + 1) zeroP) ∧ Hid (StateAt wx w.heap.size s) ∧ Hid (CurOk W wx b a len cap) ∧ Hid (Only (fun k => k = b) w wx))
  case first =>
    by_cases h9 : 9 < s.b
    · have C9 := Lib.hid (fun V h => below_any W V b a len cap (10) hB.out h hl.out (by omega) (by omega))
      obtain ⟨e0, -⟩ := P1.out
      go_wp2_with fail
      clear e0 hX0 hX1
      refine (C9.out _ K1.out).mono ?_
      rintro e w2 ⟨x, rfl, x0, x1, hc, hg⟩
      have T2 := only_cur hg
      have P2 := Lib.hid (P1.out.onlyC T2 HN1.out)
      have R2 := Lib.hid (R1.out.only T2 HN2.out)
      have O2 := Lib.hid (O1.out.trans T2)
      have K2 := Lib.hid hc
      clear hc hg T2 P1 R1 O1 K1
      go_wp2_with fail
      refine (C2.out _ K2.out).mono ?_
      rintro e w3 ⟨y, rfl, y0, y1, hc, hg⟩
      have T2 := only_cur hg
      have P3 := Lib.hid (P2.out.onlyC T2 HN1.out)
      have R3 := Lib.hid (R2.out.only T2 HN2.out)
      have O3 := Lib.hid (O2.out.trans T2)
      have K3 := Lib.hid hc
      clear hc hg T2 P2 R2 O2 K2
      go_wp2_with fail
      refine (C2.out _ K3.out).mono ?_
      rintro e w4 ⟨z, rfl, z0, z1, hc, hg⟩
      have T2 := only_cur hg
      have P4 := Lib.hid (P3.out.onlyC T2 HN1.out)
      have R4 := Lib.hid (R3.out.only T2 HN2.out)
      have O4 := Lib.hid (O3.out.trans T2)
      have K4 := Lib.hid hc
      clear hc hg T2 P3 R3 O3 K3
      go_wp2_with fail
      refine (C2.out _ K4.out).mono ?_
      rintro e w5 ⟨u, rfl, u0, u1, hc, hg⟩
      have T2 := only_cur hg
      have P5 := Lib.hid (P4.out.onlyC T2 HN1.out)
      have R5 := Lib.hid (R4.out.only T2 HN2.out)
      have O5 := Lib.hid (O4.out.trans T2)
      have K5 := Lib.hid hc
      clear hc hg T2 P4 R4 O4 K4
      go_wp2_with fail
      refine (C2.out _ K5.out).mono ?_
      rintro e w6 ⟨v, rfl, v0, v1, hc, hg⟩
      have T2 := only_cur hg
      have P6 := Lib.hid (P5.out.onlyC T2 HN1.out)
      have R6 := Lib.hid (R5.out.only T2 HN2.out)
      have O6 := Lib.hid (O5.out.trans T2)
      have K6 := Lib.hid hc
      clear hc hg T2 P5 R5 O5 K5
      have B7 := alloc_below w6 (.cells #[.int .i64 x, .int .i64 0, .int .i64 y, .int .i64 u, .int .i64 z, .int .i64 v, .int .i64 0, .int .i64 0] 52)
      have E7 : EightVar (w6.alloc (.cells #[.int .i64 x, .int .i64 0, .int .i64 y, .int .i64 u, .int .i64 z, .int .i64 v, .int .i64 0, .int .i64 0] 52)) w6.heap.size ⟨x, 0, y, u, z, v, 0, 0⟩ := EightVar.new w6 52 ⟨x, 0, y, u, z, v, 0, 0⟩
      have P7 := Lib.hid (P6.out.below B7)
      have R7 := Lib.hid (R6.out.below B7)
      have O7 := Lib.hid (O6.out.trans (Only.fresh (T := fun k => k = b) B7))
      have K7 := Lib.hid (K6.out.only (Only.fresh (T := fun _ => False) B7) (fun _ h => h.elim))
      have L7 : Hid (w.heap.size + 1 < w6.heap.size) := R6.out.1.lt
      have N7 : Hid (¬ w6.heap.size = b) := by unfold Hid; have := K6.out.lt; omega
      have Q7 : Hid (PDraw ⟨x, 0, y, u, z, v, 0, 0⟩) := by unfold Hid PDraw PickIn; dsimp only; omega
      go_wp2
      go_meet
      case rel => exact ⟨w6.heap.size, rfl, N7, L7, _, Q7, Lib.hid E7, R7, P7, K7, O7⟩
    · by_cases hb : 0 < s.b
      · have C9 := Lib.hid (fun V h => below_any W V b a len cap (s.b + 1) hB.out h hl.out (by omega) (by omega))
        obtain ⟨e0, -⟩ := P1.out
        go_wp2_with fail
        clear e0 hX0 hX1
        refine (C9.out _ K1.out).mono ?_
        rintro e w2 ⟨x, rfl, x0, x1, hc, hg⟩
        have T2 := only_cur hg
        have P2 := Lib.hid (P1.out.onlyC T2 HN1.out)
        have R2 := Lib.hid (R1.out.only T2 HN2.out)
        have O2 := Lib.hid (O1.out.trans T2)
        have K2 := Lib.hid hc
        clear hc hg T2 P1 R1 O1 K1
        go_wp2_with fail
        refine (C2.out _ K2.out).mono ?_
        rintro e w3 ⟨y, rfl, y0, y1, hc, hg⟩
        have T2 := only_cur hg
        have P3 := Lib.hid (P2.out.onlyC T2 HN1.out)
        have R3 := Lib.hid (R2.out.only T2 HN2.out)
        have O3 := Lib.hid (O2.out.trans T2)
        have K3 := Lib.hid hc
        clear hc hg T2 P2 R2 O2 K2
        go_wp2_with fail
        refine (C2.out _ K3.out).mono ?_
        rintro e w4 ⟨z, rfl, z0, z1, hc, hg⟩
        have T2 := only_cur hg
        have P4 := Lib.hid (P3.out.onlyC T2 HN1.out)
        have R4 := Lib.hid (R3.out.only T2 HN2.out)
        have O4 := Lib.hid (O3.out.trans T2)
        have K4 := Lib.hid hc
        clear hc hg T2 P3 R3 O3 K3
        go_wp2_with fail
        refine (C2.out _ K4.out).mono ?_
        rintro e w5 ⟨u, rfl, u0, u1, hc, hg⟩
        have T2 := only_cur hg
        have P5 := Lib.hid (P4.out.onlyC T2 HN1.out)
        have R5 := Lib.hid (R4.out.only T2 HN2.out)
        have O5 := Lib.hid (O4.out.trans T2)
        have K5 := Lib.hid hc
        clear hc hg T2 P4 R4 O4 K4
        go_wp2_with fail
        refine (C2.out _ K5.out).mono ?_
        rintro e w6 ⟨v, rfl, v0, v1, hc, hg⟩
        have T2 := only_cur hg
        have P6 := Lib.hid (P5.out.onlyC T2 HN1.out)
        have R6 := Lib.hid (R5.out.only T2 HN2.out)
        have O6 := Lib.hid (O5.out.trans T2)
        have K6 := Lib.hid hc
        clear hc hg T2 P5 R5 O5 K5
        have B7 := alloc_below w6 (.cells #[.int .i64 x, .int .i64 0, .int .i64 y, .int .i64 u, .int .i64 z, .int .i64 v, .int .i64 0, .int .i64 0] 52)
        have E7 : EightVar (w6.alloc (.cells #[.int .i64 x, .int .i64 0, .int .i64 y, .int .i64 u, .int .i64 z, .int .i64 v, .int .i64 0, .int .i64 0] 52)) w6.heap.size ⟨x, 0, y, u, z, v, 0, 0⟩ := EightVar.new w6 52 ⟨x, 0, y, u, z, v, 0, 0⟩
        have P7 := Lib.hid (P6.out.below B7)
        have R7 := Lib.hid (R6.out.below B7)
        have O7 := Lib.hid (O6.out.trans (Only.fresh (T := fun k => k = b) B7))
        have K7 := Lib.hid (K6.out.only (Only.fresh (T := fun _ => False) B7) (fun _ h => h.elim))
        have L7 : Hid (w.heap.size + 1 < w6.heap.size) := R6.out.1.lt
        have N7 : Hid (¬ w6.heap.size = b) := by unfold Hid; have := K6.out.lt; omega
        have Q7 : Hid (PDraw ⟨x, 0, y, u, z, v, 0, 0⟩) := by unfold Hid PDraw PickIn; dsimp only; omega
        go_wp2
        go_meet
        case rel => exact ⟨w6.heap.size, rfl, N7, L7, _, Q7, Lib.hid E7, R7, P7, K7, O7⟩
      · have hc0 : s.b ≤ 0 := by omega
        have C9 := Lib.hid (fun V h => below_any W V b a len cap (1) hB.out h hl.out (by omega) (by omega))
        obtain ⟨e0, -⟩ := P1.out
        go_wp2_with fail
        clear e0 hX0 hX1
        refine (C9.out _ K1.out).mono ?_
        rintro e w2 ⟨x, rfl, x0, x1, hc, hg⟩
        have T2 := only_cur hg
        have P2 := Lib.hid (P1.out.onlyC T2 HN1.out)
        have R2 := Lib.hid (R1.out.only T2 HN2.out)
        have O2 := Lib.hid (O1.out.trans T2)
        have K2 := Lib.hid hc
        clear hc hg T2 P1 R1 O1 K1
        go_wp2_with fail
        refine (C2.out _ K2.out).mono ?_
        rintro e w3 ⟨y, rfl, y0, y1, hc, hg⟩
        have T2 := only_cur hg
        have P3 := Lib.hid (P2.out.onlyC T2 HN1.out)
        have R3 := Lib.hid (R2.out.only T2 HN2.out)
        have O3 := Lib.hid (O2.out.trans T2)
        have K3 := Lib.hid hc
        clear hc hg T2 P2 R2 O2 K2
        go_wp2_with fail
        refine (C2.out _ K3.out).mono ?_
        rintro e w4 ⟨z, rfl, z0, z1, hc, hg⟩
        have T2 := only_cur hg
        have P4 := Lib.hid (P3.out.onlyC T2 HN1.out)
        have R4 := Lib.hid (R3.out.only T2 HN2.out)
        have O4 := Lib.hid (O3.out.trans T2)
        have K4 := Lib.hid hc
        clear hc hg T2 P3 R3 O3 K3
        go_wp2_with fail
        refine (C2.out _ K4.out).mono ?_
        rintro e w5 ⟨u, rfl, u0, u1, hc, hg⟩
        have T2 := only_cur hg
        have P5 := Lib.hid (P4.out.onlyC T2 HN1.out)
        have R5 := Lib.hid (R4.out.only T2 HN2.out)
        have O5 := Lib.hid (O4.out.trans T2)
        have K5 := Lib.hid hc
        clear hc hg T2 P4 R4 O4 K4
        go_wp2_with fail
        refine (C2.out _ K5.out).mono ?_
        rintro e w6 ⟨v, rfl, v0, v1, hc, hg⟩
        have T2 := only_cur hg
        have P6 := Lib.hid (P5.out.onlyC T2 HN1.out)
        have R6 := Lib.hid (R5.out.only T2 HN2.out)
        have O6 := Lib.hid (O5.out.trans T2)
        have K6 := Lib.hid hc
        clear hc hg T2 P5 R5 O5 K5
        have B7 := alloc_below w6 (.cells #[.int .i64 x, .int .i64 0, .int .i64 y, .int .i64 u, .int .i64 z, .int .i64 v, .int .i64 0, .int .i64 0] 52)
        have E7 : EightVar (w6.alloc (.cells #[.int .i64 x, .int .i64 0, .int .i64 y, .int .i64 u, .int .i64 z, .int .i64 v, .int .i64 0, .int .i64 0] 52)) w6.heap.size ⟨x, 0, y, u, z, v, 0, 0⟩ := EightVar.new w6 52 ⟨x, 0, y, u, z, v, 0, 0⟩
        have P7 := Lib.hid (P6.out.below B7)
        have R7 := Lib.hid (R6.out.below B7)
        have O7 := Lib.hid (O6.out.trans (Only.fresh (T := fun k => k = b) B7))
        have K7 := Lib.hid (K6.out.only (Only.fresh (T := fun _ => False) B7) (fun _ h => h.elim))
        have L7 : Hid (w.heap.size + 1 < w6.heap.size) := R6.out.1.lt
        have N7 : Hid (¬ w6.heap.size = b) := by unfold Hid; have := K6.out.lt; omega
        have Q7 : Hid (PDraw ⟨x, 0, y, u, z, v, 0, 0⟩) := by unfold Hid PDraw PickIn; dsimp only; omega
        go_wp2
        go_meet
        case rel => exact ⟨w6.heap.size, rfl, N7, L7, _, Q7, Lib.hid E7, R7, P7, K7, O7⟩
  case rest =>
    clear P1 R1 O1 K1 vb hX0 hX1 s0 C2
    obtain ⟨d, rfl, HDN, HDL, p, Q1, E1, R1, P1, K1, O1⟩ := hcut
    have HDW : Hid (W.heap.size ≤ d) := by unfold Hid; have := HWw.out; have := HDL.out; omega
    have HDw : Hid (w.heap.size ≤ d) := by unfold Hid; have := HDL.out; omega
    have HDR : Hid (d ≠ w.heap.size + 1) := by unfold Hid; have := HDL.out; omega
    have HDS : Hid (w.heap.size < d) := by unfold Hid; have := HDL.out; omega
    go_wp2_with fail
    refine (CO2.out _ K1.out).mono ?_
    rintro e w2 ⟨t, rfl, hc, hg⟩
    have T2 := only_cur hg
    have E2 := Lib.hid (E1.out.only T2 HDN.out)
    have R2 := Lib.hid (R1.out.only T2 HN2.out)
    have P2 := Lib.hid (P1.out.onlyC T2 HN1.out)
    have O2 := Lib.hid (O1.out.trans T2)
    have K2 := Lib.hid hc
    clear hc hg T2 E1 R1 P1 O1 K1
    go_upto_if 23 with fail
    go_cut [] (fun wx => ∃ (p : PD), Hid (PDraw p) ∧ Hid (EightVar wx d p) ∧ Hid (EightVar wx (w.heap.size + 1) zeroP) ∧ Hid (StateAt wx w.heap.size s) ∧ Hid (CurOk W wx b a len cap) ∧ Hid (Only (fun k => k = b) w wx))
    case first =>
      cases t with
      | false =>
        go_wp2
        go_meet
        case rel => exact ⟨p, Q1, E2, R2, P2, K2, O2⟩
      | true =>
        obtain ⟨⟨q0, q1, q2, q3, q4, q5, q6, q7, -⟩, f0, f1, f2, f3, f4, f5, f6, f7⟩ := E2.out
        go_wp2
        go_meet
        case rel =>
          refine ⟨⟨p.bl, p.bl, p.hl, p.hl, p.ll, p.ll, p.gl, p.gr⟩, ?_, Lib.hid E2.out.same, Lib.hid (((R2.out.setFar HDR.out 1 _).setFar HDR.out 3 _).setFar HDR.out 5 _), Lib.hid (((P2.out.setFarS HDS.out 1 _).setFarS HDS.out 3 _).setFarS HDS.out 5 _), Lib.hid (((K2.out.far HDW.out HDN.out 1 _).far HDW.out HDN.out 3 _).far HDW.out HDN.out 5 _), Lib.hid (((O2.out.setNew HDw.out 1 _).setNew HDw.out 3 _).setNew HDw.out 5 _)⟩
          have := Q1.out
          unfold Hid PDraw PickIn at *
          dsimp only
          omega
    case rest =>
      clear Q1 E2 R2 P2 K2 O2
      obtain ⟨p, Q1, E1, R1, P1, K1, O1⟩ := hcut
      go_wp2_with fail
      refine (CO4.out _ K1.out).mono ?_
      rintro e w2 ⟨t, rfl, hc, hg⟩
      have T2 := only_cur hg
      have E2 := Lib.hid (E1.out.only T2 HDN.out)
      have R2 := Lib.hid (R1.out.only T2 HN2.out)
      have P2 := Lib.hid (P1.out.onlyC T2 HN1.out)
      have O2 := Lib.hid (O1.out.trans T2)
      have K2 := Lib.hid hc
      clear hc hg T2 E1 R1 P1 O1 K1
      go_upto_if 35 with fail
      go_cut [] (fun wx => ∃ p : PD, Hid (EightVar wx d p) ∧ Hid (EightVar wx (w.heap.size + 1) zeroP) ∧ Hid (CurOk W wx b a len cap) ∧ Hid (Only (fun k => k = b) w wx))
      case first =>
        cases t with
        | true =>
          go_wp2
          go_meet
          case rel => exact ⟨p, E2, R2, K2, O2⟩
        | false =>
          have CG1 := Lib.hid (CG.out p Q1.out.1 Q1.out.2.1 Q1.out.2.2)
          generalize goodsB s p = gb at CG1
          generalize goodsP p = g at CG1
          unfold pickV at CG1
          obtain ⟨⟨q0, q1, q2, q3, q4, q5, q6, q7, -⟩, -⟩ := E2.out
          obtain ⟨e0, e1, e2, e3, -⟩ := P2.out
          go_wp2_with fail
          refine (CG1.out _).mono ?_
          rintro e w3 ⟨rfl, bb⟩
          have T3 := Only.fresh (T := fun _ => False) bb
          have E3 := Lib.hid (E2.out.below bb)
          have R3 := Lib.hid (R2.out.below bb)
          have O3 := Lib.hid (O2.out.trans (Only.fresh bb))
          have K3 := Lib.hid (K2.out.only T3 (fun _ h => h.elim))
          clear bb T3 q0 q1 q2 q3 q4 q5 q6 q7 e0 e1 e2 e3 E2 R2 K2 O2 P2
          obtain ⟨⟨q0, q1, q2, q3, q4, q5, q6, q7, -⟩, f0, f1, f2, f3, f4, f5, f6, f7⟩ := E3.out
          go_wp2
          go_meet
          case rel => exact ⟨g, Lib.hid (E3.out.set8s g), Lib.hid (R3.out.far8 HDR.out g), Lib.hid (K3.out.far8 HDW.out HDN.out g), Lib.hid (only_set8s O3.out HDw.out g)⟩
      case rest =>
        clear Q1 E2 R2 P2 K2 O2
        obtain ⟨p, E1, R1, K1, O1⟩ := hcut
        go_wp2_with fail
        refine (CO10.out _ K1.out).mono ?_
        rintro e w2 ⟨t, rfl, hc, hg⟩
        have T2 := only_cur hg
        have E2 := Lib.hid (E1.out.only T2 HDN.out)
        have R2 := Lib.hid (R1.out.only T2 HN2.out)
        have O2 := Lib.hid (O1.out.trans T2)
        have K2 := Lib.hid hc
        clear hc hg T2 E1 R1 O1 K1
        go_upto_if 43 with fail
        go_cut [] (fun wx => ∃ p : PD, Hid (EightVar wx d p) ∧ Hid (EightVar wx (w.heap.size + 1) zeroP) ∧ Hid (CurOk W wx b a len cap) ∧ Hid (Only (fun k => k = b) w wx))
        case first =>
          cases t with
          | false =>
            go_wp2
            go_meet
            case rel => exact ⟨p, E2, R2, K2, O2⟩
          | true =>
            go_wp2_with fail
            refine (CN.out _ K2.out).mono ?_
            rintro e w3 ⟨x, rfl, hc, ho⟩
            have E3 := Lib.hid (E2.out.only ho HDN.out)
            have R3 := Lib.hid (R2.out.only ho HN2.out)
            have O3 := Lib.hid (O2.out.trans ho)
            have K3 := Lib.hid hc
            clear hc ho E2 R2 K2 O2
            obtain ⟨⟨q0, q1, q2, q3, q4, q5, q6, q7, -⟩, f0, f1, f2, f3, f4, f5, f6, f7⟩ := E3.out
            go_wp2
            go_meet
            case rel => exact ⟨_, Lib.hid (E3.out.good x), Lib.hid (R3.out.setFar HDR.out 6 _), Lib.hid (K3.out.far HDW.out HDN.out 6 _), Lib.hid (O3.out.setNew HDw.out 6 _)⟩
        case rest =>
          clear E2 R2 K2 O2
          obtain ⟨p, E3, R3, K3, O3⟩ := hcut
          obtain ⟨⟨q0, q1, q2, q3, q4, q5, q6, q7, -⟩, -⟩ := E3.out
          have HRW : Hid (W.heap.size ≤ w.heap.size + 1) := by unfold Hid; have := HWw.out; omega
          obtain ⟨⟨r0, r1, r2, r3, r4, r5, r6, r7, -⟩, g0, g1, g2, g3, g4, g5, g6, g7⟩ := R3.out
          go_wp2
          obtain ⟨U, hU⟩ : ∃ U, set8s wc (w.heap.size + 1) p = U := ⟨_, rfl⟩
          have RU : EightVar U (w.heap.size + 1) p := by rw [← hU]; exact R3.out.set8s _
          have OU : Only (fun k => k = b) w U := by rw [← hU]; exact only_set8s O3.out (by omega) _
          have KU : CurOk W U b a len cap := by rw [← hU]; exact K3.out.far8 HRW.out HN2.out _
          unfold set8s at hU
          rw [hU]
          obtain ⟨⟨u0, u1, u2, u3, u4, u5, u6, u7, -⟩, -⟩ := RU
          refine bodyPost_ret (v := .agg #[.int .i64 p.bl, .int .i64 p.br, .int .i64 p.hl, .int .i64 p.hr, .int .i64 p.ll, .int .i64 p.lr, .int .i64 p.gl, .int .i64 p.gr]) (by simp [results, Tryd.results80, go_sem, u0, u1, u2, u3, u4, u5, u6, u7]) rfl ⟨p, rfl, KU, OU⟩
end Go.Proofs.YtlflblngbneacabDoor
