/- Several texts in one file; each says what it proves and under which condition. No condition. -/
import Derived.Test.YtlflblngbneacabDoorGStates
/- The contract of the model's completion of a pick by good coins. Conditions: a valid state, a pick within it without good coins. -/
namespace Go.Proofs.YtlflblngbneacabDoor
open Go.RowKit

/-- A pick's eight cells lie in block b and may be written. -/
def EightVar (w : World) (b : Nat) (p : PD) : Prop :=
  PickAt w b p ∧ w.frozen? ⟨b, 0, none⟩ = false ∧ w.frozen? ⟨b, 1, none⟩ = false ∧ w.frozen? ⟨b, 2, none⟩ = false ∧ w.frozen? ⟨b, 3, none⟩ = false ∧ w.frozen? ⟨b, 4, none⟩ = false ∧ w.frozen? ⟨b, 5, none⟩ = false ∧ w.frozen? ⟨b, 6, none⟩ = false ∧ w.frozen? ⟨b, 7, none⟩ = false
theorem EightVar.below {w w' : World} {b : Nat} {p : PD} (h : EightVar w b p) (hb : Below w.heap.size w w') : EightVar w' b p := by
  have hlt : b < w.heap.size := h.1.2.2.2.2.2.2.2.2
  obtain ⟨hp, f0, f1, f2, f3, f4, f5, f6, f7⟩ := h
  refine ⟨hp.below hb, ?_, ?_, ?_, ?_, ?_, ?_, ?_, ?_⟩
  · rw [hb.frozen (p := ⟨b, 0, none⟩) hlt]; exact f0
  · rw [hb.frozen (p := ⟨b, 1, none⟩) hlt]; exact f1
  · rw [hb.frozen (p := ⟨b, 2, none⟩) hlt]; exact f2
  · rw [hb.frozen (p := ⟨b, 3, none⟩) hlt]; exact f3
  · rw [hb.frozen (p := ⟨b, 4, none⟩) hlt]; exact f4
  · rw [hb.frozen (p := ⟨b, 5, none⟩) hlt]; exact f5
  · rw [hb.frozen (p := ⟨b, 6, none⟩) hlt]; exact f6
  · rw [hb.frozen (p := ⟨b, 7, none⟩) hlt]; exact f7
theorem EightVar.new (w : World) (ty : TypeId) (p : PD) : EightVar (w.alloc (.cells #[.int .i64 p.bl, .int .i64 p.br, .int .i64 p.hl, .int .i64 p.hr, .int .i64 p.ll, .int .i64 p.lr, .int .i64 p.gl, .int .i64 p.gr] ty)) w.heap.size p := by
  refine ⟨PickAt.new w ty p, ?_, ?_, ?_, ?_, ?_, ?_, ?_, ?_⟩ <;> simp

set_option maxRecDepth 100000 in
set_option maxHeartbeats 3200000 in
theorem specGoods (s : SD) (p : PD) (hs : SIn s) (hp : PIn s p) (h0 : p.gl = 0) (h1 : p.gr = 0) (w : World) :
    Calls Tryd.prog 121 #[stateV s, pickV p] w fun e w' => e = .returned (.tuple #[pickV (goodsP p), .bool (goodsB s p)]) ∧ Below w.heap.size w w' := by
  obtain ⟨sb, sh, sl, sg, s1', s13⟩ := id hs
  have hp' := hp
  unfold PIn at hp'
  unfold sumS at s1' s13
  have hlr : leftP p = p.bl + p.hl + p.ll := by unfold leftP; omega
  have hrr : rightP p = p.br + p.hr + p.lr := by unfold rightP; omega
  have S := Lib.hid (fun W => specSides p ⟨by omega, by omega, by omega, by omega, by omega, by omega, by omega, by omega⟩ W)
  have hl0 : 0 ≤ leftP p ∧ leftP p ≤ 13 := by omega
  have hr0 : 0 ≤ rightP p ∧ rightP p ≤ 13 := by omega
  have HG : Hid (goodsP p = if leftP p < rightP p then { p with gl := rightP p - leftP p } else { p with gr := leftP p - rightP p }) := rfl
  have HB : Hid (goodsB s p = (decide ((goodsP p).gl + (goodsP p).gr ≤ s.g) && decide (0 < leftP p + rightP p))) := rfl
  have HZ : Hid (p.gl = 0 ∧ p.gr = 0) := ⟨h0, h1⟩
  clear hlr hrr hp' hp h0 h1
  have P0 := StateAt.new w 49 s
  have B0 := alloc_below w (.cells #[.int .i64 s.b, .int .i64 s.h, .int .i64 s.l, .int .i64 s.g] 49)
  have s0 : (w.alloc (.cells #[.int .i64 s.b, .int .i64 s.h, .int .i64 s.l, .int .i64 s.g] 49)).heap.size = w.heap.size + 1 := by simp
  generalize hX0 : w.alloc (.cells #[.int .i64 s.b, .int .i64 s.h, .int .i64 s.l, .int .i64 s.g] 49) = X0 at P0 B0 s0
  have Q0 := EightVar.new X0 52 p
  have B1 := alloc_below X0 (.cells #[.int .i64 p.bl, .int .i64 p.br, .int .i64 p.hl, .int .i64 p.hr, .int .i64 p.ll, .int .i64 p.lr, .int .i64 p.gl, .int .i64 p.gr] 52)
  have s1 : (X0.alloc (.cells #[.int .i64 p.bl, .int .i64 p.br, .int .i64 p.hl, .int .i64 p.hr, .int .i64 p.ll, .int .i64 p.lr, .int .i64 p.gl, .int .i64 p.gr] 52)).heap.size = w.heap.size + 2 := by simp [s0]
  generalize hX1 : X0.alloc (.cells #[.int .i64 p.bl, .int .i64 p.br, .int .i64 p.hl, .int .i64 p.hr, .int .i64 p.ll, .int .i64 p.lr, .int .i64 p.gl, .int .i64 p.gr] 52) = X1 at Q0 B1 s1
  rw [s0] at Q0
  have Q2 := EightVar.new X1 52 zeroP
  have B2 := alloc_below X1 (.cells #[.int .i64 0, .int .i64 0, .int .i64 0, .int .i64 0, .int .i64 0, .int .i64 0, .int .i64 0, .int .i64 0] 52)
  have Q1 := Q0.below B2
  rw [s1] at Q2
  have BX := Lib.hid (below_up (below_up B0 B1) B2)
  have P1 := Lib.hid ((P0.below B1).below B2)
  have s2 : (X1.alloc (.cells #[.int .i64 0, .int .i64 0, .int .i64 0, .int .i64 0, .int .i64 0, .int .i64 0, .int .i64 0, .int .i64 0] 52)).heap.size = w.heap.size + 3 := by simp [s1]
  change EightVar (X1.alloc (.cells #[.int .i64 0, .int .i64 0, .int .i64 0, .int .i64 0, .int .i64 0, .int .i64 0, .int .i64 0, .int .i64 0] 52)) _ _ at Q2
  generalize hX2 : X1.alloc (.cells #[.int .i64 0, .int .i64 0, .int .i64 0, .int .i64 0, .int .i64 0, .int .i64 0, .int .i64 0, .int .i64 0] 52) = X2 at Q1 Q2 P1 BX s2
  have H1 := Lib.hid Q1
  have H2 := Lib.hid Q2
  clear P0 B0 B1 B2 Q0 Q1 Q2
  generalize leftP p = a at S hl0 HG HB
  generalize rightP p = b at S hr0 HG HB
  unfold stateV pickV
  unfold pickV at S
  obtain ⟨⟨q0, q1, q2, q3, q4, q5, q6, q7, -⟩, -⟩ := H1.out
  go_enter Tryd.func121, Tryd.ntmps121
  go_wp2_with fail
  refine (S.out _).mono ?_
  rintro e w1 ⟨rfl, b1⟩
  clear q0 q1 q2 q3 q4 q5 q6 q7
  have B1 := Lib.hid (below_up BX.out b1)
  obtain ⟨e0, e1, e2, e3, elt⟩ := P1.out.below b1
  obtain ⟨⟨q0, q1, q2, q3, q4, q5, q6, q7, ql⟩, f0, f1, f2, f3, f4, f5, f6, f7⟩ := H1.out.below b1
  obtain ⟨⟨r0, r1, r2, r3, r4, r5, r6, r7, rl⟩, g0, g1, g2, g3, g4, g5, g6, g7⟩ := H2.out.below b1
  clear b1
  obtain ⟨z0, z1⟩ := HZ.out
  rw [z0] at q6
  rw [z1] at q7
  by_cases hab : a < b
  · have HG2 : Hid (goodsP p = ⟨p.bl, p.br, p.hl, p.hr, p.ll, p.lr, b - a, 0⟩) := by unfold Hid; rw [HG.out, if_pos hab, z1]
    have hw : IntKind.i64.wrap (b - a) = b - a := by rw [IntKind.wrap_i64]; omega
    have hp : (0 : Int) < a + b := by omega
    have HB2 : Hid (goodsB s p = decide (b - a ≤ s.g)) := by unfold Hid; rw [HB.out, HG2.out, decide_eq_true hp]; simp
    clear HG HB z0 z1
    by_cases hc : b - a ≤ s.g
    · have HB2 : Hid (goodsB s p = true) := by unfold Hid; rw [HB2.out]; exact decide_eq_true hc
      go_wp2
      refine bodyPost_ret (v := .tuple #[.agg #[.int .i64 p.bl, .int .i64 p.br, .int .i64 p.hl, .int .i64 p.hr, .int .i64 p.ll, .int .i64 p.lr, .int .i64 (b - a), .int .i64 (0)], .bool true]) (by simp [results, Tryd.results121, go_sem, r0, r1, r2, r3, r4, r5, r6, r7]) rfl ⟨?_, ?_⟩
      · rw [HG2.out, HB2.out]
      · exact ((((((((B1.out.setCell (by simp) _).setCell (by simp) _).setCell (by simp) _).setCell (by simp) _).setCell (by simp) _).setCell (by simp) _).setCell (by simp) _).setCell (by simp) _).setCell (by simp) _
    · have HB2 : Hid (goodsB s p = false) := by unfold Hid; rw [HB2.out]; exact decide_eq_false hc
      go_wp2
      refine bodyPost_ret (v := .tuple #[.agg #[.int .i64 p.bl, .int .i64 p.br, .int .i64 p.hl, .int .i64 p.hr, .int .i64 p.ll, .int .i64 p.lr, .int .i64 (b - a), .int .i64 (0)], .bool false]) (by simp [results, Tryd.results121, go_sem, r0, r1, r2, r3, r4, r5, r6, r7]) rfl ⟨?_, ?_⟩
      · rw [HG2.out, HB2.out]
      · exact ((((((((B1.out.setCell (by simp) _).setCell (by simp) _).setCell (by simp) _).setCell (by simp) _).setCell (by simp) _).setCell (by simp) _).setCell (by simp) _).setCell (by simp) _).setCell (by simp) _
  · have HG2 : Hid (goodsP p = ⟨p.bl, p.br, p.hl, p.hr, p.ll, p.lr, 0, a - b⟩) := by unfold Hid; rw [HG.out, if_neg hab, z0]
    have hw : IntKind.i64.wrap (a - b) = a - b := by rw [IntKind.wrap_i64]; omega
    have HB2 : Hid (goodsB s p = (decide (a - b ≤ s.g) && decide (0 < a + b))) := by unfold Hid; rw [HB.out, HG2.out]; simp
    clear HG HB z0 z1
    by_cases hc : a - b ≤ s.g
    · by_cases hd : 0 < a + b
      · have HB2 : Hid (goodsB s p = true) := by unfold Hid; rw [HB2.out, decide_eq_true hc, decide_eq_true hd]; rfl
        go_wp2
        refine bodyPost_ret (v := .tuple #[.agg #[.int .i64 p.bl, .int .i64 p.br, .int .i64 p.hl, .int .i64 p.hr, .int .i64 p.ll, .int .i64 p.lr, .int .i64 (0), .int .i64 (a - b)], .bool true]) (by simp [results, Tryd.results121, go_sem, r0, r1, r2, r3, r4, r5, r6, r7]) rfl ⟨?_, ?_⟩
        · rw [HG2.out, HB2.out]
        · exact ((((((((B1.out.setCell (by simp) _).setCell (by simp) _).setCell (by simp) _).setCell (by simp) _).setCell (by simp) _).setCell (by simp) _).setCell (by simp) _).setCell (by simp) _).setCell (by simp) _
      · have HB2 : Hid (goodsB s p = false) := by unfold Hid; rw [HB2.out, decide_eq_true hc, decide_eq_false hd]; rfl
        go_wp2
        refine bodyPost_ret (v := .tuple #[.agg #[.int .i64 p.bl, .int .i64 p.br, .int .i64 p.hl, .int .i64 p.hr, .int .i64 p.ll, .int .i64 p.lr, .int .i64 (0), .int .i64 (a - b)], .bool false]) (by simp [results, Tryd.results121, go_sem, r0, r1, r2, r3, r4, r5, r6, r7]; omega) rfl ⟨?_, ?_⟩
        · rw [HG2.out, HB2.out]
        · exact ((((((((B1.out.setCell (by simp) _).setCell (by simp) _).setCell (by simp) _).setCell (by simp) _).setCell (by simp) _).setCell (by simp) _).setCell (by simp) _).setCell (by simp) _).setCell (by simp) _
    · have HB2 : Hid (goodsB s p = false) := by unfold Hid; rw [HB2.out, decide_eq_false hc]; rfl
      go_wp2
      refine bodyPost_ret (v := .tuple #[.agg #[.int .i64 p.bl, .int .i64 p.br, .int .i64 p.hl, .int .i64 p.hr, .int .i64 p.ll, .int .i64 p.lr, .int .i64 (0), .int .i64 (a - b)], .bool false]) (by simp [results, Tryd.results121, go_sem, r0, r1, r2, r3, r4, r5, r6, r7]) rfl ⟨?_, ?_⟩
      · rw [HG2.out, HB2.out]
      · exact ((((((((B1.out.setCell (by simp) _).setCell (by simp) _).setCell (by simp) _).setCell (by simp) _).setCell (by simp) _).setCell (by simp) _).setCell (by simp) _).setCell (by simp) _).setCell (by simp) _
end Go.Proofs.YtlflblngbneacabDoor

/- The contract of the model's test of a pick, round the contract of the search with one weighing fewer. Conditions: a valid state, a pick within it. -/
namespace Go.Proofs.YtlflblngbneacabDoor
open Go.RowKit

theorem all_step {α : Type} {l : List α} {i : Nat} (f : α → Bool) (h : i < l.length) : (l.drop i).all f = (f l[i] && (l.drop (i + 1)).all f) := by
  rw [List.drop_eq_getElem_cons h, List.all_cons]
theorem all_over {α : Type} {l : List α} {i : Nat} (f : α → Bool) (h : l.length ≤ i) : (l.drop i).all f = true := by
  rw [List.drop_of_length_le h]; rfl
end Go.Proofs.YtlflblngbneacabDoor

/- The contract of the model's search over the light coins of a pick, round the contract of the search with one weighing fewer. Conditions: a valid state, a pick of its other coins. -/
namespace Go.Proofs.YtlflblngbneacabDoor
open Go.RowKit

theorem StateAt.far {w : World} {b : Nat} {s : SD} (h : StateAt w b s) (c k : Nat) (v : Value) (hne : c ≠ b) : StateAt (w.setCell ⟨c, k, none⟩ v) b s := by
  obtain ⟨e0, e1, e2, e3, hlt⟩ := h
  refine ⟨?_, ?_, ?_, ?_, by rw [setCell_size]; exact hlt⟩
  all_goals (rw [World.cell?_setCell_far _ _ _ _ hne]; assumption)
theorem EightVar.far {w : World} {b : Nat} {p : PD} (h : EightVar w b p) (c k : Nat) (v : Value) (hne : c ≠ b) : EightVar (w.setCell ⟨c, k, none⟩ v) b p := by
  obtain ⟨⟨e0, e1, e2, e3, e4, e5, e6, e7, hlt⟩, f0, f1, f2, f3, f4, f5, f6, f7⟩ := h
  refine ⟨⟨?_, ?_, ?_, ?_, ?_, ?_, ?_, ?_, by rw [setCell_size]; exact hlt⟩, ?_, ?_, ?_, ?_, ?_, ?_, ?_, ?_⟩
  all_goals first
    | (rw [World.cell?_setCell_far _ _ _ _ hne]; assumption)
    | (rw [World.frozen?_setCell]; assumption)
theorem EightVar.set0 {w : World} {b : Nat} {p : PD} (h : EightVar w b p) (x : Int) : EightVar (w.setCell ⟨b, 0, none⟩ (.int .i64 x)) b { p with bl := x } := by
  obtain ⟨⟨e0, e1, e2, e3, e4, e5, e6, e7, hlt⟩, f0, f1, f2, f3, f4, f5, f6, f7⟩ := h
  exact ⟨⟨World.cell?_setCell_same _ _ _ e0, (World.cell?_setCell_other _ _ _ _ (by simp)).trans e1, (World.cell?_setCell_other _ _ _ _ (by simp)).trans e2, (World.cell?_setCell_other _ _ _ _ (by simp)).trans e3, (World.cell?_setCell_other _ _ _ _ (by simp)).trans e4, (World.cell?_setCell_other _ _ _ _ (by simp)).trans e5, (World.cell?_setCell_other _ _ _ _ (by simp)).trans e6, (World.cell?_setCell_other _ _ _ _ (by simp)).trans e7, by rw [setCell_size]; exact hlt⟩, (by rw [World.frozen?_setCell]; exact f0), (by rw [World.frozen?_setCell]; exact f1), (by rw [World.frozen?_setCell]; exact f2), (by rw [World.frozen?_setCell]; exact f3), (by rw [World.frozen?_setCell]; exact f4), (by rw [World.frozen?_setCell]; exact f5), (by rw [World.frozen?_setCell]; exact f6), (by rw [World.frozen?_setCell]; exact f7)⟩
theorem EightVar.set1 {w : World} {b : Nat} {p : PD} (h : EightVar w b p) (x : Int) : EightVar (w.setCell ⟨b, 1, none⟩ (.int .i64 x)) b { p with br := x } := by
  obtain ⟨⟨e0, e1, e2, e3, e4, e5, e6, e7, hlt⟩, f0, f1, f2, f3, f4, f5, f6, f7⟩ := h
  exact ⟨⟨(World.cell?_setCell_other _ _ _ _ (by simp)).trans e0, World.cell?_setCell_same _ _ _ e1, (World.cell?_setCell_other _ _ _ _ (by simp)).trans e2, (World.cell?_setCell_other _ _ _ _ (by simp)).trans e3, (World.cell?_setCell_other _ _ _ _ (by simp)).trans e4, (World.cell?_setCell_other _ _ _ _ (by simp)).trans e5, (World.cell?_setCell_other _ _ _ _ (by simp)).trans e6, (World.cell?_setCell_other _ _ _ _ (by simp)).trans e7, by rw [setCell_size]; exact hlt⟩, (by rw [World.frozen?_setCell]; exact f0), (by rw [World.frozen?_setCell]; exact f1), (by rw [World.frozen?_setCell]; exact f2), (by rw [World.frozen?_setCell]; exact f3), (by rw [World.frozen?_setCell]; exact f4), (by rw [World.frozen?_setCell]; exact f5), (by rw [World.frozen?_setCell]; exact f6), (by rw [World.frozen?_setCell]; exact f7)⟩
theorem EightVar.set2 {w : World} {b : Nat} {p : PD} (h : EightVar w b p) (x : Int) : EightVar (w.setCell ⟨b, 2, none⟩ (.int .i64 x)) b { p with hl := x } := by
  obtain ⟨⟨e0, e1, e2, e3, e4, e5, e6, e7, hlt⟩, f0, f1, f2, f3, f4, f5, f6, f7⟩ := h
  exact ⟨⟨(World.cell?_setCell_other _ _ _ _ (by simp)).trans e0, (World.cell?_setCell_other _ _ _ _ (by simp)).trans e1, World.cell?_setCell_same _ _ _ e2, (World.cell?_setCell_other _ _ _ _ (by simp)).trans e3, (World.cell?_setCell_other _ _ _ _ (by simp)).trans e4, (World.cell?_setCell_other _ _ _ _ (by simp)).trans e5, (World.cell?_setCell_other _ _ _ _ (by simp)).trans e6, (World.cell?_setCell_other _ _ _ _ (by simp)).trans e7, by rw [setCell_size]; exact hlt⟩, (by rw [World.frozen?_setCell]; exact f0), (by rw [World.frozen?_setCell]; exact f1), (by rw [World.frozen?_setCell]; exact f2), (by rw [World.frozen?_setCell]; exact f3), (by rw [World.frozen?_setCell]; exact f4), (by rw [World.frozen?_setCell]; exact f5), (by rw [World.frozen?_setCell]; exact f6), (by rw [World.frozen?_setCell]; exact f7)⟩
theorem EightVar.set3 {w : World} {b : Nat} {p : PD} (h : EightVar w b p) (x : Int) : EightVar (w.setCell ⟨b, 3, none⟩ (.int .i64 x)) b { p with hr := x } := by
  obtain ⟨⟨e0, e1, e2, e3, e4, e5, e6, e7, hlt⟩, f0, f1, f2, f3, f4, f5, f6, f7⟩ := h
  exact ⟨⟨(World.cell?_setCell_other _ _ _ _ (by simp)).trans e0, (World.cell?_setCell_other _ _ _ _ (by simp)).trans e1, (World.cell?_setCell_other _ _ _ _ (by simp)).trans e2, World.cell?_setCell_same _ _ _ e3, (World.cell?_setCell_other _ _ _ _ (by simp)).trans e4, (World.cell?_setCell_other _ _ _ _ (by simp)).trans e5, (World.cell?_setCell_other _ _ _ _ (by simp)).trans e6, (World.cell?_setCell_other _ _ _ _ (by simp)).trans e7, by rw [setCell_size]; exact hlt⟩, (by rw [World.frozen?_setCell]; exact f0), (by rw [World.frozen?_setCell]; exact f1), (by rw [World.frozen?_setCell]; exact f2), (by rw [World.frozen?_setCell]; exact f3), (by rw [World.frozen?_setCell]; exact f4), (by rw [World.frozen?_setCell]; exact f5), (by rw [World.frozen?_setCell]; exact f6), (by rw [World.frozen?_setCell]; exact f7)⟩
theorem EightVar.set4 {w : World} {b : Nat} {p : PD} (h : EightVar w b p) (x : Int) : EightVar (w.setCell ⟨b, 4, none⟩ (.int .i64 x)) b { p with ll := x } := by
  obtain ⟨⟨e0, e1, e2, e3, e4, e5, e6, e7, hlt⟩, f0, f1, f2, f3, f4, f5, f6, f7⟩ := h
  exact ⟨⟨(World.cell?_setCell_other _ _ _ _ (by simp)).trans e0, (World.cell?_setCell_other _ _ _ _ (by simp)).trans e1, (World.cell?_setCell_other _ _ _ _ (by simp)).trans e2, (World.cell?_setCell_other _ _ _ _ (by simp)).trans e3, World.cell?_setCell_same _ _ _ e4, (World.cell?_setCell_other _ _ _ _ (by simp)).trans e5, (World.cell?_setCell_other _ _ _ _ (by simp)).trans e6, (World.cell?_setCell_other _ _ _ _ (by simp)).trans e7, by rw [setCell_size]; exact hlt⟩, (by rw [World.frozen?_setCell]; exact f0), (by rw [World.frozen?_setCell]; exact f1), (by rw [World.frozen?_setCell]; exact f2), (by rw [World.frozen?_setCell]; exact f3), (by rw [World.frozen?_setCell]; exact f4), (by rw [World.frozen?_setCell]; exact f5), (by rw [World.frozen?_setCell]; exact f6), (by rw [World.frozen?_setCell]; exact f7)⟩
theorem EightVar.set5 {w : World} {b : Nat} {p : PD} (h : EightVar w b p) (x : Int) : EightVar (w.setCell ⟨b, 5, none⟩ (.int .i64 x)) b { p with lr := x } := by
  obtain ⟨⟨e0, e1, e2, e3, e4, e5, e6, e7, hlt⟩, f0, f1, f2, f3, f4, f5, f6, f7⟩ := h
  exact ⟨⟨(World.cell?_setCell_other _ _ _ _ (by simp)).trans e0, (World.cell?_setCell_other _ _ _ _ (by simp)).trans e1, (World.cell?_setCell_other _ _ _ _ (by simp)).trans e2, (World.cell?_setCell_other _ _ _ _ (by simp)).trans e3, (World.cell?_setCell_other _ _ _ _ (by simp)).trans e4, World.cell?_setCell_same _ _ _ e5, (World.cell?_setCell_other _ _ _ _ (by simp)).trans e6, (World.cell?_setCell_other _ _ _ _ (by simp)).trans e7, by rw [setCell_size]; exact hlt⟩, (by rw [World.frozen?_setCell]; exact f0), (by rw [World.frozen?_setCell]; exact f1), (by rw [World.frozen?_setCell]; exact f2), (by rw [World.frozen?_setCell]; exact f3), (by rw [World.frozen?_setCell]; exact f4), (by rw [World.frozen?_setCell]; exact f5), (by rw [World.frozen?_setCell]; exact f6), (by rw [World.frozen?_setCell]; exact f7)⟩
theorem EightVar.set6 {w : World} {b : Nat} {p : PD} (h : EightVar w b p) (x : Int) : EightVar (w.setCell ⟨b, 6, none⟩ (.int .i64 x)) b { p with gl := x } := by
  obtain ⟨⟨e0, e1, e2, e3, e4, e5, e6, e7, hlt⟩, f0, f1, f2, f3, f4, f5, f6, f7⟩ := h
  exact ⟨⟨(World.cell?_setCell_other _ _ _ _ (by simp)).trans e0, (World.cell?_setCell_other _ _ _ _ (by simp)).trans e1, (World.cell?_setCell_other _ _ _ _ (by simp)).trans e2, (World.cell?_setCell_other _ _ _ _ (by simp)).trans e3, (World.cell?_setCell_other _ _ _ _ (by simp)).trans e4, (World.cell?_setCell_other _ _ _ _ (by simp)).trans e5, World.cell?_setCell_same _ _ _ e6, (World.cell?_setCell_other _ _ _ _ (by simp)).trans e7, by rw [setCell_size]; exact hlt⟩, (by rw [World.frozen?_setCell]; exact f0), (by rw [World.frozen?_setCell]; exact f1), (by rw [World.frozen?_setCell]; exact f2), (by rw [World.frozen?_setCell]; exact f3), (by rw [World.frozen?_setCell]; exact f4), (by rw [World.frozen?_setCell]; exact f5), (by rw [World.frozen?_setCell]; exact f6), (by rw [World.frozen?_setCell]; exact f7)⟩
theorem EightVar.set7 {w : World} {b : Nat} {p : PD} (h : EightVar w b p) (x : Int) : EightVar (w.setCell ⟨b, 7, none⟩ (.int .i64 x)) b { p with gr := x } := by
  obtain ⟨⟨e0, e1, e2, e3, e4, e5, e6, e7, hlt⟩, f0, f1, f2, f3, f4, f5, f6, f7⟩ := h
  exact ⟨⟨(World.cell?_setCell_other _ _ _ _ (by simp)).trans e0, (World.cell?_setCell_other _ _ _ _ (by simp)).trans e1, (World.cell?_setCell_other _ _ _ _ (by simp)).trans e2, (World.cell?_setCell_other _ _ _ _ (by simp)).trans e3, (World.cell?_setCell_other _ _ _ _ (by simp)).trans e4, (World.cell?_setCell_other _ _ _ _ (by simp)).trans e5, (World.cell?_setCell_other _ _ _ _ (by simp)).trans e6, World.cell?_setCell_same _ _ _ e7, by rw [setCell_size]; exact hlt⟩, (by rw [World.frozen?_setCell]; exact f0), (by rw [World.frozen?_setCell]; exact f1), (by rw [World.frozen?_setCell]; exact f2), (by rw [World.frozen?_setCell]; exact f3), (by rw [World.frozen?_setCell]; exact f4), (by rw [World.frozen?_setCell]; exact f5), (by rw [World.frozen?_setCell]; exact f6), (by rw [World.frozen?_setCell]; exact f7)⟩
theorem EightVar.fill {w : World} {b : Nat} {p : PD} (h : EightVar w b p) (q : PD) : EightVar ((((((((w.setCell ⟨b, 0, none⟩ (.int .i64 q.bl)).setCell ⟨b, 1, none⟩ (.int .i64 q.br)).setCell ⟨b, 2, none⟩ (.int .i64 q.hl)).setCell ⟨b, 3, none⟩ (.int .i64 q.hr)).setCell ⟨b, 4, none⟩ (.int .i64 q.ll)).setCell ⟨b, 5, none⟩ (.int .i64 q.lr)).setCell ⟨b, 6, none⟩ (.int .i64 q.gl)).setCell ⟨b, 7, none⟩ (.int .i64 q.gr)) b q := by
  exact ((((((((h.set0 q.bl).set1 q.br).set2 q.hl).set3 q.hr).set4 q.ll).set5 q.lr).set6 q.gl).set7 q.gr)
theorem EightVar.fillFar {w : World} {b c : Nat} {p : PD} (h : EightVar w b p) (hne : c ≠ b) (q : PD) : EightVar ((((((((w.setCell ⟨c, 0, none⟩ (.int .i64 q.bl)).setCell ⟨c, 1, none⟩ (.int .i64 q.br)).setCell ⟨c, 2, none⟩ (.int .i64 q.hl)).setCell ⟨c, 3, none⟩ (.int .i64 q.hr)).setCell ⟨c, 4, none⟩ (.int .i64 q.ll)).setCell ⟨c, 5, none⟩ (.int .i64 q.lr)).setCell ⟨c, 6, none⟩ (.int .i64 q.gl)).setCell ⟨c, 7, none⟩ (.int .i64 q.gr)) b p := by
  exact ((((((((h.far c 0 _ hne).far c 1 _ hne).far c 2 _ hne).far c 3 _ hne).far c 4 _ hne).far c 5 _ hne).far c 6 _ hne).far c 7 _ hne)
theorem StateAt.fillFar {w : World} {b c : Nat} {s : SD} (h : StateAt w b s) (hne : c ≠ b) (q : PD) : StateAt ((((((((w.setCell ⟨c, 0, none⟩ (.int .i64 q.bl)).setCell ⟨c, 1, none⟩ (.int .i64 q.br)).setCell ⟨c, 2, none⟩ (.int .i64 q.hl)).setCell ⟨c, 3, none⟩ (.int .i64 q.hr)).setCell ⟨c, 4, none⟩ (.int .i64 q.ll)).setCell ⟨c, 5, none⟩ (.int .i64 q.lr)).setCell ⟨c, 6, none⟩ (.int .i64 q.gl)).setCell ⟨c, 7, none⟩ (.int .i64 q.gr)) b s := by
  exact ((((((((h.far c 0 _ hne).far c 1 _ hne).far c 2 _ hne).far c 3 _ hne).far c 4 _ hne).far c 5 _ hne).far c 6 _ hne).far c 7 _ hne)
theorem below_fill {B : Nat} {a w : World} (h : Below B a w) {b : Nat} (hb : B ≤ b) (q : PD) : Below B a ((((((((w.setCell ⟨b, 0, none⟩ (.int .i64 q.bl)).setCell ⟨b, 1, none⟩ (.int .i64 q.br)).setCell ⟨b, 2, none⟩ (.int .i64 q.hl)).setCell ⟨b, 3, none⟩ (.int .i64 q.hr)).setCell ⟨b, 4, none⟩ (.int .i64 q.ll)).setCell ⟨b, 5, none⟩ (.int .i64 q.lr)).setCell ⟨b, 6, none⟩ (.int .i64 q.gl)).setCell ⟨b, 7, none⟩ (.int .i64 q.gr)) := by
  exact ((((((((h.setCell hb _).setCell hb _).setCell hb _).setCell hb _).setCell hb _).setCell hb _).setCell hb _).setCell hb _)

end Go.Proofs.YtlflblngbneacabDoor

/- The contract of the model's search for the first pick, round the contract of the search with one weighing fewer; and with it the search itself, by induction. Conditions: a valid state, at most three weighings. -/
namespace Go.Proofs.YtlflblngbneacabDoor
open Go.RowKit

theorem opt_split {α : Type} (t : Option α) (z : α) : ∃ g ok, t.getD z = g ∧ t.isSome = ok ∧ (ok = true → t = some g) ∧ (ok = false → t = none) := by
  cases t with
  | none => exact ⟨z, false, rfl, rfl, fun h => (Bool.false_ne_true h).elim, fun _ => rfl⟩
  | some g => exact ⟨g, true, rfl, rfl, fun _ => rfl, fun h => (Bool.false_ne_true h.symm).elim⟩

end Go.Proofs.YtlflblngbneacabDoor

/- The contract of the model's search for a case, by induction on the number of weighings. Conditions: a valid state, at most three weighings. -/
namespace Go.Proofs.YtlflblngbneacabDoor
open Go.RowKit

end Go.Proofs.YtlflblngbneacabDoor

/- The contracts of the model's CanFind, FewestFor and FirstPick. No condition. -/
namespace Go.Proofs.YtlflblngbneacabDoor
open Go.RowKit

/-- No fewer weighings are enough. -/
def NoneTo (s : SD) (i : Nat) : Prop := ∀ j : Nat, j < i → findB s (j : Int) = false
theorem fewest_at {s : SD} {i : Nat} (h : NoneTo s i) (hi : i ≤ 3) (hf : findB s (i : Int) = true) : fewestI s = (i : Int) := by
  unfold fewestI
  rcases (show i = 0 ∨ i = 1 ∨ i = 2 ∨ i = 3 by omega) with rfl | rfl | rfl | rfl
  · rw [if_pos (show findB s 0 = true from hf)]; rfl
  · rw [if_neg (by rw [show (0 : Int) = ((0 : Nat) : Int) from rfl, h 0 (by omega)]; exact Bool.false_ne_true), if_pos (show findB s 1 = true from hf)]; rfl
  · rw [if_neg (by rw [show (0 : Int) = ((0 : Nat) : Int) from rfl, h 0 (by omega)]; exact Bool.false_ne_true), if_neg (by rw [show (1 : Int) = ((1 : Nat) : Int) from rfl, h 1 (by omega)]; exact Bool.false_ne_true), if_pos (show findB s 2 = true from hf)]; rfl
  · rw [if_neg (by rw [show (0 : Int) = ((0 : Nat) : Int) from rfl, h 0 (by omega)]; exact Bool.false_ne_true), if_neg (by rw [show (1 : Int) = ((1 : Nat) : Int) from rfl, h 1 (by omega)]; exact Bool.false_ne_true), if_neg (by rw [show (2 : Int) = ((2 : Nat) : Int) from rfl, h 2 (by omega)]; exact Bool.false_ne_true), if_pos (show findB s 3 = true from hf)]; rfl
theorem fewest_none {s : SD} (h : NoneTo s 4) : fewestI s = -1 := by
  unfold fewestI
  rw [if_neg (by rw [show (0 : Int) = ((0 : Nat) : Int) from rfl, h 0 (by omega)]; exact Bool.false_ne_true), if_neg (by rw [show (1 : Int) = ((1 : Nat) : Int) from rfl, h 1 (by omega)]; exact Bool.false_ne_true), if_neg (by rw [show (2 : Int) = ((2 : Nat) : Int) from rfl, h 2 (by omega)]; exact Bool.false_ne_true), if_neg (by rw [show (3 : Int) = ((3 : Nat) : Int) from rfl, h 3 (by omega)]; exact Bool.false_ne_true)]
theorem none_succ {s : SD} {i : Nat} (h : NoneTo s i) (hf : findB s (i : Int) = false) : NoneTo s (i + 1) := fun j hj => by
  by_cases e : j = i
  · subst e; exact hf
  · exact h j (by omega)

end Go.Proofs.YtlflblngbneacabDoor

/- The walks of the exact laws of CanFind, FewestFor and FirstPick round the contracts of the program's functions: each returns true for every argument. No condition. -/
namespace Go.Proofs.YtlflblngbneacabDoor
open Go.RowKit

/-- The contracts of functions of a state, and of a state and a number. -/
def CanFindIs (f : FuncId) (s : SD) (k : Int) : Prop := ∀ W, Calls Tryd.prog f #[stateV s, .int .i64 k] W fun e w' => e = .returned (.bool (findB s k)) ∧ Below W.heap.size W w'
def FewestIs (f : FuncId) (s : SD) : Prop := ∀ W, Calls Tryd.prog f #[stateV s] W fun e w' => e = .returned (.int .i64 (fewestI s)) ∧ Below W.heap.size W w'
def FirstPickIs (f : FuncId) (s : SD) (k : Int) : Prop := ∀ W, Calls Tryd.prog f #[stateV s, .int .i64 k] W fun e w' => e = .returned (.tuple #[pickV ((pickO s k).getD zeroP), .bool (pickO s k).isSome]) ∧ Below W.heap.size W w'

end Go.Proofs.YtlflblngbneacabDoor
