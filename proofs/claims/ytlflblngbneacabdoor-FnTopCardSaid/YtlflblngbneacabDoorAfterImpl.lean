/- The contracts of the program's stateAfter and AfterPick. Conditions: a valid pick for stateAfter; the numbers of a pick are Go integers for AfterPick. -/
import Derived.Test.YtlflblngbneacabDoorGClass
import Derived.Test.YtlflblngbneacabDoorAfterLaw
import Derived.Deep.RegionHeld3
import Derived.Deep.RegionWith
namespace Go.Proofs.YtlflblngbneacabDoor
open Go.RowKit

theorem StateAt.setFar {w : World} {b c j : Nat} {s : SD} (h : StateAt w b s) (hne : c ≠ b) (v : Value) : StateAt (w.setCell ⟨c, j, none⟩ v) b s := by
  obtain ⟨e0, e1, e2, e3, hlt⟩ := h
  refine ⟨?_, ?_, ?_, ?_, by simp only [setCell_size]; exact hlt⟩
  all_goals (rw [World.cell?_setCell_far _ _ _ _ hne]; assumption)
theorem FourVar.setFar {w : World} {b c j : Nat} {s : SD} (h : FourVar w b s) (hne : c ≠ b) (v : Value) : FourVar (w.setCell ⟨c, j, none⟩ v) b s := by
  refine ⟨h.1.setFar hne v, ?_, ?_, ?_, ?_⟩
  all_goals (obtain ⟨-, f0, f1, f2, f3⟩ := h; simp only [World.frozen?_setCell]; assumption)
theorem FourVar.set0 {w : World} {b : Nat} {s : SD} (h : FourVar w b s) (x : Int) : FourVar (w.setCell ⟨b, 0, none⟩ (.int .i64 x)) b { s with b := x } := by
  obtain ⟨⟨e0, e1, e2, e3, hlt⟩, f0, f1, f2, f3⟩ := h
  refine ⟨⟨World.cell?_setCell_same _ _ _ e0, ?_, ?_, ?_, by simp only [setCell_size]; exact hlt⟩, ?_, ?_, ?_, ?_⟩
  iterate 3 (rw [World.cell?_setCell_other _ _ _ _ (by simp)]; assumption)
  all_goals (simp only [World.frozen?_setCell]; assumption)
theorem FourVar.set1 {w : World} {b : Nat} {s : SD} (h : FourVar w b s) (x : Int) : FourVar (w.setCell ⟨b, 1, none⟩ (.int .i64 x)) b { s with h := x } := by
  obtain ⟨⟨e0, e1, e2, e3, hlt⟩, f0, f1, f2, f3⟩ := h
  refine ⟨⟨?_, World.cell?_setCell_same _ _ _ e1, ?_, ?_, by simp only [setCell_size]; exact hlt⟩, ?_, ?_, ?_, ?_⟩
  iterate 3 (rw [World.cell?_setCell_other _ _ _ _ (by simp)]; assumption)
  all_goals (simp only [World.frozen?_setCell]; assumption)
theorem FourVar.set2 {w : World} {b : Nat} {s : SD} (h : FourVar w b s) (x : Int) : FourVar (w.setCell ⟨b, 2, none⟩ (.int .i64 x)) b { s with l := x } := by
  obtain ⟨⟨e0, e1, e2, e3, hlt⟩, f0, f1, f2, f3⟩ := h
  refine ⟨⟨?_, ?_, World.cell?_setCell_same _ _ _ e2, ?_, by simp only [setCell_size]; exact hlt⟩, ?_, ?_, ?_, ?_⟩
  iterate 3 (rw [World.cell?_setCell_other _ _ _ _ (by simp)]; assumption)
  all_goals (simp only [World.frozen?_setCell]; assumption)
theorem FourVar.set3 {w : World} {b : Nat} {s : SD} (h : FourVar w b s) (x : Int) : FourVar (w.setCell ⟨b, 3, none⟩ (.int .i64 x)) b { s with g := x } := by
  obtain ⟨⟨e0, e1, e2, e3, hlt⟩, f0, f1, f2, f3⟩ := h
  refine ⟨⟨?_, ?_, ?_, World.cell?_setCell_same _ _ _ e3, by simp only [setCell_size]; exact hlt⟩, ?_, ?_, ?_, ?_⟩
  iterate 3 (rw [World.cell?_setCell_other _ _ _ _ (by simp)]; assumption)
  all_goals (simp only [World.frozen?_setCell]; assumption)
theorem FourVar.drewT {w : World} {b : Nat} {s : SD} (h : FourVar w b s) : FourVar w.drew b s := h.below (Below.refl _ _).drew
theorem FourVar.cells {w : World} {b : Nat} {s : SD} (h : FourVar w b s) : w.cell? ⟨b, 0, none⟩ = some (.int .i64 s.b) ∧ w.cell? ⟨b, 1, none⟩ = some (.int .i64 s.h) ∧ w.cell? ⟨b, 2, none⟩ = some (.int .i64 s.l) ∧ w.cell? ⟨b, 3, none⟩ = some (.int .i64 s.g) ∧ b < w.heap.size := h.1

theorem afterS_parts (s : SD) (p : PD) :
    afterS s p (-1) = ⟨0, p.br + p.hr, p.bl + p.ll, sumS s - sumS ⟨0, p.br + p.hr, p.bl + p.ll, 0⟩⟩ ∧
    afterS s p 0 = ⟨s.b - p.bl - p.br, s.h - p.hl - p.hr, s.l - p.ll - p.lr, sumS s - sumS ⟨s.b - p.bl - p.br, s.h - p.hl - p.hr, s.l - p.ll - p.lr, 0⟩⟩ ∧
    afterS s p 1 = ⟨0, p.bl + p.hl, p.br + p.lr, sumS s - sumS ⟨0, p.bl + p.hl, p.br + p.lr, 0⟩⟩ := by
  unfold afterS goodS sumS
  refine ⟨?_, ?_, ?_⟩ <;> simp <;> omega

/-- What lies ahead of the last step: s in block b, the state that is left in block n, the result's variable in block r. -/
def Ahead (B : Nat) (w0 w : World) (b n r : Nat) (s q : SD) : Prop := (B ≤ b ∧ B ≤ n ∧ B ≤ r ∧ b ≠ n ∧ b ≠ r ∧ n ≠ r) ∧ StateAt w b s ∧ FourVar w n q ∧ FourVar w r zeroS ∧ Below B w0 w

set_option maxRecDepth 100000 in
set_option maxHeartbeats 6400000 in
theorem implStateAfter (s : SD) (p : PD) (x : Int) (hx : -1 ≤ x ∧ x ≤ 1) (hs : SIn s) (hp : PIn s p) (w : World) :
    Calls Tryd.prog 83 #[stateV s, pickV p, .int .i64 x] w fun e w' => e = .returned (stateV (afterS s p x)) ∧ Below w.heap.size w w' := by
  have HS : Hid (Small s) := by unfold SIn sumS at hs; unfold Hid Small; omega
  have CS := Lib.hid (fun W => implCountCoins s HS.out W)
  have P0 := StateAt.new w 49 s
  have B0 := alloc_below w (.cells #[.int .i64 s.b, .int .i64 s.h, .int .i64 s.l, .int .i64 s.g] 49)
  have s0 : (w.alloc (.cells #[.int .i64 s.b, .int .i64 s.h, .int .i64 s.l, .int .i64 s.g] 49)).heap.size = w.heap.size + 1 := by simp
  generalize hX0 : w.alloc (.cells #[.int .i64 s.b, .int .i64 s.h, .int .i64 s.l, .int .i64 s.g] 49) = X0 at P0 B0 s0
  have Q0 := PickAt.new X0 52 p
  have B1 := alloc_below X0 (.cells #[.int .i64 p.bl, .int .i64 p.br, .int .i64 p.hl, .int .i64 p.hr, .int .i64 p.ll, .int .i64 p.lr, .int .i64 p.gl, .int .i64 p.gr] 52)
  have s1 : (X0.alloc (.cells #[.int .i64 p.bl, .int .i64 p.br, .int .i64 p.hl, .int .i64 p.hr, .int .i64 p.ll, .int .i64 p.lr, .int .i64 p.gl, .int .i64 p.gr] 52)).heap.size = w.heap.size + 2 := by simp [s0]
  generalize hX1 : X0.alloc (.cells #[.int .i64 p.bl, .int .i64 p.br, .int .i64 p.hl, .int .i64 p.hr, .int .i64 p.ll, .int .i64 p.lr, .int .i64 p.gl, .int .i64 p.gr] 52) = X1 at Q0 B1 s1
  rw [s0] at Q0
  have R0 := FourVar.new X1 49 zeroS
  have B2 := alloc_below X1 (.cells #[.int .i64 0, .int .i64 0, .int .i64 0, .int .i64 0] 49)
  have s2 : (X1.alloc (.cells #[.int .i64 0, .int .i64 0, .int .i64 0, .int .i64 0] 49)).heap.size = w.heap.size + 3 := by simp [s1]
  rw [s1] at R0
  change FourVar (X1.alloc (.cells #[.int .i64 0, .int .i64 0, .int .i64 0, .int .i64 0] 49)) _ _ at R0
  generalize hX2 : X1.alloc (.cells #[.int .i64 0, .int .i64 0, .int .i64 0, .int .i64 0] 49) = X2 at R0 B2 s2
  have N0 := FourVar.new X2 49 zeroS
  have B3 := alloc_below X2 (.cells #[.int .i64 0, .int .i64 0, .int .i64 0, .int .i64 0] 49)
  rw [s2] at N0
  change FourVar (X2.alloc (.cells #[.int .i64 0, .int .i64 0, .int .i64 0, .int .i64 0] 49)) _ _ at N0
  generalize hX3 : X2.alloc (.cells #[.int .i64 0, .int .i64 0, .int .i64 0, .int .i64 0] 49) = X3 at N0 B3
  have P3 := Lib.hid (((P0.below B1).below B2).below B3)
  have Q3 := Lib.hid ((Q0.below B2).below B3)
  have R3 := Lib.hid (R0.below B3)
  have N3 := Lib.hid N0
  have BX := Lib.hid (below_up (below_up (below_up B0 B1) B2) B3)
  clear P0 B0 B1 B2 B3 Q0 R0 N0
  have HP : Hid (SIn s ∧ PIn s p) := ⟨hs, hp⟩
  unfold SIn sumS at hs
  unfold PIn at hp
  obtain ⟨e0, e1, e2, e3, -⟩ := P3.out
  obtain ⟨q0, q1, q2, q3, q4, q5, q6, q7, -⟩ := Q3.out
  obtain ⟨⟨n0, n1, n2, n3, -⟩, g0, g1, g2, g3⟩ := N3.out
  unfold stateV at CS ⊢
  unfold pickV
  go_enter Tryd.func83, Tryd.ntmps83
  rcases (show x = -1 ∨ x = 0 ∨ x = 1 by omega) with rfl | rfl | rfl
  · have v10 : IntKind.i64.wrap (p.br + p.hr) = p.br + p.hr := by rw [IntKind.wrap_i64]; omega
    have v11 : IntKind.i64.wrap (p.bl + p.ll) = p.bl + p.ll := by rw [IntKind.wrap_i64]; omega
    obtain ⟨q, hq⟩ : ∃ q : SD, q = ⟨0, p.br + p.hr, p.bl + p.ll, 0⟩ := ⟨_, rfl⟩
    have N4 := Lib.hid ((N3.out.set1 (p.br + p.hr)).set2 (p.bl + p.ll))
    have P4 := Lib.hid ((P3.out.setFar (c := w.heap.size + 3) (j := 1) (by omega) (.int .i64 (p.br + p.hr))).setFar (c := w.heap.size + 3) (j := 2) (by omega) (.int .i64 (p.bl + p.ll)))
    have R4 := Lib.hid ((R3.out.setFar (c := w.heap.size + 3) (j := 1) (by omega) (.int .i64 (p.br + p.hr))).setFar (c := w.heap.size + 3) (j := 2) (by omega) (.int .i64 (p.bl + p.ll)))
    have B4 : Hid (Below w.heap.size w ((X3.setCell ⟨w.heap.size + 3, 1, none⟩ (.int .i64 (p.br + p.hr))).setCell ⟨w.heap.size + 3, 2, none⟩ (.int .i64 (p.bl + p.ll)))) := ((BX.out.setCell (Nat.le_add_right _ 3) _).setCell (Nat.le_add_right _ 3) _)
    have HE : Hid (afterS s p (-1) = { q with g := sumS s - sumS q }) := by unfold Hid; rw [hq]; exact (afterS_parts s p).1
    have HM : Hid (Small q) := by rw [hq]; unfold Hid Small; simp only []; omega
    change Hid (FourVar _ _ ⟨0, p.br + p.hr, p.bl + p.ll, 0⟩) at N4
    rw [← hq] at N4
    have CQ := Lib.hid (fun W => implCountCoins q HM.out W)
    clear hs hp hx N3 P3 R3 BX
    go_upto_region 13 with fail
    clear v10 v11 e0 e1 e2 e3 q0 q1 q2 q3 q4 q5 q6 q7 n0 n1 n2 n3 g0 g1 g2 g3 Q3 HP
    clear hX0 hX1 hX2 hX3 s0 s1 s2
    generalize ((X3.setCell ⟨w.heap.size + 3, 1, none⟩ (.int .i64 (p.br + p.hr))).setCell ⟨w.heap.size + 3, 2, none⟩ (.int .i64 (p.bl + p.ll))) = Y at P4 R4 B4 N4
    clear hq
    unfold stateV at CQ
    have v3 : IntKind.i64.wrap (sumS s - sumS q) = sumS s - sumS q := by
      have h1 := HS.out
      have h2 := HM.out
      unfold Small at h1 h2
      unfold sumS
      rw [IntKind.wrap_i64]; omega
    obtain ⟨e0, e1, e2, e3, -⟩ := P4.out
    obtain ⟨⟨n0, n1, n2, n3, -⟩, g0, g1, g2, g3⟩ := N4.out
    (go_region_with (first
        | (go_at_call_of 84 (Value.int .i64 (SD.b s)); refine (CS.out _).mono ?_; rintro e w5 ⟨rfl, b5⟩; have B5 := Lib.hid (below_up B4.out.drew b5); have P5 := Lib.hid (P4.out.drewT.below b5); have N5 := Lib.hid (N4.out.drewT.below b5); have R5 := Lib.hid (R4.out.drewT.below b5); clear b5 e0 e1 e2 e3 n0 n1 n2 n3 g0 g1 g2 g3; obtain ⟨⟨n0, n1, n2, n3, -⟩, g0, g1, g2, g3⟩ := N5.out)
        | (go_at_call_of 84 (Value.int .i64 (SD.b q)); refine (CQ.out _).mono ?_; rintro e w6 ⟨rfl, b6⟩; have B6 := Lib.hid (below_up B5.out b6); have P6 := Lib.hid (P5.out.below b6); have N6 := Lib.hid (N5.out.below b6); have R6 := Lib.hid (R5.out.below b6); clear b6 n0 n1 n2 n3 g0 g1 g2 g3; obtain ⟨⟨n0, n1, n2, n3, -⟩, g0, g1, g2, g3⟩ := N6.out)
        | fail))
    all_goals
      obtain ⟨⟨r0, r1, r2, r3, -⟩, h0, h1, h2, h3⟩ := R6.out
      clear CS CQ HS HM v3
      go_wp2
      refine bodyPost_ret (v := .agg #[.int .i64 q.b, .int .i64 q.h, .int .i64 q.l, .int .i64 (sumS s - sumS q)]) (by simp [results, Tryd.results83, go_sem, r0, r1, r2, r3]) rfl ⟨?_, ?_⟩
      · rw [HE.out]
      · exact below_fill4 (B6.out.setCell (Nat.le_add_right _ 3) _) (Nat.le_add_right _ 2) ⟨q.b, q.h, q.l, sumS s - sumS q⟩
  · have v10 : IntKind.i64.wrap (s.b - p.bl) = s.b - p.bl := by rw [IntKind.wrap_i64]; omega
    have v11 : IntKind.i64.wrap (s.b - p.bl - p.br) = s.b - p.bl - p.br := by rw [IntKind.wrap_i64]; omega
    have v12 : IntKind.i64.wrap (s.h - p.hl) = s.h - p.hl := by rw [IntKind.wrap_i64]; omega
    have v13 : IntKind.i64.wrap (s.h - p.hl - p.hr) = s.h - p.hl - p.hr := by rw [IntKind.wrap_i64]; omega
    have v14 : IntKind.i64.wrap (s.l - p.ll) = s.l - p.ll := by rw [IntKind.wrap_i64]; omega
    have v15 : IntKind.i64.wrap (s.l - p.ll - p.lr) = s.l - p.ll - p.lr := by rw [IntKind.wrap_i64]; omega
    obtain ⟨q, hq⟩ : ∃ q : SD, q = ⟨s.b - p.bl - p.br, s.h - p.hl - p.hr, s.l - p.ll - p.lr, 0⟩ := ⟨_, rfl⟩
    have N4 := Lib.hid (((N3.out.set0 (s.b - p.bl - p.br)).set1 (s.h - p.hl - p.hr)).set2 (s.l - p.ll - p.lr))
    have P4 := Lib.hid (((P3.out.setFar (c := w.heap.size + 3) (j := 0) (by omega) (.int .i64 (s.b - p.bl - p.br))).setFar (c := w.heap.size + 3) (j := 1) (by omega) (.int .i64 (s.h - p.hl - p.hr))).setFar (c := w.heap.size + 3) (j := 2) (by omega) (.int .i64 (s.l - p.ll - p.lr)))
    have R4 := Lib.hid (((R3.out.setFar (c := w.heap.size + 3) (j := 0) (by omega) (.int .i64 (s.b - p.bl - p.br))).setFar (c := w.heap.size + 3) (j := 1) (by omega) (.int .i64 (s.h - p.hl - p.hr))).setFar (c := w.heap.size + 3) (j := 2) (by omega) (.int .i64 (s.l - p.ll - p.lr)))
    have B4 : Hid (Below w.heap.size w (((X3.setCell ⟨w.heap.size + 3, 0, none⟩ (.int .i64 (s.b - p.bl - p.br))).setCell ⟨w.heap.size + 3, 1, none⟩ (.int .i64 (s.h - p.hl - p.hr))).setCell ⟨w.heap.size + 3, 2, none⟩ (.int .i64 (s.l - p.ll - p.lr)))) := (((BX.out.setCell (Nat.le_add_right _ 3) _).setCell (Nat.le_add_right _ 3) _).setCell (Nat.le_add_right _ 3) _)
    have HE : Hid (afterS s p 0 = { q with g := sumS s - sumS q }) := by unfold Hid; rw [hq]; exact (afterS_parts s p).2.1
    have HM : Hid (Small q) := by rw [hq]; unfold Hid Small; simp only []; omega
    change Hid (FourVar _ _ ⟨s.b - p.bl - p.br, s.h - p.hl - p.hr, s.l - p.ll - p.lr, 0⟩) at N4
    rw [← hq] at N4
    have CQ := Lib.hid (fun W => implCountCoins q HM.out W)
    clear hs hp hx N3 P3 R3 BX
    go_upto_region 13 with fail
    clear v10 v11 v12 v13 v14 v15 e0 e1 e2 e3 q0 q1 q2 q3 q4 q5 q6 q7 n0 n1 n2 n3 g0 g1 g2 g3 Q3 HP
    clear hX0 hX1 hX2 hX3 s0 s1 s2
    generalize (((X3.setCell ⟨w.heap.size + 3, 0, none⟩ (.int .i64 (s.b - p.bl - p.br))).setCell ⟨w.heap.size + 3, 1, none⟩ (.int .i64 (s.h - p.hl - p.hr))).setCell ⟨w.heap.size + 3, 2, none⟩ (.int .i64 (s.l - p.ll - p.lr))) = Y at P4 R4 B4 N4
    clear hq
    unfold stateV at CQ
    have v3 : IntKind.i64.wrap (sumS s - sumS q) = sumS s - sumS q := by
      have h1 := HS.out
      have h2 := HM.out
      unfold Small at h1 h2
      unfold sumS
      rw [IntKind.wrap_i64]; omega
    obtain ⟨e0, e1, e2, e3, -⟩ := P4.out
    obtain ⟨⟨n0, n1, n2, n3, -⟩, g0, g1, g2, g3⟩ := N4.out
    (go_region_with (first
        | (go_at_call_of 84 (Value.int .i64 (SD.b s)); refine (CS.out _).mono ?_; rintro e w5 ⟨rfl, b5⟩; have B5 := Lib.hid (below_up B4.out.drew b5); have P5 := Lib.hid (P4.out.drewT.below b5); have N5 := Lib.hid (N4.out.drewT.below b5); have R5 := Lib.hid (R4.out.drewT.below b5); clear b5 e0 e1 e2 e3 n0 n1 n2 n3 g0 g1 g2 g3; obtain ⟨⟨n0, n1, n2, n3, -⟩, g0, g1, g2, g3⟩ := N5.out)
        | (go_at_call_of 84 (Value.int .i64 (SD.b q)); refine (CQ.out _).mono ?_; rintro e w6 ⟨rfl, b6⟩; have B6 := Lib.hid (below_up B5.out b6); have P6 := Lib.hid (P5.out.below b6); have N6 := Lib.hid (N5.out.below b6); have R6 := Lib.hid (R5.out.below b6); clear b6 n0 n1 n2 n3 g0 g1 g2 g3; obtain ⟨⟨n0, n1, n2, n3, -⟩, g0, g1, g2, g3⟩ := N6.out)
        | fail))
    all_goals
      obtain ⟨⟨r0, r1, r2, r3, -⟩, h0, h1, h2, h3⟩ := R6.out
      clear CS CQ HS HM v3
      go_wp2
      refine bodyPost_ret (v := .agg #[.int .i64 q.b, .int .i64 q.h, .int .i64 q.l, .int .i64 (sumS s - sumS q)]) (by simp [results, Tryd.results83, go_sem, r0, r1, r2, r3]) rfl ⟨?_, ?_⟩
      · rw [HE.out]
      · exact below_fill4 (B6.out.setCell (Nat.le_add_right _ 3) _) (Nat.le_add_right _ 2) ⟨q.b, q.h, q.l, sumS s - sumS q⟩
  · have v10 : IntKind.i64.wrap (p.bl + p.hl) = p.bl + p.hl := by rw [IntKind.wrap_i64]; omega
    have v11 : IntKind.i64.wrap (p.br + p.lr) = p.br + p.lr := by rw [IntKind.wrap_i64]; omega
    obtain ⟨q, hq⟩ : ∃ q : SD, q = ⟨0, p.bl + p.hl, p.br + p.lr, 0⟩ := ⟨_, rfl⟩
    have N4 := Lib.hid ((N3.out.set1 (p.bl + p.hl)).set2 (p.br + p.lr))
    have P4 := Lib.hid ((P3.out.setFar (c := w.heap.size + 3) (j := 1) (by omega) (.int .i64 (p.bl + p.hl))).setFar (c := w.heap.size + 3) (j := 2) (by omega) (.int .i64 (p.br + p.lr)))
    have R4 := Lib.hid ((R3.out.setFar (c := w.heap.size + 3) (j := 1) (by omega) (.int .i64 (p.bl + p.hl))).setFar (c := w.heap.size + 3) (j := 2) (by omega) (.int .i64 (p.br + p.lr)))
    have B4 : Hid (Below w.heap.size w ((X3.setCell ⟨w.heap.size + 3, 1, none⟩ (.int .i64 (p.bl + p.hl))).setCell ⟨w.heap.size + 3, 2, none⟩ (.int .i64 (p.br + p.lr)))) := ((BX.out.setCell (Nat.le_add_right _ 3) _).setCell (Nat.le_add_right _ 3) _)
    have HE : Hid (afterS s p 1 = { q with g := sumS s - sumS q }) := by unfold Hid; rw [hq]; exact (afterS_parts s p).2.2
    have HM : Hid (Small q) := by rw [hq]; unfold Hid Small; simp only []; omega
    change Hid (FourVar _ _ ⟨0, p.bl + p.hl, p.br + p.lr, 0⟩) at N4
    rw [← hq] at N4
    have CQ := Lib.hid (fun W => implCountCoins q HM.out W)
    clear hs hp hx N3 P3 R3 BX
    go_upto_region 13 with fail
    clear v10 v11 e0 e1 e2 e3 q0 q1 q2 q3 q4 q5 q6 q7 n0 n1 n2 n3 g0 g1 g2 g3 Q3 HP
    clear hX0 hX1 hX2 hX3 s0 s1 s2
    generalize ((X3.setCell ⟨w.heap.size + 3, 1, none⟩ (.int .i64 (p.bl + p.hl))).setCell ⟨w.heap.size + 3, 2, none⟩ (.int .i64 (p.br + p.lr))) = Y at P4 R4 B4 N4
    clear hq
    unfold stateV at CQ
    have v3 : IntKind.i64.wrap (sumS s - sumS q) = sumS s - sumS q := by
      have h1 := HS.out
      have h2 := HM.out
      unfold Small at h1 h2
      unfold sumS
      rw [IntKind.wrap_i64]; omega
    obtain ⟨e0, e1, e2, e3, -⟩ := P4.out
    obtain ⟨⟨n0, n1, n2, n3, -⟩, g0, g1, g2, g3⟩ := N4.out
    (go_region_with (first
        | (go_at_call_of 84 (Value.int .i64 (SD.b s)); refine (CS.out _).mono ?_; rintro e w5 ⟨rfl, b5⟩; have B5 := Lib.hid (below_up B4.out.drew b5); have P5 := Lib.hid (P4.out.drewT.below b5); have N5 := Lib.hid (N4.out.drewT.below b5); have R5 := Lib.hid (R4.out.drewT.below b5); clear b5 e0 e1 e2 e3 n0 n1 n2 n3 g0 g1 g2 g3; obtain ⟨⟨n0, n1, n2, n3, -⟩, g0, g1, g2, g3⟩ := N5.out)
        | (go_at_call_of 84 (Value.int .i64 (SD.b q)); refine (CQ.out _).mono ?_; rintro e w6 ⟨rfl, b6⟩; have B6 := Lib.hid (below_up B5.out b6); have P6 := Lib.hid (P5.out.below b6); have N6 := Lib.hid (N5.out.below b6); have R6 := Lib.hid (R5.out.below b6); clear b6 n0 n1 n2 n3 g0 g1 g2 g3; obtain ⟨⟨n0, n1, n2, n3, -⟩, g0, g1, g2, g3⟩ := N6.out)
        | fail))
    all_goals
      obtain ⟨⟨r0, r1, r2, r3, -⟩, h0, h1, h2, h3⟩ := R6.out
      clear CS CQ HS HM v3
      go_wp2
      refine bodyPost_ret (v := .agg #[.int .i64 q.b, .int .i64 q.h, .int .i64 q.l, .int .i64 (sumS s - sumS q)]) (by simp [results, Tryd.results83, go_sem, r0, r1, r2, r3]) rfl ⟨?_, ?_⟩
      · rw [HE.out]
      · exact below_fill4 (B6.out.setCell (Nat.le_add_right _ 3) _) (Nat.le_add_right _ 2) ⟨q.b, q.h, q.l, sumS s - sumS q⟩

/-- The program's AfterPick. -/
theorem after_ok {s : SD} {p : PD} {x : Int} (h : pickB s p = true) (hx : -1 ≤ x ∧ x ≤ 1) (W : World) : Calls Tryd.prog 83 #[stateV s, pickV p, .int .i64 x] W fun e w' => e = .returned (stateV (afterS s p x)) ∧ Below W.heap.size W w' :=
  implStateAfter s p x hx (pick_in h).1 (pick_in h).2 W

set_option maxRecDepth 100000 in
set_option maxHeartbeats 3200000 in
theorem implAfterPick (s : SD) (p : PD) (x : Int) (hp : ∀ y ∈ p.list, I64 y) (w : World) :
    Calls Tryd.prog 32 #[stateV s, pickV p, .int .i64 x] w fun e w' => e = .returned (.tuple #[stateV ((afterO s p x).getD zeroS), .bool (afterO s p x).isSome]) ∧ Below w.heap.size w w' := by
  have C1 := Lib.hid (fun W => implPickOk s p hp W)
  have C3 : Hid (pickB s p = true → -1 ≤ x ∧ x ≤ 1 → ∀ W, Calls Tryd.prog 83 #[stateV s, pickV p, .int .i64 x] W fun e w' => e = .returned (stateV (afterS s p x)) ∧ Below W.heap.size W w') := fun h hx W => after_ok h hx W
  have HR : Hid (afterO s p x = if (pickB s p && (decide (-1 ≤ x) && decide (x ≤ 1))) = true then some (afterS s p x) else none) := rfl
  clear hp
  generalize afterO s p x = r at HR ⊢
  generalize afterS s p x = q at C3 HR
  generalize pickB s p = sb at C1 C3 HR
  have P0 := StateAt.new w 49 s
  have B0 := alloc_below w (.cells #[.int .i64 s.b, .int .i64 s.h, .int .i64 s.l, .int .i64 s.g] 49)
  have s0 : (w.alloc (.cells #[.int .i64 s.b, .int .i64 s.h, .int .i64 s.l, .int .i64 s.g] 49)).heap.size = w.heap.size + 1 := by simp
  generalize hX0 : w.alloc (.cells #[.int .i64 s.b, .int .i64 s.h, .int .i64 s.l, .int .i64 s.g] 49) = X0 at P0 B0 s0
  have Q0 := PickAt.new X0 52 p
  have B1 := alloc_below X0 (.cells #[.int .i64 p.bl, .int .i64 p.br, .int .i64 p.hl, .int .i64 p.hr, .int .i64 p.ll, .int .i64 p.lr, .int .i64 p.gl, .int .i64 p.gr] 52)
  have s1 : (X0.alloc (.cells #[.int .i64 p.bl, .int .i64 p.br, .int .i64 p.hl, .int .i64 p.hr, .int .i64 p.ll, .int .i64 p.lr, .int .i64 p.gl, .int .i64 p.gr] 52)).heap.size = w.heap.size + 2 := by simp [s0]
  generalize hX1 : X0.alloc (.cells #[.int .i64 p.bl, .int .i64 p.br, .int .i64 p.hl, .int .i64 p.hr, .int .i64 p.ll, .int .i64 p.lr, .int .i64 p.gl, .int .i64 p.gr] 52) = X1 at Q0 B1 s1
  rw [s0] at Q0
  have R0 := FourVar.new X1 49 zeroS
  have B2 := alloc_below X1 (.cells #[.int .i64 0, .int .i64 0, .int .i64 0, .int .i64 0] 49)
  rw [s1] at R0
  have P2 := Lib.hid ((P0.below B1).below B2)
  have Q2 := Lib.hid (Q0.below B2)
  have BX := Lib.hid (below_up (below_up B0 B1) B2)
  change FourVar (X1.alloc (.cells #[.int .i64 0, .int .i64 0, .int .i64 0, .int .i64 0] 49)) _ _ at R0
  generalize hX2 : X1.alloc (.cells #[.int .i64 0, .int .i64 0, .int .i64 0, .int .i64 0] 49) = X2 at R0 P2 Q2 BX
  have R2 := Lib.hid R0
  clear P0 B0 B1 B2 Q0 R0
  unfold stateV at C1 C3 ⊢
  unfold pickV at C1 C3 ⊢
  obtain ⟨e0, e1, e2, e3, -⟩ := P2.out
  obtain ⟨q0, q1, q2, q3, q4, q5, q6, q7, -⟩ := Q2.out
  go_enter Tryd.func32, Tryd.ntmps32
  go_wp2_with fail
  refine (C1.out _).mono ?_
  rintro e w1 ⟨rfl, b1⟩
  have B1 := Lib.hid (below_up BX.out b1)
  have P1 := Lib.hid (P2.out.below b1)
  have Q1 := Lib.hid (Q2.out.below b1)
  have R1 := Lib.hid (R2.out.below b1)
  clear b1 e0 e1 e2 e3 q0 q1 q2 q3 q4 q5 q6 q7 BX P2 Q2 R2
  have hbad : (sb = true ∧ -1 ≤ x ∧ x ≤ 1) ∨ (sb = false) ∨ (sb = true ∧ x < -1) ∨ (sb = true ∧ ¬ (x < -1) ∧ 1 < x) := by
    cases sb
    · exact .inr (.inl rfl)
    · simp only [true_and, Bool.true_eq_false, false_or]; omega
  rcases hbad with ⟨rfl, hx⟩ | rfl | ⟨rfl, hx⟩ | ⟨rfl, hx0, hx⟩
  · have C4 : Hid (∀ W, Calls Tryd.prog 83 #[.agg #[.int .i64 s.b, .int .i64 s.h, .int .i64 s.l, .int .i64 s.g], .agg #[.int .i64 p.bl, .int .i64 p.br, .int .i64 p.hl, .int .i64 p.hr, .int .i64 p.ll, .int .i64 p.lr, .int .i64 p.gl, .int .i64 p.gr], .int .i64 x] W fun e w' => e = .returned (.agg #[.int .i64 q.b, .int .i64 q.h, .int .i64 q.l, .int .i64 q.g]) ∧ Below W.heap.size W w') := C3.out rfl hx
    have HF : Hid (r = some q) := by unfold Hid; rw [HR.out, decide_eq_true hx.1, decide_eq_true hx.2]; rfl
    have x1 : ¬ (x < -1) := by omega
    have x2 : ¬ (1 < x) := by omega
    clear HR C3 hx
    obtain ⟨e0, e1, e2, e3, -⟩ := P1.out
    obtain ⟨q0, q1, q2, q3, q4, q5, q6, q7, -⟩ := Q1.out
    go_wp2_with fail
    refine (C4.out _).mono ?_
    rintro e w3 ⟨rfl, b3⟩
    have B3 := Lib.hid (below_up B1.out b3)
    obtain ⟨⟨r0, r1, r2, r3, rl⟩, g0, g1, g2, g3⟩ := R1.out.below b3
    clear b3 e0 e1 e2 e3 q0 q1 q2 q3 q4 q5 q6 q7
    go_wp2
    refine bodyPost_ret (v := .tuple #[.agg #[.int .i64 q.b, .int .i64 q.h, .int .i64 q.l, .int .i64 q.g], .bool true]) (by simp [results, Tryd.results32, go_sem, r0, r1, r2, r3]) rfl ⟨?_, ?_⟩
    · rw [HF.out]; rfl
    · exact below_fill4 B3.out (b := w.heap.size + 2) (by omega) q
  all_goals
    have HF : Hid (r = none) := by
      unfold Hid
      first
        | (rw [HR.out]; rfl)
        | (rw [HR.out, decide_eq_false (by omega : ¬ (-1 ≤ x))]; rfl)
        | (rw [HR.out, decide_eq_false (by omega : ¬ (x ≤ 1)), Bool.and_false, Bool.and_false]; rfl)
    clear HR C3
    obtain ⟨⟨r0, r1, r2, r3, rl⟩, g0, g1, g2, g3⟩ := R1.out
    go_wp2
    refine bodyPost_ret (v := .tuple #[.agg #[.int .i64 0, .int .i64 0, .int .i64 0, .int .i64 0], .bool false]) (by simp [results, Tryd.results32, go_sem, r0, r1, r2, r3]) rfl ⟨?_, ?_⟩
    · rw [HF.out]; rfl
    · exact below_fill4 B1.out (b := w.heap.size + 2) (by omega) zeroS
end Go.Proofs.YtlflblngbneacabDoor
