/- The walk of the exact law of AfterPick round the contract of the program's function: it returns true for every argument. No condition. -/
import Derived.Test.YtfabcaodiohmaaaPickLaw
import Derived.Test.YtfabcaodiohmaaaAfterSpec
import Derived.Deep.DeepCutAuto
namespace Go.Proofs.Ytfabcaodiohmaaa
open Go.RowKit

set_option maxHeartbeats 1600000 in
theorem eqStateL (a : SD) (w : World) : Calls Try.prog 20 #[stateV a, stateV a] w fun e w' => e = .returned (.bool true) ∧ Below w.heap.size w w' := by
  have P0 := StateAt.new w 25 a
  have B0 := alloc_below w (.cells #[.int .i64 a.b, .int .i64 a.h, .int .i64 a.l, .int .i64 a.g] 25)
  have s0 : (w.alloc (.cells #[.int .i64 a.b, .int .i64 a.h, .int .i64 a.l, .int .i64 a.g] 25)).heap.size = w.heap.size + 1 := by simp
  generalize hX0 : w.alloc (.cells #[.int .i64 a.b, .int .i64 a.h, .int .i64 a.l, .int .i64 a.g] 25) = X0 at P0 B0 s0
  have Q0 := StateAt.new X0 25 a
  have B1 := alloc_below X0 (.cells #[.int .i64 a.b, .int .i64 a.h, .int .i64 a.l, .int .i64 a.g] 25)
  rw [s0] at Q0
  generalize hX1 : X0.alloc (.cells #[.int .i64 a.b, .int .i64 a.h, .int .i64 a.l, .int .i64 a.g] 25) = X1 at Q0 B1
  obtain ⟨e0, e1, e2, e3, -⟩ := P0.below B1
  obtain ⟨q0, q1, q2, q3, -⟩ := Q0
  have BX := Lib.hid (below_up B0 B1)
  clear P0 B0 B1
  unfold stateV
  go_enter Try.func20, Try.ntmps20
  go_wp2
  go_ret
  exact ⟨rfl, BX.out⟩

/-- A state's four cells of one's own, behind what is older than B. -/
def Fresh4 (B : Nat) (w : World) (b : Nat) (s : SD) : Prop := FourVar w b s ∧ B < b
theorem Fresh4.new {B : Nat} {w : World} (h : B < w.heap.size) (ty : TypeId) (s : SD) : Fresh4 B (w.alloc (.cells #[.int .i64 s.b, .int .i64 s.h, .int .i64 s.l, .int .i64 s.g] ty)) w.heap.size s := ⟨FourVar.new w ty s, h⟩
theorem Fresh4.below {B : Nat} {w w' : World} {b : Nat} {s : SD} (h : Fresh4 B w b s) (hb : Below w.heap.size w w') : Fresh4 B w' b s := ⟨h.1.below hb, h.2⟩
theorem StateAt.cells {w : World} {b : Nat} {s : SD} (h : StateAt w b s) : w.cell? ⟨b, 0, none⟩ = some (.int .i64 s.b) ∧ w.cell? ⟨b, 1, none⟩ = some (.int .i64 s.h) ∧ w.cell? ⟨b, 2, none⟩ = some (.int .i64 s.l) ∧ w.cell? ⟨b, 3, none⟩ = some (.int .i64 s.g) ∧ b < w.heap.size := h
theorem PickAt.cells {w : World} {b : Nat} {p : PD} (h : PickAt w b p) : w.cell? ⟨b, 0, none⟩ = some (.int .i64 p.bl) ∧ w.cell? ⟨b, 1, none⟩ = some (.int .i64 p.br) ∧ w.cell? ⟨b, 2, none⟩ = some (.int .i64 p.hl) ∧ w.cell? ⟨b, 3, none⟩ = some (.int .i64 p.hr) ∧
    w.cell? ⟨b, 4, none⟩ = some (.int .i64 p.ll) ∧ w.cell? ⟨b, 5, none⟩ = some (.int .i64 p.lr) ∧ w.cell? ⟨b, 6, none⟩ = some (.int .i64 p.gl) ∧ w.cell? ⟨b, 7, none⟩ = some (.int .i64 p.gr) ∧ b < w.heap.size := h
theorem StateAt.lt {w : World} {b : Nat} {s : SD} (h : StateAt w b s) : b < w.heap.size := h.2.2.2.2
theorem PickAt.lt {w : World} {b : Nat} {p : PD} (h : PickAt w b p) : b < w.heap.size := h.2.2.2.2.2.2.2.2
theorem StateAt.far4 {w : World} {b c : Nat} {s : SD} (h : StateAt w b s) (hne : b < c) (q : SD) : StateAt ((((w.setCell ⟨c, 0, none⟩ (.int .i64 q.b)).setCell ⟨c, 1, none⟩ (.int .i64 q.h)).setCell ⟨c, 2, none⟩ (.int .i64 q.l)).setCell ⟨c, 3, none⟩ (.int .i64 q.g)) b s := by
  have hn : c ≠ b := by omega
  obtain ⟨e0, e1, e2, e3, hlt⟩ := h
  refine ⟨?_, ?_, ?_, ?_, by simp only [setCell_size]; exact hlt⟩
  all_goals (rw [World.cell?_setCell_far _ _ _ _ hn, World.cell?_setCell_far _ _ _ _ hn, World.cell?_setCell_far _ _ _ _ hn, World.cell?_setCell_far _ _ _ _ hn]; assumption)
theorem PickAt.far4 {w : World} {b c : Nat} {p : PD} (h : PickAt w b p) (hne : b < c) (q : SD) : PickAt ((((w.setCell ⟨c, 0, none⟩ (.int .i64 q.b)).setCell ⟨c, 1, none⟩ (.int .i64 q.h)).setCell ⟨c, 2, none⟩ (.int .i64 q.l)).setCell ⟨c, 3, none⟩ (.int .i64 q.g)) b p := by
  have hn : c ≠ b := by omega
  obtain ⟨e0, e1, e2, e3, e4, e5, e6, e7, hlt⟩ := h
  refine ⟨?_, ?_, ?_, ?_, ?_, ?_, ?_, ?_, by simp only [setCell_size]; exact hlt⟩
  all_goals (rw [World.cell?_setCell_far _ _ _ _ hn, World.cell?_setCell_far _ _ _ _ hn, World.cell?_setCell_far _ _ _ _ hn, World.cell?_setCell_far _ _ _ _ hn]; assumption)
theorem Fresh4.drewT {B : Nat} {w : World} {b : Nat} {s : SD} (h : Fresh4 B w b s) : Fresh4 B w.drew b s := h.below (Below.refl _ _).drew
theorem Fresh4.lt {B : Nat} {w : World} {b : Nat} {s : SD} (h : Fresh4 B w b s) : b < w.heap.size := h.1.1.2.2.2.2
theorem Fresh4.far4 {B : Nat} {w : World} {b c : Nat} {s : SD} (h : Fresh4 B w b s) (hne : b < c) (q : SD) : Fresh4 B ((((w.setCell ⟨c, 0, none⟩ (.int .i64 q.b)).setCell ⟨c, 1, none⟩ (.int .i64 q.h)).setCell ⟨c, 2, none⟩ (.int .i64 q.l)).setCell ⟨c, 3, none⟩ (.int .i64 q.g)) b s := by
  refine ⟨⟨h.1.1.far4 hne q, ?_, ?_, ?_, ?_⟩, h.2⟩
  all_goals (obtain ⟨⟨-, f0, f1, f2, f3⟩, -⟩ := h; simp only [World.frozen?_setCell]; assumption)
theorem Fresh4.fill {B : Nat} {w : World} {b : Nat} {s : SD} (h : Fresh4 B w b s) (q : SD) : Fresh4 B ((((w.setCell ⟨b, 0, none⟩ (.int .i64 q.b)).setCell ⟨b, 1, none⟩ (.int .i64 q.h)).setCell ⟨b, 2, none⟩ (.int .i64 q.l)).setCell ⟨b, 3, none⟩ (.int .i64 q.g)) b q := by
  obtain ⟨⟨⟨e0, e1, e2, e3, hlt⟩, f0, f1, f2, f3⟩, hB⟩ := h
  refine ⟨⟨⟨?_, ?_, ?_, ?_, by simp only [setCell_size]; exact hlt⟩, ?_, ?_, ?_, ?_⟩, hB⟩
  · rw [World.cell?_setCell_other _ _ _ _ (by simp), World.cell?_setCell_other _ _ _ _ (by simp), World.cell?_setCell_other _ _ _ _ (by simp)]; exact World.cell?_setCell_same _ _ _ e0
  · rw [World.cell?_setCell_other _ _ _ _ (by simp), World.cell?_setCell_other _ _ _ _ (by simp)]; exact World.cell?_setCell_same _ _ _ ((World.cell?_setCell_other _ _ _ _ (by simp)).trans e1)
  · rw [World.cell?_setCell_other _ _ _ _ (by simp)]; exact World.cell?_setCell_same _ _ _ ((World.cell?_setCell_other _ _ _ _ (by simp)).trans ((World.cell?_setCell_other _ _ _ _ (by simp)).trans e2))
  · exact World.cell?_setCell_same _ _ _ ((World.cell?_setCell_other _ _ _ _ (by simp)).trans ((World.cell?_setCell_other _ _ _ _ (by simp)).trans ((World.cell?_setCell_other _ _ _ _ (by simp)).trans e3)))
  all_goals (simp only [World.frozen?_setCell]; assumption)
def AfterPickIs (f : FuncId) (s : SD) (p : PD) (x : Int) : Prop := ∀ W, Calls Try.prog f #[stateV s, pickV p, .int .i64 x] W fun e w' => e = .returned (.tuple #[stateV ((afterO s p x).getD zeroS), .bool (afterO s p x).isSome]) ∧ Below W.heap.size W w'

set_option maxRecDepth 100000 in
set_option maxHeartbeats 3200000 in
theorem lawAfterPick (s : SD) (p : PD) (x : Int) (IM : AfterPickIs 19 s p x) (w : World) :
    Calls Try.prog 6 #[stateV s, pickV p, .int .i64 x] w fun e w' => e = .returned (.bool true) ∧ Below w.heap.size w w' := by
  have T := Lib.hid (toStateL s)
  have T2 := Lib.hid (toPickL p)
  have C1 := Lib.hid (specAfterPick s p x)
  have C2 := Lib.hid IM
  have P0 := StateAt.new w 23 s
  have B0 := alloc_below w (.cells #[.int .i64 s.b, .int .i64 s.h, .int .i64 s.l, .int .i64 s.g] 23)
  have s0 : (w.alloc (.cells #[.int .i64 s.b, .int .i64 s.h, .int .i64 s.l, .int .i64 s.g] 23)).heap.size = w.heap.size + 1 := by simp
  generalize hX0 : w.alloc (.cells #[.int .i64 s.b, .int .i64 s.h, .int .i64 s.l, .int .i64 s.g] 23) = X0 at P0 B0 s0
  have Q0 := PickAt.new X0 30 p
  have B1 := alloc_below X0 (.cells #[.int .i64 p.bl, .int .i64 p.br, .int .i64 p.hl, .int .i64 p.hr, .int .i64 p.ll, .int .i64 p.lr, .int .i64 p.gl, .int .i64 p.gr] 30)
  generalize hX1 : X0.alloc (.cells #[.int .i64 p.bl, .int .i64 p.br, .int .i64 p.hl, .int .i64 p.hr, .int .i64 p.ll, .int .i64 p.lr, .int .i64 p.gl, .int .i64 p.gr] 30) = X1 at Q0 B1
  rw [s0] at Q0
  have P1 := Lib.hid (P0.below B1)
  have Q1 := Lib.hid Q0
  have BX := Lib.hid (below_up B0 B1)
  clear P0 B0 B1 Q0
  unfold AfterPickIs at C2
  generalize (afterO s p x).getD zeroS = a at C1 C2
  generalize (afterO s p x).isSome = ok at C1 C2
  have E := Lib.hid (eqStateL a)
  unfold stateV at T C1 C2 E ⊢
  unfold pickV at T2 C1 C2 ⊢
  go_enter Try.func6, Try.ntmps6
  go_upto_region 1 with fail
  clear hX0 hX1 s0
  go_cut [7, 8] (fun v7 v8 wx => ∃ b : Nat, v7 = .pointer (some ⟨b, 0, none⟩) ∧ v8 = .bool ok ∧ Hid (Below w.heap.size w wx) ∧ Hid (StateAt wx w.heap.size s) ∧ Hid (PickAt wx (w.heap.size + 1) p) ∧ Hid (Fresh4 (w.heap.size + 1) wx b a))
  case first =>
    go_region_held3 (fun w' => (w'.cell? ⟨w.heap.size, 0, none⟩ = some (.int .i64 s.b) ∧ w'.cell? ⟨w.heap.size, 1, none⟩ = some (.int .i64 s.h) ∧ w'.cell? ⟨w.heap.size, 2, none⟩ = some (.int .i64 s.l) ∧ w'.cell? ⟨w.heap.size, 3, none⟩ = some (.int .i64 s.g) ∧ w.heap.size < w'.heap.size) ∧ (w'.cell? ⟨w.heap.size + 1, 0, none⟩ = some (.int .i64 p.bl) ∧ w'.cell? ⟨w.heap.size + 1, 1, none⟩ = some (.int .i64 p.br) ∧ w'.cell? ⟨w.heap.size + 1, 2, none⟩ = some (.int .i64 p.hl) ∧ w'.cell? ⟨w.heap.size + 1, 3, none⟩ = some (.int .i64 p.hr) ∧ w'.cell? ⟨w.heap.size + 1, 4, none⟩ = some (.int .i64 p.ll) ∧ w'.cell? ⟨w.heap.size + 1, 5, none⟩ = some (.int .i64 p.lr) ∧ w'.cell? ⟨w.heap.size + 1, 6, none⟩ = some (.int .i64 p.gl) ∧ w'.cell? ⟨w.heap.size + 1, 7, none⟩ = some (.int .i64 p.gr) ∧ w.heap.size + 1 < w'.heap.size))
      (first | with_reducible exact ⟨P4.out.cells, Q4.out.cells⟩ | with_reducible exact ⟨P3.out.cells, Q3.out.cells⟩ | with_reducible exact ⟨P2.out.cells, Q2.out.cells⟩ | with_reducible exact ⟨P1.out.drewT.cells, Q1.out.drewT.cells⟩ | with_reducible exact ⟨(P4.out.below (alloc_below _ _)).cells, (Q4.out.below (alloc_below _ _)).cells⟩ | with_reducible exact ⟨(P3.out.below (alloc_below _ _)).cells, (Q3.out.below (alloc_below _ _)).cells⟩ | with_reducible exact ⟨(P2.out.below (alloc_below _ _)).cells, (Q2.out.below (alloc_below _ _)).cells⟩ | with_reducible exact ⟨(P1.out.below (alloc_below _ _)).drewT.cells, (Q1.out.below (alloc_below _ _)).drewT.cells⟩ | with_reducible exact ⟨(P4.out.far4 (Nat.lt_trans (Nat.lt_succ_self _) hb) a).cells, (Q4.out.far4 hb a).cells⟩ | fail)
      (first
        | (go_at_call 11; refine (T.out _).mono ?_; rintro e w2 ⟨rfl, b2⟩; (first | (have B2 := Lib.hid (BX.out.trans (((Below.refl _ _).drew.trans b2).mono BX.out.size)); have P2 := Lib.hid (P1.out.drewT.below b2); have Q2 := Lib.hid (Q1.out.drewT.below b2); clear b2) | (have B2 := Lib.hid (below_up (below_up BX.out (alloc_below _ _)).drew b2); have P2 := Lib.hid ((P1.out.below (alloc_below _ _)).drewT.below b2); have Q2 := Lib.hid ((Q1.out.below (alloc_below _ _)).drewT.below b2); have F2 := Lib.hid ((Fresh4.new Q1.out.lt _ zeroS).drewT.below b2); clear b2)))
        | (go_at_call 16; refine (T2.out _).mono ?_; rintro e w3 ⟨rfl, b3⟩; (first | (have B3 := Lib.hid (below_up B2.out b3); have P3 := Lib.hid (P2.out.below b3); have Q3 := Lib.hid (Q2.out.below b3); (first | have F3 := Lib.hid (F2.out.below b3) | skip); clear b3) | (have B3 := Lib.hid (below_up (below_up B2.out (alloc_below _ _)) b3); have P3 := Lib.hid ((P2.out.below (alloc_below _ _)).below b3); have Q3 := Lib.hid ((Q2.out.below (alloc_below _ _)).below b3); have F3 := Lib.hid ((Fresh4.new Q2.out.lt _ zeroS).below b3); clear b3)))
        | (go_at_call 18; refine (C1.out _).mono ?_; rintro e w4 ⟨rfl, b4⟩; (first | (have B4 := Lib.hid (below_up B3.out b4); have P4 := Lib.hid (P3.out.below b4); have Q4 := Lib.hid (Q3.out.below b4); (first | (have F4 := Lib.hid (F3.out.below b4); obtain ⟨⟨⟨h0, h1, h2, h3, h4⟩, z0, z1, z2, z3⟩, hb⟩ := F4.out) | skip); clear b4) | (have B4 := Lib.hid (below_up (below_up B3.out (alloc_below _ _)) b4); have P4 := Lib.hid ((P3.out.below (alloc_below _ _)).below b4); have Q4 := Lib.hid ((Q3.out.below (alloc_below _ _)).below b4); have F4 := Lib.hid ((Fresh4.new Q3.out.lt _ zeroS).below b4); obtain ⟨⟨⟨h0, h1, h2, h3, h4⟩, z0, z1, z2, z3⟩, hb⟩ := F4.out; clear b4)))
        | fail)
    all_goals
      go_wp2_with fail
      go_meet
      case rel =>
        first
          | with_reducible exact ⟨_, rfl, rfl, Lib.hid (below_fill4 B4.out (Nat.le_of_lt (Nat.lt_trans (Nat.lt_succ_self _) hb)) a), Lib.hid (P4.out.far4 (Nat.lt_trans (Nat.lt_succ_self _) hb) a), Lib.hid (Q4.out.far4 hb a), Lib.hid (F4.out.fill a)⟩
          | with_reducible exact ⟨_, rfl, rfl, Lib.hid (below_up B4.out (alloc_below _ _)), Lib.hid (P4.out.below (alloc_below _ _)), Lib.hid (Q4.out.below (alloc_below _ _)), Lib.hid (Fresh4.new Q4.out.lt _ a)⟩
  case rest =>
    obtain ⟨c, rfl, rfl, B5, P5, Q5, G5⟩ := hcut
    have hcw := Lib.hid G5.out.2
    go_upto_region 2 with fail
    go_cut [9, 10] (fun v9 v10 wx => ∃ b : Nat, v9 = .pointer (some ⟨b, 0, none⟩) ∧ v10 = .bool ok ∧ Hid (Below w.heap.size w wx) ∧ Hid (Fresh4 (w.heap.size + 1) wx c a) ∧ Hid (Fresh4 c wx b a))
    case first =>
      go_region_held3 (fun w' => (w'.cell? ⟨w.heap.size, 0, none⟩ = some (.int .i64 s.b) ∧ w'.cell? ⟨w.heap.size, 1, none⟩ = some (.int .i64 s.h) ∧ w'.cell? ⟨w.heap.size, 2, none⟩ = some (.int .i64 s.l) ∧ w'.cell? ⟨w.heap.size, 3, none⟩ = some (.int .i64 s.g) ∧ w.heap.size < w'.heap.size) ∧ (w'.cell? ⟨w.heap.size + 1, 0, none⟩ = some (.int .i64 p.bl) ∧ w'.cell? ⟨w.heap.size + 1, 1, none⟩ = some (.int .i64 p.br) ∧ w'.cell? ⟨w.heap.size + 1, 2, none⟩ = some (.int .i64 p.hl) ∧ w'.cell? ⟨w.heap.size + 1, 3, none⟩ = some (.int .i64 p.hr) ∧ w'.cell? ⟨w.heap.size + 1, 4, none⟩ = some (.int .i64 p.ll) ∧ w'.cell? ⟨w.heap.size + 1, 5, none⟩ = some (.int .i64 p.lr) ∧ w'.cell? ⟨w.heap.size + 1, 6, none⟩ = some (.int .i64 p.gl) ∧ w'.cell? ⟨w.heap.size + 1, 7, none⟩ = some (.int .i64 p.gr) ∧ w.heap.size + 1 < w'.heap.size))
        (first | with_reducible exact ⟨P8.out.cells, Q8.out.cells⟩ | with_reducible exact ⟨P7.out.cells, Q7.out.cells⟩ | with_reducible exact ⟨P6.out.cells, Q6.out.cells⟩ | with_reducible exact ⟨P5.out.drewT.cells, Q5.out.drewT.cells⟩ | with_reducible exact ⟨(P8.out.below (alloc_below _ _)).cells, (Q8.out.below (alloc_below _ _)).cells⟩ | with_reducible exact ⟨(P7.out.below (alloc_below _ _)).cells, (Q7.out.below (alloc_below _ _)).cells⟩ | with_reducible exact ⟨(P6.out.below (alloc_below _ _)).cells, (Q6.out.below (alloc_below _ _)).cells⟩ | with_reducible exact ⟨(P5.out.below (alloc_below _ _)).drewT.cells, (Q5.out.below (alloc_below _ _)).drewT.cells⟩ | with_reducible exact ⟨(P8.out.far4 (Nat.lt_trans (Nat.lt_succ_self _) (Nat.lt_trans hcw.out hb)) a).cells, (Q8.out.far4 (Nat.lt_trans hcw.out hb) a).cells⟩ | fail)
        (first
          | (go_at_call 11; refine (T.out _).mono ?_; rintro e w6 ⟨rfl, b6⟩; (first | (have B6 := Lib.hid (B5.out.trans (((Below.refl _ _).drew.trans b6).mono B5.out.size)); have P6 := Lib.hid (P5.out.drewT.below b6); have Q6 := Lib.hid (Q5.out.drewT.below b6); have G6 := Lib.hid (G5.out.drewT.below b6); clear b6) | (have B6 := Lib.hid (below_up (below_up B5.out (alloc_below _ _)).drew b6); have P6 := Lib.hid ((P5.out.below (alloc_below _ _)).drewT.below b6); have Q6 := Lib.hid ((Q5.out.below (alloc_below _ _)).drewT.below b6); have G6 := Lib.hid ((G5.out.below (alloc_below _ _)).drewT.below b6); have F6 := Lib.hid ((Fresh4.new G5.out.lt _ zeroS).drewT.below b6); clear b6)))
          | (go_at_call 16; refine (T2.out _).mono ?_; rintro e w7 ⟨rfl, b7⟩; (first | (have B7 := Lib.hid (below_up B6.out b7); have P7 := Lib.hid (P6.out.below b7); have Q7 := Lib.hid (Q6.out.below b7); have G7 := Lib.hid (G6.out.below b7); (first | have F7 := Lib.hid (F6.out.below b7) | skip); clear b7) | (have B7 := Lib.hid (below_up (below_up B6.out (alloc_below _ _)) b7); have P7 := Lib.hid ((P6.out.below (alloc_below _ _)).below b7); have Q7 := Lib.hid ((Q6.out.below (alloc_below _ _)).below b7); have G7 := Lib.hid ((G6.out.below (alloc_below _ _)).below b7); have F7 := Lib.hid ((Fresh4.new G6.out.lt _ zeroS).below b7); clear b7)))
          | (go_at_call 19; refine (C2.out _).mono ?_; rintro e w8 ⟨rfl, b8⟩; (first | (have B8 := Lib.hid (below_up B7.out b8); have P8 := Lib.hid (P7.out.below b8); have Q8 := Lib.hid (Q7.out.below b8); have G8 := Lib.hid (G7.out.below b8); (first | (have F8 := Lib.hid (F7.out.below b8); obtain ⟨⟨⟨h0, h1, h2, h3, h4⟩, z0, z1, z2, z3⟩, hb⟩ := F8.out) | skip); clear b8) | (have B8 := Lib.hid (below_up (below_up B7.out (alloc_below _ _)) b8); have P8 := Lib.hid ((P7.out.below (alloc_below _ _)).below b8); have Q8 := Lib.hid ((Q7.out.below (alloc_below _ _)).below b8); have G8 := Lib.hid ((G7.out.below (alloc_below _ _)).below b8); have F8 := Lib.hid ((Fresh4.new G7.out.lt _ zeroS).below b8); obtain ⟨⟨⟨h0, h1, h2, h3, h4⟩, z0, z1, z2, z3⟩, hb⟩ := F8.out; clear b8)))
          | fail)
      all_goals
        go_wp2_with fail
        go_meet
        case rel =>
          first
            | with_reducible exact ⟨_, rfl, rfl, Lib.hid (below_fill4 B8.out (Nat.le_of_lt (Nat.lt_trans (Nat.lt_succ_self _) (Nat.lt_trans hcw.out hb))) a), Lib.hid (G8.out.far4 hb a), Lib.hid (F8.out.fill a)⟩
            | with_reducible exact ⟨_, rfl, rfl, Lib.hid (below_up B8.out (alloc_below _ _)), Lib.hid (G8.out.below (alloc_below _ _)), Lib.hid (Fresh4.new G8.out.lt _ a)⟩
    case rest =>
      obtain ⟨b, rfl, rfl, B9, G9, F9⟩ := hcut
      obtain ⟨⟨⟨c0, c1, c2, c3, -⟩, -⟩, -⟩ := G9.out
      obtain ⟨⟨⟨e0, e1, e2, e3, -⟩, -⟩, -⟩ := F9.out
      clear T T2 C1 C2 P5 Q5 G5 P1 Q1 BX B5
      cases ok
      all_goals
        go_wp2_with fail
        refine (E.out _).mono ?_
        rintro e w10 ⟨rfl, b10⟩
        have B10 := Lib.hid (below_up B9.out b10)
        clear b10 c0 c1 c2 c3 e0 e1 e2 e3
        go_wp2
        go_ret
        exact ⟨rfl, B10.out⟩
end Go.Proofs.Ytfabcaodiohmaaa
