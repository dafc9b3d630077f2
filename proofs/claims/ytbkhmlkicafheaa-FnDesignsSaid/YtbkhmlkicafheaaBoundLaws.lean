/- The walks of the exact laws of InfoBound, MostUnknown, WorstOutcome and LostCases round the contracts of the program's functions: each returns true for every argument. No condition. -/
import Derived.Test.YtbkhmlkicafheaaBoundSpec
import Derived.Test.YtbkhmlkicafheaaWorstSpec
import Derived.Test.YtbkhmlkicafheaaGStates
namespace Go.Proofs.Ytbkhmlkicafheaa
open Go.RowKit

/-- The contracts of the program's functions. -/
def InfoBoundIs (f : FuncId) (n : Int) : Prop := ∀ W, Calls Try.prog f #[.int .i64 n] W fun e w' => e = .returned (.int .i64 (infoI n)) ∧ Below W.heap.size W w'
def MostUnknownIs (f : FuncId) (k : Int) (g : Bool) : Prop := ∀ W, Calls Try.prog f #[.int .i64 k, .bool g] W fun e w' => e = .returned (.int .i64 (mostI k g)) ∧ Below W.heap.size W w'
def WorstOutcomeIs (f : FuncId) (s : SD) (p : PD) : Prop := ∀ W, Calls Try.prog f #[stateV s, pickV p] W fun e w' => e = .returned (.tuple #[.int .i64 ((worstO s p).getD 0), .bool (worstO s p).isSome]) ∧ Below W.heap.size W w'
def LostCasesIs (f : FuncId) (s : SD) (p : PD) : Prop := ∀ W, Calls Try.prog f #[stateV s, pickV p] W fun e w' => e = .returned (.int .i64 (lostI s p)) ∧ Below W.heap.size W w'

set_option maxHeartbeats 1600000 in
theorem lawInfoBound (n : Int) (IM : InfoBoundIs 14 n) (w : World) :
    Calls Try.prog 3 #[.int .i64 n] w fun e w' => e = .returned (.bool true) ∧ Below w.heap.size w w' := by
  have C1 := Lib.hid (specInfoBound n)
  have C2 := Lib.hid IM
  unfold InfoBoundIs at C2
  generalize infoI n = r at C1 C2
  go_enter Try.func3, Try.ntmps3
  go_wp2_with fail
  refine (C1.out _).mono ?_
  rintro e w1 ⟨rfl, rfl⟩
  go_wp2_with fail
  refine (C2.out _).mono ?_
  rintro e w2 ⟨rfl, b2⟩
  have B2 := Lib.hid b2
  clear b2
  go_wp2
  go_ret
  exact ⟨rfl, B2.out⟩

set_option maxHeartbeats 1600000 in
theorem lawMostUnknown (k : Int) (g : Bool) (IM : MostUnknownIs 16 k g) (w : World) :
    Calls Try.prog 4 #[.int .i64 k, .bool g] w fun e w' => e = .returned (.bool true) ∧ Below w.heap.size w w' := by
  have C1 := Lib.hid (specMostUnknown k g)
  have C2 := Lib.hid IM
  unfold MostUnknownIs at C2
  generalize mostI k g = r at C1 C2
  go_enter Try.func4, Try.ntmps4
  go_wp2_with fail
  refine (C1.out _).mono ?_
  rintro e w1 ⟨rfl, rfl⟩
  go_wp2_with fail
  refine (C2.out _).mono ?_
  rintro e w2 ⟨rfl, b2⟩
  have B2 := Lib.hid b2
  clear b2
  go_wp2
  go_ret
  exact ⟨rfl, B2.out⟩

set_option maxRecDepth 100000 in
set_option maxHeartbeats 3200000 in
theorem lawWorstOutcome (s : SD) (p : PD) (IM : WorstOutcomeIs 20 s p) (w : World) :
    Calls Try.prog 5 #[stateV s, pickV p] w fun e w' => e = .returned (.bool true) ∧ Below w.heap.size w w' := by
  have T := Lib.hid (toStateL s)
  have T2 := Lib.hid (toPickL p)
  have C1 := Lib.hid (specWorstOutcome s p)
  have C2 := Lib.hid IM
  have P0 := StateAt.new w 27 s
  have B0 := alloc_below w (.cells #[.int .i64 s.b, .int .i64 s.h, .int .i64 s.l, .int .i64 s.g] 27)
  have s0 : (w.alloc (.cells #[.int .i64 s.b, .int .i64 s.h, .int .i64 s.l, .int .i64 s.g] 27)).heap.size = w.heap.size + 1 := by simp
  generalize hX0 : w.alloc (.cells #[.int .i64 s.b, .int .i64 s.h, .int .i64 s.l, .int .i64 s.g] 27) = X0 at P0 B0 s0
  have Q0 := PickAt.new X0 29 p
  have B1 := alloc_below X0 (.cells #[.int .i64 p.bl, .int .i64 p.br, .int .i64 p.hl, .int .i64 p.hr, .int .i64 p.ll, .int .i64 p.lr, .int .i64 p.gl, .int .i64 p.gr] 29)
  generalize hX1 : X0.alloc (.cells #[.int .i64 p.bl, .int .i64 p.br, .int .i64 p.hl, .int .i64 p.hr, .int .i64 p.ll, .int .i64 p.lr, .int .i64 p.gl, .int .i64 p.gr] 29) = X1 at Q0 B1
  rw [s0] at Q0
  have P1 := Lib.hid (P0.below B1)
  have Q1 := Lib.hid Q0
  have B1 := Lib.hid (below_up B0 B1)
  clear P0 B0 Q0
  unfold WorstOutcomeIs at C2
  generalize (worstO s p).getD 0 = a at C1 C2
  generalize (worstO s p).isSome = ok at C1 C2
  unfold stateV at T C1 C2 ⊢
  unfold pickV at T2 C1 C2 ⊢
  go_enter Try.func5, Try.ntmps5
  go_upto_region 1 with fail
  clear hX0 hX1 s0
  go_cut [5, 6] (fun v5 v6 wx => v5 = .int .i64 a ∧ v6 = .bool ok ∧ Hid (Below w.heap.size w wx) ∧ Hid (StateAt wx w.heap.size s) ∧ Hid (PickAt wx (w.heap.size + 1) p))
  case first =>
    go_region_held3 (fun w' => (w'.cell? ⟨w.heap.size, 0, none⟩ = some (.int .i64 s.b) ∧ w'.cell? ⟨w.heap.size, 1, none⟩ = some (.int .i64 s.h) ∧ w'.cell? ⟨w.heap.size, 2, none⟩ = some (.int .i64 s.l) ∧ w'.cell? ⟨w.heap.size, 3, none⟩ = some (.int .i64 s.g) ∧ w.heap.size < w'.heap.size) ∧ (w'.cell? ⟨w.heap.size + 1, 0, none⟩ = some (.int .i64 p.bl) ∧ w'.cell? ⟨w.heap.size + 1, 1, none⟩ = some (.int .i64 p.br) ∧ w'.cell? ⟨w.heap.size + 1, 2, none⟩ = some (.int .i64 p.hl) ∧ w'.cell? ⟨w.heap.size + 1, 3, none⟩ = some (.int .i64 p.hr) ∧ w'.cell? ⟨w.heap.size + 1, 4, none⟩ = some (.int .i64 p.ll) ∧ w'.cell? ⟨w.heap.size + 1, 5, none⟩ = some (.int .i64 p.lr) ∧ w'.cell? ⟨w.heap.size + 1, 6, none⟩ = some (.int .i64 p.gl) ∧ w'.cell? ⟨w.heap.size + 1, 7, none⟩ = some (.int .i64 p.gr) ∧ w.heap.size + 1 < w'.heap.size))
      (first | with_reducible exact ⟨P4.out.cells, Q4.out.cells⟩ | with_reducible exact ⟨P3.out.cells, Q3.out.cells⟩ | with_reducible exact ⟨P2.out.cells, Q2.out.cells⟩ | with_reducible exact ⟨P1.out.drewT.cells, Q1.out.drewT.cells⟩ | fail)
      (first
        | (go_at_call 18; refine (T.out _).mono ?_; rintro e w2 ⟨rfl, b2⟩; have B2 := Lib.hid (below_up B1.out.drew b2); have P2 := Lib.hid (P1.out.drewT.below b2); have Q2 := Lib.hid (Q1.out.drewT.below b2); clear b2)
        | (go_at_call 19; refine (T2.out _).mono ?_; rintro e w3 ⟨rfl, b3⟩; have B3 := Lib.hid (below_up B2.out b3); have P3 := Lib.hid (P2.out.below b3); have Q3 := Lib.hid (Q2.out.below b3); clear b3)
        | (go_at_call 17; refine (C1.out _).mono ?_; rintro e w4 ⟨rfl, b4⟩; have B4 := Lib.hid (below_up B3.out b4); have P4 := Lib.hid (P3.out.below b4); have Q4 := Lib.hid (Q3.out.below b4); clear b4)
        | fail)
    all_goals
      go_wp2_with fail
      go_meet
      case rel => exact ⟨rfl, rfl, B4, P4, Q4⟩
  case rest =>
    clear B1 P1 Q1
    obtain ⟨rfl, rfl, B5, P5, Q5⟩ := hcut
    go_upto_region 2 with fail
    go_cut [7, 8] (fun v7 v8 wx => v7 = .int .i64 a ∧ v8 = .bool ok ∧ Hid (Below w.heap.size w wx) ∧ Hid (StateAt wx w.heap.size s) ∧ Hid (PickAt wx (w.heap.size + 1) p))
    case first =>
      go_region_held3 (fun w' => (w'.cell? ⟨w.heap.size, 0, none⟩ = some (.int .i64 s.b) ∧ w'.cell? ⟨w.heap.size, 1, none⟩ = some (.int .i64 s.h) ∧ w'.cell? ⟨w.heap.size, 2, none⟩ = some (.int .i64 s.l) ∧ w'.cell? ⟨w.heap.size, 3, none⟩ = some (.int .i64 s.g) ∧ w.heap.size < w'.heap.size) ∧ (w'.cell? ⟨w.heap.size + 1, 0, none⟩ = some (.int .i64 p.bl) ∧ w'.cell? ⟨w.heap.size + 1, 1, none⟩ = some (.int .i64 p.br) ∧ w'.cell? ⟨w.heap.size + 1, 2, none⟩ = some (.int .i64 p.hl) ∧ w'.cell? ⟨w.heap.size + 1, 3, none⟩ = some (.int .i64 p.hr) ∧ w'.cell? ⟨w.heap.size + 1, 4, none⟩ = some (.int .i64 p.ll) ∧ w'.cell? ⟨w.heap.size + 1, 5, none⟩ = some (.int .i64 p.lr) ∧ w'.cell? ⟨w.heap.size + 1, 6, none⟩ = some (.int .i64 p.gl) ∧ w'.cell? ⟨w.heap.size + 1, 7, none⟩ = some (.int .i64 p.gr) ∧ w.heap.size + 1 < w'.heap.size))
        (first | with_reducible exact ⟨P8.out.cells, Q8.out.cells⟩ | with_reducible exact ⟨P7.out.cells, Q7.out.cells⟩ | with_reducible exact ⟨P6.out.cells, Q6.out.cells⟩ | with_reducible exact ⟨P5.out.drewT.cells, Q5.out.drewT.cells⟩ | fail)
        (first
          | (go_at_call 18; refine (T.out _).mono ?_; rintro e w2 ⟨rfl, b2⟩; have B6 := Lib.hid (below_up B5.out.drew b2); have P6 := Lib.hid (P5.out.drewT.below b2); have Q6 := Lib.hid (Q5.out.drewT.below b2); clear b2)
          | (go_at_call 19; refine (T2.out _).mono ?_; rintro e w3 ⟨rfl, b3⟩; have B7 := Lib.hid (below_up B6.out b3); have P7 := Lib.hid (P6.out.below b3); have Q7 := Lib.hid (Q6.out.below b3); clear b3)
          | (go_at_call 20; refine (C2.out _).mono ?_; rintro e w4 ⟨rfl, b4⟩; have B8 := Lib.hid (below_up B7.out b4); have P8 := Lib.hid (P7.out.below b4); have Q8 := Lib.hid (Q7.out.below b4); clear b4)
          | fail)
      all_goals
        go_wp2_with fail
        go_meet
        case rel => exact ⟨rfl, rfl, B8, P8, Q8⟩
    case rest =>
      obtain ⟨rfl, rfl, B9, -, -⟩ := hcut
      cases ok
      all_goals
        go_wp2
        go_ret
        exact ⟨rfl, B9.out⟩

set_option maxRecDepth 100000 in
set_option maxHeartbeats 3200000 in
theorem lawLostCases (s : SD) (p : PD) (IM : LostCasesIs 34 s p) (w : World) :
    Calls Try.prog 8 #[stateV s, pickV p] w fun e w' => e = .returned (.bool true) ∧ Below w.heap.size w w' := by
  have T := Lib.hid (toStateL s)
  have T2 := Lib.hid (toPickL p)
  have C1 := Lib.hid (specLostCases s p)
  have C2 := Lib.hid IM
  have P0 := StateAt.new w 27 s
  have B0 := alloc_below w (.cells #[.int .i64 s.b, .int .i64 s.h, .int .i64 s.l, .int .i64 s.g] 27)
  have s0 : (w.alloc (.cells #[.int .i64 s.b, .int .i64 s.h, .int .i64 s.l, .int .i64 s.g] 27)).heap.size = w.heap.size + 1 := by simp
  generalize hX0 : w.alloc (.cells #[.int .i64 s.b, .int .i64 s.h, .int .i64 s.l, .int .i64 s.g] 27) = X0 at P0 B0 s0
  have Q0 := PickAt.new X0 29 p
  have B1 := alloc_below X0 (.cells #[.int .i64 p.bl, .int .i64 p.br, .int .i64 p.hl, .int .i64 p.hr, .int .i64 p.ll, .int .i64 p.lr, .int .i64 p.gl, .int .i64 p.gr] 29)
  generalize hX1 : X0.alloc (.cells #[.int .i64 p.bl, .int .i64 p.br, .int .i64 p.hl, .int .i64 p.hr, .int .i64 p.ll, .int .i64 p.lr, .int .i64 p.gl, .int .i64 p.gr] 29) = X1 at Q0 B1
  rw [s0] at Q0
  have P1 := Lib.hid (P0.below B1)
  have Q1 := Lib.hid Q0
  have B1 := Lib.hid (below_up B0 B1)
  clear P0 B0 Q0
  unfold LostCasesIs at C2
  generalize lostI s p = a at C1 C2
  unfold stateV at T C1 C2 ⊢
  unfold pickV at T2 C1 C2 ⊢
  go_enter Try.func8, Try.ntmps8
  go_upto_region 1 with fail
  clear hX0 hX1 s0
  go_cut [5] (fun v5 wx => v5 = .int .i64 a ∧ Hid (Below w.heap.size w wx) ∧ Hid (StateAt wx w.heap.size s) ∧ Hid (PickAt wx (w.heap.size + 1) p))
  case first =>
    go_region_held3 (fun w' => (w'.cell? ⟨w.heap.size, 0, none⟩ = some (.int .i64 s.b) ∧ w'.cell? ⟨w.heap.size, 1, none⟩ = some (.int .i64 s.h) ∧ w'.cell? ⟨w.heap.size, 2, none⟩ = some (.int .i64 s.l) ∧ w'.cell? ⟨w.heap.size, 3, none⟩ = some (.int .i64 s.g) ∧ w.heap.size < w'.heap.size) ∧ (w'.cell? ⟨w.heap.size + 1, 0, none⟩ = some (.int .i64 p.bl) ∧ w'.cell? ⟨w.heap.size + 1, 1, none⟩ = some (.int .i64 p.br) ∧ w'.cell? ⟨w.heap.size + 1, 2, none⟩ = some (.int .i64 p.hl) ∧ w'.cell? ⟨w.heap.size + 1, 3, none⟩ = some (.int .i64 p.hr) ∧ w'.cell? ⟨w.heap.size + 1, 4, none⟩ = some (.int .i64 p.ll) ∧ w'.cell? ⟨w.heap.size + 1, 5, none⟩ = some (.int .i64 p.lr) ∧ w'.cell? ⟨w.heap.size + 1, 6, none⟩ = some (.int .i64 p.gl) ∧ w'.cell? ⟨w.heap.size + 1, 7, none⟩ = some (.int .i64 p.gr) ∧ w.heap.size + 1 < w'.heap.size))
      (first | with_reducible exact ⟨P4.out.cells, Q4.out.cells⟩ | with_reducible exact ⟨P3.out.cells, Q3.out.cells⟩ | with_reducible exact ⟨P2.out.cells, Q2.out.cells⟩ | with_reducible exact ⟨P1.out.drewT.cells, Q1.out.drewT.cells⟩ | fail)
      (first
        | (go_at_call 18; refine (T.out _).mono ?_; rintro e w2 ⟨rfl, b2⟩; have B2 := Lib.hid (below_up B1.out.drew b2); have P2 := Lib.hid (P1.out.drewT.below b2); have Q2 := Lib.hid (Q1.out.drewT.below b2); clear b2)
        | (go_at_call 19; refine (T2.out _).mono ?_; rintro e w3 ⟨rfl, b3⟩; have B3 := Lib.hid (below_up B2.out b3); have P3 := Lib.hid (P2.out.below b3); have Q3 := Lib.hid (Q2.out.below b3); clear b3)
        | (go_at_call 33; refine (C1.out _).mono ?_; rintro e w4 ⟨rfl, b4⟩; have B4 := Lib.hid (below_up B3.out b4); have P4 := Lib.hid (P3.out.below b4); have Q4 := Lib.hid (Q3.out.below b4); clear b4)
        | fail)
    all_goals
      go_wp2_with fail
      go_meet
      case rel => exact ⟨rfl, B4, P4, Q4⟩
  case rest =>
    clear B1 P1 Q1
    obtain ⟨rfl, B5, P5, Q5⟩ := hcut
    go_upto_region 2 with fail
    go_cut [6] (fun v6 wx => v6 = .int .i64 a ∧ Hid (Below w.heap.size w wx) ∧ Hid (StateAt wx w.heap.size s) ∧ Hid (PickAt wx (w.heap.size + 1) p))
    case first =>
      go_region_held3 (fun w' => (w'.cell? ⟨w.heap.size, 0, none⟩ = some (.int .i64 s.b) ∧ w'.cell? ⟨w.heap.size, 1, none⟩ = some (.int .i64 s.h) ∧ w'.cell? ⟨w.heap.size, 2, none⟩ = some (.int .i64 s.l) ∧ w'.cell? ⟨w.heap.size, 3, none⟩ = some (.int .i64 s.g) ∧ w.heap.size < w'.heap.size) ∧ (w'.cell? ⟨w.heap.size + 1, 0, none⟩ = some (.int .i64 p.bl) ∧ w'.cell? ⟨w.heap.size + 1, 1, none⟩ = some (.int .i64 p.br) ∧ w'.cell? ⟨w.heap.size + 1, 2, none⟩ = some (.int .i64 p.hl) ∧ w'.cell? ⟨w.heap.size + 1, 3, none⟩ = some (.int .i64 p.hr) ∧ w'.cell? ⟨w.heap.size + 1, 4, none⟩ = some (.int .i64 p.ll) ∧ w'.cell? ⟨w.heap.size + 1, 5, none⟩ = some (.int .i64 p.lr) ∧ w'.cell? ⟨w.heap.size + 1, 6, none⟩ = some (.int .i64 p.gl) ∧ w'.cell? ⟨w.heap.size + 1, 7, none⟩ = some (.int .i64 p.gr) ∧ w.heap.size + 1 < w'.heap.size))
        (first | with_reducible exact ⟨P8.out.cells, Q8.out.cells⟩ | with_reducible exact ⟨P7.out.cells, Q7.out.cells⟩ | with_reducible exact ⟨P6.out.cells, Q6.out.cells⟩ | with_reducible exact ⟨P5.out.drewT.cells, Q5.out.drewT.cells⟩ | fail)
        (first
          | (go_at_call 18; refine (T.out _).mono ?_; rintro e w2 ⟨rfl, b2⟩; have B6 := Lib.hid (below_up B5.out.drew b2); have P6 := Lib.hid (P5.out.drewT.below b2); have Q6 := Lib.hid (Q5.out.drewT.below b2); clear b2)
          | (go_at_call 19; refine (T2.out _).mono ?_; rintro e w3 ⟨rfl, b3⟩; have B7 := Lib.hid (below_up B6.out b3); have P7 := Lib.hid (P6.out.below b3); have Q7 := Lib.hid (Q6.out.below b3); clear b3)
          | (go_at_call 34; refine (C2.out _).mono ?_; rintro e w4 ⟨rfl, b4⟩; have B8 := Lib.hid (below_up B7.out b4); have P8 := Lib.hid (P7.out.below b4); have Q8 := Lib.hid (Q7.out.below b4); clear b4)
          | fail)
      all_goals
        go_wp2_with fail
        go_meet
        case rel => exact ⟨rfl, B8, P8, Q8⟩
    case rest =>
      obtain ⟨rfl, B9, -, -⟩ := hcut
      go_wp2
      go_ret
      exact ⟨rfl, B9.out⟩

end Go.Proofs.Ytbkhmlkicafheaa
