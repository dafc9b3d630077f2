/- The walk of the exact law of PickOk round the contract of the program's function: it returns true for every argument. No condition. -/
import Derived.Test.YtfabcaodiohmaaaStateLaws
import Derived.Deep.RegionLaw
import Derived.Deep.RegionHeld3
namespace Go.Proofs.Ytfabcaodiohmaaa
open Go.RowKit

theorem StateAt.drewT {w : World} {b : Nat} {s : SD} (h : StateAt w b s) : StateAt w.drew b s := h.below (Below.refl _ _).drew
theorem PickAt.drewT {w : World} {b : Nat} {p : PD} (h : PickAt w b p) : PickAt w.drew b p := h.below (Below.refl _ _).drew

set_option maxRecDepth 100000 in
set_option maxHeartbeats 3200000 in
theorem lawPickOk (s : SD) (p : PD) (IM : PickOkIs 17 s p) (w : World) :
    Calls Try.prog 5 #[stateV s, pickV p] w fun e w' => e = .returned (.bool true) ∧ Below w.heap.size w w' := by
  have T := Lib.hid (toStateL s)
  have T2 := Lib.hid (toPickL p)
  have C1 := Lib.hid (specPickOk s p)
  have C2 := Lib.hid IM
  have P0 := StateAt.new w 23 s
  have B0 := alloc_below w (.cells #[.int .i64 s.b, .int .i64 s.h, .int .i64 s.l, .int .i64 s.g] 23)
  have s0 : (w.alloc (.cells #[.int .i64 s.b, .int .i64 s.h, .int .i64 s.l, .int .i64 s.g] 23)).heap.size = w.heap.size + 1 := by simp
  generalize hX0 : w.alloc (.cells #[.int .i64 s.b, .int .i64 s.h, .int .i64 s.l, .int .i64 s.g] 23) = X0 at P0 B0 s0
  have Q0 := PickAt.new X0 30 p
  have B1 := alloc_below X0 (.cells #[.int .i64 p.bl, .int .i64 p.br, .int .i64 p.hl, .int .i64 p.hr, .int .i64 p.ll, .int .i64 p.lr, .int .i64 p.gl, .int .i64 p.gr] 30)
  generalize hX1 : X0.alloc (.cells #[.int .i64 p.bl, .int .i64 p.br, .int .i64 p.hl, .int .i64 p.hr, .int .i64 p.ll, .int .i64 p.lr, .int .i64 p.gl, .int .i64 p.gr] 30) = X1 at Q0 B1
  rw [s0] at Q0
  have P1 := Lib.hid (P0.below B1)
  have Q1 := Lib.hid Q0
  have BX := Lib.hid (below_up B0 B1)
  clear P0 B0 B1 Q0
  unfold PickOkIs at C2
  generalize pickB s p = b at C1 C2
  unfold stateV at T C1 C2 ⊢
  unfold pickV at T2 C1 C2 ⊢
  go_enter Try.func5, Try.ntmps5
  go_wp2_with fail
  first | (go_region_held3 (fun w' => (w'.cell? ⟨w.heap.size, 0, none⟩ = some (.int .i64 s.b) ∧ w'.cell? ⟨w.heap.size, 1, none⟩ = some (.int .i64 s.h) ∧ w'.cell? ⟨w.heap.size, 2, none⟩ = some (.int .i64 s.l) ∧ w'.cell? ⟨w.heap.size, 3, none⟩ = some (.int .i64 s.g) ∧ w.heap.size < w'.heap.size) ∧ (w'.cell? ⟨w.heap.size + 1, 0, none⟩ = some (.int .i64 p.bl) ∧ w'.cell? ⟨w.heap.size + 1, 1, none⟩ = some (.int .i64 p.br) ∧ w'.cell? ⟨w.heap.size + 1, 2, none⟩ = some (.int .i64 p.hl) ∧ w'.cell? ⟨w.heap.size + 1, 3, none⟩ = some (.int .i64 p.hr) ∧ w'.cell? ⟨w.heap.size + 1, 4, none⟩ = some (.int .i64 p.ll) ∧ w'.cell? ⟨w.heap.size + 1, 5, none⟩ = some (.int .i64 p.lr) ∧ w'.cell? ⟨w.heap.size + 1, 6, none⟩ = some (.int .i64 p.gl) ∧ w'.cell? ⟨w.heap.size + 1, 7, none⟩ = some (.int .i64 p.gr) ∧ w.heap.size + 1 < w'.heap.size))
    (first | exact ⟨P4.out, Q4.out⟩ | exact ⟨P3.out, Q3.out⟩ | exact ⟨P2.out, Q2.out⟩ | exact ⟨P1.out.drewT, Q1.out.drewT⟩)
    (first
      | (go_at_call 11; refine (T.out _).mono ?_; rintro e w2 ⟨rfl, b2⟩; have B2 := Lib.hid (BX.out.trans (((Below.refl _ _).drew.trans b2).mono BX.out.size)); have P2 := Lib.hid (P1.out.drewT.below b2); have Q2 := Lib.hid (Q1.out.drewT.below b2); clear b2)
      | (go_at_call 16; refine (T2.out _).mono ?_; rintro e w3 ⟨rfl, b3⟩; have B3 := Lib.hid (below_up B2.out b3); have P3 := Lib.hid (P2.out.below b3); have Q3 := Lib.hid (Q2.out.below b3); clear b3)
      | (go_at_call 15; refine (C1.out _).mono ?_; rintro e w4 ⟨rfl, b4⟩; have B4 := Lib.hid (below_up B3.out b4); have P4 := Lib.hid (P3.out.below b4); have Q4 := Lib.hid (Q3.out.below b4); clear b4)
      | fail)) | fail
  clear hX0 hX1 s0
  go_wp2_with fail
  first | (go_region_held3 (fun w' => (w'.cell? ⟨w.heap.size, 0, none⟩ = some (.int .i64 s.b) ∧ w'.cell? ⟨w.heap.size, 1, none⟩ = some (.int .i64 s.h) ∧ w'.cell? ⟨w.heap.size, 2, none⟩ = some (.int .i64 s.l) ∧ w'.cell? ⟨w.heap.size, 3, none⟩ = some (.int .i64 s.g) ∧ w.heap.size < w'.heap.size) ∧ (w'.cell? ⟨w.heap.size + 1, 0, none⟩ = some (.int .i64 p.bl) ∧ w'.cell? ⟨w.heap.size + 1, 1, none⟩ = some (.int .i64 p.br) ∧ w'.cell? ⟨w.heap.size + 1, 2, none⟩ = some (.int .i64 p.hl) ∧ w'.cell? ⟨w.heap.size + 1, 3, none⟩ = some (.int .i64 p.hr) ∧ w'.cell? ⟨w.heap.size + 1, 4, none⟩ = some (.int .i64 p.ll) ∧ w'.cell? ⟨w.heap.size + 1, 5, none⟩ = some (.int .i64 p.lr) ∧ w'.cell? ⟨w.heap.size + 1, 6, none⟩ = some (.int .i64 p.gl) ∧ w'.cell? ⟨w.heap.size + 1, 7, none⟩ = some (.int .i64 p.gr) ∧ w.heap.size + 1 < w'.heap.size))
    (first | exact ⟨P7.out, Q7.out⟩ | exact ⟨P6.out, Q6.out⟩ | exact ⟨P5.out, Q5.out⟩ | exact ⟨P4.out.drewT, Q4.out.drewT⟩)
    (first
      | (go_at_call 11; refine (T.out _).mono ?_; rintro e w5 ⟨rfl, b5⟩; have B5 := Lib.hid (B4.out.trans (((Below.refl _ _).drew.trans b5).mono B4.out.size)); have P5 := Lib.hid (P4.out.drewT.below b5); have Q5 := Lib.hid (Q4.out.drewT.below b5); clear b5)
      | (go_at_call 16; refine (T2.out _).mono ?_; rintro e w6 ⟨rfl, b6⟩; have B6 := Lib.hid (below_up B5.out b6); have P6 := Lib.hid (P5.out.below b6); have Q6 := Lib.hid (Q5.out.below b6); clear b6)
      | (go_at_call 17; refine (C2.out _).mono ?_; rintro e w7 ⟨rfl, b7⟩; have B7 := Lib.hid (below_up B6.out b7); have P7 := Lib.hid (P6.out.below b7); have Q7 := Lib.hid (Q6.out.below b7); clear b7)
      | fail)) | fail
  cases b
  all_goals
    go_wp2
    go_ret
    exact ⟨rfl, B7.out⟩
end Go.Proofs.Ytfabcaodiohmaaa
