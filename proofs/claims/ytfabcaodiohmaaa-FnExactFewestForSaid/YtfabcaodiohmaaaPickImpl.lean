/- The contracts of the program's fits and PickOk. Condition: the numbers of a pick are Go integers. -/
import Derived.Test.YtfabcaodiohmaaaClassImpl
import Derived.Test.YtfabcaodiohmaaaPickSpec
namespace Go.Proofs.Ytfabcaodiohmaaa
open Go.RowKit

def fitsB (l r c : Int) : Bool := decide (0 ≤ l) && (decide (0 ≤ r) && decide (l + r ≤ c))
/-- A number that Go's int holds. -/
def I64 (x : Int) : Prop := -9223372036854775808 ≤ x ∧ x ≤ 9223372036854775807
theorem i64_of {x : Int} (h : (Lit.int .i64 x).wf = true) : I64 x := by
  simp [Lit.wf, IntKind.min, IntKind.max, IntKind.signed, IntKind.bits] at h
  unfold I64
  omega

set_option maxHeartbeats 1600000 in
theorem implFits (l r c : Int) (hc : 0 ≤ c ∧ c ≤ 13) (hr : I64 r) (w : World) : Calls Try.prog 32 #[.int .i64 l, .int .i64 r, .int .i64 c] w fun e w' => e = .returned (.bool (fitsB l r c)) ∧ w = w' := by
  have HB : Hid (fitsB l r c = (decide (0 ≤ l) && (decide (0 ≤ r) && decide (l + r ≤ c)))) := rfl
  unfold I64 at hr
  by_cases h1 : 0 ≤ l
  · by_cases h2 : 0 ≤ r
    · have HE : Hid (fitsB l r c = decide (l ≤ c - r)) := by
        unfold Hid; rw [HB.out, decide_eq_true h1, decide_eq_true h2]
        simp only [Bool.true_and, decide_eq_decide]
        omega
      have hw : IntKind.i64.wrap (c - r) = c - r := by rw [IntKind.wrap_i64]; omega
      clear hr hc
      go_enter Try.func32, Try.ntmps32
      go_wp2
      go_ret
      exact ⟨ret_bool HE.out.symm, rfl⟩
    · have HE : Hid (fitsB l r c = false) := by
        unfold Hid; rw [HB.out, decide_eq_true h1, decide_eq_false h2]; rfl
      clear hr hc
      go_enter Try.func32, Try.ntmps32
      go_wp2
      go_ret
      exact ⟨ret_bool HE.out.symm, rfl⟩
  · have HE : Hid (fitsB l r c = false) := by
      unfold Hid; rw [HB.out, decide_eq_false h1]; rfl
    clear hr hc
    go_enter Try.func32, Try.ntmps32
    go_wp2
    go_ret
    exact ⟨ret_bool HE.out.symm, rfl⟩

theorem fitsB_iff {l r c : Int} : fitsB l r c = true ↔ 0 ≤ l ∧ 0 ≤ r ∧ l + r ≤ c := by unfold fitsB; simp
/-- What PickOk asks, in the program's order. -/
theorem pickB_fits (s : SD) (p : PD) : pickB s p = (stateB s && (fitsB p.bl p.br s.b && (fitsB p.hl p.hr s.h && (fitsB p.ll p.lr s.l && (fitsB p.gl p.gr s.g && (decide (leftP p = rightP p) && decide (1 ≤ leftP p))))))) := by
  cases hs : stateB s with
  | false => unfold pickB; rw [hs]; rfl
  | true =>
    have hin := stateB_in hs
    rw [Bool.eq_iff_iff]
    unfold pickB PD.list
    rw [hs]
    simp only [Bool.and_eq_true, fitsB_iff, decide_eq_true_eq, List.all_cons, List.all_nil, cntB_iff, Bool.and_true, Bool.true_and]
    unfold leftP rightP
    constructor
    · rintro ⟨⟨h0, h1, h2, h3, h4, h5, h6, h7⟩, h8, h9, ha, hb, hc, hd⟩
      exact ⟨⟨h0.1, h1.1, ha⟩, ⟨h2.1, h3.1, hb⟩, ⟨h4.1, h5.1, hc⟩, ⟨h6.1, h7.1, hd⟩, h8, h9⟩
    · rintro ⟨⟨a1, a2, a3⟩, ⟨b1, b2, b3⟩, ⟨c1, c2, c3⟩, ⟨d1, d2, d3⟩, h8, h9⟩
      obtain ⟨g0, g1, g2, g3, -, -⟩ := hin
      refine ⟨⟨⟨a1, ?_⟩, ⟨a2, ?_⟩, ⟨b1, ?_⟩, ⟨b2, ?_⟩, ⟨c1, ?_⟩, ⟨c2, ?_⟩, ⟨d1, ?_⟩, ⟨d2, ?_⟩⟩, h8, h9, a3, b3, c3, d3⟩ <;> omega

set_option maxRecDepth 100000 in
set_option maxHeartbeats 6400000 in
theorem implPickOk (s : SD) (p : PD) (hp : ∀ x ∈ p.list, I64 x) (w : World) : Calls Try.prog 17 #[stateV s, pickV p] w fun e w' => e = .returned (.bool (pickB s p)) ∧ Below w.heap.size w w' := by
  have S := Lib.hid (implStateOk s)
  have HB := Lib.hid (pickB_fits s p)
  have HIN := Lib.hid (fun h : stateB s = true => stateB_in h)
  have F1 : Hid (stateB s = true → ∀ W, Calls Try.prog 32 #[.int .i64 p.bl, .int .i64 p.br, .int .i64 s.b] W fun e w' => e = .returned (.bool (fitsB p.bl p.br s.b)) ∧ W = w') := fun h W => implFits _ _ _ (stateB_in h).1 (hp _ (by simp [PD.list])) W
  have F2 : Hid (stateB s = true → ∀ W, Calls Try.prog 32 #[.int .i64 p.hl, .int .i64 p.hr, .int .i64 s.h] W fun e w' => e = .returned (.bool (fitsB p.hl p.hr s.h)) ∧ W = w') := fun h W => implFits _ _ _ (stateB_in h).2.1 (hp _ (by simp [PD.list])) W
  have F3 : Hid (stateB s = true → ∀ W, Calls Try.prog 32 #[.int .i64 p.ll, .int .i64 p.lr, .int .i64 s.l] W fun e w' => e = .returned (.bool (fitsB p.ll p.lr s.l)) ∧ W = w') := fun h W => implFits _ _ _ (stateB_in h).2.2.1 (hp _ (by simp [PD.list])) W
  have F4 : Hid (stateB s = true → ∀ W, Calls Try.prog 32 #[.int .i64 p.gl, .int .i64 p.gr, .int .i64 s.g] W fun e w' => e = .returned (.bool (fitsB p.gl p.gr s.g)) ∧ W = w') := fun h W => implFits _ _ _ (stateB_in h).2.2.2.1 (hp _ (by simp [PD.list])) W
  have HW : Hid (stateB s = true → fitsB p.bl p.br s.b = true → fitsB p.hl p.hr s.h = true → fitsB p.ll p.lr s.l = true → fitsB p.gl p.gr s.g = true → PickIn p) := by
    intro h0 h1 h2 h3 h4
    have := stateB_in h0
    rw [fitsB_iff] at h1 h2 h3 h4
    unfold PickIn
    omega
  have HL : Hid (leftP p = p.bl + p.hl + p.ll + p.gl ∧ rightP p = p.br + p.hr + p.lr + p.gr) := ⟨rfl, rfl⟩
  clear hp
  generalize pickB s p = r at HB ⊢
  generalize fitsB p.bl p.br s.b = f1 at HB F1 HW
  generalize fitsB p.hl p.hr s.h = f2 at HB F2 HW
  generalize fitsB p.ll p.lr s.l = f3 at HB F3 HW
  generalize fitsB p.gl p.gr s.g = f4 at HB F4 HW
  have P0 := StateAt.new w 25 s
  have B0 := alloc_below w (.cells #[.int .i64 s.b, .int .i64 s.h, .int .i64 s.l, .int .i64 s.g] 25)
  have s0 : (w.alloc (.cells #[.int .i64 s.b, .int .i64 s.h, .int .i64 s.l, .int .i64 s.g] 25)).heap.size = w.heap.size + 1 := by simp
  generalize hX0 : w.alloc (.cells #[.int .i64 s.b, .int .i64 s.h, .int .i64 s.l, .int .i64 s.g] 25) = X0 at P0 B0 s0
  have Q0 := PickAt.new X0 32 p
  have B1 := alloc_below X0 (.cells #[.int .i64 p.bl, .int .i64 p.br, .int .i64 p.hl, .int .i64 p.hr, .int .i64 p.ll, .int .i64 p.lr, .int .i64 p.gl, .int .i64 p.gr] 32)
  generalize hX1 : X0.alloc (.cells #[.int .i64 p.bl, .int .i64 p.br, .int .i64 p.hl, .int .i64 p.hr, .int .i64 p.ll, .int .i64 p.lr, .int .i64 p.gl, .int .i64 p.gr] 32) = X1 at Q0 B1
  rw [s0] at Q0
  have P1 := Lib.hid (P0.below B1)
  have Q1 := Lib.hid Q0
  have BX := Lib.hid (below_up B0 B1)
  obtain ⟨e0, e1, e2, e3, -⟩ := P1.out
  clear P0 B0 B1 Q0
  unfold stateV at S ⊢
  unfold pickV
  go_enter Try.func17, Try.ntmps17
  go_wp2_with fail
  refine (S.out _).mono ?_
  rintro e w1 ⟨rfl, b1⟩
  have P2 := Lib.hid (P1.out.below b1)
  have Q2 := Lib.hid (Q1.out.below b1)
  have B2 := Lib.hid (below_up BX.out b1)
  clear e0 e1 e2 e3 b1 hX0 hX1 s0 S BX P1 Q1
  generalize stateB s = t at HB HIN F1 F2 F3 F4 HW ⊢
  cases t with
  | false =>
    have HE : Hid (r = false) := by unfold Hid; rw [HB.out]; rfl
    clear HB
    go_wp2
    go_ret
    exact ⟨ret_bool HE.out.symm, B2.out⟩
  | true =>
    have G1 := Lib.hid (F1.out (by first | rfl | trivial))
    have G2 := Lib.hid (F2.out (by first | rfl | trivial))
    have G3 := Lib.hid (F3.out (by first | rfl | trivial))
    have G4 := Lib.hid (F4.out (by first | rfl | trivial))
    have GW := Lib.hid (HW.out (by first | rfl | trivial))
    clear F1 F2 F3 F4 HW HIN
    obtain ⟨p0, p1, p2, p3, -⟩ := P2.out
    obtain ⟨e0, e1, e2, e3, e4, e5, e6, e7, -⟩ := Q2.out
    go_wp2_with fail
    refine (G1.out _).mono ?_
    rintro e w2 ⟨rfl, rfl⟩
    cases f1 with
    | false =>
      have HE : Hid (r = false) := by unfold Hid; rw [HB.out]; rfl
      clear HB
      go_wp2
      go_ret
      exact ⟨ret_bool HE.out.symm, B2.out⟩
    | true =>
      go_wp2_with fail
      refine (G2.out _).mono ?_
      rintro e w2 ⟨rfl, rfl⟩
      cases f2 with
      | false =>
        have HE : Hid (r = false) := by unfold Hid; rw [HB.out]; rfl
        clear HB
        go_wp2
        go_ret
        exact ⟨ret_bool HE.out.symm, B2.out⟩
      | true =>
        go_wp2_with fail
        refine (G3.out _).mono ?_
        rintro e w2 ⟨rfl, rfl⟩
        cases f3 with
        | false =>
          have HE : Hid (r = false) := by unfold Hid; rw [HB.out]; rfl
          clear HB
          go_wp2
          go_ret
          exact ⟨ret_bool HE.out.symm, B2.out⟩
        | true =>
          go_wp2_with fail
          refine (G4.out _).mono ?_
          rintro e w2 ⟨rfl, rfl⟩
          cases f4 with
          | false =>
            have HE : Hid (r = false) := by unfold Hid; rw [HB.out]; rfl
            clear HB
            go_wp2
            go_ret
            exact ⟨ret_bool HE.out.symm, B2.out⟩
          | true =>
            obtain ⟨h0, h1, h2, h3, h4, h5, h6, h7⟩ := GW.out (by first | rfl | trivial) (by first | rfl | trivial) (by first | rfl | trivial) (by first | rfl | trivial)
            have v0 : IntKind.i64.wrap (p.bl + p.hl) = p.bl + p.hl := by rw [IntKind.wrap_i64]; omega
            have v1 : IntKind.i64.wrap (p.bl + p.hl + p.ll) = p.bl + p.hl + p.ll := by rw [IntKind.wrap_i64]; omega
            have v2 : IntKind.i64.wrap (p.bl + p.hl + p.ll + p.gl) = p.bl + p.hl + p.ll + p.gl := by rw [IntKind.wrap_i64]; omega
            have v3 : IntKind.i64.wrap (p.br + p.hr) = p.br + p.hr := by rw [IntKind.wrap_i64]; omega
            have v4 : IntKind.i64.wrap (p.br + p.hr + p.lr) = p.br + p.hr + p.lr := by rw [IntKind.wrap_i64]; omega
            have v5 : IntKind.i64.wrap (p.br + p.hr + p.lr + p.gr) = p.br + p.hr + p.lr + p.gr := by rw [IntKind.wrap_i64]; omega
            have HE : Hid (r = (decide (p.bl + p.hl + p.ll + p.gl = p.br + p.hr + p.lr + p.gr) && decide (1 ≤ p.bl + p.hl + p.ll + p.gl))) := by unfold Hid; rw [HB.out, HL.out.1, HL.out.2]; rfl
            clear h0 h1 h2 h3 h4 h5 h6 h7 HB HL GW G1 G2 G3 G4
            by_cases q1 : p.bl + p.hl + p.ll + p.gl = p.br + p.hr + p.lr + p.gr
            · rw [decide_eq_true q1, Bool.true_and, q1] at HE
              go_wp2
              go_ret
              exact ⟨ret_bool HE.out.symm, B2.out⟩
            · rw [decide_eq_false q1, Bool.false_and] at HE
              have q2 : (p.bl + p.hl + p.ll + p.gl == p.br + p.hr + p.lr + p.gr) = false := by simpa using q1
              clear q1
              go_wp2
              go_ret
              exact ⟨ret_bool HE.out.symm, B2.out⟩
end Go.Proofs.Ytfabcaodiohmaaa
