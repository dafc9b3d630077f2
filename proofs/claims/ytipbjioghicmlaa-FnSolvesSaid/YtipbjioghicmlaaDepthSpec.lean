/- The contract of the model's depth of a plan, and of PlanDepth. Conditions: the plan's slice reads as nodes. -/
import Derived.Test.YtipbjioghicmlaaFollowSpec
import Derived.Deep.RegionLaw
import Derived.Deep.RegionHeld3
namespace Go.Proofs.Ytipbjioghicmlaa
open Go.RowKit

set_option maxRecDepth 100000 in
set_option maxHeartbeats 3200000 in
theorem specDepthAt (v : Value) (P : List ND) (m : Int) (hv : planB P m = true) : ∀ (f : Nat) (p : Int) (w : World), f ≤ 60 → NodesAt w v P → (p = -1 ∨ 0 ≤ p ∧ p < (P.length : Int) ∧ P.length ≤ p.toNat + f) →
    Calls Try.prog 64 #[v, .int .i64 p] w fun e w' => e = .returned (.int .i64 (depthF P f p)) ∧ Below w.heap.size w w' := by
  intro f
  induction f with
  | zero =>
    intro p w _ h hp
    obtain rfl : p = -1 := by omega
    obtain ⟨a, c, rfl, -⟩ := h
    go_enter Try.func64, Try.ntmps64
    go_wp2
    go_ret
    exact ⟨rfl, Below.refl _ _⟩
  | succ g ih =>
    intro p w hf h hp
    rcases hp with rfl | ⟨p0, p1, p2⟩
    · obtain ⟨a, c, rfl, -⟩ := h
      have HE : Hid (depthF P (g + 1) (-1) = 0) := depthF_end _ _ _ (by decide)
      go_enter Try.func64, Try.ntmps64
      go_wp2
      go_ret
      exact ⟨ret_int HE.out.symm, Below.refl _ _⟩
    · obtain ⟨k, rfl⟩ : ∃ k : Nat, p = (k : Int) := ⟨p.toNat, by omega⟩
      have hk : k < P.length := by omega
      have N0 := Lib.hid h
      obtain ⟨a, c, rfl, h⟩ := h
      obtain ⟨b, o, vl, vr, rfl, h5, hL, hR⟩ := h k hk
      have hst := depthF_step P g k hk
      have hnd := plan_node hv k hk
      simp only [nodeB, Bool.and_eq_true] at hnd
      have n1 := link_in hnd.2.1
      have n2 := link_in hnd.2.2.1
      have n3 := link_in hnd.2.2.2
      obtain ⟨d, hx⟩ : ∃ d, P[k] = d := ⟨_, rfl⟩
      rw [hx] at h5 hL hR hst n1 n2 n3
      clear hx hnd
      obtain ⟨LL, RR, qa, qb, qc⟩ := d
      dsimp only at h5 hL hR hst n1 n2 n3
      obtain ⟨al, nl, cl, rfl⟩ := hL.form
      obtain ⟨ar, nr, cr, rfl⟩ := hR.form
      have I1 := Lib.hid (fun W hW => ih qa W (by omega) hW (by omega))
      have I2 := Lib.hid (fun W hW => ih qb W (by omega) hW (by omega))
      have I3 := Lib.hid (fun W hW => ih qc W (by omega) hW (by omega))
      have r1 := depthF_range P g qa
      have r2 := depthF_range P g qb
      have r3 := depthF_range P g qc
      have HST := Lib.hid hst
      generalize depthF P (g + 1) (k : Int) = r at HST ⊢
      generalize depthF P g qa = x1 at I1 HST r1
      generalize depthF P g qb = x2 at I2 HST r2
      generalize depthF P g qc = x3 at I3 HST r3
      have P3 := Lib.hid (Five.new w 39 (.slice al nl cl) (.slice ar nr cr) qa qb qc)
      have B3 := Lib.hid (alloc_below w (.cells #[.slice al nl cl, .slice ar nr cr, .int .i64 qa, .int .i64 qb, .int .i64 qc] 39))
      generalize hX3 : w.alloc (.cells #[.slice al nl cl, .slice ar nr cr, .int .i64 qa, .int .i64 qb, .int .i64 qc] 39) = X3 at P3 B3
      have N3 := Lib.hid (N0.out.below B3.out)
      obtain ⟨n, hn⟩ : ∃ n, P.length = n := ⟨_, rfl⟩
      rw [hn] at p1 N0 N3 I1 I2 I3 ⊢
      have F0 := Lib.hid h5
      have k0 : (0 : Int) ≤ (k : Int) := by omega
      have k1 : (k : Int) < (n : Int) := by omega
      obtain ⟨r10, r11⟩ := r1
      obtain ⟨r20, r21⟩ := r2
      obtain ⟨r30, r31⟩ := r3
      have y1 : x1 ≤ 59 := by omega
      have y2 : x2 ≤ 59 := by omega
      have y3 : x3 ≤ 59 := by omega
      clear r11 r21 r31
      clear h h5 hL hR hst n1 n2 n3 hn hk p0 p1 p2 ih hf
      obtain ⟨e0, e1, e2, e3, e4, -⟩ := F0.out
      have D0 := Lib.hid ((Below.refl X3.heap.size X3).drew)
      have hcase : (x1 < x2 ∧ x2 < x3) ∨ (x1 < x2 ∧ ¬ x2 < x3) ∨ (¬ x1 < x2 ∧ x1 < x3) ∨ (¬ x1 < x2 ∧ ¬ x1 < x3) := by omega
      rcases hcase with ⟨c1, c2⟩ | ⟨c1, c2⟩ | ⟨c1, c2⟩ | ⟨c1, c2⟩
      all_goals
        go_enter Try.func64, Try.ntmps64
        go_wp2_with fail
        first | (go_region_held3 (fun w' => (w'.cell? ⟨w.heap.size, 2, none⟩ = some (.int .i64 qa) ∧ w'.cell? ⟨w.heap.size, 3, none⟩ = some (.int .i64 qb) ∧ w'.cell? ⟨w.heap.size, 4, none⟩ = some (.int .i64 qc) ∧ w.heap.size < w'.heap.size))
          (first | exact T3.out.2.2 | exact T2.out.2.2 | exact T1.out.2.2 | exact (P3.out.below D0.out).2.2)
          (first
            | (go_at_call_of 64 (Value.int .i64 qa); refine (I1.out _ (N3.out.below D0.out)).mono ?_; rintro e w1 ⟨rfl, b1⟩; have T1 := Lib.hid ((P3.out.below D0.out).below b1); have M1 := Lib.hid ((N3.out.below D0.out).below b1); have Q1 := Lib.hid (below_up (below_up B3.out D0.out) b1); clear b1)
            | (go_at_call_of 64 (Value.int .i64 qb); refine (I2.out _ M1.out).mono ?_; rintro e w2 ⟨rfl, b2⟩; have T2 := Lib.hid (T1.out.below b2); have M2 := Lib.hid (M1.out.below b2); have Q2 := Lib.hid (below_up Q1.out b2); clear b2)
            | (go_at_call_of 64 (Value.int .i64 qc); refine (I3.out _ M2.out).mono ?_; rintro e w3 ⟨rfl, b3⟩; have T3 := Lib.hid (T2.out.below b3); have Q3 := Lib.hid (below_up Q2.out b3); clear b3)
            | fail)) | fail
        all_goals
          go_wp2
          go_ret
          exact ⟨ret_int (by have := HST.out; rw [IntKind.wrap_i64]; omega), Q3.out⟩

/-- The depth that is given back. -/
def depthR (P : List ND) (m : Int) : Int := if planB P m = true then depthI P else -1

theorem NodesAt.form {w : World} {v : Value} {P : List ND} (h : NodesAt w v P) : ∃ a c, v = .slice a P.length c := by
  obtain ⟨a, c, rfl, -⟩ := h
  exact ⟨a, c, rfl⟩
set_option maxHeartbeats 800000 in
theorem specPlanDepth (v : Value) (P : List ND) (m : Int) (w : World) (h : NodesAt w v P) (hm : P.length ≤ 1048576) (hl : ∀ d ∈ P, d.L.length ≤ 1048576 ∧ d.R.length ≤ 1048576) :
    Calls Try.prog 34 #[v, .int .i64 m] w fun e w' => e = .returned (.int .i64 (depthR P m)) ∧ Below w.heap.size w w' := by
  have C := Lib.hid (fun W h => specPlanOk v P m W h hm hl)
  have HR : Hid (depthR P m = if planB P m = true then depthI P else -1) := rfl
  have D : Hid (planB P m = true → ∀ W, NodesAt W v P → Calls Try.prog 64 #[v, .int .i64 0] W fun e w' => e = .returned (.int .i64 (depthI P)) ∧ Below W.heap.size W w') := by
    intro hv W hW
    by_cases h0 : P.length = 0
    · obtain rfl : P = [] := List.eq_nil_of_length_eq_zero h0
      obtain ⟨a, c, rfl, -⟩ := hW
      have HE : Hid (depthI [] = 0) := rfl
      go_enter Try.func64, Try.ntmps64
      go_wp2
      go_ret
      exact ⟨ret_int HE.out.symm, Below.refl _ _⟩
    · exact specDepthAt v P m hv P.length 0 W (plan_size hv).1 hW (.inr ⟨by omega, by omega, by omega⟩)
  have H := Lib.hid h
  obtain ⟨a, c, rfl⟩ := h.form
  clear h hl hm
  generalize P.length = n at H C D
  generalize depthR P m = r at HR ⊢
  generalize depthI P = q at HR D
  generalize planB P m = t at HR D C
  cases t with
  | false =>
    have HE : Hid (r = -1) := HR.out
    go_enter Try.func34, Try.ntmps34
    go_wp2_with fail
    refine (C.out _ H.out).mono ?_
    rintro e w1 ⟨rfl, b1⟩
    have B1 := Lib.hid b1
    clear b1
    go_wp2
    go_ret
    exact ⟨ret_int HE.out.symm, B1.out⟩
  | true =>
    have HE : Hid (r = q) := HR.out
    have E := Lib.hid (D.out rfl)
    go_enter Try.func34, Try.ntmps34
    go_wp2_with fail
    refine (C.out _ H.out).mono ?_
    rintro e w1 ⟨rfl, b1⟩
    have B1 := Lib.hid b1
    have H1 := Lib.hid (H.out.below b1)
    clear b1
    go_wp2_with fail
    refine (E.out _ H1.out).mono ?_
    rintro e w2 ⟨rfl, b2⟩
    have B2 := Lib.hid (below_up B1.out b2)
    clear b2
    go_wp2
    go_ret
    exact ⟨ret_int HE.out.symm, B2.out⟩
end Go.Proofs.Ytipbjioghicmlaa
