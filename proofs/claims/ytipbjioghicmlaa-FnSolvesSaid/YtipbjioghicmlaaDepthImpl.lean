/- The contract of the program's depth of a linked plan. Conditions: the steps of a valid plan lie in one block. -/
import Derived.Test.YtipbjioghicmlaaFollowImpl
import Derived.Test.YtipbjioghicmlaaDepthSpec
namespace Go.Proofs.Ytipbjioghicmlaa
open Go.RowKit

theorem depthF_out {P : List ND} {f : Nat} {p : Int} (h : ¬ (0 ≤ p ∧ p < (P.length : Int))) : depthF P f p = 0 := by
  cases f with
  | zero => rfl
  | succ f =>
    unfold depthF
    by_cases h0 : p < 0
    · rw [if_pos h0]
    · rw [if_neg h0]
      have : P[p.toNat]? = none := by rw [List.getElem?_eq_none_iff]; omega
      rw [this]

set_option maxRecDepth 100000 in
set_option maxHeartbeats 6400000 in
theorem implDepth (g : Nat) (P : List ND) (m : Int) (hv : planB P m = true) : ∀ (f : Nat) (p : Int) (w : World), f ≤ 60 → Steps w g P → (¬ (0 ≤ p ∧ p < (P.length : Int)) ∨ (0 ≤ p ∧ p < (P.length : Int)) ∧ P.length ≤ p.toNat + f) →
    Calls Try.prog 45 #[ptrTo g P.length p] w fun e w' => e = .returned (.int .i64 (depthF P f p)) ∧ Below w.heap.size w w' := by
  have out : ∀ (f : Nat) (p : Int) (w : World), ¬ (0 ≤ p ∧ p < (P.length : Int)) → Calls Try.prog 45 #[ptrTo g P.length p] w fun e w' => e = .returned (.int .i64 (depthF P f p)) ∧ Below w.heap.size w w' := by
    intro f p w hp
    have HE := Lib.hid (depthF_out (P := P) (f := f) hp)
    rw [ptrTo_none hp]
    generalize depthF P f p = r at HE ⊢
    go_enter Try.func45, Try.ntmps45
    go_wp2
    go_ret
    exact ⟨ret_int HE.out.symm, Below.refl _ _⟩
  intro f
  induction f with
  | zero =>
    intro p w _ h hp
    rcases hp with hp | ⟨hp, hq⟩
    · exact out 0 p w hp
    · omega
  | succ q ih =>
    intro p w hf h hp
    rcases hp with hp | ⟨⟨p0, p1⟩, p2⟩
    · exact out (q + 1) p w hp
    · obtain ⟨k, rfl⟩ : ∃ k : Nat, p = (k : Int) := ⟨p.toNat, by omega⟩
      have hk : k < P.length := by omega
      have N0 := Lib.hid h
      obtain ⟨vl, vr, h5, hL, hR⟩ := h k hk
      have hst := depthF_step P q k hk
      have hnd := plan_node hv k hk
      simp only [nodeB, Bool.and_eq_true] at hnd
      have n1 := link_in hnd.2.1
      have n2 := link_in hnd.2.2.1
      have n3 := link_in hnd.2.2.2
      obtain ⟨d, hx⟩ : ∃ d, P[k] = d := ⟨_, rfl⟩
      rw [hx] at h5 hL hR hst n1 n2 n3
      clear hx hnd
      obtain ⟨LL, RR, qa, qb, qc⟩ := d
      dsimp only at h5 hL hR hst n1 n2 n3
      obtain ⟨al, nl, cl, rfl⟩ := hL.form
      obtain ⟨ar, nr, cr, rfl⟩ := hR.form
      have I1 := Lib.hid (fun W hW => ih qa W (by omega) hW (by omega))
      have I2 := Lib.hid (fun W hW => ih qb W (by omega) hW (by omega))
      have I3 := Lib.hid (fun W hW => ih qc W (by omega) hW (by omega))
      have r1 := depthF_range P q qa
      have r2 := depthF_range P q qb
      have r3 := depthF_range P q qc
      have HST := Lib.hid hst
      rw [ptrTo_some hk]
      generalize depthF P (q + 1) (k : Int) = r at HST ⊢
      generalize depthF P q qa = x1 at I1 HST r1
      generalize depthF P q qb = x2 at I2 HST r2
      generalize depthF P q qc = x3 at I3 HST r3
      generalize hua : ptrTo g P.length qa = u1 at I1 h5
      generalize hub : ptrTo g P.length qb = u2 at I2 h5
      generalize huc : ptrTo g P.length qc = u3 at I3 h5
      obtain ⟨ua, rfl⟩ : ∃ u, u1 = .pointer u := ⟨_, hua.symm.trans (ptrTo_form _ _ _).choose_spec⟩
      obtain ⟨ub, rfl⟩ : ∃ u, u2 = .pointer u := ⟨_, hub.symm.trans (ptrTo_form _ _ _).choose_spec⟩
      obtain ⟨uc, rfl⟩ : ∃ u, u3 = .pointer u := ⟨_, huc.symm.trans (ptrTo_form _ _ _).choose_spec⟩
      have P3 : Hid (PAt w g (k * 5) (.slice al nl cl) (.slice ar nr cr) (.pointer ua) (.pointer ub) (.pointer uc)) := h5
      obtain ⟨r10, r11⟩ := r1
      obtain ⟨r20, r21⟩ := r2
      obtain ⟨r30, r31⟩ := r3
      have y1 : x1 ≤ 59 := by omega
      have y2 : x2 ≤ 59 := by omega
      have y3 : x3 ≤ 59 := by omega
      clear r11 r21 r31 out
      clear h h5 hL hR hst n1 n2 n3 hk p0 p1 p2 ih hf hua hub huc
      have D0 := Lib.hid ((Below.refl w.heap.size w).drew)
      obtain ⟨e0, e1, e2, e3, e4, e5⟩ := P3.out
      have hcase : (x1 < x2 ∧ x2 < x3) ∨ (x1 < x2 ∧ ¬ x2 < x3) ∨ (¬ x1 < x2 ∧ x1 < x3) ∨ (¬ x1 < x2 ∧ ¬ x1 < x3) := by omega
      rcases hcase with ⟨c1, c2⟩ | ⟨c1, c2⟩ | ⟨c1, c2⟩ | ⟨c1, c2⟩
      all_goals
        go_enter Try.func45, Try.ntmps45
        go_wp2_with fail
        first | (go_region_held3 (fun w' => w'.cell? ⟨g, k * 5, none⟩ = some (.slice al nl cl) ∧ w'.cell? ⟨g, k * 5 + 1, none⟩ = some (.slice ar nr cr) ∧ w'.cell? ⟨g, k * 5 + 2, none⟩ = some (.pointer ua) ∧ w'.cell? ⟨g, k * 5 + 3, none⟩ = some (.pointer ub) ∧ w'.cell? ⟨g, k * 5 + 4, none⟩ = some (.pointer uc) ∧ g < w'.heap.size)
          (first | exact T3.out | exact T2.out | exact T1.out | exact P3.out.below D0.out | exact P3.out | fail)
          (first
            | (go_at_call_of 45 (Value.pointer ua); refine (I1.out _ (N0.out.below D0.out)).mono ?_; rintro e w1 ⟨rfl, b1⟩; have T1 := Lib.hid ((P3.out.below D0.out).below b1); have M1 := Lib.hid ((N0.out.below D0.out).below b1); have Q1 := Lib.hid (below_up D0.out b1); clear b1)
            | (go_at_call_of 45 (Value.pointer ub); refine (I2.out _ M1.out).mono ?_; rintro e w2 ⟨rfl, b2⟩; have T2 := Lib.hid (T1.out.below b2); have M2 := Lib.hid (M1.out.below b2); have Q2 := Lib.hid (below_up Q1.out b2); clear b2)
            | (go_at_call_of 45 (Value.pointer uc); refine (I3.out _ M2.out).mono ?_; rintro e w3 ⟨rfl, b3⟩; have T3 := Lib.hid (T2.out.below b3); have Q3 := Lib.hid (below_up Q2.out b3); clear b3)
            | fail)) | fail
        all_goals
          go_wp2
          go_ret
          exact ⟨ret_int (by have := HST.out; rw [IntKind.wrap_i64]; omega), Q3.out⟩
end Go.Proofs.Ytipbjioghicmlaa
