/- The contracts of the program's FollowPlan and PlanDepth, and the walks of their laws: each law returns true for every argument. Condition: the plan that came in reads as nodes. -/
import Derived.Test.YtipbjioghicmlaaDepthImpl
import Derived.Test.YtipbjioghicmlaaPlanOkImpl
import Derived.Test.YtipbjioghicmlaaFollowLaw
namespace Go.Proofs.Ytipbjioghicmlaa
open Go.RowKit

set_option maxRecDepth 100000 in
set_option maxHeartbeats 3200000 in
theorem implFollowPlan (v : Value) (P : List ND) (m c : Int) (w : World) (h : NodesAt w v P) (hm : P.length ≤ 1048576) (hl : ∀ d ∈ P, d.L.length ≤ 1048576 ∧ d.R.length ≤ 1048576) (c0 : -9223372036854775808 ≤ c) (c1 : c ≤ 9223372036854775807) :
    Calls Try.prog 17 #[v, .int .i64 m, .int .i64 c] w (Follows P m c w) := by
  have C := Lib.hid (fun W h => implPlanOk v P m W h hm hl)
  have D : Hid (planB P m = true → ∀ W g, Steps W g P → Calls Try.prog 48 #[ptrTo g P.length 0, .int .i64 c] W (Lists (followL P c) W)) := fun hv W g hW => implFollow g P m c W hW hv hl c0 c1
  have K : Hid (planB P m = true → ∀ W, NodesAt W v P → Calls Try.prog 44 #[v] W fun e w' => ∃ g, e = .returned (ptrTo g P.length 0) ∧ Steps w' g P ∧ Below W.heap.size W w') := fun hv W hW => implLinkPlan v P W hW (plan_size hv).1
  have HB : Hid (planB P m = true → 1 ≤ m ∧ m ≤ 13) := fun hv => ⟨(plan_size hv).2.1, (plan_size hv).2.2⟩
  have HF : Hid (fokB P m c = (planB P m && (decide (-m ≤ c) && decide (c ≤ m)))) := rfl
  have HR : Hid (fwR P m c = if fokB P m c = true then followL P c else []) := rfl
  have H := Lib.hid h
  obtain ⟨a, cc, rfl⟩ := h.form
  unfold Follows
  unfold Lists at D
  clear h hm hl
  generalize P.length = n at H C D K
  generalize fwR P m c = R at HR ⊢
  generalize fokB P m c = t at HF HR ⊢
  generalize followL P c = F at D HR
  generalize planB P m = b at HF C D HB K
  cases b with
  | false =>
    have HE : Hid (t = false) := HF.out
    have HQ : Hid (R = []) := by unfold Hid; rw [HR.out, HE.out]; rfl
    clear HF HR D K
    go_enter Try.func17, Try.ntmps17
    go_wp2_with fail
    refine (C.out _ H.out).mono ?_
    rintro e w1 ⟨rfl, b1⟩
    have B1 := Lib.hid b1
    clear b1
    go_wp2
    go_ret2
    exact ⟨_, by rw [HE.out]; rfl, by rw [HQ.out]; exact Own.nil _ _, B1.out⟩
  | true =>
    obtain ⟨m0, m1⟩ := HB.out rfl
    have E := Lib.hid (D.out rfl)
    have KL := Lib.hid (K.out rfl)
    clear D HB K
    by_cases g1 : c < -m
    · have HE : Hid (t = false) := by unfold Hid; rw [HF.out, decide_eq_false (show ¬ -m ≤ c by omega)]; rfl
      have HQ : Hid (R = []) := by unfold Hid; rw [HR.out, HE.out]; rfl
      clear HF HR
      go_enter Try.func17, Try.ntmps17
      go_wp2_with fail
      refine (C.out _ H.out).mono ?_
      rintro e w1 ⟨rfl, b1⟩
      have B1 := Lib.hid b1
      clear b1
      go_wp2
      go_ret2
      exact ⟨_, by rw [HE.out]; rfl, by rw [HQ.out]; exact Own.nil _ _, B1.out⟩
    · by_cases g2 : m < c
      · have HE : Hid (t = false) := by unfold Hid; rw [HF.out, decide_eq_false (show ¬ c ≤ m by omega), Bool.and_false]; rfl
        have HQ : Hid (R = []) := by unfold Hid; rw [HR.out, HE.out]; rfl
        clear HF HR
        go_enter Try.func17, Try.ntmps17
        go_wp2_with fail
        refine (C.out _ H.out).mono ?_
        rintro e w1 ⟨rfl, b1⟩
        have B1 := Lib.hid b1
        clear b1
        go_wp2
        go_ret2
        exact ⟨_, by rw [HE.out]; rfl, by rw [HQ.out]; exact Own.nil _ _, B1.out⟩
      · have HE : Hid (t = true) := by unfold Hid; rw [HF.out, decide_eq_true (show -m ≤ c by omega), decide_eq_true (show c ≤ m by omega)]; rfl
        have HQ : Hid (R = F) := by unfold Hid; rw [HR.out, HE.out]; rfl
        clear HF HR
        go_enter Try.func17, Try.ntmps17
        go_wp2_with fail
        refine (C.out _ H.out).mono ?_
        rintro e w1 ⟨rfl, b1⟩
        have B1 := Lib.hid b1
        have H1 := Lib.hid (H.out.below b1)
        clear b1
        go_wp2_with fail
        refine (KL.out _ H1.out).mono ?_
        rintro e w1' ⟨g, rfl, st, b1'⟩
        have B1' := Lib.hid (below_up B1.out b1')
        have ST := Lib.hid st
        have E2 := Lib.hid (E.out _ g st)
        obtain ⟨pu, hpu⟩ := ptrTo_form g n 0
        rw [hpu] at E2 ⊢
        clear b1' st hpu
        go_wp2_with fail
        refine E2.out.mono ?_
        rintro e w2 ⟨u, rfl, ou, b2⟩
        have B2 := Lib.hid (below_up B1'.out b2)
        have OU : Hid (Own w2 w.heap.size u F) := Own.lower (show Own w2 w1'.heap.size u F from ou) B1'.out.size
        clear ou b2
        go_wp2
        go_ret2
        exact ⟨u, by rw [HE.out]; rfl, by rw [HQ.out]; exact OU.out, B2.out⟩


set_option maxRecDepth 100000 in
theorem walkFnExactFollowPlan (w : World) (v : Value) (P : List ND) (cp : CameNodes w v P) (m : Int) (wm : (Lit.int .i64 m).wf = true) (c : Int) (wc : (Lit.int .i64 c).wf = true) :
    Calls Try.prog 6 #[v, .int .i64 m, .int .i64 c] w fun e w' => e = .returned (.bool true) ∧ Below w.heap.size w w' :=
  lawFollowPlan (fun P m c hs _ wc W v hW => implFollowPlan v P m c W hW (sizes_len hs) (SzP.lists hs) (range_wf wc).1 (range_wf wc).2) w v P cp m wm c wc

set_option maxRecDepth 100000 in
set_option maxHeartbeats 1600000 in
theorem implPlanDepth (v : Value) (P : List ND) (m : Int) (w : World) (h : NodesAt w v P) (hm : P.length ≤ 1048576) (hl : ∀ d ∈ P, d.L.length ≤ 1048576 ∧ d.R.length ≤ 1048576) :
    Calls Try.prog 14 #[v, .int .i64 m] w fun e w' => e = .returned (.int .i64 (depthR P m)) ∧ Below w.heap.size w w' := by
  have C := Lib.hid (fun W h => implPlanOk v P m W h hm hl)
  have HR : Hid (depthR P m = if planB P m = true then depthI P else -1) := rfl
  have D : Hid (planB P m = true → ∀ W g, Steps W g P → Calls Try.prog 45 #[ptrTo g P.length 0] W fun e w' => e = .returned (.int .i64 (depthI P)) ∧ Below W.heap.size W w') := fun hv W g hW =>
    implDepth g P m hv P.length 0 W (plan_size hv).1 hW (by omega)
  have K : Hid (planB P m = true → ∀ W, NodesAt W v P → Calls Try.prog 44 #[v] W fun e w' => ∃ g, e = .returned (ptrTo g P.length 0) ∧ Steps w' g P ∧ Below W.heap.size W w') := fun hv W hW => implLinkPlan v P W hW (plan_size hv).1
  have H := Lib.hid h
  obtain ⟨a, c, rfl⟩ := h.form
  clear h hm hl
  generalize P.length = n at H C D K
  generalize depthR P m = r at HR ⊢
  generalize depthI P = q at HR D
  generalize planB P m = t at HR D C K
  cases t with
  | false =>
    have HE : Hid (r = -1) := HR.out
    clear D K
    go_enter Try.func14, Try.ntmps14
    go_wp2_with fail
    refine (C.out _ H.out).mono ?_
    rintro e w1 ⟨rfl, b1⟩
    have B1 := Lib.hid b1
    clear b1
    go_wp2
    go_ret
    exact ⟨ret_int HE.out.symm, B1.out⟩
  | true =>
    have HE : Hid (r = q) := HR.out
    have E := Lib.hid (D.out rfl)
    have KL := Lib.hid (K.out rfl)
    clear D K HR
    go_enter Try.func14, Try.ntmps14
    go_wp2_with fail
    refine (C.out _ H.out).mono ?_
    rintro e w1 ⟨rfl, b1⟩
    have B1 := Lib.hid b1
    have H1 := Lib.hid (H.out.below b1)
    clear b1
    go_wp2_with fail
    refine (KL.out _ H1.out).mono ?_
    rintro e w2 ⟨g, rfl, st, b2⟩
    have B2 := Lib.hid (below_up B1.out b2)
    have E2 := Lib.hid (E.out _ g st)
    obtain ⟨pu, hpu⟩ := ptrTo_form g n 0
    rw [hpu] at E2 ⊢
    clear b2 st hpu
    go_wp2_with fail
    refine E2.out.mono ?_
    rintro e w3 ⟨rfl, b3⟩
    have B3 := Lib.hid (below_up B2.out b3)
    clear b3
    go_wp2
    go_ret
    exact ⟨ret_int HE.out.symm, B3.out⟩

set_option maxRecDepth 100000 in
theorem walkFnExactPlanDepth (w : World) (v : Value) (P : List ND) (cp : CameNodes w v P) (m : Int) (wm : (Lit.int .i64 m).wf = true) :
    Calls Try.prog 7 #[v, .int .i64 m] w fun e w' => e = .returned (.bool true) ∧ Below w.heap.size w w' :=
  lawPlanDepth (fun P m hs _ W v hW => implPlanDepth v P m W hW (sizes_len hs) (SzP.lists hs)) w v P cp m wm
end Go.Proofs.Ytipbjioghicmlaa
