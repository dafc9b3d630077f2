/- The contract of the model's FollowPlan, and the walk of its law round the contract of the program's function: the law returns true for every argument. Condition: the plan that came in reads as nodes. -/
import Derived.Test.YtipbjioghicmlaaPlanLaws
import Derived.Test.YtipbjioghicmlaaMarkNodes
import Derived.Test.YtipbjioghicmlaaThree
namespace Go.Proofs.Ytipbjioghicmlaa
open Go.RowKit

/-- Whether a plan can be followed in a case. -/
def fokB (P : List ND) (m c : Int) : Bool := planB P m && (decide (-m ≤ c) && decide (c ≤ m))
/-- The outcomes that are given back. -/
def fwR (P : List ND) (m c : Int) : List Int := if fokB P m c = true then followL P c else []
theorem fwR_len (P : List ND) (m c : Int) : (fwR P m c).length ≤ 60 := by
  unfold fwR
  split
  · rename_i h
    unfold fokB at h
    rw [Bool.and_eq_true] at h
    exact followL_len h.1 c
  · simp
/-- What a function that follows a plan gives back. -/
def Follows (P : List ND) (m c : Int) (w : World) (e : Ending) (w' : World) : Prop :=
  ∃ u, e = .returned (.tuple #[u, .bool (fokB P m c)]) ∧ Own w' w.heap.size u (fwR P m c) ∧ Below w.heap.size w w'

set_option maxHeartbeats 1600000 in
theorem specFollowPlan (v : Value) (P : List ND) (m c : Int) (w : World) (h : NodesAt w v P) (hm : P.length ≤ 1048576) (hl : ∀ d ∈ P, d.L.length ≤ 1048576 ∧ d.R.length ≤ 1048576) (c0 : -9223372036854775808 ≤ c) (c1 : c ≤ 9223372036854775807) :
    Calls Try.prog 29 #[v, .int .i64 m, .int .i64 c] w (Follows P m c w) := by
  have C := Lib.hid (fun W h => specPlanOk v P m W h hm hl)
  have D : Hid (planB P m = true → ∀ W, NodesAt W v P → Calls Try.prog 63 #[v, .int .i64 c] W (Lists (followL P c) W)) := fun hv W hW => specFollow v P m c W hW hl hv c0 c1
  have HB : Hid (planB P m = true → 1 ≤ m ∧ m ≤ 13) := fun hv => ⟨(plan_size hv).2.1, (plan_size hv).2.2⟩
  have HF : Hid (fokB P m c = (planB P m && (decide (-m ≤ c) && decide (c ≤ m)))) := rfl
  have HR : Hid (fwR P m c = if fokB P m c = true then followL P c else []) := rfl
  have H := Lib.hid h
  obtain ⟨a, cc, rfl⟩ := h.form
  unfold Follows
  unfold Lists at D
  clear h hm hl
  generalize P.length = n at H C D
  generalize fwR P m c = R at HR ⊢
  generalize fokB P m c = t at HF HR ⊢
  generalize followL P c = F at D HR
  generalize planB P m = b at HF C D HB
  cases b with
  | false =>
    have HE : Hid (t = false) := HF.out
    have HQ : Hid (R = []) := by unfold Hid; rw [HR.out, HE.out]; rfl
    clear HF HR D
    go_enter Try.func29, Try.ntmps29
    go_wp2_with fail
    refine (C.out _ H.out).mono ?_
    rintro e w1 ⟨rfl, b1⟩
    have B1 := Lib.hid b1
    clear b1
    go_wp2
    go_ret2
    exact ⟨_, by rw [HE.out]; rfl, by rw [HQ.out]; exact Own.nil _ _, B1.out⟩
  | true =>
    obtain ⟨m0, m1⟩ := HB.out rfl
    have E := Lib.hid (D.out rfl)
    clear D HB
    by_cases g1 : c < -m
    · have HE : Hid (t = false) := by unfold Hid; rw [HF.out, decide_eq_false (show ¬ -m ≤ c by omega)]; rfl
      have HQ : Hid (R = []) := by unfold Hid; rw [HR.out, HE.out]; rfl
      clear HF HR
      go_enter Try.func29, Try.ntmps29
      go_wp2_with fail
      refine (C.out _ H.out).mono ?_
      rintro e w1 ⟨rfl, b1⟩
      have B1 := Lib.hid b1
      clear b1
      go_wp2
      go_ret2
      exact ⟨_, by rw [HE.out]; rfl, by rw [HQ.out]; exact Own.nil _ _, B1.out⟩
    · by_cases g2 : m < c
      · have HE : Hid (t = false) := by unfold Hid; rw [HF.out, decide_eq_false (show ¬ c ≤ m by omega), Bool.and_false]; rfl
        have HQ : Hid (R = []) := by unfold Hid; rw [HR.out, HE.out]; rfl
        clear HF HR
        go_enter Try.func29, Try.ntmps29
        go_wp2_with fail
        refine (C.out _ H.out).mono ?_
        rintro e w1 ⟨rfl, b1⟩
        have B1 := Lib.hid b1
        clear b1
        go_wp2
        go_ret2
        exact ⟨_, by rw [HE.out]; rfl, by rw [HQ.out]; exact Own.nil _ _, B1.out⟩
      · have HE : Hid (t = true) := by unfold Hid; rw [HF.out, decide_eq_true (show -m ≤ c by omega), decide_eq_true (show c ≤ m by omega)]; rfl
        have HQ : Hid (R = F) := by unfold Hid; rw [HR.out, HE.out]; rfl
        clear HF HR
        go_enter Try.func29, Try.ntmps29
        go_wp2_with fail
        refine (C.out _ H.out).mono ?_
        rintro e w1 ⟨rfl, b1⟩
        have B1 := Lib.hid b1
        have H1 := Lib.hid (H.out.below b1)
        clear b1
        go_wp2_with fail
        refine (E.out _ H1.out).mono ?_
        rintro e w2 ⟨u, rfl, ou, b2⟩
        have B2 := Lib.hid (below_up B1.out b2)
        have OU : Hid (Own w2 w.heap.size u F) := Own.lower (show Own w2 w1.heap.size u F from ou) B1.out.size
        clear ou b2
        go_wp2
        go_ret2
        exact ⟨u, by rw [HE.out]; rfl, by rw [HQ.out]; exact OU.out, B2.out⟩

/-- The contract of a function that follows a plan. -/
def FollowIs (f : FuncId) (P : List ND) (m c : Int) : Prop :=
  ∀ W v, NodesAt W v P → Calls Try.prog f #[v, .int .i64 m, .int .i64 c] W (Follows P m c W)

set_option maxRecDepth 100000 in
set_option maxHeartbeats 3200000 in
theorem lawFollowPlan (IM : ∀ (P : List ND) (m c : Int), P.length + sumP P ≤ 1048576 → wfI m → wfI c → FollowIs 17 P m c)
    (w : World) (v : Value) (P : List ND) (cp : CameNodes w v P) (m : Int) (wm : (Lit.int .i64 m).wf = true) (c : Int) (wc : (Lit.int .i64 c).wf = true) :
    Calls Try.prog 6 #[v, .int .i64 m, .int .i64 c] w fun e w' => e = .returned (.bool true) ∧ Below w.heap.size w w' := by
  have SZ := Lib.hid (szNodes v P w cp.reads cp.2.1 cp.lens)
  have H0 := Lib.hid cp.reads
  obtain ⟨c0, c1⟩ := range_wf wc
  obtain ⟨a0, k0, rfl, -⟩ := cp.reads
  clear cp
  go_enter Try.func6, Try.ntmps6
  go_wp2_with fail
  refine SZ.out.mono ?_
  rintro e w1 ⟨r, rfl, hr, b1⟩
  have B1 := Lib.hid b1
  clear b1
  by_cases hneg : r < 0
  · go_wp2
    go_ret
    exact ⟨rfl, B1.out⟩
  · obtain ⟨r0, r1, hsz⟩ : 0 ≤ r ∧ r ≤ 1048576 ∧ P.length + sumP P ≤ 1048576 := by
      rcases hr with h | h
      · omega
      · exact h
    have T := Lib.hid (fun W h => toNodes (.slice a0 P.length k0) P W h (sizes_len hsz) (SzP.lists hsz))
    have SP := Lib.hid (fun W u hu => specFollowPlan u P m c W hu (sizes_len hsz) (SzP.lists hsz) c0 c1)
    have IP := Lib.hid (IM P m c hsz wm wc)
    have EQ := Lib.hid (fun W a b h h' => eqNodes a b P W h h' (sizes_len hsz) (SzP.lists hsz))
    have MK := Lib.hid (fun W lo hi u hu => markNodes lo hi u P W hu hsz)
    have hF := fwR_len P m c
    unfold FollowIs at IP
    unfold Follows at SP IP
    generalize fokB P m c = t at SP IP
    generalize fwR P m c = F at SP IP hF
    have EL := Lib.hid (fun W a b (h : IntsAt W a F) h' => eqInts_same a b F W h h' (by omega))
    have ML := Lib.hid (fun W B a (h : Own W B a F) => markInts B a 1 F W h (by omega) (by omega) (by omega))
    have HL := Lib.hid (fun W a h => heldInts a 1 F.length W h (by omega) (by omega) (by omega))
    obtain ⟨kf, hkf⟩ : ∃ kf, (1 : Int) + (F.length : Int) = kf := ⟨_, rfl⟩
    rw [hkf] at ML HL
    have kf0 : 0 ≤ kf := by omega
    generalize P.length = n at H0 T SZ
    clear hr hsz r1 SZ hkf hF
    cases t
    all_goals
      go_wp2_with fail
      refine (T.out _ (H0.out.below B1.out)).mono ?_
      rintro e w2 ⟨u2, rfl, o2, b2⟩
      obtain ⟨g2, n2, q2, rfl⟩ := o2.form
      have B2 := Lib.hid (below_up B1.out b2)
      have R2 := Lib.hid o2.reads
      clear o2 b2
      go_wp2_with fail
      refine (SP.out _ _ R2.out).mono ?_
      rintro e w3 ⟨u3, rfl, o3, b3⟩
      obtain ⟨g3, n3, q3, rfl⟩ := o3.form
      have B3 := Lib.hid (below_up B2.out b3)
      have W3 := Lib.hid o3
      have WB : Hid (Blk (· < w3.heap.size) (.slice g3 n3 q3)) := fun k hk => (o3.blk k hk).2
      clear o3 b3 R2
      go_wp2_with fail
      refine (T.out _ (H0.out.below B3.out)).mono ?_
      rintro e w4 ⟨u4, rfl, o4, b4⟩
      have X4 := Lib.hid o4.all
      obtain ⟨g4, n4, q4, rfl⟩ := o4.form
      have B4 := Lib.hid (below_up B3.out b4)
      have W4 := Lib.hid (W3.out.below b4)
      have S4 : Hid (w3.heap.size ≤ w4.heap.size) := b4.size
      clear o4 b4
      go_wp2_with fail
      refine (IP.out _ _ X4.out.reads).mono ?_
      rintro e w5 ⟨u5, rfl, o5, b5⟩
      obtain ⟨g5, n5, q5, rfl⟩ := o5.form
      have B5 := Lib.hid (below_up B4.out b5)
      have W5 := Lib.hid (W4.out.below b5)
      have X5 := Lib.hid (X4.out.below b5)
      have G5 := Lib.hid o5
      have GB : Hid (Blk (w4.heap.size ≤ ·) (.slice g5 n5 q5)) := fun k hk => (o5.blk k hk).1
      clear o5 b5
      go_wp2_with fail
      refine (EL.out _ _ _ G5.out.reads W5.out.reads).mono ?_
      rintro e w6 ⟨rfl, b6⟩
      have B6 := Lib.hid (below_up B5.out b6)
      have W6 := Lib.hid (W5.out.below b6)
      have X6 := Lib.hid (X5.out.below b6)
      have G6 := Lib.hid (G5.out.below b6)
      clear b6
      go_wp2_with fail
      refine (T.out _ (H0.out.below B6.out)).mono ?_
      rintro e w7 ⟨u7, rfl, o7, b7⟩
      obtain ⟨g7, n7, q7, rfl⟩ := o7.form
      have B7 := Lib.hid (below_up B6.out b7)
      have W7 := Lib.hid (W6.out.below b7)
      have X7 := Lib.hid (X6.out.below b7)
      have G7 := Lib.hid (G6.out.below b7)
      have Y7 := Lib.hid o7.reads
      clear o7 b7
      go_wp2_with fail
      refine (EQ.out _ _ _ X7.out.reads Y7.out).mono ?_
      rintro e w8 ⟨rfl, b8⟩
      have B8 := Lib.hid (below_up B7.out b8)
      have W8 := Lib.hid (W7.out.below b8)
      have X8 := Lib.hid (X7.out.below b8)
      have G8 := Lib.hid (G7.out.below b8)
      clear b8 Y7
      go_wp2_with fail
      refine (MK.out _ _ _ _ X8.out).mono ?_
      rintro e w9 ⟨r9, rfl, p9, t9⟩
      have B9 : Hid (Below w.heap.size w w9) := B8.out.trans (t9.below B8.out.size fun k hk => by have := B3.out.size; omega)
      have W9 := Lib.hid (W8.out.only t9 fun k hk e => by have := WB.out k hk; omega)
      have G9 := Lib.hid (G8.out.only t9 fun k hk e => by have := GB.out k hk; omega)
      have p9' : ¬ r9 < 0 := by omega
      clear t9 X8 X7 X6 X5 X4
      go_wp2_with fail
      refine (EL.out _ _ _ G9.out.reads W9.out.reads).mono ?_
      rintro e wA ⟨rfl, bA⟩
      have BA := Lib.hid (below_up B9.out bA)
      have WA := Lib.hid (W9.out.below bA)
      have GA := Lib.hid (G9.out.below bA)
      clear bA
      go_wp2_with fail
      refine (ML.out _ _ _ GA.out).mono ?_
      rintro e wB ⟨rfl, oB, gB⟩
      have tB := Only.of_grown gB
      have BB : Hid (Below w.heap.size w wB) := BA.out.trans (tB.below BA.out.size fun k hk => by have := GB.out k hk; have := B4.out.size; omega)
      have WBB := Lib.hid (WA.out.only tB fun k hk e => by have := WB.out k hk; have := GB.out k e; have := S4.out; omega)
      have GBB : Hid (IntsAt wB (.slice g5 n5 q5) (imarks 1 F.length)) := IntsAt.of_owns_n oB (imarks_length _ _)
      clear oB gB tB
      go_wp2_with fail
      refine (HL.out _ _ GBB.out).mono ?_
      rintro e wC ⟨rfl, rfl⟩
      go_wp2_with fail
      refine (T.out _ (H0.out.below BB.out)).mono ?_
      rintro e wD ⟨uD, rfl, oD, bD⟩
      obtain ⟨gD, nD, qD, rfl⟩ := oD.form
      have BD := Lib.hid (below_up BB.out bD)
      have WD := Lib.hid (WBB.out.below bD)
      have GD := Lib.hid (GBB.out.below bD)
      have XD := Lib.hid oD.reads
      clear oD bD
      go_wp2_with fail
      refine (IP.out _ _ XD.out).mono ?_
      rintro e wE ⟨uE, rfl, oE, bE⟩
      obtain ⟨gE, nE, qE, rfl⟩ := oE.form
      have BE := Lib.hid (below_up BD.out bE)
      have WE := Lib.hid (WD.out.below bE)
      have GE := Lib.hid (GD.out.below bE)
      have IE := Lib.hid oE.reads
      clear oE bE
      go_wp2_with fail
      refine (EL.out _ _ _ IE.out WE.out.reads).mono ?_
      rintro e wF ⟨rfl, bF⟩
      have BF := Lib.hid (below_up BE.out bF)
      have GF := Lib.hid (GE.out.below bF)
      clear bF
      go_wp2_with fail
      refine (HL.out _ _ GF.out).mono ?_
      rintro e wG ⟨rfl, rfl⟩
      go_wp2
      go_ret
      exact ⟨rfl, BF.out⟩
end Go.Proofs.Ytipbjioghicmlaa
