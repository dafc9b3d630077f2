/- The contract of the program's PlanOk: it tells whether a plan is valid. Conditions: the plan's slice reads as nodes and is short enough to be counted. -/
import Derived.Test.YtipbjioghicmlaaLinksImpl
import Derived.Test.YtipbjioghicmlaaOkImpl
import Derived.Test.YtipbjioghicmlaaPlanLaws
namespace Go.Proofs.Ytipbjioghicmlaa
open Go.RowKit

theorem all_drop {P : List ND} {k : Nat} (f : ND → Bool) (h : k < P.length) : (P.drop k).all f = (f P[k] && (P.drop (k + 1)).all f) := by
  rw [List.drop_eq_getElem_cons h, List.all_cons]
theorem all_end {P : List ND} {k : Nat} (f : ND → Bool) (h : P.length ≤ k) : (P.drop k).all f = true := by
  rw [List.drop_of_length_le h]; rfl

set_option maxRecDepth 100000 in
set_option maxHeartbeats 6400000 in
theorem implPlanOk (v : Value) (P : List ND) (m : Int) (w : World) (h : NodesAt w v P) (hm : P.length ≤ 1048576) (hl : ∀ d ∈ P, d.L.length ≤ 1048576 ∧ d.R.length ≤ 1048576) :
    Calls Try.prog 19 #[v, .int .i64 m] w fun e w' => e = .returned (.bool (planB P m)) ∧ Below w.heap.size w w' := by
  obtain ⟨q, hq⟩ := link_case P
  have HE := Lib.hid (plan_split hq m)
  have CL : Hid (P.length ≤ 60 → ∀ W, NodesAt W v P → Calls Try.prog 55 #[v] W fun e w' => e = .returned (.bool q) ∧ Below W.heap.size W w') := fun h60 W hW => implLinksOk v P q W hW h60 hq
  have H0 := Lib.hid h
  obtain ⟨a, c, rfl, h⟩ := h
  have H := Lib.hid h
  have HL := Lib.hid hl
  clear h hl hq
  generalize planB P m = r at HE ⊢
  obtain ⟨n, hn⟩ : ∃ n, P.length = n := ⟨_, rfl⟩
  rw [hn] at hm HE CL H0 ⊢
  have HN := Lib.hid hn
  clear hn
  by_cases g1 : m < 1
  · have HF : Hid (r = false) := by unfold Hid; rw [HE.out, decide_eq_false (show ¬ 1 ≤ m by omega)]; simp
    clear HE CL
    go_enter Try.func19, Try.ntmps19
    go_wp2
    go_ret
    exact ⟨ret_bool HF.out.symm, Below.refl _ _⟩
  by_cases g2 : 13 < m
  · have HF : Hid (r = false) := by unfold Hid; rw [HE.out, decide_eq_false (show ¬ m ≤ 13 by omega)]; simp
    clear HE CL
    go_enter Try.func19, Try.ntmps19
    go_wp2
    go_ret
    exact ⟨ret_bool HF.out.symm, Below.refl _ _⟩
  by_cases g3 : (60 : Int) < (n : Int)
  · have HF : Hid (r = false) := by unfold Hid; rw [HE.out, decide_eq_false (show ¬ n ≤ 60 by omega)]; simp
    clear HE CL
    go_enter Try.func19, Try.ntmps19
    go_wp2
    go_ret
    exact ⟨ret_bool HF.out.symm, Below.refl _ _⟩
  have HG : Hid (r = ((P.drop 0).all (fun d => weighB d.L d.R m) && q)) := by
    unfold Hid; rw [HE.out, decide_eq_true (show n ≤ 60 by omega), decide_eq_true (show 1 ≤ m by omega), decide_eq_true (show m ≤ 13 by omega)]; rfl
  have KL := Lib.hid (CL.out (by omega))
  clear HE CL
  go_enter Try.func19, Try.ntmps19
  go_wp2
  go_loopw [6, 20] (fun _ i wr => ∃ k : Nat, k ≤ n ∧ i = .int .i64 k ∧ Hid (r = ((P.drop k).all (fun d => weighB d.L d.R m) && q)) ∧ Below w.heap.size w wr) (fun _ i _ => n - (intOf i).toNat)
  case atStart => exact ⟨0, Nat.zero_le _, rfl, HG, Below.refl _ _⟩
  case round =>
    clear HG
    obtain ⟨k, hk, rfl, HG, hb⟩ := hrel
    have HB := Lib.hid hb
    clear hb
    by_cases hlt : k < n
    · have hkl : k < P.length := by rw [HN.out]; exact hlt
      obtain ⟨b, o, vl, vr, rfl, h5, hL, hR⟩ := H.out k hkl
      have hd := HL.out P[k] (List.getElem_mem hkl)
      have HS := Lib.hid (all_drop (fun d => weighB d.L d.R m) hkl)
      obtain ⟨d, hx⟩ : ∃ d, P[k] = d := ⟨_, rfl⟩
      rw [hx] at h5 hL hR hd HS
      obtain ⟨d1, d2⟩ := hd
      obtain ⟨al, nl, cl, rfl⟩ := hL.form
      obtain ⟨ar, nr, cr, rfl⟩ := hR.form
      have C := Lib.hid (fun W h h' => implWeighingOk (.slice al nl cl) (.slice ar nr cr) d.L d.R m W h h' (by omega) (by omega))
      have F1 := Lib.hid (h5.below HB.out)
      have I1 := Lib.hid (hL.below HB.out)
      have I2 := Lib.hid (hR.below HB.out)
      have i0' : (0 : Int) ≤ (k : Int) := by omega
      have i1 : (k : Int) < (n : Int) := by omega
      clear h5 hL hR hx hkl d1 d2
      obtain ⟨e0, e1, e2, e3, e4, -⟩ := F1.out
      have P3 := Lib.hid (Five.new wr 39 (.slice al nl cl) (.slice ar nr cr) d.a d.b d.c)
      have B3 := Lib.hid (alloc_below wr (.cells #[.slice al nl cl, .slice ar nr cr, .int .i64 d.a, .int .i64 d.b, .int .i64 d.c] 39))
      generalize hX3 : wr.alloc (.cells #[.slice al nl cl, .slice ar nr cr, .int .i64 d.a, .int .i64 d.b, .int .i64 d.c] 39) = X3 at P3 B3
      have G1 := Lib.hid (I1.out.below B3.out)
      have G2 := Lib.hid (I2.out.below B3.out)
      obtain ⟨f0, f1, -⟩ := P3.out
      go_wp2_with fail
      refine (C.out _ G1.out G2.out).mono ?_
      rintro e w4 ⟨rfl, b4⟩
      have B4 := Lib.hid (below_up (below_up HB.out B3.out) b4)
      clear b4 e0 e1 e2 e3 e4 f0 f1 hX3
      cases hw : weighB d.L d.R m with
      | false =>
        have HF : Hid (r = false) := by unfold Hid; rw [HG.out, HS.out, hw]; rfl
        go_wp2
        go_ret
        exact ⟨ret_bool HF.out.symm, B4.out⟩
      | true =>
        have HF : Hid (r = ((P.drop (k + 1)).all (fun d => weighB d.L d.R m) && q)) := by unfold Hid; rw [HG.out, HS.out, hw]; rfl
        go_wp2
        go_roundw
        case rel => exact ⟨k + 1, by omega, by go_num, HF, B4.out⟩
        case measure => simp [intOf]; omega
    · have HF : Hid (r = q) := by unfold Hid; rw [HG.out, all_end _ (by rw [HN.out]; omega)]; rfl
      have H2 := Lib.hid (H0.out.below HB.out)
      go_wp2_with fail
      refine (KL.out _ H2.out).mono ?_
      rintro e w4 ⟨rfl, b4⟩
      have B4 := Lib.hid (below_up HB.out b4)
      clear b4
      go_wp2
      go_ret
      exact ⟨ret_bool HF.out.symm, B4.out⟩

set_option maxRecDepth 100000 in
theorem walkFnExactPlanOk (w : World) (v : Value) (P : List ND) (cp : CameNodes w v P) (m : Int) (wm : (Lit.int .i64 m).wf = true) :
    Calls Try.prog 5 #[v, .int .i64 m] w fun e w' => e = .returned (.bool true) ∧ Below w.heap.size w w' :=
  lawPlanOk (fun P m hs _ W v hW => implPlanOk v P m W hW (sizes_len hs) (SzP.lists hs)) w v P cp m wm
end Go.Proofs.Ytipbjioghicmlaa
