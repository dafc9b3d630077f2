/- The contract of the model's making of a plan out of a code, and the walks of the laws FnPlans and FnSolves: each law returns true for every code. Condition: the code reads as bytes. -/
import Derived.Test.YtipbjioghicmlaaPlanDraw
import Derived.Test.YtipbjioghicmlaaPlansLaw
import Derived.Test.YtipbjioghicmlaaPlanWalks
import Derived.Test.YtipbjioghicmlaaValImpl
namespace Go.Proofs.Ytipbjioghicmlaa
open Go.RowKit

set_option maxRecDepth 100000 in
set_option maxHeartbeats 1600000 in
theorem specMakePlan : MakesPlan := by
  intro W w a len cap n hB hb hl n0 n1
  have C1 := Lib.hid (new17_any W w a len cap 20 hB hb hl (by omega) (by omega))
  have C2 := Lib.hid (fun V b h => specDrawPlan W V b a len cap n hB h hl n0 n1)
  clear hB hb
  have h13 : ¬ (13 : Int) < n := by omega
  have hcase : 2 < n ∨ n = 2 := by omega
  have fin : ∀ (b : Nat) (w2 w3 : World) (v : Value) (P : List ND) (us : List (Value × Value)), w.heap.size ≤ b → Below w.heap.size w w2 → PlanK w3 w2.heap.size v P us → P ≠ [] → planB P n = true → Only (fun k => k = b) w2 w3 →
      ∃ P, NodesAt w3 v P ∧ P.length + sumP P ≤ 1048576 ∧ planB P n = true ∧ P ≠ [] ∧ Below w.heap.size w w3 := fun b w2 w3 v P us hbw hb hK hP hv ho =>
    ⟨P, hK.reads hP, by have := plan_sum hv; omega, hv, hP, hb.trans (ho.below hb.size fun k e => by omega)⟩
  have FIN := Lib.hid fin
  clear fin
  rcases hcase with h2 | rfl
  · go_enter Try.func13, Try.ntmps13
    go_wp2_with fail
    refine C1.out.mono ?_
    rintro e w2 ⟨b, rfl, hbw, hcur, hbel⟩
    have HC := Lib.hid hcur
    have HB := Lib.hid hbel
    have HW := Lib.hid hbw
    clear hcur hbel hbw
    go_wp2_with fail
    refine (C2.out w2 b HC.out).mono ?_
    rintro e w3 ⟨v, rfl, P, us, hK, hP, hv, ho⟩
    obtain ⟨Q, f1, f2, f3, f4, f5⟩ := FIN.out b w2 w3 v P us HW.out HB.out hK hP hv ho
    have G := Lib.hid (And.intro f1 (And.intro f2 (And.intro f3 (And.intro f4 f5))))
    clear hK hP hv ho f1 f2 f3 f4 f5
    go_wp2
    go_ret
    exact ⟨v, Q, rfl, G.out⟩
  · go_enter Try.func13, Try.ntmps13
    go_wp2_with fail
    refine C1.out.mono ?_
    rintro e w2 ⟨b, rfl, hbw, hcur, hbel⟩
    have HC := Lib.hid hcur
    have HB := Lib.hid hbel
    have HW := Lib.hid hbw
    clear hcur hbel hbw
    go_wp2_with fail
    refine (C2.out w2 b HC.out).mono ?_
    rintro e w3 ⟨v, rfl, P, us, hK, hP, hv, ho⟩
    obtain ⟨Q, f1, f2, f3, f4, f5⟩ := FIN.out b w2 w3 v P us HW.out HB.out hK hP hv ho
    have G := Lib.hid (And.intro f1 (And.intro f2 (And.intro f3 (And.intro f4 f5))))
    clear hK hP hv ho f1 f2 f3 f4 f5
    go_wp2
    go_ret
    exact ⟨v, Q, rfl, G.out⟩

theorem outIsP (L R : List Int) (n : Int) (ml : L.length ≤ 1048576) (mr : R.length ≤ 1048576) (n0 : -9223372036854775808 ≤ n) (n1 : n ≤ 9223372036854775807) : OutIs 18 L R n :=
  fun W vl vr h1 h2 => implOutcome vl vr L R n W h1 h2 (by omega) (by omega) n0 n1
set_option maxRecDepth 100000 in
theorem walkFnPlans (w : World) (a : Option Addr) (len cap : Nat) (zs : List Int) (h : IsBytes w a len cap zs) :
    Calls Try.prog 3 #[.slice a len cap] w fun e w' => e = .returned (.bool true) ∧ Below w.heap.size w w' :=
  lawPlans specMakeProb specMakePlan
    (fun P m hs _ W v hW => implPlanOk v P m W hW (sizes_len hs) (SzP.lists hs))
    (fun P n h l z hs _ W v hW => implWorstCase v P n h l z W hW (sizes_len hs) (SzP.lists hs))
    (fun P n h l z hs _ W v hW => implTotalCost v P n h l z W hW (sizes_len hs) (SzP.lists hs))
    (fun P m hs _ W v hW => implPlanDepth v P m W hW (sizes_len hs) (SzP.lists hs))
    (fun P m c hs _ wc W v hW => implFollowPlan v P m c W hW (sizes_len hs) (SzP.lists hs) (range_wf wc).1 (range_wf wc).2)
    outIsP w a len cap (bytesAt_of h) (bytes_len h)
set_option maxRecDepth 100000 in
theorem walkFnSolves (w : World) (a : Option Addr) (len cap : Nat) (zs : List Int) (h : IsBytes w a len cap zs) :
    Calls Try.prog 4 #[.slice a len cap] w fun e w' => e = .returned (.bool true) ∧ Below w.heap.size w w' :=
  lawSolves specMakeProb specMakePlan
    (fun P m hs _ W v hW => implPlanOk v P m W hW (sizes_len hs) (SzP.lists hs))
    (fun P n h l z hs _ W v hW => implSolvesFor v P n h l z W hW (sizes_len hs) (SzP.lists hs))
    (fun P n h l z hs _ W v hW => implFindsCoin v P n h l z W hW (sizes_len hs) (SzP.lists hs))
    (fun P m hs _ W v hW => implPlanDepth v P m W hW (sizes_len hs) (SzP.lists hs))
    (fun P m c hs _ wc W v hW => implFollowPlan v P m c W hW (sizes_len hs) (SzP.lists hs) (range_wf wc).1 (range_wf wc).2)
    w a len cap (bytesAt_of h) (bytes_len h)
end Go.Proofs.Ytipbjioghicmlaa
