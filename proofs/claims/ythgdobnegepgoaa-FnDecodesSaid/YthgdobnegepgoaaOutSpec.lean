/- The contracts of the model's outcome of a weighing. Conditions: the sides read as integers and are short enough to be counted; a case that fits Go's int. -/
import Derived.Test.YthgdobnegepgoaaWeighSpec
namespace Go.Proofs.Ythgdobnegepgoaa
open Go.RowKit

/-- The outcome of a valid weighing. -/
def outcI (L R : List Int) (c : Int) : Int :=
  if hasI L (coinI c) = true then (if c < 0 then -1 else 1) else if hasI R (coinI c) = true then (if c < 0 then 1 else -1) else 0
/-- The outcome of a weighing. -/
def outI (L R : List Int) (c : Int) : Int := if (weighB L R 13 && inB c) = true then outcI L R c else 0

theorem quiet_of {P : Program} {f : FuncId} {args : Array Value} {w : World} {n : Nat} {v : Value}
    (h : Calls P f args (w.drewN n) fun e w' => e = .returned v ∧ w.drewN n = w') : Calls P f args (w.drewN n) fun e w'' => e = .returned v ∧ ∃ m, w'' = w.drewN m :=
  Calls.quiet_of_same (h.mono fun _ _ hh => ⟨hh.1, hh.2.symm⟩)
theorem IntsAt.drewN {w : World} {v : Value} {l : List Int} (h : IntsAt w v l) (n : Nat) : IntsAt (w.drewN n) v l := h.below (below_drewN (Below.refl _ _) n)

set_option maxHeartbeats 1600000 in
theorem specOutc (vl vr : Value) (L R : List Int) (c : Int) (w : World) (h1 : IntsAt w vl L) (h2 : IntsAt w vr R) (ml : L.length ≤ 100000000) (mr : R.length ≤ 100000000) (c0 : -9223372036854775808 ≤ c) (c1 : c ≤ 9223372036854775807) :
    Calls Try.prog 75 #[.agg #[vl, vr], .int .i64 c] w fun e w' => e = .returned (.int .i64 (outcI L R c)) ∧ Below w.heap.size w w' := by
  have C0 := Lib.hid (fun W => specCoinOf c W c0 c1)
  have CL := Lib.hid (fun W h => specHas vl L (coinI c) W h ml)
  have CR := Lib.hid (fun W h => specHas vr R (coinI c) W h mr)
  have HW : Hid (outcI L R c = if hasI L (coinI c) = true then (if c < 0 then -1 else 1) else if hasI R (coinI c) = true then (if c < 0 then 1 else -1) else 0) := rfl
  have P1 := Lib.hid (TwoAt.new w 30 vl vr)
  have B1 := Lib.hid (alloc_below w (.cells #[vl, vr] 30))
  generalize hX1 : w.alloc (.cells #[vl, vr] 30) = X1 at P1 B1
  have H1 := Lib.hid (h1.below B1.out)
  have H2 := Lib.hid (h2.below B1.out)
  obtain ⟨e0, e1, -⟩ := P1.out
  clear h1 h2
  generalize outcI L R c = r at HW ⊢
  generalize hasI L (coinI c) = t1 at CL HW
  generalize hasI R (coinI c) = t2 at CR HW
  generalize coinI c = q at C0 CL CR
  by_cases hc : c < 0
  · cases t1 with
    | true =>
      have HE : Hid (r = -1) := by unfold Hid; rw [HW.out, if_pos rfl, if_pos hc]
      clear HW
      go_enter Try.func75, Try.ntmps75
      go_wp2_with fail
      go_quiet (first | (go_at_call 84; exact quiet_of (C0.out _)) | (go_at_call 74; exact quiet_of (CL.out _ (H1.out.drewN _))) | fail)
      go_wp2_with fail
      go_ret
      exact ⟨ret_int HE.out.symm, by first | exact below_drewN B1.out _ | exact below_drewN B2.out _⟩
    | false =>
      have hne : ¬ (false = true) := by decide
      cases t2 with
      | true =>
        have HE : Hid (r = 1) := by unfold Hid; rw [HW.out, if_neg hne, if_pos rfl, if_pos hc]
        clear HW
        go_enter Try.func75, Try.ntmps75
        go_wp2_with fail
        go_quiet (first | (go_at_call 84; exact quiet_of (C0.out _)) | (go_at_call 74; exact quiet_of (CL.out _ (H1.out.drewN _))) | fail)
        obtain ⟨X2, hX2⟩ : ∃ X2, X1.drewN nq = X2 := ⟨_, rfl⟩
        have B2 : Hid (Below w.heap.size w X2) := by unfold Hid; rw [← hX2]; exact below_drewN B1.out _
        have G2 : Hid (IntsAt X2 vr R) := by unfold Hid; rw [← hX2]; exact H2.out.drewN _
        have T2 : Hid (TwoAt X2 w.heap.size vl vr) := by unfold Hid; rw [← hX2]; exact P1.out.below (below_drewN (Below.refl _ _) _)
        rw [hX2]
        clear e0 e1 hX2
        obtain ⟨e0, e1, -⟩ := T2.out
        go_wp2_with fail
        go_quiet (first | (go_at_call 84; exact quiet_of (C0.out _)) | (go_at_call 74; exact quiet_of (CR.out _ (G2.out.drewN _))) | fail)
        go_wp2
        go_ret
        exact ⟨ret_int HE.out.symm, by first | exact below_drewN B1.out _ | exact below_drewN B2.out _⟩
      | false =>
        have HE : Hid (r = 0) := by unfold Hid; rw [HW.out, if_neg hne, if_neg hne]
        clear HW
        go_enter Try.func75, Try.ntmps75
        go_wp2_with fail
        go_quiet (first | (go_at_call 84; exact quiet_of (C0.out _)) | (go_at_call 74; exact quiet_of (CL.out _ (H1.out.drewN _))) | fail)
        obtain ⟨X2, hX2⟩ : ∃ X2, X1.drewN nq = X2 := ⟨_, rfl⟩
        have B2 : Hid (Below w.heap.size w X2) := by unfold Hid; rw [← hX2]; exact below_drewN B1.out _
        have G2 : Hid (IntsAt X2 vr R) := by unfold Hid; rw [← hX2]; exact H2.out.drewN _
        have T2 : Hid (TwoAt X2 w.heap.size vl vr) := by unfold Hid; rw [← hX2]; exact P1.out.below (below_drewN (Below.refl _ _) _)
        rw [hX2]
        clear e0 e1 hX2
        obtain ⟨e0, e1, -⟩ := T2.out
        go_wp2_with fail
        go_quiet (first | (go_at_call 84; exact quiet_of (C0.out _)) | (go_at_call 74; exact quiet_of (CR.out _ (G2.out.drewN _))) | fail)
        go_wp2
        go_ret
        exact ⟨ret_int HE.out.symm, by first | exact below_drewN B1.out _ | exact below_drewN B2.out _⟩
  · cases t1 with
    | true =>
      have HE : Hid (r = 1) := by unfold Hid; rw [HW.out, if_pos rfl, if_neg hc]
      clear HW
      go_enter Try.func75, Try.ntmps75
      go_wp2_with fail
      go_quiet (first | (go_at_call 84; exact quiet_of (C0.out _)) | (go_at_call 74; exact quiet_of (CL.out _ (H1.out.drewN _))) | fail)
      go_wp2_with fail
      go_ret
      exact ⟨ret_int HE.out.symm, by first | exact below_drewN B1.out _ | exact below_drewN B2.out _⟩
    | false =>
      have hne : ¬ (false = true) := by decide
      cases t2 with
      | true =>
        have HE : Hid (r = -1) := by unfold Hid; rw [HW.out, if_neg hne, if_pos rfl, if_neg hc]
        clear HW
        go_enter Try.func75, Try.ntmps75
        go_wp2_with fail
        go_quiet (first | (go_at_call 84; exact quiet_of (C0.out _)) | (go_at_call 74; exact quiet_of (CL.out _ (H1.out.drewN _))) | fail)
        obtain ⟨X2, hX2⟩ : ∃ X2, X1.drewN nq = X2 := ⟨_, rfl⟩
        have B2 : Hid (Below w.heap.size w X2) := by unfold Hid; rw [← hX2]; exact below_drewN B1.out _
        have G2 : Hid (IntsAt X2 vr R) := by unfold Hid; rw [← hX2]; exact H2.out.drewN _
        have T2 : Hid (TwoAt X2 w.heap.size vl vr) := by unfold Hid; rw [← hX2]; exact P1.out.below (below_drewN (Below.refl _ _) _)
        rw [hX2]
        clear e0 e1 hX2
        obtain ⟨e0, e1, -⟩ := T2.out
        go_wp2_with fail
        go_quiet (first | (go_at_call 84; exact quiet_of (C0.out _)) | (go_at_call 74; exact quiet_of (CR.out _ (G2.out.drewN _))) | fail)
        go_wp2
        go_ret
        exact ⟨ret_int HE.out.symm, by first | exact below_drewN B1.out _ | exact below_drewN B2.out _⟩
      | false =>
        have HE : Hid (r = 0) := by unfold Hid; rw [HW.out, if_neg hne, if_neg hne]
        clear HW
        go_enter Try.func75, Try.ntmps75
        go_wp2_with fail
        go_quiet (first | (go_at_call 84; exact quiet_of (C0.out _)) | (go_at_call 74; exact quiet_of (CL.out _ (H1.out.drewN _))) | fail)
        obtain ⟨X2, hX2⟩ : ∃ X2, X1.drewN nq = X2 := ⟨_, rfl⟩
        have B2 : Hid (Below w.heap.size w X2) := by unfold Hid; rw [← hX2]; exact below_drewN B1.out _
        have G2 : Hid (IntsAt X2 vr R) := by unfold Hid; rw [← hX2]; exact H2.out.drewN _
        have T2 : Hid (TwoAt X2 w.heap.size vl vr) := by unfold Hid; rw [← hX2]; exact P1.out.below (below_drewN (Below.refl _ _) _)
        rw [hX2]
        clear e0 e1 hX2
        obtain ⟨e0, e1, -⟩ := T2.out
        go_wp2_with fail
        go_quiet (first | (go_at_call 84; exact quiet_of (C0.out _)) | (go_at_call 74; exact quiet_of (CR.out _ (G2.out.drewN _))) | fail)
        go_wp2
        go_ret
        exact ⟨ret_int HE.out.symm, by first | exact below_drewN B1.out _ | exact below_drewN B2.out _⟩

end Go.Proofs.Ythgdobnegepgoaa
