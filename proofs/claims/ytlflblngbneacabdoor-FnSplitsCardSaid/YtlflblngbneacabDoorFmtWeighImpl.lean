/- The contracts of the program's FormatWeighing and of its helper: they return the texts of a list and of a weighing. Conditions: the sides read as integers that fit Go's int and are short enough to be counted; strconv's table is as the program's text lays it. -/
import Derived.Test.YtlflblngbneacabDoorOkImpl
import Derived.Test.YtlflblngbneacabDoorGJn
import Derived.Test.YtlflblngbneacabDoorFmtWeighLaw
namespace Go.Proofs.YtlflblngbneacabDoor
open Go.RowKit

theorem joinB_two (a b : ByteArray) : joinB [a, b] ⟨#[58]⟩ = (a ++ ⟨#[58]⟩) ++ b := by
  have h1 := joinB_next (l := [a, b]) ⟨#[58]⟩ (k := 1) (by decide) (by simp)
  have h2 := joinB_first (l := [a, b]) ⟨#[58]⟩ (by simp)
  rw [h2] at h1
  have h3 : (⟨#[]⟩ : ByteArray) ++ a = a := bytes_eq (by simp)
  simpa [h3] using h1

set_option maxRecDepth 100000 in
set_option maxHeartbeats 3200000 in
theorem implFmtWeigh (vl vr : Value) (L R : List Int) (w : World) (h1 : IntsAt w vl L) (h2 : IntsAt w vr R) (ml : L.length ≤ 1048576) (mr : R.length ≤ 1048576) (ht : TabOk w) :
    Calls Tryd.prog 55 #[.agg #[vl, vr]] w fun e w' => e = .returned (.string (weighT L R)) ∧ Below w.heap.size w w' := by
  obtain ⟨i0, hi, hz0, hz1, hz2⟩ := info_parts infoStrF
  have C0 := Lib.hid (fun W h h' => implWeighingOk vl vr L R 13 W h h' (by omega) (by omega))
  have CS := Lib.hid (fun W => implSides vl vr W)
  have HW : Hid (weighT L R = if weighB L R 13 = true then (listB L ++ ⟨#[58]⟩) ++ listB R else ⟨#[]⟩) := rfl
  have HI := Lib.hid (@weigh_in L R 13)
  have HN : Hid (weighB L R 13 = true → 0 < L.length ∧ 0 < R.length) := fun h => by
    unfold weighB sideB at h
    simp only [Bool.and_eq_true, decide_eq_true_eq] at h
    exact ⟨h.1.1.1.2.2, h.1.1.2.2⟩
  have P1 := Lib.hid (TwoAt.new w 40 vl vr)
  have B1 := Lib.hid (alloc_below w (.cells #[vl, vr] 40))
  generalize hX1 : w.alloc (.cells #[vl, vr] 40) = X1 at P1 B1
  have H1 := Lib.hid (h1.below B1.out)
  have H2 := Lib.hid (h2.below B1.out)
  have HT := Lib.hid ht
  obtain ⟨e0, e1, -⟩ := P1.out
  generalize weighT L R = r at HW ⊢
  generalize weighB L R 13 = t at C0 HW HI HN
  clear ht
  cases t with
  | false =>
    have HE : Hid (r = ⟨#[]⟩) := HW.out
    clear HW HI HN h1 h2
    go_enter Tryd.func55, Tryd.ntmps55
    go_wp2_with fail
    refine (C0.out _ H1.out H2.out).mono ?_
    rintro e w1 ⟨rfl, b1⟩
    have BY := Lib.hid (below_up B1.out b1)
    clear b1
    go_wp2
    go_ret
    exact ⟨ret_str HE.out.symm, BY.out⟩
  | true =>
    have HE : Hid (r = (listB L ++ ⟨#[58]⟩) ++ listB R) := HW.out
    obtain ⟨i1, i2⟩ := HI.out rfl
    obtain ⟨n1, n2⟩ := HN.out rfl
    have CL := Lib.hid (fun W h ht => implNumbersText vl L W h ml ht (fun x hx => by have := i1 x hx; omega))
    have CR := Lib.hid (fun W h ht => implNumbersText vr R W h mr ht (fun x hx => by have := i2 x hx; omega))
    have sl : (listB L).size ≤ 23068672 := Nat.le_trans (listB_size (fun x hx => by have := i1 x hx; omega)) (by omega)
    have sr : (listB R).size ≤ 23068672 := Nat.le_trans (listB_size (fun x hx => by have := i2 x hx; omega)) (by omega)
    generalize listB L = tl at CL HE sl
    generalize listB R = tr at CR HE sr
    obtain ⟨al, ca, hvl, -⟩ := h1
    obtain ⟨ar, cb, hvr, -⟩ := h2
    clear HW HI HN i1 i2 n1 n2
    generalize L.length = na at hvl ml
    generalize R.length = nb at hvr mr
    subst hvl
    subst hvr
    have HJ : Hid (joinB [tl, tr] ⟨#[58]⟩ = r) := by unfold Hid; rw [joinB_two, HE.out]
    have hjs : (joinB [tl, tr] ⟨#[58]⟩).size ≤ 140737488355328 := by
      rw [joinB_two, ByteArray.size_append, ByteArray.size_append]
      have : (⟨#[58]⟩ : ByteArray).size = 1 := rfl
      omega
    have JS := Lib.hid hjs
    clear hjs
    go_enter Tryd.func55, Tryd.ntmps55
    go_wp2_with fail
    refine (C0.out _ H1.out H2.out).mono ?_
    rintro e w1 ⟨rfl, b1⟩
    have BY := Lib.hid (below_up B1.out b1)
    have G1 := Lib.hid (H1.out.below b1)
    have G2 := Lib.hid (H2.out.below b1)
    have Q1 := Lib.hid (P1.out.below b1)
    clear b1 e0 e1 hX1 H1 H2 P1 B1
    obtain ⟨e0, e1, -⟩ := Q1.out
    go_wp2_with fail
    refine (CS.out _).mono ?_
    rintro e w2 ⟨b, rfl, T, -, b2⟩
    have BZ := Lib.hid (below_up BY.out b2)
    have I1 := Lib.hid (G1.out.below b2)
    have I2 := Lib.hid (G2.out.below b2)
    have T2 := Lib.hid T
    clear b2 e0 e1 G1 G2 Q1 BY T
    obtain ⟨s0, s1, -⟩ := T2.out
    go_wp2_with fail
    refine wp_loop_rounds 3 ?_
    rw [rounds_succ]
    go_wp2_with fail
    refine (coinsL _ _ _ _).mono ?_
    rintro e w3 ⟨rfl, rfl⟩
    go_wp2_with fail
    refine (CL.out _ I1.out (HT.out.below BZ.out)).mono ?_
    rintro e w3 ⟨rfl, b3⟩
    have B3 := Lib.hid (below_up BZ.out b3)
    have I3 := Lib.hid (I2.out.below b3)
    have T3 := Lib.hid (T2.out.below b3)
    have hbs3 : w.heap.size ≤ w3.heap.size := B3.out.size
    clear b3 BZ I1 I2 T2 s0 s1
    go_wp2_with (at_builtin; refine wpList_append_own_at _ rfl _ _ 82 rfl w.heap.size 9 i0 (.string ByteArray.empty) 1 16 Tryd.underlying82 hi hz0 hz1 hz2 rfl (by decide) (.slice none 0 0) 0 [] rfl (World.ownsRow_nil _ _ _ _) ⟨w3.heap.size, 0, none⟩ 1 1 [.string tl] rfl rfl (cell_one_str _ _ _) (by simp [Value.oneCell']) (by unfold maxLen; omega) (by omega) (by simp; omega) ?_; intro v4 w4 hown4 hg4 _ _)
    have bb : Below w3.heap.size w3 w4 := Below.grown ((Below.refl w3.heap.size w3).alloc (Nat.le_refl _) _) hg4 (by simp) (fun j hj => by simp [Value.ownBlock] at hj)
    have RW4 : Hid (w4.ownsRow w.heap.size 9 1 v4 1 [.string tl]) := by unfold Hid; simpa using hown4
    have B4 := Lib.hid (below_up B3.out bb)
    have I4 := Lib.hid (I3.out.below bb)
    have T4 := Lib.hid (T3.out.below bb)
    clear bb hown4 hg4 B3 I3 T3
    obtain ⟨s0, s1, -⟩ := T4.out
    go_wp2_with fail
    rw [rounds_succ]
    go_wp2_with fail
    refine (coinsR _ _ _ _).mono ?_
    rintro e w5 ⟨rfl, rfl⟩
    go_wp2_with fail
    refine (CR.out _ I4.out (HT.out.below B4.out)).mono ?_
    rintro e w5 ⟨rfl, b5⟩
    have B5 := Lib.hid (below_up B4.out b5)
    have RW5 := Lib.hid (owns_below RW4.out b5)
    have hbs5 : w.heap.size ≤ w5.heap.size := B5.out.size
    clear b5 B4 I4 T4 s0 s1 RW4 hbs3
    go_wp2_with (at_builtin; refine wpList_append_own_at _ rfl _ _ 82 rfl w.heap.size 9 i0 (.string ByteArray.empty) 1 16 Tryd.underlying82 hi hz0 hz1 hz2 rfl (by decide) _ 1 [.string tl] rfl (RW5.out.alloc _) ⟨w5.heap.size, 0, none⟩ 1 1 [.string tr] rfl rfl (cell_one_str _ _ _) (by simp [Value.oneCell']) (by unfold maxLen; omega) (by omega) (by simp; omega) ?_; intro v6 w6 hown6 hg6 _ _)
    have RW6 : Hid (w6.ownsRow w.heap.size 9 1 v6 [tl, tr].length ([tl, tr].map Value.string)) := by unfold Hid; simpa using hown6
    have B6 : Hid (Below w.heap.size w w6) := Below.grown (B5.out.alloc hbs5 _) hg6 (by simp; omega) (fun j hj => (RW5.out.lt j hj).1)
    have J := Lib.hid (implJoinOwn v6 [tl, tr] ⟨#[58]⟩ w6 _ RW6.out (by simp) (by simp) JS.out)
    rw [HJ.out] at J
    clear hown6 hg6 B5 RW5 RW6 hbs5
    go_wp2_with fail
    rw [rounds_succ]
    go_wp2_with fail
    refine J.out.mono ?_
    rintro e w7 ⟨rfl, b7⟩
    have B7 := Lib.hid (below_up B6.out b7)
    clear b7
    go_wp2
    go_ret
    exact ⟨rfl, B7.out⟩

theorem range_all {l : List Int} (h : ∀ x ∈ l, (Lit.int .i64 x).wf = true) : ∀ x ∈ l, -9223372036854775808 ≤ x ∧ x ≤ 9223372036854775807 := fun x hx => range_of (h x hx)
theorem fmtIs (L R : List Int) (ml : L.length ≤ 1048576) (mr : R.length ≤ 1048576) (_ : ∀ x ∈ L, (Lit.int .i64 x).wf = true) (_ : ∀ x ∈ R, (Lit.int .i64 x).wf = true) : FmtIs 55 L R :=
  fun W vl vr h1 h2 ht => implFmtWeigh vl vr L R W h1 h2 ml mr ht
theorem walkFnExactFormatWeighing (w : World) (vl : Value) (L : List Int) (cl : CameInts w vl L) (vr : Value) (R : List Int) (cr : CameInts w vr R) (ht : TabOk w) :
    Calls Tryd.prog 10 #[.agg #[vl, vr]] w fun e w' => e = .returned (.bool true) ∧ Below w.heap.size w w' :=
  lawFormatWeighing fmtIs w vl L cl vr R cr ht
end Go.Proofs.YtlflblngbneacabDoor
