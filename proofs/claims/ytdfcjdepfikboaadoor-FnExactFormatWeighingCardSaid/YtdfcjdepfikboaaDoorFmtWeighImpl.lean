/- The contracts of the program's FormatWeighing and of its helper: they return the texts of a list and of a weighing. Conditions: the sides read as integers that fit Go's int and are short enough to be counted; strconv's table is as the program's text lays it. -/
import Derived.Test.YtdfcjdepfikboaaDoorOkImpl
import Derived.Test.YtdfcjdepfikboaaDoorFmtWeighLaw
namespace Go.Proofs.YtdfcjdepfikboaaDoor
open Go.RowKit

theorem implJoinOwn (v : Value) (l : List ByteArray) (y : ByteArray) (w : World) (B : Nat) (h : w.ownsRow B 9 1 v l.length (l.map Value.string)) (h0 : 0 < l.length) (hm : l.length ≤ 1048576) (hs : (joinB l y).size ≤ 140737488355328) :
    Calls Tryd.prog 21 #[v, .string y] w fun e w' => e = .returned (.string (joinB l y)) ∧ Below w.heap.size w w' := by
  have hc := h
  rcases h.2 with ⟨_, hz⟩ | ⟨g, cap, cur, rfl, _, _, hcap, _, _, _⟩
  · omega
  · have e : (joinB l y).size = (Lib.join (l.map (·.data.toList)) y.data.toList).length := by simp [joinB, ByteArray.size]
    exact implJoinAny g cap l y w B hc hcap (by omega) (by omega)

set_option maxHeartbeats 1600000 in
theorem implCoinsText (v : Value) (l : List Int) (w : World) (h : IntsAt w v l) (hm : l.length ≤ 1048576) (h0 : 0 < l.length) (ht : TabOk w) (hw : ∀ x ∈ l, -9223372036854775808 ≤ x ∧ x ≤ 9223372036854775807) :
    Calls Tryd.prog 20 #[v] w fun e w' => e = .returned (.string (listB l)) ∧ Below w.heap.size w w' := by
  obtain ⟨i0, hi, hz0, hz1, hz2⟩ := info_parts infoStrF
  obtain ⟨a, c, rfl, h⟩ := h
  have H : Hid (∀ i (h : i < l.length), ∃ b o, a = some ⟨b, o, none⟩ ∧ w.cell? ⟨b, o + i, none⟩ = some (.int .i64 l[i])) := by
    intro i hi
    rcases h with rfl | ⟨b, o, rfl, hc⟩
    · simp at hi
    · exact ⟨b, o, rfl, hc i hi⟩
  clear h
  have HWF := Lib.hid hw
  have HT0 := Lib.hid ht
  clear hw ht
  have HL : Hid (listB l = joinB (l.map fmtB) comma) := rfl
  generalize listB l = t at HL ⊢
  obtain ⟨n, hn⟩ : ∃ n, l.length = n := ⟨_, rfl⟩
  rw [hn] at hm h0 ⊢
  have HN := Lib.hid hn
  clear hn
  go_enter Tryd.func20, Tryd.ntmps20
  go_wp2
  go_loopw [3, 5, 8] (fun v _ i wr => ∃ (k : Nat) (ps : List ByteArray), k ≤ n ∧ i = .int .i64 k ∧ ps.length ≤ k ∧ Hid (ps = (l.take k).map fmtB) ∧ wr.ownsRow w.heap.size 9 1 v ps.length (ps.map Value.string) ∧ Below w.heap.size w wr) (fun _ _ i _ => n - (intOf i).toNat)
  case atStart => exact ⟨0, [], Nat.zero_le _, rfl, Nat.le_refl _, rfl, World.ownsRow_nil _ _ _ _, Below.refl _ _⟩
  case round =>
    obtain ⟨k, ps, hk, rfl, hps, HS, hown, hb⟩ := hrel
    have hbs := hb.size
    by_cases hlt : k < n
    · have hkl : k < l.length := by rw [HN.out]; exact hlt
      obtain ⟨b, o, rfl, e0⟩ := H.out k hkl
      have hbl := World.block_lt_of_cell? w _ e0
      obtain ⟨x, hx⟩ : ∃ x, l[k] = x := ⟨_, rfl⟩
      rw [hx] at e0
      have e1 : wr.cell? ⟨b, o + k, none⟩ = some (.int .i64 x) := by rw [hb.cell (p := ⟨b, o + k, none⟩) hbl]; exact e0
      clear e0 hbl
      obtain ⟨q0, q1⟩ := HWF.out x (by rw [← hx]; exact List.getElem_mem hkl)
      have C := Lib.hid (fun W h => implFmt x W q0 q1 h)
      have HS2 : Hid (ps ++ [fmtB x] = (l.take (k + 1)).map fmtB) := by unfold Hid; rw [List.take_succ_eq_append_getElem hkl, List.map_append, HS.out, hx]; rfl
      generalize fmtB x = f at C HS2
      have i0' : (0 : Int) ≤ (k : Int) := by omega
      have i1 : (k : Int) < (n : Int) := by omega
      clear hx hkl
      go_wp2_with fail
      refine (C.out _ (HT0.out.below hb)).mono ?_
      rintro e w1 ⟨rfl, hb1⟩
      have hown1 := owns_below hown hb1
      have HB1 := Lib.hid (below_up hb hb1)
      have hbs1 : w.heap.size ≤ w1.heap.size := Nat.le_trans hbs hb1.size
      clear hb1 hown hb
      go_wp2_with (at_builtin; refine wpList_append_own _ rfl _ _ 39 rfl w.heap.size 9 i0 (.string ByteArray.empty) 1 16 Tryd.underlying39 hi hz0 hz1 hz2 rfl (by decide) _ _ _ rfl (hown1.alloc _) ⟨w1.heap.size, 0, none⟩ 1 1 [.string f] rfl rfl (cell_one_str _ _ _) (by simp [Value.oneCell']) (by unfold maxLen; omega) (by omega) (by simp; omega) ?_; intro v' w2 hown' hg1 _)
      have hb2 := Below.grown (HB1.out.alloc hbs1 _) hg1 (by simp; omega) (fun j hj => (hown1.lt j hj).1)
      go_wp2
      go_roundw
      case rel => exact ⟨k + 1, _, by omega, by go_num, by simp; omega, HS2, by simpa using hown', hb2⟩
      case measure => simp [intOf]; omega
    · have HP : Hid (ps = l.map fmtB) := by
        have := HS.out
        rw [List.take_of_length_le (by rw [HN.out]; omega)] at this
        exact this
      have HX : Hid (∀ x ∈ ps, x.size ≤ 21) := by
        intro x hx
        rw [HP.out, List.mem_map] at hx
        obtain ⟨y, hy, rfl⟩ := hx
        obtain ⟨q0, q1⟩ := HWF.out y hy
        exact fmtW_size y q0 q1
      have hpl : ps.length = n := by rw [HP.out, List.length_map, HN.out]
      have J := Lib.hid (implJoinOwn _ ps comma wr _ hown (by omega) (by omega) (by have := join_size comma (by decide) HX.out ps.length (Nat.le_refl _); rw [List.take_length] at this; omega))
      have HT : Hid (t = joinB ps comma) := by unfold Hid; rw [HL.out, HP.out]
      generalize joinB ps comma = r at J HT
      have HB := Lib.hid hb
      clear hown hb hpl
      go_wp2_with fail
      refine J.out.mono ?_
      rintro e w1 ⟨rfl, b1⟩
      have HB2 := Lib.hid (below_up HB.out b1)
      clear b1
      go_wp2
      go_ret
      exact ⟨ret_str HT.out.symm, HB2.out⟩

theorem joinB_two (a b : ByteArray) : joinB [a, b] ⟨#[58]⟩ = (a ++ ⟨#[58]⟩) ++ b := by
  have h1 := joinB_next (l := [a, b]) ⟨#[58]⟩ (k := 1) (by decide) (by simp)
  have h2 := joinB_first (l := [a, b]) ⟨#[58]⟩ (by simp)
  rw [h2] at h1
  have h3 : (⟨#[]⟩ : ByteArray) ++ a = a := bytes_eq (by simp)
  simpa [h3] using h1

set_option maxRecDepth 100000 in
set_option maxHeartbeats 3200000 in
theorem implFmtWeigh (vl vr : Value) (L R : List Int) (w : World) (h1 : IntsAt w vl L) (h2 : IntsAt w vr R) (ml : L.length ≤ 1048576) (mr : R.length ≤ 1048576) (ht : TabOk w) :
    Calls Tryd.prog 8 #[.agg #[vl, vr]] w fun e w' => e = .returned (.string (weighT L R)) ∧ Below w.heap.size w w' := by
  obtain ⟨i0, hi, hz0, hz1, hz2⟩ := info_parts infoStrF
  have C0 := Lib.hid (fun W h h' => implWeighingOk vl vr L R 13 W h h' (by omega) (by omega))
  have CS := Lib.hid (fun W => implSides vl vr W)
  have HW : Hid (weighT L R = if weighB L R 13 = true then (listB L ++ ⟨#[58]⟩) ++ listB R else ⟨#[]⟩) := rfl
  have HI := Lib.hid (@weigh_in L R 13)
  have HN : Hid (weighB L R 13 = true → 0 < L.length ∧ 0 < R.length) := fun h => by
    unfold weighB sideB at h
    simp only [Bool.and_eq_true, decide_eq_true_eq] at h
    exact ⟨h.1.1.1.2.2, h.1.1.2.2⟩
  have P1 := Lib.hid (TwoAt.new w 27 vl vr)
  have B1 := Lib.hid (alloc_below w (.cells #[vl, vr] 27))
  generalize hX1 : w.alloc (.cells #[vl, vr] 27) = X1 at P1 B1
  have H1 := Lib.hid (h1.below B1.out)
  have H2 := Lib.hid (h2.below B1.out)
  have HT := Lib.hid ht
  obtain ⟨e0, e1, -⟩ := P1.out
  generalize weighT L R = r at HW ⊢
  generalize weighB L R 13 = t at C0 HW HI HN
  clear ht
  cases t with
  | false =>
    have HE : Hid (r = ⟨#[]⟩) := HW.out
    clear HW HI HN h1 h2
    go_enter Tryd.func8, Tryd.ntmps8
    go_wp2_with fail
    refine (C0.out _ H1.out H2.out).mono ?_
    rintro e w1 ⟨rfl, b1⟩
    have BY := Lib.hid (below_up B1.out b1)
    clear b1
    go_wp2
    go_ret
    exact ⟨ret_str HE.out.symm, BY.out⟩
  | true =>
    have HE : Hid (r = (listB L ++ ⟨#[58]⟩) ++ listB R) := HW.out
    obtain ⟨i1, i2⟩ := HI.out rfl
    obtain ⟨n1, n2⟩ := HN.out rfl
    have CL := Lib.hid (fun W h ht => implCoinsText vl L W h ml n1 ht (fun x hx => by have := i1 x hx; omega))
    have CR := Lib.hid (fun W h ht => implCoinsText vr R W h mr n2 ht (fun x hx => by have := i2 x hx; omega))
    have sl : (listB L).size ≤ 23068672 := Nat.le_trans (listB_size (fun x hx => by have := i1 x hx; omega)) (by omega)
    have sr : (listB R).size ≤ 23068672 := Nat.le_trans (listB_size (fun x hx => by have := i2 x hx; omega)) (by omega)
    generalize listB L = tl at CL HE sl
    generalize listB R = tr at CR HE sr
    obtain ⟨al, ca, hvl, -⟩ := h1
    obtain ⟨ar, cb, hvr, -⟩ := h2
    clear HW HI HN i1 i2 n1 n2
    generalize L.length = na at hvl ml
    generalize R.length = nb at hvr mr
    subst hvl
    subst hvr
    have HJ : Hid (joinB [tl, tr] ⟨#[58]⟩ = r) := by unfold Hid; rw [joinB_two, HE.out]
    have hjs : (joinB [tl, tr] ⟨#[58]⟩).size ≤ 140737488355328 := by
      rw [joinB_two, ByteArray.size_append, ByteArray.size_append]
      have : (⟨#[58]⟩ : ByteArray).size = 1 := rfl
      omega
    have JS := Lib.hid hjs
    clear hjs
    go_enter Tryd.func8, Tryd.ntmps8
    go_wp2_with fail
    refine (C0.out _ H1.out H2.out).mono ?_
    rintro e w1 ⟨rfl, b1⟩
    have BY := Lib.hid (below_up B1.out b1)
    have G1 := Lib.hid (H1.out.below b1)
    have G2 := Lib.hid (H2.out.below b1)
    have Q1 := Lib.hid (P1.out.below b1)
    clear b1 e0 e1 hX1 H1 H2 P1 B1
    obtain ⟨e0, e1, -⟩ := Q1.out
    go_wp2_with fail
    refine (CS.out _).mono ?_
    rintro e w2 ⟨b, rfl, T, -, b2⟩
    have BZ := Lib.hid (below_up BY.out b2)
    have I1 := Lib.hid (G1.out.below b2)
    have I2 := Lib.hid (G2.out.below b2)
    have T2 := Lib.hid T
    clear b2 e0 e1 G1 G2 Q1 BY T
    obtain ⟨s0, s1, -⟩ := T2.out
    go_wp2_with fail
    refine wp_loop_rounds 3 ?_
    rw [rounds_succ]
    go_wp2_with fail
    refine (coinsL _ _ _ _).mono ?_
    rintro e w3 ⟨rfl, rfl⟩
    go_wp2_with fail
    refine (CL.out _ I1.out (HT.out.below BZ.out)).mono ?_
    rintro e w3 ⟨rfl, b3⟩
    have B3 := Lib.hid (below_up BZ.out b3)
    have I3 := Lib.hid (I2.out.below b3)
    have T3 := Lib.hid (T2.out.below b3)
    have hbs3 : w.heap.size ≤ w3.heap.size := B3.out.size
    clear b3 BZ I1 I2 T2 s0 s1
    go_wp2_with (at_builtin; refine wpList_append_own_at _ rfl _ _ 39 rfl w.heap.size 9 i0 (.string ByteArray.empty) 1 16 Tryd.underlying39 hi hz0 hz1 hz2 rfl (by decide) (.slice none 0 0) 0 [] rfl (World.ownsRow_nil _ _ _ _) ⟨w3.heap.size, 0, none⟩ 1 1 [.string tl] rfl rfl (cell_one_str _ _ _) (by simp [Value.oneCell']) (by unfold maxLen; omega) (by omega) (by simp; omega) ?_; intro v4 w4 hown4 hg4 _ _)
    have bb : Below w3.heap.size w3 w4 := Below.grown ((Below.refl w3.heap.size w3).alloc (Nat.le_refl _) _) hg4 (by simp) (fun j hj => by simp [Value.ownBlock] at hj)
    have RW4 : Hid (w4.ownsRow w.heap.size 9 1 v4 1 [.string tl]) := by unfold Hid; simpa using hown4
    have B4 := Lib.hid (below_up B3.out bb)
    have I4 := Lib.hid (I3.out.below bb)
    have T4 := Lib.hid (T3.out.below bb)
    clear bb hown4 hg4 B3 I3 T3
    obtain ⟨s0, s1, -⟩ := T4.out
    go_wp2_with fail
    rw [rounds_succ]
    go_wp2_with fail
    refine (coinsR _ _ _ _).mono ?_
    rintro e w5 ⟨rfl, rfl⟩
    go_wp2_with fail
    refine (CR.out _ I4.out (HT.out.below B4.out)).mono ?_
    rintro e w5 ⟨rfl, b5⟩
    have B5 := Lib.hid (below_up B4.out b5)
    have RW5 := Lib.hid (owns_below RW4.out b5)
    have hbs5 : w.heap.size ≤ w5.heap.size := B5.out.size
    clear b5 B4 I4 T4 s0 s1 RW4 hbs3
    go_wp2_with (at_builtin; refine wpList_append_own_at _ rfl _ _ 39 rfl w.heap.size 9 i0 (.string ByteArray.empty) 1 16 Tryd.underlying39 hi hz0 hz1 hz2 rfl (by decide) _ 1 [.string tl] rfl (RW5.out.alloc _) ⟨w5.heap.size, 0, none⟩ 1 1 [.string tr] rfl rfl (cell_one_str _ _ _) (by simp [Value.oneCell']) (by unfold maxLen; omega) (by omega) (by simp; omega) ?_; intro v6 w6 hown6 hg6 _ _)
    have RW6 : Hid (w6.ownsRow w.heap.size 9 1 v6 [tl, tr].length ([tl, tr].map Value.string)) := by unfold Hid; simpa using hown6
    have B6 : Hid (Below w.heap.size w w6) := Below.grown (B5.out.alloc hbs5 _) hg6 (by simp; omega) (fun j hj => (RW5.out.lt j hj).1)
    have J := Lib.hid (implJoinOwn v6 [tl, tr] ⟨#[58]⟩ w6 _ RW6.out (by simp) (by simp) JS.out)
    rw [HJ.out] at J
    clear hown6 hg6 B5 RW5 RW6 hbs5
    go_wp2_with fail
    rw [rounds_succ]
    go_wp2_with fail
    refine J.out.mono ?_
    rintro e w7 ⟨rfl, b7⟩
    have B7 := Lib.hid (below_up B6.out b7)
    clear b7
    go_wp2
    go_ret
    exact ⟨rfl, B7.out⟩

theorem range_all {l : List Int} (h : ∀ x ∈ l, (Lit.int .i64 x).wf = true) : ∀ x ∈ l, -9223372036854775808 ≤ x ∧ x ≤ 9223372036854775807 := fun x hx => range_of (h x hx)
theorem fmtIs (L R : List Int) (ml : L.length ≤ 1048576) (mr : R.length ≤ 1048576) (_ : ∀ x ∈ L, (Lit.int .i64 x).wf = true) (_ : ∀ x ∈ R, (Lit.int .i64 x).wf = true) : FmtIs 8 L R :=
  fun W vl vr h1 h2 ht => implFmtWeigh vl vr L R W h1 h2 ml mr ht
theorem walkFnExactFormatWeighing (w : World) (vl : Value) (L : List Int) (cl : CameInts w vl L) (vr : Value) (R : List Int) (cr : CameInts w vr R) (ht : TabOk w) :
    Calls Tryd.prog 3 #[.agg #[vl, vr]] w fun e w' => e = .returned (.bool true) ∧ Below w.heap.size w w' :=
  lawFormatWeighing fmtIs w vl L cl vr R cr ht
end Go.Proofs.YtdfcjdepfikboaaDoor
