/- The contract of the model's FormatWeighing: it returns the text of the weighing. Conditions: the sides read as integers that fit Go's int, and are short enough to be counted. -/
import Derived.Test.YtlflblngbneacaaGreatDoorGWei
import Derived.Test.YtlflblngbneacaaGreatDoorFmt
import Derived.Test.YtlflblngbneacaaGreatDoorJoinSpec
namespace Go.Proofs.YtlflblngbneacaaGreatDoor
open Go.RowKit

def comma : ByteArray := ⟨#[44]⟩
/-- The numbers of a list, separated by commas. -/
def listB (l : List Int) : ByteArray := joinB (l.map fmtB) comma
/-- The text of a weighing. -/
def weighT (L R : List Int) : ByteArray := if weighB L R 13 = true then (listB L ++ ⟨#[58]⟩) ++ listB R else ⟨#[]⟩

theorem infoStrF : (Tryz.prog.info? 9).map (fun i => (i.zero, i.size, i.bytes)) = some (some (.string ByteArray.empty), 1, 16) := by kernel_rfl

theorem fmtW_size (n : Int) (h0 : -9223372036854775808 ≤ n) (h1 : n ≤ 9223372036854775807) : (fmtB n).size ≤ 21 := Lib.itoa_length_le n (by omega) h1

set_option maxHeartbeats 1600000 in
theorem specList (v : Value) (l : List Int) (w : World) (h : IntsAt w v l) (hm : l.length ≤ 1048576) (hw : ∀ x ∈ l, -9223372036854775808 ≤ x ∧ x ≤ 9223372036854775807) :
    Calls Tryz.prog 44 #[v] w fun e w' => e = .returned (.string (listB l)) ∧ Below w.heap.size w w' := by
  obtain ⟨i0, hi, hz0, hz1, hz2⟩ := info_parts infoStrF
  obtain ⟨a, c, rfl, h⟩ := h
  have H : Hid (∀ i (h : i < l.length), ∃ b o, a = some ⟨b, o, none⟩ ∧ w.cell? ⟨b, o + i, none⟩ = some (.int .i64 l[i])) := by
    intro i hi
    rcases h with rfl | ⟨b, o, rfl, hc⟩
    · simp at hi
    · exact ⟨b, o, rfl, hc i hi⟩
  clear h
  have HWF := Lib.hid hw
  clear hw
  have HL : Hid (listB l = joinB (l.map fmtB) comma) := rfl
  generalize listB l = t at HL ⊢
  obtain ⟨n, hn⟩ : ∃ n, l.length = n := ⟨_, rfl⟩
  rw [hn] at hm ⊢
  have HN := Lib.hid hn
  clear hn
  go_enter Tryz.func44, Tryz.ntmps44
  go_wp2
  go_loopw [3, 5, 9] (fun v _ i wr => ∃ (k : Nat) (ps : List ByteArray), k ≤ n ∧ i = .int .i64 k ∧ ps.length ≤ k ∧ Hid (ps = (l.take k).map fmtB) ∧ wr.ownsRow w.heap.size 9 1 v ps.length (ps.map Value.string) ∧ Below w.heap.size w wr) (fun _ _ i _ => n - (intOf i).toNat)
  case atStart => exact ⟨0, [], Nat.zero_le _, rfl, Nat.le_refl _, rfl, World.ownsRow_lit (base := w.heap.size) (e := 9) (size := 1) w #[] 0 (Nat.le_refl _) (by unfold maxLen; omega) rfl, (Below.refl _ _).alloc (Nat.le_refl _) _⟩
  case round =>
    obtain ⟨k, ps, hk, rfl, hps, HS, hown, hb⟩ := hrel
    have hbs := hb.size
    by_cases hlt : k < n
    · have hkl : k < l.length := by rw [HN.out]; exact hlt
      obtain ⟨b, o, rfl, e0⟩ := H.out k hkl
      have hbl := World.block_lt_of_cell? w _ e0
      obtain ⟨x, hx⟩ : ∃ x, l[k] = x := ⟨_, rfl⟩
      rw [hx] at e0
      have e1 : wr.cell? ⟨b, o + k, none⟩ = some (.int .i64 x) := by rw [hb.cell (p := ⟨b, o + k, none⟩) hbl]; exact e0
      clear e0 hbl
      obtain ⟨q0, q1⟩ := HWF.out x (by rw [← hx]; exact List.getElem_mem hkl)
      have C := Lib.hid (fun W => specFmt x W q0 q1)
      have HS2 : Hid (ps ++ [fmtB x] = (l.take (k + 1)).map fmtB) := by unfold Hid; rw [List.take_succ_eq_append_getElem hkl, List.map_append, HS.out, hx]; rfl
      generalize fmtB x = f at C HS2
      have i0' : (0 : Int) ≤ (k : Int) := by omega
      have i1 : (k : Int) < (n : Int) := by omega
      clear hx hkl
      go_wp2_with fail
      refine (C.out _).mono ?_
      rintro e w1 ⟨rfl, hb1⟩
      have hown1 := owns_below hown hb1
      have HB1 := Lib.hid (below_up hb hb1)
      have hbs1 : w.heap.size ≤ w1.heap.size := Nat.le_trans hbs hb1.size
      clear hb1 hown hb
      go_wp2_with (at_builtin; refine wpList_append_own _ rfl _ _ 66 rfl w.heap.size 9 i0 (.string ByteArray.empty) 1 16 Tryz.underlying66 hi hz0 hz1 hz2 rfl (by decide) _ _ _ rfl (hown1.alloc _) ⟨w1.heap.size, 0, none⟩ 1 1 [.string f] rfl rfl (cell_one_str _ _ _) (by simp [Value.oneCell']) (by unfold maxLen; omega) (by omega) (by simp; omega) ?_; intro v' w2 hown' hg1 _)
      have hb2 := Below.grown (HB1.out.alloc hbs1 _) hg1 (by simp; omega) (fun j hj => (hown1.lt j hj).1)
      go_wp2
      go_roundw
      case rel => exact ⟨k + 1, _, by omega, by go_num, by simp; omega, HS2, by simpa using hown', hb2⟩
      case measure => simp [intOf]; omega
    · have HP : Hid (ps = l.map fmtB) := by
        have := HS.out
        rw [List.take_of_length_le (by rw [HN.out]; omega)] at this
        exact this
      have S := Lib.hid (StrsAt.of_owns hown)
      have HX : Hid (∀ x ∈ ps, x.size ≤ 1048576) := by
        intro x hx
        rw [HP.out, List.mem_map] at hx
        obtain ⟨y, hy, rfl⟩ := hx
        obtain ⟨q0, q1⟩ := HWF.out y hy
        exact Nat.le_trans (fmtW_size y q0 q1) (by omega)
      have J := Lib.hid (specJoin _ ps comma wr S.out (by omega) (by decide) HX.out)
      have HT : Hid (t = joinB ps comma) := by unfold Hid; rw [HL.out, HP.out]
      generalize joinB ps comma = r at J HT
      clear hown
      go_wp2_with fail
      refine J.out.mono ?_
      rintro e w1 ⟨rfl, rfl⟩
      go_wp2
      go_ret
      exact ⟨ret_str HT.out.symm, hb⟩

theorem join_size {ps : List ByteArray} (y : ByteArray) (hy : y.size ≤ 1) (hx : ∀ x ∈ ps, x.size ≤ 21) : ∀ k, k ≤ ps.length → (joinB (ps.take k) y).size ≤ k * 22
  | 0, _ => by rw [List.take_zero, joinB_none]; exact Nat.zero_le _
  | 1, h => by
    rw [joinB_first y h, ByteArray.size_append]
    have := hx _ (List.getElem_mem (show 0 < ps.length by omega))
    have e : (⟨#[]⟩ : ByteArray).size = 0 := rfl
    omega
  | k + 2, h => by
    rw [joinB_next y (k := k + 1) (by omega) (by omega), ByteArray.size_append, ByteArray.size_append]
    have h1 := join_size y hy hx (k + 1) (by omega)
    have := hx _ (List.getElem_mem (show k + 1 < ps.length by omega))
    omega
theorem listB_size {l : List Int} (hw : ∀ x ∈ l, -9223372036854775808 ≤ x ∧ x ≤ 9223372036854775807) : (listB l).size ≤ l.length * 22 := by
  have h := join_size (ps := l.map fmtB) comma (by decide) (fun x hx => by
    rw [List.mem_map] at hx
    obtain ⟨y, hy, rfl⟩ := hx
    exact fmtW_size y (hw y hy).1 (hw y hy).2) l.length (by simp)
  rwa [List.take_of_length_le (by simp)] at h

theorem side_in {l : List Int} {n : Int} (h : sideB l n = true) : ∀ x ∈ l, 1 ≤ x ∧ x ≤ n := by
  unfold sideB ascB at h
  simp only [Bool.and_eq_true, decide_eq_true_eq, List.all_eq_true] at h
  exact h.1.2
theorem weigh_in {L R : List Int} {n : Int} (h : weighB L R n = true) : (∀ x ∈ L, 1 ≤ x ∧ x ≤ 13) ∧ (∀ x ∈ R, 1 ≤ x ∧ x ≤ 13) := by
  unfold weighB at h
  simp only [Bool.and_eq_true, decide_eq_true_eq] at h
  obtain ⟨⟨⟨⟨⟨_, hn⟩, h1⟩, h2⟩, _⟩, _⟩ := h
  exact ⟨fun x hx => by have := side_in h1 x hx; omega, fun x hx => by have := side_in h2 x hx; omega⟩

set_option maxHeartbeats 1600000 in
theorem specFmtWeigh (vl vr : Value) (L R : List Int) (w : World) (h1 : IntsAt w vl L) (h2 : IntsAt w vr R) (ml : L.length ≤ 1048576) (mr : R.length ≤ 1048576) :
    Calls Tryz.prog 19 #[.agg #[vl, vr]] w fun e w' => e = .returned (.string (weighT L R)) ∧ Below w.heap.size w w' := by
  have C0 := Lib.hid (fun W h h' => specWeighingOk vl vr L R 13 W h h' (by omega) (by omega))
  have HW : Hid (weighT L R = if weighB L R 13 = true then (listB L ++ ⟨#[58]⟩) ++ listB R else ⟨#[]⟩) := rfl
  have HI := Lib.hid (@weigh_in L R 13)
  have P1 := Lib.hid (TwoAt.new w 27 vl vr)
  have B1 := Lib.hid (alloc_below w (.cells #[vl, vr] 27))
  generalize hX1 : w.alloc (.cells #[vl, vr] 27) = X1 at P1 B1
  have H1 := Lib.hid (h1.below B1.out)
  have H2 := Lib.hid (h2.below B1.out)
  obtain ⟨e0, e1, -⟩ := P1.out
  clear h1 h2
  generalize weighT L R = r at HW ⊢
  generalize weighB L R 13 = t at C0 HW HI
  cases t with
  | false =>
    have HE : Hid (r = ⟨#[]⟩) := HW.out
    clear HW HI
    go_enter Tryz.func19, Tryz.ntmps19
    go_wp2_with fail
    refine (C0.out _ H1.out H2.out).mono ?_
    rintro e w1 ⟨rfl, b1⟩
    have BY := Lib.hid (below_up B1.out b1)
    clear b1
    go_wp2
    go_ret
    exact ⟨ret_str HE.out.symm, BY.out⟩
  | true =>
    have HE : Hid (r = (listB L ++ ⟨#[58]⟩) ++ listB R) := HW.out
    obtain ⟨i1, i2⟩ := HI.out rfl
    have CL := Lib.hid (fun W h => specList vl L W h ml (fun x hx => by have := i1 x hx; omega))
    have CR := Lib.hid (fun W h => specList vr R W h mr (fun x hx => by have := i2 x hx; omega))
    have sl : (listB L).size ≤ 23068672 := Nat.le_trans (listB_size (fun x hx => by have := i1 x hx; omega)) (by omega)
    have sr : (listB R).size ≤ 23068672 := Nat.le_trans (listB_size (fun x hx => by have := i2 x hx; omega)) (by omega)
    generalize listB L = tl at CL HE sl
    generalize listB R = tr at CR HE sr
    have z1 : ¬ 9223372036854775807 < tl.size + 1 := by omega
    have z2 : ¬ 9223372036854775807 < tl.size + 1 + tr.size := by omega
    clear HW HI i1 i2
    go_enter Tryz.func19, Tryz.ntmps19
    go_wp2_with fail
    refine (C0.out _ H1.out H2.out).mono ?_
    rintro e w1 ⟨rfl, b1⟩
    have BY := Lib.hid (below_up B1.out b1)
    have G1 := Lib.hid (H1.out.below b1)
    have G2 := Lib.hid (H2.out.below b1)
    have Q1 := Lib.hid (P1.out.below b1)
    clear b1 e0 e1
    obtain ⟨e0, e1, -⟩ := Q1.out
    go_wp2_with fail
    have D0 := Lib.hid ((Below.refl w1.heap.size w1).drew)
    first | (go_region_held3 (fun w' => w'.cell? ⟨w.heap.size, 0, none⟩ = some vl ∧ w'.cell? ⟨w.heap.size, 1, none⟩ = some vr ∧ w.heap.size < w'.heap.size)
      (first | exact Q3.out | exact Q2.out | exact Q1.out.below D0.out)
      (first
        | (go_at_call_of 44 vl; refine (CL.out _ (G1.out.below D0.out)).mono ?_; rintro e w2 ⟨rfl, b2⟩; have Q2 := Lib.hid ((Q1.out.below D0.out).below b2); have B2 := Lib.hid (below_up (below_up BY.out D0.out) b2); have K2 := Lib.hid ((G2.out.below D0.out).below b2); clear b2)
        | (go_at_call_of 44 vr; refine (CR.out _ K2.out).mono ?_; rintro e w3 ⟨rfl, b3⟩; have Q3 := Lib.hid (Q2.out.below b3); have B3 := Lib.hid (below_up B2.out b3); clear b3)
        | fail)) | fail
    all_goals
      go_wp2
      go_ret
      exact ⟨ret_str HE.out.symm, B3.out⟩
end Go.Proofs.YtlflblngbneacaaGreatDoor
