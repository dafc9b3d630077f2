/- Several texts in one file; each says what it proves and under which condition. No condition. -/
import Derived.Test.YtlflblngbneacaaGreatDoorGPool
import Derived.Test.YtlflblngbneacaaGreatDoorFmtWeighSpec
import Derived.Test.YtlflblngbneacaaGreatDoorCaseText
import Derived.Test.YtlflblngbneacaaGreatDoorGSet
import Derived.Test.YtlflblngbneacaaGreatDoorGWd
import Derived.Test.YtlflblngbneacaaGreatDoorSplitBySpec
import Derived.Test.YtlflblngbneacaaGreatDoorSplitUniq
import Derived.Test.YtlflblngbneacaaGreatDoorGDis
import Derived.Test.YtlflblngbneacaaGreatDoorGSum
/- The texts of reports, plainly: cases, sets and rounds. No condition. -/
namespace Go.Proofs.YtlflblngbneacaaGreatDoor
open Go.RowKit

/-- The texts of a list, separated by spaces, or '-'. -/
def wordsT (l : List ByteArray) : ByteArray := if l.length = 0 then ⟨#[45]⟩ else joinB l sepSp
theorem txtB_size (c : Int) : (txtB c).size ≤ 22 := by
  unfold txtB
  split
  · rename_i h
    have hb := inB_bounds h
    split
    · rw [ByteArray.size_append]
      have h1 := fmtW_size c (by omega) (by omega)
      have e : (⟨#[43]⟩ : ByteArray).size = 1 := rfl
      omega
    · split
      · rw [ByteArray.size_append]
        have h1 := fmtW_size (-c) (by omega) (by omega)
        have e : (⟨#[45]⟩ : ByteArray).size = 1 := rfl
        omega
      · show 4 ≤ 22; omega
  · show 0 ≤ 22; omega
theorem setT_size (s : Int) : (setT s).size ≤ 10 := by
  unfold setT
  split
  · split
    · show 1 ≤ 10; omega
    · exact setC_size s 10
  · show 0 ≤ 10; omega
def casesT (l : List Int) : ByteArray := wordsT (l.map txtB)
def setsT (l : List Int) : ByteArray := wordsT (l.map setT)
def roundsT (S : List (List Int)) : ByteArray := wordsT (S.map listB)

end Go.Proofs.YtlflblngbneacaaGreatDoor

/- The contracts of the model's FormatCases, FormatSets and RoundsLine. Conditions: the slice reads as integers (as lists of integers) that fit Go's int, and is short enough to be counted. -/
namespace Go.Proofs.YtlflblngbneacaaGreatDoor
open Go.RowKit

set_option maxRecDepth 100000 in
set_option maxHeartbeats 1600000 in
theorem specFormatCases (v : Value) (l : List Int) (w : World) (h : IntsAt w v l) (hm : l.length ≤ 1048576) (hw : ∀ x ∈ l, -9223372036854775808 ≤ x ∧ x ≤ 9223372036854775807) :
    Calls Tryz.prog 21 #[v] w fun e w' => e = .returned (.string (casesT l)) ∧ Below w.heap.size w w' := by
  obtain ⟨i0, hi, hz0, hz1, hz2⟩ := info_parts infoStrF
  obtain ⟨a, c, rfl, h⟩ := h
  have H : Hid (∀ i (h : i < l.length), ∃ b o, a = some ⟨b, o, none⟩ ∧ w.cell? ⟨b, o + i, none⟩ = some (.int .i64 l[i])) := by
    intro i hi
    rcases h with rfl | ⟨b, o, rfl, hc⟩
    · simp at hi
    · exact ⟨b, o, rfl, hc i hi⟩
  clear h
  have HWF := Lib.hid hw
  clear hw
  have HL : Hid (casesT l = if (l.map txtB).length = 0 then ⟨#[45]⟩ else joinB (l.map txtB) sepSp) := rfl
  rw [List.length_map] at HL
  generalize casesT l = t at HL ⊢
  obtain ⟨n, hn⟩ : ∃ n, l.length = n := ⟨_, rfl⟩
  rw [hn] at hm HL ⊢
  have HN := Lib.hid hn
  clear hn
  go_enter Tryz.func21, Tryz.ntmps21
  go_wp2
  go_loopw [3, 5, 9] (fun v _ i wr => ∃ (k : Nat) (ps : List ByteArray) (v0 : Value), v = v0 ∧ k ≤ n ∧ i = .int .i64 k ∧ ps.length = k ∧ Hid (ps = (l.take k).map txtB) ∧ wr.ownsRow w.heap.size 9 1 v ps.length (ps.map Value.string) ∧ Below w.heap.size w wr) (fun _ _ i _ => n - (intOf i).toNat)
  case atStart => exact ⟨0, [], _, rfl, Nat.zero_le _, rfl, rfl, rfl, World.ownsRow_lit (base := w.heap.size) (e := 9) (size := 1) w #[] 0 (Nat.le_refl _) (by unfold maxLen; omega) rfl, (Below.refl _ _).alloc (Nat.le_refl _) _⟩
  case round =>
    obtain ⟨k, ps, v, hv0, hk, rfl, hps, HS, hown, hb⟩ := hrel
    replace hv0 := hv0.symm
    subst hv0
    have hbs := hb.size
    by_cases hlt : k < n
    · have hkl : k < l.length := by rw [HN.out]; exact hlt
      obtain ⟨b, o, rfl, e0⟩ := H.out k hkl
      have hbl := World.block_lt_of_cell? w _ e0
      obtain ⟨x, hx⟩ : ∃ x, l[k] = x := ⟨_, rfl⟩
      rw [hx] at e0
      have e1 : wr.cell? ⟨b, o + k, none⟩ = some (.int .i64 x) := by rw [hb.cell (p := ⟨b, o + k, none⟩) hbl]; exact e0
      clear e0 hbl
      obtain ⟨q0, q1⟩ := HWF.out x (by rw [← hx]; exact List.getElem_mem hkl)
      have C := Lib.hid (fun W => specText x W q0 q1)
      have HS2 : Hid (ps ++ [txtB x] = (l.take (k + 1)).map txtB) := by unfold Hid; rw [List.take_succ_eq_append_getElem hkl, List.map_append, HS.out, hx]; rfl
      generalize txtB x = f at C HS2
      have i0' : (0 : Int) ≤ (k : Int) := by omega
      have i1 : (k : Int) < (n : Int) := by omega
      clear hx hkl
      go_wp2_with fail
      refine (C.out _).mono ?_
      rintro e w1 ⟨rfl, hb1⟩
      have hown1 := owns_below hown hb1
      have HB1 := Lib.hid (below_up hb hb1)
      have hbs1 : w.heap.size ≤ w1.heap.size := Nat.le_trans hbs hb1.size
      clear hb1 hown hb
      go_wp2_with (at_builtin; refine wpList_append_own _ rfl _ _ 66 rfl w.heap.size 9 i0 (.string ByteArray.empty) 1 16 Tryz.underlying66 hi hz0 hz1 hz2 rfl (by decide) _ _ _ rfl (hown1.alloc _) ⟨w1.heap.size, 0, none⟩ 1 1 [.string f] rfl rfl (cell_one_str _ _ _) (by simp [Value.oneCell']) (by unfold maxLen; omega) (by omega) (by simp; omega) ?_; intro v' w2 hown' hg1 _)
      have hb2 := Below.grown (HB1.out.alloc hbs1 _) hg1 (by simp; omega) (fun j hj => (hown1.lt j hj).1)
      go_wp2
      go_roundw
      case rel => exact ⟨k + 1, _, _, rfl, by omega, by go_num, by simp; omega, HS2, by simpa using hown', hb2⟩
      case measure => simp [intOf]; omega
    · obtain rfl : k = n := by omega
      have HP : Hid (ps = l.map txtB) := by
        have := HS.out
        rw [List.take_of_length_le (by rw [HN.out]; omega)] at this
        exact this
      have S := Lib.hid (StrsAt.of_owns hown)
      have HX : Hid (∀ x ∈ ps, x.size ≤ 33554432) := by
        intro x hx
        rw [HP.out, List.mem_map] at hx
        obtain ⟨y, hy, rfl⟩ := hx
        exact Nat.le_trans (txtB_size y) (by decide)
      obtain ⟨g, cc, hv⟩ : ∃ g cc, v = .slice g k cc := by
        obtain ⟨g, cc, hv, -⟩ := S.out
        exact ⟨g, cc, by rw [hv, hps]⟩
      subst hv
      rcases Nat.eq_zero_or_pos k with h0 | h0
      · have HT : Hid (t = ⟨#[45]⟩) := by unfold Hid; rw [HL.out, if_pos h0]
        subst h0
        clear hown
        go_wp2
        go_ret
        exact ⟨ret_str HT.out.symm, hb⟩
      · have J := Lib.hid (specJoin25 _ ps sepSp wr S.out (by omega) (by decide) HX.out)
        have HT : Hid (t = joinB ps sepSp) := by unfold Hid; rw [HL.out, if_neg (by omega), HP.out]
        generalize joinB ps sepSp = r at J HT
        unfold sepSp at J
        have h1 : ¬ (k : Int) = 0 := by omega
        clear hown
        go_wp2_with fail
        refine J.out.mono ?_
        rintro e w1 ⟨rfl, rfl⟩
        go_wp2
        go_ret
        exact ⟨ret_str HT.out.symm, hb⟩

set_option maxRecDepth 100000 in
set_option maxHeartbeats 1600000 in
theorem specFormatSets (v : Value) (l : List Int) (w : World) (h : IntsAt w v l) (hm : l.length ≤ 1048576) (hw : ∀ x ∈ l, -9223372036854775808 ≤ x ∧ x ≤ 9223372036854775807) :
    Calls Tryz.prog 36 #[v] w fun e w' => e = .returned (.string (setsT l)) ∧ Below w.heap.size w w' := by
  obtain ⟨i0, hi, hz0, hz1, hz2⟩ := info_parts infoStrF
  obtain ⟨a, c, rfl, h⟩ := h
  have H : Hid (∀ i (h : i < l.length), ∃ b o, a = some ⟨b, o, none⟩ ∧ w.cell? ⟨b, o + i, none⟩ = some (.int .i64 l[i])) := by
    intro i hi
    rcases h with rfl | ⟨b, o, rfl, hc⟩
    · simp at hi
    · exact ⟨b, o, rfl, hc i hi⟩
  clear h
  have HWF := Lib.hid hw
  clear hw
  have HL : Hid (setsT l = if (l.map setT).length = 0 then ⟨#[45]⟩ else joinB (l.map setT) sepSp) := rfl
  rw [List.length_map] at HL
  generalize setsT l = t at HL ⊢
  obtain ⟨n, hn⟩ : ∃ n, l.length = n := ⟨_, rfl⟩
  rw [hn] at hm HL ⊢
  have HN := Lib.hid hn
  clear hn
  go_enter Tryz.func36, Tryz.ntmps36
  go_wp2
  go_loopw [3, 5, 9] (fun v _ i wr => ∃ (k : Nat) (ps : List ByteArray) (v0 : Value), v = v0 ∧ k ≤ n ∧ i = .int .i64 k ∧ ps.length = k ∧ Hid (ps = (l.take k).map setT) ∧ wr.ownsRow w.heap.size 9 1 v ps.length (ps.map Value.string) ∧ Below w.heap.size w wr) (fun _ _ i _ => n - (intOf i).toNat)
  case atStart => exact ⟨0, [], _, rfl, Nat.zero_le _, rfl, rfl, rfl, World.ownsRow_lit (base := w.heap.size) (e := 9) (size := 1) w #[] 0 (Nat.le_refl _) (by unfold maxLen; omega) rfl, (Below.refl _ _).alloc (Nat.le_refl _) _⟩
  case round =>
    obtain ⟨k, ps, v, hv0, hk, rfl, hps, HS, hown, hb⟩ := hrel
    replace hv0 := hv0.symm
    subst hv0
    have hbs := hb.size
    by_cases hlt : k < n
    · have hkl : k < l.length := by rw [HN.out]; exact hlt
      obtain ⟨b, o, rfl, e0⟩ := H.out k hkl
      have hbl := World.block_lt_of_cell? w _ e0
      obtain ⟨x, hx⟩ : ∃ x, l[k] = x := ⟨_, rfl⟩
      rw [hx] at e0
      have e1 : wr.cell? ⟨b, o + k, none⟩ = some (.int .i64 x) := by rw [hb.cell (p := ⟨b, o + k, none⟩) hbl]; exact e0
      clear e0 hbl
      obtain ⟨q0, q1⟩ := HWF.out x (by rw [← hx]; exact List.getElem_mem hkl)
      have C := Lib.hid (fun W => specSetText x W)
      have HS2 : Hid (ps ++ [setT x] = (l.take (k + 1)).map setT) := by unfold Hid; rw [List.take_succ_eq_append_getElem hkl, List.map_append, HS.out, hx]; rfl
      generalize setT x = f at C HS2
      have i0' : (0 : Int) ≤ (k : Int) := by omega
      have i1 : (k : Int) < (n : Int) := by omega
      clear hx hkl
      go_wp2_with fail
      refine (C.out _).mono ?_
      rintro e w1 ⟨rfl, hb1⟩
      have hown1 := owns_below hown hb1
      have HB1 := Lib.hid (below_up hb hb1)
      have hbs1 : w.heap.size ≤ w1.heap.size := Nat.le_trans hbs hb1.size
      clear hb1 hown hb
      go_wp2_with (at_builtin; refine wpList_append_own _ rfl _ _ 66 rfl w.heap.size 9 i0 (.string ByteArray.empty) 1 16 Tryz.underlying66 hi hz0 hz1 hz2 rfl (by decide) _ _ _ rfl (hown1.alloc _) ⟨w1.heap.size, 0, none⟩ 1 1 [.string f] rfl rfl (cell_one_str _ _ _) (by simp [Value.oneCell']) (by unfold maxLen; omega) (by omega) (by simp; omega) ?_; intro v' w2 hown' hg1 _)
      have hb2 := Below.grown (HB1.out.alloc hbs1 _) hg1 (by simp; omega) (fun j hj => (hown1.lt j hj).1)
      go_wp2
      go_roundw
      case rel => exact ⟨k + 1, _, _, rfl, by omega, by go_num, by simp; omega, HS2, by simpa using hown', hb2⟩
      case measure => simp [intOf]; omega
    · obtain rfl : k = n := by omega
      have HP : Hid (ps = l.map setT) := by
        have := HS.out
        rw [List.take_of_length_le (by rw [HN.out]; omega)] at this
        exact this
      have S := Lib.hid (StrsAt.of_owns hown)
      have HX : Hid (∀ x ∈ ps, x.size ≤ 33554432) := by
        intro x hx
        rw [HP.out, List.mem_map] at hx
        obtain ⟨y, hy, rfl⟩ := hx
        exact Nat.le_trans (setT_size y) (by decide)
      obtain ⟨g, cc, hv⟩ : ∃ g cc, v = .slice g k cc := by
        obtain ⟨g, cc, hv, -⟩ := S.out
        exact ⟨g, cc, by rw [hv, hps]⟩
      subst hv
      rcases Nat.eq_zero_or_pos k with h0 | h0
      · have HT : Hid (t = ⟨#[45]⟩) := by unfold Hid; rw [HL.out, if_pos h0]
        subst h0
        clear hown
        go_wp2
        go_ret
        exact ⟨ret_str HT.out.symm, hb⟩
      · have J := Lib.hid (specJoin25 _ ps sepSp wr S.out (by omega) (by decide) HX.out)
        have HT : Hid (t = joinB ps sepSp) := by unfold Hid; rw [HL.out, if_neg (by omega), HP.out]
        generalize joinB ps sepSp = r at J HT
        unfold sepSp at J
        have h1 : ¬ (k : Int) = 0 := by omega
        clear hown
        go_wp2_with fail
        refine J.out.mono ?_
        rintro e w1 ⟨rfl, rfl⟩
        go_wp2
        go_ret
        exact ⟨ret_str HT.out.symm, hb⟩

end Go.Proofs.YtlflblngbneacaaGreatDoor

/- The contracts of the model's SplitLine, ReadSets and PoolsLine. Conditions: the slices read as integers that fit Go's int, and are short enough to be counted; so is the text. -/
namespace Go.Proofs.YtlflblngbneacaaGreatDoor
open Go.RowKit

theorem join_size22 {ps : List ByteArray} (y : ByteArray) (hy : y.size ≤ 1) (hx : ∀ x ∈ ps, x.size ≤ 22) : ∀ k, k ≤ ps.length → (joinB (ps.take k) y).size ≤ k * 23
  | 0, _ => by rw [List.take_zero, joinB_none]; exact Nat.zero_le _
  | 1, h => by
    rw [joinB_first y h, ByteArray.size_append]
    have := hx _ (List.getElem_mem (show 0 < ps.length by omega))
    have e : (⟨#[]⟩ : ByteArray).size = 0 := rfl
    omega
  | k + 2, h => by
    rw [joinB_next y (k := k + 1) (by omega) (by omega), ByteArray.size_append, ByteArray.size_append]
    have h1 := join_size22 y hy hx (k + 1) (by omega)
    have := hx _ (List.getElem_mem (show k + 1 < ps.length by omega))
    omega
theorem words_size {ps : List ByteArray} (hx : ∀ x ∈ ps, x.size ≤ 22) : (wordsT ps).size ≤ ps.length * 23 + 1 := by
  unfold wordsT
  split
  · show 1 ≤ _; omega
  · have h := join_size22 sepSp (by decide) hx ps.length (Nat.le_refl _)
    rw [List.take_of_length_le (Nat.le_refl _)] at h
    omega
theorem casesT_size (l : List Int) : (casesT l).size ≤ l.length * 23 + 1 := by
  have h := words_size (ps := l.map txtB) (fun x hx => by
    rw [List.mem_map] at hx
    obtain ⟨y, _, rfl⟩ := hx
    exact txtB_size y)
  rwa [List.length_map] at h
theorem setsT_size (l : List Int) : (setsT l).size ≤ l.length * 23 + 1 := by
  have h := words_size (ps := l.map setT) (fun x hx => by
    rw [List.mem_map] at hx
    obtain ⟨y, _, rfl⟩ := hx
    exact Nat.le_trans (setT_size y) (by omega))
  rwa [List.length_map] at h
theorem weighT_size {L R : List Int} (ml : L.length ≤ 1048576) (mr : R.length ≤ 1048576) : (weighT L R).size ≤ 50000000 := by
  unfold weighT
  split
  · rename_i h
    have hw := weigh_in h
    have h1 := listB_size (l := L) fun x hx => by have := hw.1 x hx; omega
    have h2 := listB_size (l := R) fun x hx => by have := hw.2 x hx; omega
    rw [ByteArray.size_append, ByteArray.size_append]
    have e : (⟨#[58]⟩ : ByteArray).size = 1 := rfl
    omega
  · show 0 ≤ 50000000; omega

/-- The text of a weighing and of the cases after each of its outcomes. -/
def splitT (L R l : List Int) : ByteArray :=
  if (weighT L R).toList.isEmpty = true then ⟨#[110, 111, 110, 101]⟩
  else (((((weighT L R ++ ⟨#[32, 124, 32]⟩) ++ casesT (lessL (outI L R) l)) ++ ⟨#[32, 124, 32]⟩) ++ casesT (evenL (outI L R) l)) ++ ⟨#[32, 124, 32]⟩) ++ casesT (moreL (outI L R) l)

set_option maxRecDepth 100000 in
set_option maxHeartbeats 3200000 in
theorem specSplitLine (vl vr vc : Value) (L R l : List Int) (w : World) (h1 : IntsAt w vl L) (h2 : IntsAt w vr R) (h3 : IntsAt w vc l) (ml : L.length ≤ 1048576) (mr : R.length ≤ 1048576) (mc : l.length ≤ 1048576)
    (hw : ∀ x ∈ l, -9223372036854775808 ≤ x ∧ x ≤ 9223372036854775807) :
    Calls Tryz.prog 7 #[.agg #[vl, vr], vc] w fun e w' => e = .returned (.string (splitT L R l)) ∧ Below w.heap.size w w' := by
  have CW := Lib.hid (fun W a b => specFmtWeigh vl vr L R W a b ml mr)
  have CS := Lib.hid (fun W a b c => specSplitBy vl vr vc L R l W a b c (by omega) (by omega) (by omega) hw)
  have CF := Lib.hid (fun (v : Value) (m : List Int) W (h : IntsAt W v m) (hm : m.length ≤ 1048576) (hf : ∀ x ∈ m, -9223372036854775808 ≤ x ∧ x ≤ 9223372036854775807) => specFormatCases v m W h hm hf)
  unfold Parts at CS
  have HT : Hid (splitT L R l = if (weighT L R).toList.isEmpty = true then ⟨#[110, 111, 110, 101]⟩ else (((((weighT L R ++ ⟨#[32, 124, 32]⟩) ++ casesT (lessL (outI L R) l)) ++ ⟨#[32, 124, 32]⟩) ++ casesT (evenL (outI L R) l)) ++ ⟨#[32, 124, 32]⟩) ++ casesT (moreL (outI L R) l)) := rfl
  have hlen := part_len (outI L R) l
  have z0 := weighT_size ml mr
  have z1 := casesT_size (lessL (outI L R) l)
  have z2 := casesT_size (evenL (outI L R) l)
  have z3 := casesT_size (moreL (outI L R) l)
  have F1 : Hid (∀ x ∈ lessL (outI L R) l, -9223372036854775808 ≤ x ∧ x ≤ 9223372036854775807) := fun x hx => hw x (List.mem_filter.1 hx).1
  have F2 : Hid (∀ x ∈ evenL (outI L R) l, -9223372036854775808 ≤ x ∧ x ≤ 9223372036854775807) := fun x hx => hw x (List.mem_filter.1 hx).1
  have F3 : Hid (∀ x ∈ moreL (outI L R) l, -9223372036854775808 ≤ x ∧ x ≤ 9223372036854775807) := fun x hx => hw x (List.mem_filter.1 hx).1
  have P0 := Lib.hid (TwoAt.new w 27 vl vr)
  have B0 := Lib.hid (alloc_below w (.cells #[vl, vr] 27))
  generalize hX : w.alloc (.cells #[vl, vr] 27) = X at P0 B0
  have K1 := Lib.hid (h1.below B0.out)
  have K2 := Lib.hid (h2.below B0.out)
  have K3 := Lib.hid (h3.below B0.out)
  obtain ⟨al, nl, cl, rfl⟩ := h1.form
  obtain ⟨ar, nr, cr, rfl⟩ := h2.form
  obtain ⟨ac, nc, cc, rfl⟩ := h3.form
  clear h1 h2 h3 hw
  generalize splitT L R l = T at HT ⊢
  generalize weighT L R = Wt at CW HT z0
  generalize hA : lessL (outI L R) l = A at CS HT hlen z1 F1
  generalize hB : evenL (outI L R) l = B at CS HT hlen z2 F2
  generalize hC : moreL (outI L R) l = C at CS HT hlen z3 F3
  clear hA hB hC
  obtain ⟨lA, lB, lC⟩ := hlen
  have CA := Lib.hid (fun v W h => CF.out v A W h (by omega) F1.out)
  have CB := Lib.hid (fun v W h => CF.out v B W h (by omega) F2.out)
  have CC := Lib.hid (fun v W h => CF.out v C W h (by omega) F3.out)
  clear CF F1 F2 F3
  generalize casesT A = tA at CA HT z1
  generalize casesT B = tB at CB HT z2
  generalize casesT C = tC at CC HT z3
  have q1 : ¬ 9223372036854775807 < Wt.size + 3 := by omega
  have q2 : ¬ 9223372036854775807 < Wt.size + 3 + tA.size := by omega
  have q3 : ¬ 9223372036854775807 < Wt.size + 3 + tA.size + 3 := by omega
  have q4 : ¬ 9223372036854775807 < Wt.size + 3 + tA.size + 3 + tB.size := by omega
  have q5 : ¬ 9223372036854775807 < Wt.size + 3 + tA.size + 3 + tB.size + 3 := by omega
  have q6 : ¬ 9223372036854775807 < Wt.size + 3 + tA.size + 3 + tB.size + 3 + tC.size := by omega
  clear z0 z1 z2 z3 lA lB lC ml mr mc
  obtain ⟨e0, e1, -⟩ := P0.out
  go_enter Tryz.func7, Tryz.ntmps7
  go_wp2_with fail
  clear e0 e1
  refine (CW.out _ K1.out K2.out).mono ?_
  rintro e w1 ⟨rfl, bb⟩
  have B1 := Lib.hid (below_up B0.out bb)
  have P1 := Lib.hid (P0.out.below bb)
  have L1 := Lib.hid (K1.out.below bb)
  have L2 := Lib.hid (K2.out.below bb)
  have L3 := Lib.hid (K3.out.below bb)
  clear bb P0 B0 K1 K2 K3 hX CW
  cases hem : Wt.toList.isEmpty with
  | true =>
    have hnl : Wt.toList = [] := List.isEmpty_iff.1 hem
    have HE : Hid (T = ⟨#[110, 111, 110, 101]⟩) := by unfold Hid; rw [HT.out, if_pos hem]
    clear HT
    go_wp2
    go_ret
    exact ⟨ret_str HE.out.symm, B1.out⟩
  | false =>
    have HE : Hid (T = (((((Wt ++ ⟨#[32, 124, 32]⟩) ++ tA) ++ ⟨#[32, 124, 32]⟩) ++ tB) ++ ⟨#[32, 124, 32]⟩) ++ tC) := by unfold Hid; rw [HT.out, hem]; rfl
    clear HT
    obtain ⟨e0, e1, -⟩ := P1.out
    go_wp2_with fail
    clear e0 e1
    refine (CS.out _ L1.out L2.out L3.out).mono ?_
    rintro e w2 ⟨v1, v2, v3, rfl, th, bb⟩
    have B2 := Lib.hid (below_up B1.out bb)
    have R1 := Lib.hid th.o1.reads
    have R2 := Lib.hid th.o2.reads
    have R3 := Lib.hid th.o3.reads
    obtain ⟨g1, m1, c1, rfl⟩ := th.o1.form
    obtain ⟨g2, m2, c2, rfl⟩ := th.o2.form
    obtain ⟨g3, m3, c3, rfl⟩ := th.o3.form
    clear th bb B1 P1 L1 L2 L3 CS
    go_wp2_with fail
    refine (CA.out _ _ R1.out).mono ?_
    rintro e w3 ⟨rfl, bb⟩
    have B3 := Lib.hid (below_up B2.out bb)
    have S2 := Lib.hid (R2.out.below bb)
    have S3 := Lib.hid (R3.out.below bb)
    clear bb B2 R1 R2 R3 CA
    go_wp2_with fail
    refine (CB.out _ _ S2.out).mono ?_
    rintro e w4 ⟨rfl, bb⟩
    have B4 := Lib.hid (below_up B3.out bb)
    have U3 := Lib.hid (S3.out.below bb)
    clear bb B3 S2 S3 CB
    go_wp2_with fail
    refine (CC.out _ _ U3.out).mono ?_
    rintro e w5 ⟨rfl, bb⟩
    have B5 := Lib.hid (below_up B4.out bb)
    clear bb B4 U3 CC
    go_wp2
    go_ret
    exact ⟨ret_str HE.out.symm, B5.out⟩

/-- The sets of a text, and whether it is one of sets. -/
def setsB (t : ByteArray) : Bool := (parts t (isBy sepSp)).all readB
def setsL (t : ByteArray) : List Int := if setsB t = true then (parts t (isBy sepSp)).map readV else []
def GivesQ (L : List Int) (b : Bool) (w : World) (e : Ending) (w' : World) : Prop := ∃ u, e = .returned (.tuple #[u, .bool b]) ∧ Own w' w.heap.size u L ∧ Below w.heap.size w w'

end Go.Proofs.YtlflblngbneacaaGreatDoor

/- The contract of the model's PoolsLine. Condition: the slice reads as integers and is short enough to be counted. -/
namespace Go.Proofs.YtlflblngbneacaaGreatDoor
open Go.RowKit

/-- The greatest number up to k of bad items that the pools separate. -/
def sepK (n : Int) (P : List Int) : Nat → Nat
  | 0 => 0
  | k + 1 => if sepR n P ((k + 1 : Nat) : Int) = true then k + 1 else sepK n P k
theorem sepK_le (n : Int) (P : List Int) : ∀ k, sepK n P k ≤ k
  | 0 => Nat.le_refl _
  | k + 1 => by
    have := sepK_le n P k
    unfold sepK
    split <;> omega
def poolsT (n : Int) (P : List Int) : ByteArray := if poolsB n P = true then (((setsT P ++ ⟨#[32, 115, 101, 112, 97, 114, 97, 116, 101, 115, 32]⟩) ++ fmtB (sepK n P 3 : Int)) ++ ⟨#[32, 115, 117, 109, 115, 32]⟩) ++ fmtB (tellI n P) else ⟨#[]⟩

set_option maxRecDepth 100000 in
set_option maxHeartbeats 3200000 in
theorem specPoolsLine (n : Int) (v : Value) (P : List Int) (w : World) (h : IntsAt w v P) (hm : P.length ≤ 1048576) :
    Calls Tryz.prog 16 #[.int .i64 n, v] w fun e w' => e = .returned (.string (poolsT n P)) ∧ Below w.heap.size w w' := by
  have CP := Lib.hid (specPoolsOk n v P w h (by unfold maxLen; omega))
  have HT : Hid (poolsT n P = if poolsB n P = true then (((setsT P ++ ⟨#[32, 115, 101, 112, 97, 114, 97, 116, 101, 115, 32]⟩) ++ fmtB (sepK n P 3 : Int)) ++ ⟨#[32, 115, 117, 109, 115, 32]⟩) ++ fmtB (tellI n P) else ⟨#[]⟩) := rfl
  have R0 := Lib.hid h
  obtain ⟨ga, gc, rfl, -⟩ := h
  cases hp : poolsB n P with
  | false =>
    rw [hp] at CP HT
    have HE : Hid (poolsT n P = ⟨#[]⟩) := HT.out
    clear HT hp
    go_enter Tryz.func16, Tryz.ntmps16
    go_wp2_with fail
    refine CP.out.mono ?_
    rintro e w1 ⟨rfl, rfl⟩
    go_wp2
    go_ret
    exact ⟨ret_str HE.out.symm, Below.refl _ _⟩
  | true =>
    rw [hp] at CP HT
    have HE : Hid (poolsT n P = (((setsT P ++ ⟨#[32, 115, 101, 112, 97, 114, 97, 116, 101, 115, 32]⟩) ++ fmtB (sepK n P 3 : Int)) ++ ⟨#[32, 115, 117, 109, 115, 32]⟩) ++ fmtB (tellI n P)) := HT.out
    obtain ⟨⟨n1, n10⟩, hl, hP⟩ := pools_in hp
    have hfit : ∀ x ∈ P, -9223372036854775808 ≤ x ∧ x ≤ 9223372036854775807 := fun x hx => by have := hP x hx; omega
    have ht : 0 ≤ tellI n P ∧ tellI n P ≤ 1024 := by
      have h1 := seenK_len P (2 ^ n.toNat)
      have h2 : 2 ^ n.toNat ≤ 1024 := Nat.pow_le_pow_right (n := 2) (by decide) (show n.toNat ≤ 10 by omega)
      unfold tellI
      rw [if_pos hp]
      omega
    have C1 := Lib.hid (fun (d : Int) W h => specIsSeparable n (.slice ga P.length gc) P d W h hm)
    have C2 := Lib.hid (fun W h => specFormatSets (.slice ga P.length gc) P W h hm hfit)
    have C3 := Lib.hid (fun W h => specTell n (.slice ga P.length gc) P W h hm)
    have C4 := Lib.hid (fun (d : Nat) (hd : d ≤ 3) W => specFmt (d : Int) W (by omega) (by omega))
    have C5 := Lib.hid (fun W => specFmt (tellI n P) W (by omega) (by omega))
    have HK : Hid (∀ k, sepK n P (k + 1) = if sepR n P ((k + 1 : Nat) : Int) = true then k + 1 else sepK n P k) := fun _ => rfl
    have HK0 : Hid (sepK n P 0 = 0) := rfl
    have HKL := Lib.hid (sepK_le n P)
    have z1 := setsT_size P
    have z2 := fmtW_size (tellI n P) (by omega) (by omega)
    have Z3 : Hid (∀ d : Nat, d ≤ 3 → (fmtB (d : Int)).size ≤ 21) := fun d hd => fmtW_size _ (by omega) (by omega)
    generalize poolsT n P = T at HE ⊢
    generalize setsT P = A at C2 HE z1
    generalize fmtB (tellI n P) = D at C5 HE z2
    generalize tellI n P = y at C3 C5 ht
    generalize sepK n P = F at HE HK HK0 HKL
    clear HT hp hP hfit ht
    have z4 : A.size ≤ 300 := by omega
    obtain ⟨m, hmm⟩ : ∃ m, P.length = m := ⟨_, rfl⟩
    rw [hmm] at R0 CP C1 C2 C3
    rw [hmm]
    clear hmm z1 hl hm
    have B0 := Lib.hid (Below.refl w.heap.size w)
    go_enter Tryz.func16, Tryz.ntmps16
    go_wp2_with fail
    refine CP.out.mono ?_
    rintro e w1 ⟨rfl, rfl⟩
    clear CP
    go_wp2
    go_loopw [5, 6] (fun dv kv wr => ∃ k : Nat, k ≤ 3 ∧ kv = .int .i64 ((k + 1 : Nat) : Int) ∧ dv = .int .i64 (F k : Int) ∧ Hid (Below w.heap.size w wr)) (fun _ kv _ => 4 - (intOf kv).toNat)
    case atStart => exact ⟨0, by omega, rfl, by rw [HK0.out]; rfl, B0⟩
    case round =>
      clear B0
      obtain ⟨k, hk, rfl, rfl, HB⟩ := hrel
      have k0 : (0 : Int) ≤ ((k + 1 : Nat) : Int) := by omega
      by_cases hlt : k < 3
      · have k1 : ((k + 1 : Nat) : Int) ≤ 3 := by omega
        have C := Lib.hid (C1.out ((k + 1 : Nat) : Int) wr (R0.out.below HB.out))
        have HS := Lib.hid (HK.out k)
        have hw : IntKind.i64.wrap (((k + 1 : Nat) : Int) + 1) = ((k + 1 + 1 : Nat) : Int) := by rw [IntKind.wrap_i64]; omega
        cases hs : sepR n P ((k + 1 : Nat) : Int) with
        | true =>
          rw [hs] at C HS
          have HS2 : Hid (F (k + 1) = k + 1) := HS.out
          clear HS hs
          generalize hq : ((k + 1 : Nat) : Int) = q at C hw k0 k1
          go_wp2_with fail
          refine C.out.mono ?_
          rintro e w2 ⟨rfl, bb⟩
          have B2 := Lib.hid (below_up HB.out bb)
          clear bb C
          go_wp2
          go_roundw
          case rel => exact ⟨k + 1, by omega, congrArg _ (by omega), by rw [HS2.out, hq], B2⟩
          case measure => simp [intOf]; omega
        | false =>
          rw [hs] at C HS
          have HS2 : Hid (F (k + 1) = F k) := HS.out
          clear HS hs
          generalize hq : ((k + 1 : Nat) : Int) = q at C hw k0 k1
          go_wp2_with fail
          refine C.out.mono ?_
          rintro e w2 ⟨rfl, bb⟩
          have B2 := Lib.hid (below_up HB.out bb)
          clear bb C
          go_wp2
          go_roundw
          case rel => exact ⟨k + 1, by omega, congrArg _ (by omega), by rw [HS2.out], B2⟩
          case measure => simp [intOf]; omega
      · obtain rfl : k = 3 := by omega
        have hkl := HKL.out 3
        have C4a := Lib.hid (C4.out (F 3) hkl)
        have z3 := Z3.out (F 3) hkl
        generalize fmtB (F 3 : Int) = E at HE C4a z3
        generalize (F 3 : Int) = d at C4a ⊢
        have R1 := Lib.hid (R0.out.below HB.out)
        have q1 : ¬ 9223372036854775807 < A.size + 11 := by omega
        have q2 : ¬ 9223372036854775807 < A.size + 11 + E.size := by omega
        have q3 : ¬ 9223372036854775807 < A.size + 11 + E.size + 6 := by omega
        have q4 : ¬ 9223372036854775807 < A.size + 11 + E.size + 6 + D.size := by omega
        clear hkl z2 z3 z4 HK HK0 HKL C1 C4 Z3 R0
        go_wp2_with fail
        refine (C2.out _ R1.out).mono ?_
        rintro e w2 ⟨rfl, bb⟩
        have B2 := Lib.hid (below_up HB.out bb)
        have R2 := Lib.hid (R1.out.below bb)
        clear bb
        go_wp2_with fail
        refine (C4a.out _).mono ?_
        rintro e w3 ⟨rfl, bb⟩
        have B3 := Lib.hid (below_up B2.out bb)
        have R3 := Lib.hid (R2.out.below bb)
        clear bb
        go_wp2_with fail
        refine (C3.out _ R3.out).mono ?_
        rintro e w4 ⟨rfl, bb⟩
        have B4 := Lib.hid (below_up B3.out bb)
        clear bb
        go_wp2_with fail
        refine (C5.out _).mono ?_
        rintro e w5 ⟨rfl, bb⟩
        have B5 := Lib.hid (below_up B4.out bb)
        clear bb
        go_wp2
        go_ret
        exact ⟨ret_str HE.out.symm, B5.out⟩
end Go.Proofs.YtlflblngbneacaaGreatDoor
