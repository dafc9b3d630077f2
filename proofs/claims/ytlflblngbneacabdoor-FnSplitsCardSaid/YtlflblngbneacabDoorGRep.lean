/- Several texts in one file; each says what it proves and under which condition. No condition. -/
import Derived.Test.YtlflblngbneacabDoorGPool
import Derived.Test.YtlflblngbneacabDoorFmtWeighSpec
import Derived.Test.YtlflblngbneacabDoorCaseText
import Derived.Test.YtlflblngbneacabDoorGSet
import Derived.Test.YtlflblngbneacabDoorGWd
import Derived.Test.YtlflblngbneacabDoorSplitBySpec
import Derived.Test.YtlflblngbneacabDoorSplitUniq
import Derived.Test.YtlflblngbneacabDoorGDis
import Derived.Test.YtlflblngbneacabDoorGSum
/- The texts of reports, plainly: cases, sets and rounds. No condition. -/
namespace Go.Proofs.YtlflblngbneacabDoor
open Go.RowKit

/-- The texts of a list, separated by spaces, or '-'. -/
def wordsT (l : List ByteArray) : ByteArray := if l.length = 0 then ⟨#[45]⟩ else joinB l sepSp
theorem txtB_size (c : Int) : (txtB c).size ≤ 22 := by
  unfold txtB
  split
  · rename_i h
    have hb := inB_bounds h
    split
    · rw [ByteArray.size_append]
      have h1 := fmtW_size c (by omega) (by omega)
      have e : (⟨#[43]⟩ : ByteArray).size = 1 := rfl
      omega
    · split
      · rw [ByteArray.size_append]
        have h1 := fmtW_size (-c) (by omega) (by omega)
        have e : (⟨#[45]⟩ : ByteArray).size = 1 := rfl
        omega
      · show 4 ≤ 22; omega
  · show 0 ≤ 22; omega
theorem setT_size (s : Int) : (setT s).size ≤ 10 := by
  unfold setT
  split
  · split
    · show 1 ≤ 10; omega
    · exact setC_size s 10
  · show 0 ≤ 10; omega
def casesT (l : List Int) : ByteArray := wordsT (l.map txtB)
def setsT (l : List Int) : ByteArray := wordsT (l.map setT)
def roundsT (S : List (List Int)) : ByteArray := wordsT (S.map listB)

end Go.Proofs.YtlflblngbneacabDoor

/- The contracts of the model's FormatCases, FormatSets and RoundsLine. Conditions: the slice reads as integers (as lists of integers) that fit Go's int, and is short enough to be counted. -/
namespace Go.Proofs.YtlflblngbneacabDoor
open Go.RowKit

set_option maxRecDepth 100000 in
set_option maxHeartbeats 1600000 in
theorem specRoundsLine (v : Value) (l : List (List Int)) (w : World) (h : LsAt w v l) (hm : l.length ≤ 1048576) (hw : ∀ d ∈ l, d.length ≤ 1048576 ∧ ∀ x ∈ d, -9223372036854775808 ≤ x ∧ x ≤ 9223372036854775807) :
    Calls Tryd.prog 12 #[v] w fun e w' => e = .returned (.string (roundsT l)) ∧ Below w.heap.size w w' := by
  obtain ⟨i0, hi, hz0, hz1, hz2⟩ := info_parts infoStrF
  obtain ⟨a, c, rfl, h⟩ := h
  have H : Hid (∀ i (h : i < l.length), ∃ b off u, a = some ⟨b, off, none⟩ ∧ w.cell? ⟨b, off + i, none⟩ = some u ∧ IntsAt w u l[i]) := by
    intro i hi
    exact h i hi
  clear h
  have HWF := Lib.hid hw
  clear hw
  have HL : Hid (roundsT l = if (l.map listB).length = 0 then ⟨#[45]⟩ else joinB (l.map listB) sepSp) := rfl
  rw [List.length_map] at HL
  generalize roundsT l = t at HL ⊢
  obtain ⟨n, hn⟩ : ∃ n, l.length = n := ⟨_, rfl⟩
  rw [hn] at hm HL ⊢
  have HN := Lib.hid hn
  clear hn
  go_enter Tryd.func12, Tryd.ntmps12
  go_wp2
  go_loopw [3, 5, 9] (fun v _ i wr => ∃ (k : Nat) (ps : List ByteArray) (v0 : Value), v = v0 ∧ k ≤ n ∧ i = .int .i64 k ∧ ps.length = k ∧ Hid (ps = (l.take k).map listB) ∧ wr.ownsRow w.heap.size 9 1 v ps.length (ps.map Value.string) ∧ Below w.heap.size w wr) (fun _ _ i _ => n - (intOf i).toNat)
  case atStart => exact ⟨0, [], _, rfl, Nat.zero_le _, rfl, rfl, rfl, World.ownsRow_lit (base := w.heap.size) (e := 9) (size := 1) w #[] 0 (Nat.le_refl _) (by unfold maxLen; omega) rfl, (Below.refl _ _).alloc (Nat.le_refl _) _⟩
  case round =>
    obtain ⟨k, ps, v, hv0, hk, rfl, hps, HS, hown, hb⟩ := hrel
    replace hv0 := hv0.symm
    subst hv0
    have hbs := hb.size
    by_cases hlt : k < n
    · have hkl : k < l.length := by rw [HN.out]; exact hlt
      obtain ⟨b, o, u, rfl, e0, hI⟩ := H.out k hkl
      have hbl := World.block_lt_of_cell? w _ e0
      obtain ⟨x, hx⟩ : ∃ x, l[k] = x := ⟨_, rfl⟩
      rw [hx] at hI
      have e1 : wr.cell? ⟨b, o + k, none⟩ = some u := by rw [hb.cell (p := ⟨b, o + k, none⟩) hbl]; exact e0
      have hxl := HWF.out x (by rw [← hx]; exact List.getElem_mem hkl)
      have C := Lib.hid (specList u x wr (hI.below hb) hxl.1 hxl.2)
      obtain ⟨ga, gn, gc, rfl⟩ := hI.form
      clear e0 hbl hI hxl
      have HS2 : Hid (ps ++ [listB x] = (l.take (k + 1)).map listB) := by unfold Hid; rw [List.take_succ_eq_append_getElem hkl, List.map_append, HS.out, hx]; rfl
      generalize listB x = f at C HS2
      have i0' : (0 : Int) ≤ (k : Int) := by omega
      have i1 : (k : Int) < (n : Int) := by omega
      clear hx hkl
      go_wp2_with fail
      refine C.out.mono ?_
      rintro e w1 ⟨rfl, hb1⟩
      have hown1 := owns_below hown hb1
      have HB1 := Lib.hid (below_up hb hb1)
      have hbs1 : w.heap.size ≤ w1.heap.size := Nat.le_trans hbs hb1.size
      clear hb1 hown hb
      go_wp2_with (at_builtin; refine wpList_append_own _ rfl _ _ 82 rfl w.heap.size 9 i0 (.string ByteArray.empty) 1 16 Tryd.underlying82 hi hz0 hz1 hz2 rfl (by decide) _ _ _ rfl (hown1.alloc _) ⟨w1.heap.size, 0, none⟩ 1 1 [.string f] rfl rfl (cell_one_str _ _ _) (by simp [Value.oneCell']) (by unfold maxLen; omega) (by omega) (by simp; omega) ?_; intro v' w2 hown' hg1 _)
      have hb2 := Below.grown (HB1.out.alloc hbs1 _) hg1 (by simp; omega) (fun j hj => (hown1.lt j hj).1)
      go_wp2
      go_roundw
      case rel => exact ⟨k + 1, _, _, rfl, by omega, by go_num, by simp; omega, HS2, by simpa using hown', hb2⟩
      case measure => simp [intOf]; omega
    · obtain rfl : k = n := by omega
      have HP : Hid (ps = l.map listB) := by
        have := HS.out
        rw [List.take_of_length_le (by rw [HN.out]; omega)] at this
        exact this
      have S := Lib.hid (StrsAt.of_owns hown)
      have HX : Hid (∀ x ∈ ps, x.size ≤ 33554432) := by
        intro x hx
        rw [HP.out, List.mem_map] at hx
        obtain ⟨y, hy, rfl⟩ := hx
        have h1 := HWF.out y hy
        have h2 := listB_size h1.2
        omega
      obtain ⟨g, cc, hv⟩ : ∃ g cc, v = .slice g k cc := by
        obtain ⟨g, cc, hv, -⟩ := S.out
        exact ⟨g, cc, by rw [hv, hps]⟩
      subst hv
      rcases Nat.eq_zero_or_pos k with h0 | h0
      · have HT : Hid (t = ⟨#[45]⟩) := by unfold Hid; rw [HL.out, if_pos h0]
        subst h0
        clear hown
        go_wp2
        go_ret
        exact ⟨ret_str HT.out.symm, hb⟩
      · have J := Lib.hid (specJoin25 _ ps sepSp wr S.out (by omega) (by decide) HX.out)
        have HT : Hid (t = joinB ps sepSp) := by unfold Hid; rw [HL.out, if_neg (by omega), HP.out]
        generalize joinB ps sepSp = r at J HT
        unfold sepSp at J
        have h1 : ¬ (k : Int) = 0 := by omega
        clear hown
        go_wp2_with fail
        refine J.out.mono ?_
        rintro e w1 ⟨rfl, rfl⟩
        go_wp2
        go_ret
        exact ⟨ret_str HT.out.symm, hb⟩
end Go.Proofs.YtlflblngbneacabDoor

/- The contracts of the model's SplitLine, ReadSets and PoolsLine. Conditions: the slices read as integers that fit Go's int, and are short enough to be counted; so is the text. -/
namespace Go.Proofs.YtlflblngbneacabDoor
open Go.RowKit

theorem join_size22 {ps : List ByteArray} (y : ByteArray) (hy : y.size ≤ 1) (hx : ∀ x ∈ ps, x.size ≤ 22) : ∀ k, k ≤ ps.length → (joinB (ps.take k) y).size ≤ k * 23
  | 0, _ => by rw [List.take_zero, joinB_none]; exact Nat.zero_le _
  | 1, h => by
    rw [joinB_first y h, ByteArray.size_append]
    have := hx _ (List.getElem_mem (show 0 < ps.length by omega))
    have e : (⟨#[]⟩ : ByteArray).size = 0 := rfl
    omega
  | k + 2, h => by
    rw [joinB_next y (k := k + 1) (by omega) (by omega), ByteArray.size_append, ByteArray.size_append]
    have h1 := join_size22 y hy hx (k + 1) (by omega)
    have := hx _ (List.getElem_mem (show k + 1 < ps.length by omega))
    omega
theorem words_size {ps : List ByteArray} (hx : ∀ x ∈ ps, x.size ≤ 22) : (wordsT ps).size ≤ ps.length * 23 + 1 := by
  unfold wordsT
  split
  · show 1 ≤ _; omega
  · have h := join_size22 sepSp (by decide) hx ps.length (Nat.le_refl _)
    rw [List.take_of_length_le (Nat.le_refl _)] at h
    omega
theorem casesT_size (l : List Int) : (casesT l).size ≤ l.length * 23 + 1 := by
  have h := words_size (ps := l.map txtB) (fun x hx => by
    rw [List.mem_map] at hx
    obtain ⟨y, _, rfl⟩ := hx
    exact txtB_size y)
  rwa [List.length_map] at h
theorem setsT_size (l : List Int) : (setsT l).size ≤ l.length * 23 + 1 := by
  have h := words_size (ps := l.map setT) (fun x hx => by
    rw [List.mem_map] at hx
    obtain ⟨y, _, rfl⟩ := hx
    exact Nat.le_trans (setT_size y) (by omega))
  rwa [List.length_map] at h
theorem weighT_size {L R : List Int} (ml : L.length ≤ 1048576) (mr : R.length ≤ 1048576) : (weighT L R).size ≤ 50000000 := by
  unfold weighT
  split
  · rename_i h
    have hw := weigh_in h
    have h1 := listB_size (l := L) fun x hx => by have := hw.1 x hx; omega
    have h2 := listB_size (l := R) fun x hx => by have := hw.2 x hx; omega
    rw [ByteArray.size_append, ByteArray.size_append]
    have e : (⟨#[58]⟩ : ByteArray).size = 1 := rfl
    omega
  · show 0 ≤ 50000000; omega

/-- The text of a weighing and of the cases after each of its outcomes. -/
def splitT (L R l : List Int) : ByteArray :=
  if (weighT L R).toList.isEmpty = true then ⟨#[110, 111, 110, 101]⟩
  else (((((weighT L R ++ ⟨#[32, 124, 32]⟩) ++ casesT (lessL (outI L R) l)) ++ ⟨#[32, 124, 32]⟩) ++ casesT (evenL (outI L R) l)) ++ ⟨#[32, 124, 32]⟩) ++ casesT (moreL (outI L R) l)

/-- The sets of a text, and whether it is one of sets. -/
def setsB (t : ByteArray) : Bool := (parts t (isBy sepSp)).all readB
def setsL (t : ByteArray) : List Int := if setsB t = true then (parts t (isBy sepSp)).map readV else []
def GivesQ (L : List Int) (b : Bool) (w : World) (e : Ending) (w' : World) : Prop := ∃ u, e = .returned (.tuple #[u, .bool b]) ∧ Own w' w.heap.size u L ∧ Below w.heap.size w w'

end Go.Proofs.YtlflblngbneacabDoor

/- The contract of the model's PoolsLine. Condition: the slice reads as integers and is short enough to be counted. -/
namespace Go.Proofs.YtlflblngbneacabDoor
open Go.RowKit

/-- The greatest number up to k of bad items that the pools separate. -/
def sepK (n : Int) (P : List Int) : Nat → Nat
  | 0 => 0
  | k + 1 => if sepR n P ((k + 1 : Nat) : Int) = true then k + 1 else sepK n P k
theorem sepK_le (n : Int) (P : List Int) : ∀ k, sepK n P k ≤ k
  | 0 => Nat.le_refl _
  | k + 1 => by
    have := sepK_le n P k
    unfold sepK
    split <;> omega
def poolsT (n : Int) (P : List Int) : ByteArray := if poolsB n P = true then (((setsT P ++ ⟨#[32, 115, 101, 112, 97, 114, 97, 116, 101, 115, 32]⟩) ++ fmtB (sepK n P 3 : Int)) ++ ⟨#[32, 115, 117, 109, 115, 32]⟩) ++ fmtB (tellI n P) else ⟨#[]⟩

end Go.Proofs.YtlflblngbneacabDoor
