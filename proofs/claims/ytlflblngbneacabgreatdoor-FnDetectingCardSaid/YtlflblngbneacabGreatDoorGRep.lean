/- Several texts in one file; each says what it proves and under which condition. No condition. -/
import Derived.Test.YtlflblngbneacabGreatDoorGPool
import Derived.Test.YtlflblngbneacabGreatDoorFmtWeighSpec
import Derived.Test.YtlflblngbneacabGreatDoorCaseText
import Derived.Test.YtlflblngbneacabGreatDoorGSet
import Derived.Test.YtlflblngbneacabGreatDoorGWd
import Derived.Test.YtlflblngbneacabGreatDoorSplitBySpec
import Derived.Test.YtlflblngbneacabGreatDoorSplitUniq
import Derived.Test.YtlflblngbneacabGreatDoorGDis
import Derived.Test.YtlflblngbneacabGreatDoorGSum
/- The texts of reports, plainly: cases, sets and rounds. No condition. -/
namespace Go.Proofs.YtlflblngbneacabGreatDoor
open Go.RowKit

/-- The texts of a list, separated by spaces, or '-'. -/
def wordsT (l : List ByteArray) : ByteArray := if l.length = 0 then ⟨#[45]⟩ else joinB l sepSp
theorem txtB_size (c : Int) : (txtB c).size ≤ 22 := by
  unfold txtB
  split
  · rename_i h
    have hb := inB_bounds h
    split
    · rw [ByteArray.size_append]
      have h1 := fmtW_size c (by omega) (by omega)
      have e : (⟨#[43]⟩ : ByteArray).size = 1 := rfl
      omega
    · split
      · rw [ByteArray.size_append]
        have h1 := fmtW_size (-c) (by omega) (by omega)
        have e : (⟨#[45]⟩ : ByteArray).size = 1 := rfl
        omega
      · show 4 ≤ 22; omega
  · show 0 ≤ 22; omega
theorem setT_size (s : Int) : (setT s).size ≤ 10 := by
  unfold setT
  split
  · split
    · show 1 ≤ 10; omega
    · exact setC_size s 10
  · show 0 ≤ 10; omega
def casesT (l : List Int) : ByteArray := wordsT (l.map txtB)
def setsT (l : List Int) : ByteArray := wordsT (l.map setT)
def roundsT (S : List (List Int)) : ByteArray := wordsT (S.map listB)

end Go.Proofs.YtlflblngbneacabGreatDoor

/- The contracts of the model's FormatCases, FormatSets and RoundsLine. Conditions: the slice reads as integers (as lists of integers) that fit Go's int, and is short enough to be counted. -/
namespace Go.Proofs.YtlflblngbneacabGreatDoor
open Go.RowKit

end Go.Proofs.YtlflblngbneacabGreatDoor

/- The contracts of the model's SplitLine, ReadSets and PoolsLine. Conditions: the slices read as integers that fit Go's int, and are short enough to be counted; so is the text. -/
namespace Go.Proofs.YtlflblngbneacabGreatDoor
open Go.RowKit

theorem join_size22 {ps : List ByteArray} (y : ByteArray) (hy : y.size ≤ 1) (hx : ∀ x ∈ ps, x.size ≤ 22) : ∀ k, k ≤ ps.length → (joinB (ps.take k) y).size ≤ k * 23
  | 0, _ => by rw [List.take_zero, joinB_none]; exact Nat.zero_le _
  | 1, h => by
    rw [joinB_first y h, ByteArray.size_append]
    have := hx _ (List.getElem_mem (show 0 < ps.length by omega))
    have e : (⟨#[]⟩ : ByteArray).size = 0 := rfl
    omega
  | k + 2, h => by
    rw [joinB_next y (k := k + 1) (by omega) (by omega), ByteArray.size_append, ByteArray.size_append]
    have h1 := join_size22 y hy hx (k + 1) (by omega)
    have := hx _ (List.getElem_mem (show k + 1 < ps.length by omega))
    omega
theorem words_size {ps : List ByteArray} (hx : ∀ x ∈ ps, x.size ≤ 22) : (wordsT ps).size ≤ ps.length * 23 + 1 := by
  unfold wordsT
  split
  · show 1 ≤ _; omega
  · have h := join_size22 sepSp (by decide) hx ps.length (Nat.le_refl _)
    rw [List.take_of_length_le (Nat.le_refl _)] at h
    omega
theorem casesT_size (l : List Int) : (casesT l).size ≤ l.length * 23 + 1 := by
  have h := words_size (ps := l.map txtB) (fun x hx => by
    rw [List.mem_map] at hx
    obtain ⟨y, _, rfl⟩ := hx
    exact txtB_size y)
  rwa [List.length_map] at h
theorem setsT_size (l : List Int) : (setsT l).size ≤ l.length * 23 + 1 := by
  have h := words_size (ps := l.map setT) (fun x hx => by
    rw [List.mem_map] at hx
    obtain ⟨y, _, rfl⟩ := hx
    exact Nat.le_trans (setT_size y) (by omega))
  rwa [List.length_map] at h
theorem weighT_size {L R : List Int} (ml : L.length ≤ 1048576) (mr : R.length ≤ 1048576) : (weighT L R).size ≤ 50000000 := by
  unfold weighT
  split
  · rename_i h
    have hw := weigh_in h
    have h1 := listB_size (l := L) fun x hx => by have := hw.1 x hx; omega
    have h2 := listB_size (l := R) fun x hx => by have := hw.2 x hx; omega
    rw [ByteArray.size_append, ByteArray.size_append]
    have e : (⟨#[58]⟩ : ByteArray).size = 1 := rfl
    omega
  · show 0 ≤ 50000000; omega

/-- The text of a weighing and of the cases after each of its outcomes. -/
def splitT (L R l : List Int) : ByteArray :=
  if (weighT L R).toList.isEmpty = true then ⟨#[110, 111, 110, 101]⟩
  else (((((weighT L R ++ ⟨#[32, 124, 32]⟩) ++ casesT (lessL (outI L R) l)) ++ ⟨#[32, 124, 32]⟩) ++ casesT (evenL (outI L R) l)) ++ ⟨#[32, 124, 32]⟩) ++ casesT (moreL (outI L R) l)

/-- The sets of a text, and whether it is one of sets. -/
def setsB (t : ByteArray) : Bool := (parts t (isBy sepSp)).all readB
def setsL (t : ByteArray) : List Int := if setsB t = true then (parts t (isBy sepSp)).map readV else []
def GivesQ (L : List Int) (b : Bool) (w : World) (e : Ending) (w' : World) : Prop := ∃ u, e = .returned (.tuple #[u, .bool b]) ∧ Own w' w.heap.size u L ∧ Below w.heap.size w w'

end Go.Proofs.YtlflblngbneacabGreatDoor

/- The contract of the model's PoolsLine. Condition: the slice reads as integers and is short enough to be counted. -/
namespace Go.Proofs.YtlflblngbneacabGreatDoor
open Go.RowKit

/-- The greatest number up to k of bad items that the pools separate. -/
def sepK (n : Int) (P : List Int) : Nat → Nat
  | 0 => 0
  | k + 1 => if sepR n P ((k + 1 : Nat) : Int) = true then k + 1 else sepK n P k
theorem sepK_le (n : Int) (P : List Int) : ∀ k, sepK n P k ≤ k
  | 0 => Nat.le_refl _
  | k + 1 => by
    have := sepK_le n P k
    unfold sepK
    split <;> omega
def poolsT (n : Int) (P : List Int) : ByteArray := if poolsB n P = true then (((setsT P ++ ⟨#[32, 115, 101, 112, 97, 114, 97, 116, 101, 115, 32]⟩) ++ fmtB (sepK n P 3 : Int)) ++ ⟨#[32, 115, 117, 109, 115, 32]⟩) ++ fmtB (tellI n P) else ⟨#[]⟩

end Go.Proofs.YtlflblngbneacabGreatDoor
