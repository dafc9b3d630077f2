/- The contract of the model's FormatWeighing: it returns the text of the weighing. Conditions: the sides read as integers that fit Go's int, and are short enough to be counted. -/
import Derived.Test.YtlflblngbneacabGreatDoorGWei
import Derived.Test.YtlflblngbneacabGreatDoorFmt
import Derived.Test.YtlflblngbneacabGreatDoorJoinSpec
namespace Go.Proofs.YtlflblngbneacabGreatDoor
open Go.RowKit

def comma : ByteArray := ⟨#[44]⟩
/-- The numbers of a list, separated by commas. -/
def listB (l : List Int) : ByteArray := joinB (l.map fmtB) comma
/-- The text of a weighing. -/
def weighT (L R : List Int) : ByteArray := if weighB L R 13 = true then (listB L ++ ⟨#[58]⟩) ++ listB R else ⟨#[]⟩

theorem infoStrF : (Tryz.prog.info? 9).map (fun i => (i.zero, i.size, i.bytes)) = some (some (.string ByteArray.empty), 1, 16) := by kernel_rfl

theorem fmtW_size (n : Int) (h0 : -9223372036854775808 ≤ n) (h1 : n ≤ 9223372036854775807) : (fmtB n).size ≤ 21 := Lib.itoa_length_le n (by omega) h1

theorem join_size {ps : List ByteArray} (y : ByteArray) (hy : y.size ≤ 1) (hx : ∀ x ∈ ps, x.size ≤ 21) : ∀ k, k ≤ ps.length → (joinB (ps.take k) y).size ≤ k * 22
  | 0, _ => by rw [List.take_zero, joinB_none]; exact Nat.zero_le _
  | 1, h => by
    rw [joinB_first y h, ByteArray.size_append]
    have := hx _ (List.getElem_mem (show 0 < ps.length by omega))
    have e : (⟨#[]⟩ : ByteArray).size = 0 := rfl
    omega
  | k + 2, h => by
    rw [joinB_next y (k := k + 1) (by omega) (by omega), ByteArray.size_append, ByteArray.size_append]
    have h1 := join_size y hy hx (k + 1) (by omega)
    have := hx _ (List.getElem_mem (show k + 1 < ps.length by omega))
    omega
theorem listB_size {l : List Int} (hw : ∀ x ∈ l, -9223372036854775808 ≤ x ∧ x ≤ 9223372036854775807) : (listB l).size ≤ l.length * 22 := by
  have h := join_size (ps := l.map fmtB) comma (by decide) (fun x hx => by
    rw [List.mem_map] at hx
    obtain ⟨y, hy, rfl⟩ := hx
    exact fmtW_size y (hw y hy).1 (hw y hy).2) l.length (by simp)
  rwa [List.take_of_length_le (by simp)] at h

theorem side_in {l : List Int} {n : Int} (h : sideB l n = true) : ∀ x ∈ l, 1 ≤ x ∧ x ≤ n := by
  unfold sideB ascB at h
  simp only [Bool.and_eq_true, decide_eq_true_eq, List.all_eq_true] at h
  exact h.1.2
theorem weigh_in {L R : List Int} {n : Int} (h : weighB L R n = true) : (∀ x ∈ L, 1 ≤ x ∧ x ≤ 13) ∧ (∀ x ∈ R, 1 ≤ x ∧ x ≤ 13) := by
  unfold weighB at h
  simp only [Bool.and_eq_true, decide_eq_true_eq] at h
  obtain ⟨⟨⟨⟨⟨_, hn⟩, h1⟩, h2⟩, _⟩, _⟩ := h
  exact ⟨fun x hx => by have := side_in h1 x hx; omega, fun x hx => by have := side_in h2 x hx; omega⟩

end Go.Proofs.YtlflblngbneacabGreatDoor
