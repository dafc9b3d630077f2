/- Plain facts: a weighing that is valid for fewer coins is valid for all, and then the outcome is the plain one. No condition. -/
import Derived.Test.YtipbjioghicmlaaPlanFacts
namespace Go.Proofs.Ytipbjioghicmlaa
open Go.RowKit

theorem asc_up {l : List Int} {m : Int} (h : ascB l m = true) (hm : m ≤ 13) : ascB l 13 = true := by
  simp only [ascB, Bool.and_eq_true, decide_eq_true_eq, List.all_eq_true] at h ⊢
  exact ⟨h.1, fun x hx => by have := h.2 x hx; omega⟩
theorem weigh_up {L R : List Int} {m : Int} (h : weighB L R m = true) : weighB L R 13 = true := by
  simp only [weighB, sideB, Bool.and_eq_true, decide_eq_true_eq] at h ⊢
  obtain ⟨⟨⟨⟨⟨h1, h2⟩, h3, h4⟩, h5, h6⟩, h7⟩, h8⟩ := h
  exact ⟨⟨⟨⟨⟨by omega, by omega⟩, asc_up h3 h2, h4⟩, asc_up h5 h2, h6⟩, h7⟩, h8⟩
theorem asc_no0 {l : List Int} {n : Int} (h : ascB l n = true) : hasI l 0 = false := by
  simp only [ascB, Bool.and_eq_true, List.all_eq_true, decide_eq_true_eq] at h
  cases hh : hasI l 0 with
  | false => rfl
  | true => have := h.2 0 (hasI_mem.1 hh); omega
theorem outI_valid13 {L R : List Int} (h : weighB L R 13 = true) (c : Int) : outI L R c = outcI L R c := by
  unfold outI
  cases hi : inB c with
  | true => rw [h]; rfl
  | false =>
    simp only [weighB, sideB, Bool.and_eq_true] at h
    have h1 := asc_no0 h.1.1.1.2.1
    have h2 := asc_no0 h.1.1.2.1
    have hq : coinI c = 0 := by unfold coinI; rw [hi]; rfl
    unfold outcI
    rw [hq, h1, h2]
    simp
end Go.Proofs.Ytipbjioghicmlaa
