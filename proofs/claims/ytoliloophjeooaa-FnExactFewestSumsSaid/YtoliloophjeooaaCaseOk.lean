/- The contracts of the program's method 'in' and of CaseOk: each returns whether the number is a case of the problem. Condition: a case that fits Go's int. -/
import Derived.Test.YtoliloophjeooaaGBase
namespace Go.Proofs.Ytoliloophjeooaa
open Go.RowKit

theorem coinI_cases {n c : Int} {h l z : Bool} (hp : probB n h l = true) (hi : inB c = true) (hg : decide (n < coinI c) = false) : caseB n h l z c = (if kindI c = 1 then h else if kindI c = 2 then l else z) := by
  have hg' : ¬ n < coinI c := by simpa using hg
  unfold coinI at hg'
  rw [if_pos hi] at hg'
  unfold caseB kindI
  rw [hp, Bool.true_and]
  rcases Int.lt_trichotomy c 0 with hc | hc | hc
  · rw [if_neg (by omega), if_pos hc, if_neg (by omega), if_pos hc]
    rw [if_pos hc] at hg'
    have h1 : decide (-n ≤ c) = true := decide_eq_true (by omega)
    rw [h1, Bool.and_true]; simp; omega
  · subst hc; simp
  · rw [if_pos hc, if_pos hc]
    rw [if_neg (by omega)] at hg'
    have h1 : decide (c ≤ n) = true := decide_eq_true (by omega)
    rw [h1, Bool.and_true, if_pos rfl]

theorem coinI_out {n c : Int} {h l z : Bool} (hp : probB n h l = true) (hg : decide (n < coinI c) = true) : caseB n h l z c = false := by
  have hg' : n < coinI c := by simpa using hg
  have hb := probB_bounds hp
  unfold coinI at hg'
  unfold caseB
  rw [hp, Bool.true_and]
  split at hg'
  · rcases Int.lt_trichotomy c 0 with hc | hc | hc
    · rw [if_neg (by omega), if_pos hc]
      rw [if_pos hc] at hg'
      simp
      omega
    · subst hc
      simp at hg'
      omega
    · rw [if_pos hc]
      rw [if_neg (by omega)] at hg'
      simp
      omega
  · omega

theorem inB_out {n c : Int} {h l z : Bool} (hp : probB n h l = true) (hi : inB c = false) : caseB n h l z c = false := by
  have hb := probB_bounds hp
  have hc : c < -13 ∨ 13 < c := by simp [inB] at hi; omega
  unfold caseB
  rw [hp, Bool.true_and]
  rcases hc with hc | hc
  · rw [if_neg (by omega), if_pos (by omega)]; simp; omega
  · rw [if_pos (by omega)]; simp; omega

end Go.Proofs.Ytoliloophjeooaa
