/- What FnCases asks of the cases: plain facts. Condition: a problem of two to eight coins. -/
import Derived.Test.YtlflblngbneacabDoorCasesOf
import Derived.Test.YtlflblngbneacabDoorGRep
namespace Go.Proofs.YtlflblngbneacabDoor
open Go.RowKit

def casesAll (n : Nat) (h l z : Bool) : Bool :=
  ((casesL (n : Int) h l z).all fun c => caseB (n : Int) h l z c && (decide (coinI c = if c < 0 then -c else c) && (decide (-13 ≤ c) && decide (c ≤ 13)))) &&
  (decide ((casesL (n : Int) h l z).Pairwise (· < ·)) &&
  (decide (((casesL (n : Int) h l z).length : Int) = (if h = true then (n : Int) else 0) + (if l = true then (n : Int) else 0) + (if z = true then 1 else 0)) &&
  (!caseB (n : Int) h l z ((n : Int) + 1) && !((casesT (casesL (n : Int) h l z)).data.toList == [45]))))
theorem cases_check : ∀ n : Nat, n ≤ 8 → 2 ≤ n → ∀ h l z : Bool, (h || l) = true → casesAll n h l z = true := by decide +kernel

theorem cases_facts {n : Int} {h l z : Bool} (hp : probB n h l = true) (h2 : 2 ≤ n) (h8 : n ≤ 8) :
    (∀ c ∈ casesL n h l z, caseB n h l z c = true ∧ coinI c = (if c < 0 then -c else c) ∧ -13 ≤ c ∧ c ≤ 13) ∧ (casesL n h l z).Pairwise (· < ·) ∧
    ((casesL n h l z).length : Int) = (if h = true then n else 0) + (if l = true then n else 0) + (if z = true then 1 else 0) ∧
    caseB n h l z (n + 1) = false ∧ ((casesT (casesL n h l z)).toList == [45]) = false := by
  obtain ⟨m, rfl⟩ := Int.eq_ofNat_of_zero_le (show 0 ≤ n by omega)
  have hl : (h || l) = true := by
    unfold probB at hp
    simp only [Bool.and_eq_true] at hp
    exact hp.2
  have hc := cases_check m (by omega) (by omega) h l z hl
  unfold casesAll at hc
  simp only [Bool.and_eq_true, List.all_eq_true, decide_eq_true_eq, Bool.not_eq_true'] at hc
  obtain ⟨h1, h2, h3, h4, h5⟩ := hc
  refine ⟨fun c hc => ?_, h2, h3, h4, ?_⟩
  · obtain ⟨g1, g2, g3, g4⟩ := h1 c hc
    exact ⟨g1, g2, g3, g4⟩
  · rw [ByteArray.toList_eq]
    exact h5
end Go.Proofs.YtlflblngbneacabDoor
