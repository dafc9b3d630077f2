/- Facts on the cases of a problem. No condition. -/
import Derived.Test.YtlflblngbneacabGreatDoorCasesOf
namespace Go.Proofs.YtlflblngbneacabGreatDoor
open Go.RowKit

theorem cases_in {n : Int} {h l z : Bool} {x : Int} (hx : x ∈ casesL n h l z) : -13 ≤ x ∧ x ≤ 13 := by
  unfold casesL casesIn at hx
  rw [List.mem_filter] at hx
  have := seg_mem hx.1
  omega
theorem cases_len (n : Int) (h l z : Bool) : (casesL n h l z).length ≤ 27 := casesIn_len _ _ _
theorem IntsAt.of_lists {w : World} {B : Nat} {v : Value} {L : List Int} (h : w.ownsRow B 3 1 v L.length (L.map (Value.int .i64))) : IntsAt w v L := IntsAt.of_owns h

theorem row_cap {w : World} {B e n : Nat} {v : Value} {xs : List Value} (h : w.ownsRow B e 1 v n xs) : ∀ a m c, v = .slice a m c → n ≤ c := by
  intro a m c hv
  rcases h.2 with ⟨h1, h2⟩ | ⟨g, cap, cur, h1, _, _, h2, _⟩
  · omega
  · rw [h1] at hv; cases hv; exact h2

theorem cases_near {n : Int} {h l z : Bool} {c : Int} (hc : c ∈ casesL n h l z) : caseB n h l z c = true ∧ -13 ≤ c ∧ c ≤ 13 := by
  unfold casesL casesIn at hc
  rw [List.mem_filter] at hc
  have := seg_mem hc.1
  exact ⟨hc.2, by omega⟩
theorem cases_coins {n : Int} {h l z : Bool} {c : Int} (hc : c ∈ casesL n h l z) : -n ≤ c ∧ c ≤ n := by
  have h1 := (cases_near hc).1
  unfold caseB at h1
  rw [Bool.and_eq_true] at h1
  have hb := probB_bounds h1.1
  have h2 := h1.2
  split at h2
  · simp only [Bool.and_eq_true, decide_eq_true_eq] at h2; omega
  · split at h2
    · simp only [Bool.and_eq_true, decide_eq_true_eq] at h2; omega
    · omega
theorem cases_some {n : Int} {h l z : Bool} (hp : probB n h l = true) : casesL n h l z ≠ [] := by
  have hb := probB_bounds hp
  have hx : ∃ c, c ∈ casesL n h l z := by
    unfold casesL casesIn seg
    simp only [probB, Bool.and_eq_true, Bool.or_eq_true] at hp
    rcases hp.2 with e | e
    · refine ⟨1, List.mem_filter.2 ⟨List.mem_map.2 ⟨14, by simp, rfl⟩, ?_⟩⟩
      unfold caseB probB
      simp [e, hb.1, hb.2]
    · refine ⟨-1, List.mem_filter.2 ⟨List.mem_map.2 ⟨12, by simp, rfl⟩, ?_⟩⟩
      unfold caseB probB
      simp [e, hb.1, hb.2]
  obtain ⟨c, hc⟩ := hx
  intro e
  rw [e] at hc
  cases hc
theorem cases_nodup (n : Int) (h l z : Bool) : (casesL n h l z).Nodup := by
  unfold casesL casesIn
  refine List.Pairwise.filter _ ?_
  unfold seg
  rw [List.pairwise_map]
  refine List.Pairwise.imp ?_ (List.nodup_range (n := 27))
  intro a b hab e
  omega
end Go.Proofs.YtlflblngbneacabGreatDoor
