/- What FnSplits asks of the three parts of a list and of their line: plain facts. -/
import Derived.Test.YtlflblngbneacabDoorGWei
import Derived.Test.YtlflblngbneacabDoorSplitBySpec
import Derived.Test.YtlflblngbneacabDoorGRep
namespace Go.Proofs.YtlflblngbneacabDoor
open Go.RowKit

theorem parts_sum (f : Int → Int) : ∀ l : List Int, (lessL f l).length + (evenL f l).length + (moreL f l).length = l.length
  | [] => rfl
  | x :: r => by
    have ih := parts_sum f r
    unfold lessL evenL moreL at ih ⊢
    simp only [List.filter_cons, List.length_cons]
    by_cases h1 : f x = -1
    · rw [h1]; simp; omega
    · by_cases h2 : f x = 0
      · rw [h2]; simp; omega
      · have e1 : (f x == -1) = false := by simpa using h1
        have e2 : (f x == 0) = false := by simpa using h2
        rw [e1, e2]; simp; omega
theorem parts_less {f : Int → Int} {l : List Int} {x : Int} (h : x ∈ l) : hasI (lessL f l) x = (f x == -1) := by
  rw [Bool.eq_iff_iff, hasI_mem]
  unfold lessL
  rw [List.mem_filter]
  exact ⟨fun h => h.2, fun h1 => ⟨h, h1⟩⟩
theorem parts_even {f : Int → Int} {l : List Int} {x : Int} (h : x ∈ l) : hasI (evenL f l) x = (f x == 0) := by
  rw [Bool.eq_iff_iff, hasI_mem]
  unfold evenL
  rw [List.mem_filter]
  exact ⟨fun h => h.2, fun h1 => ⟨h, h1⟩⟩
theorem parts_more {f : Int → Int} {l : List Int} {x : Int} (h : x ∈ l) : hasI (moreL f l) x = (!(f x == -1) && !(f x == 0)) := by
  rw [Bool.eq_iff_iff, hasI_mem]
  unfold moreL
  rw [List.mem_filter]
  exact ⟨fun h => h.2, fun h1 => ⟨h, h1⟩⟩
theorem split_some {L R l : List Int} (h : weighB L R 13 = true) : ((splitT L R l).toList == [110, 111, 110, 101]) = false := by
  have hw : (32 : UInt8) ∈ (splitT L R l).data.toList ∨ splitT L R l = ⟨#[110, 111, 110, 101]⟩ ∧ (weighT L R).toList.isEmpty = true := by
    unfold splitT
    split
    · rename_i e
      exact .inr ⟨rfl, e⟩
    · exact .inl (by simp [ByteArray.data_append])
  have hn : (weighT L R).toList.isEmpty = false := by
    unfold weighT
    rw [if_pos h, ByteArray.toList_eq]
    simp [ByteArray.data_append]
  rcases hw with hw | ⟨-, e⟩
  · rw [ByteArray.toList_eq]
    cases he : ((splitT L R l).data.toList == [110, 111, 110, 101]) with
    | false => rfl
    | true =>
      rw [eq_of_beq he] at hw
      simp at hw
  · rw [hn] at e
    cases e
end Go.Proofs.YtlflblngbneacabDoor
