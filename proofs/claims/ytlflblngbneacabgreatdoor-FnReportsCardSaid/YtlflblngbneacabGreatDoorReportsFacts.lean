/- What FnReports asks of the texts: plain facts. -/
import Derived.Test.YtlflblngbneacabGreatDoorRepLaws
import Derived.Test.YtlflblngbneacabGreatDoorRepLaws2
import Derived.Test.YtlflblngbneacabGreatDoorGWd
namespace Go.Proofs.YtlflblngbneacabGreatDoor
open Go.RowKit

theorem rep_list4 (s : SD) : listB s.list = (((((fmtB s.b ++ ⟨#[44]⟩) ++ fmtB s.h) ++ ⟨#[44]⟩) ++ fmtB s.l) ++ ⟨#[44]⟩) ++ fmtB s.g := by
  apply ByteArray.ext
  apply Array.ext'
  unfold listB joinB SD.list comma
  simp [Lib.join, List.intercalate, ByteArray.data_append]
theorem rep_sets : setsB ⟨#[45, 32, 48, 32, 49, 51]⟩ = true ∧ setsL ⟨#[45, 32, 48, 32, 49, 51]⟩ = [0, 1, 10] := by decide +kernel
theorem rep_setsT : ((setsT [0, 1, 10]).toList == [45, 32, 48, 32, 49, 51]) = true := by
  rw [ByteArray.toList_eq]
  decide +kernel
theorem rep_rounds : ((roundsT [[0, 2], [1]]).toList == [48, 44, 50, 32, 49]) = true := by
  rw [ByteArray.toList_eq]
  decide +kernel
theorem rep_pick : ((listB (PD.list ⟨0, 0, 1, 1, 0, 0, 0, 0⟩)).toList == [48, 44, 48, 44, 49, 44, 49, 44, 48, 44, 48, 44, 48, 44, 48]) = true := by
  rw [ByteArray.toList_eq]
  decide +kernel
end Go.Proofs.YtlflblngbneacabGreatDoor
