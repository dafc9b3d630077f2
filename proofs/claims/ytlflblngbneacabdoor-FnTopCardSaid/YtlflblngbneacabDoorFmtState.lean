/- The contracts of the program's FormatState and FormatPick: the numbers, separated by commas. Conditions: numbers that fit Go's int; strconv's table is as the program's text lays it. -/
import Derived.Test.YtlflblngbneacabDoorRepState
import Derived.Test.YtlflblngbneacabDoorGJn
namespace Go.Proofs.YtlflblngbneacabDoor
open Go.RowKit

set_option maxRecDepth 100000 in
set_option maxHeartbeats 1600000 in
theorem implFormatState (s : SD) (hs : Fit s.list) (w : World) (ht : TabOk w) : Calls Tryd.prog 34 #[stateV s] w fun e w' => e = .returned (.string (listB s.list)) ∧ Below w.heap.size w w' := by
  have C := Lib.hid (fun W h ht => implNumbersText (.slice (some ⟨w.heap.size + 1, 0, none⟩) 4 4) s.list W h (by simp [SD.list]) ht hs)
  have b0 := alloc_below w (.cells #[.int .i64 s.b, .int .i64 s.h, .int .i64 s.l, .int .i64 s.g] 49)
  have P0 := StateAt.new w 49 s
  have s0 : (w.alloc (.cells #[.int .i64 s.b, .int .i64 s.h, .int .i64 s.l, .int .i64 s.g] 49)).heap.size = w.heap.size + 1 := by simp
  generalize hX : w.alloc (.cells #[.int .i64 s.b, .int .i64 s.h, .int .i64 s.l, .int .i64 s.g] 49) = X at b0 P0 s0
  have R0 : Hid (IntsAt (X.alloc (.cells #[.int .i64 s.b, .int .i64 s.h, .int .i64 s.l, .int .i64 s.g] 3)) (.slice (some ⟨w.heap.size + 1, 0, none⟩) 4 4) s.list) := by
    have h := World.ownsRow_lit (base := X.heap.size) (e := 3) (size := 1) X #[.int .i64 s.b, .int .i64 s.h, .int .i64 s.l, .int .i64 s.g] 4 (Nat.le_refl _) (by unfold maxLen; omega) rfl
    rw [s0] at h
    exact IntsAt.of_owns_n (l := s.list) h rfl
  have B0 := Lib.hid (below_up b0 (alloc_below X (.cells #[.int .i64 s.b, .int .i64 s.h, .int .i64 s.l, .int .i64 s.g] 3)))
  have HT := Lib.hid ht
  obtain ⟨e0, e1, e2, e3, -⟩ := P0
  unfold stateV
  generalize listB s.list = r at C ⊢
  clear b0 ht
  go_enter Tryd.func34, Tryd.ntmps34
  go_wp2_with fail
  refine (C.out _ R0.out (HT.out.below B0.out)).mono ?_
  rintro e w1 ⟨rfl, bb⟩
  have B1 := Lib.hid (below_up B0.out bb)
  clear bb
  go_wp2
  go_ret
  exact ⟨rfl, B1.out⟩

end Go.Proofs.YtlflblngbneacabDoor
