/- The contracts of the program's FormatState and FormatPick: the numbers, separated by commas. Conditions: numbers that fit Go's int; strconv's table is as the program's text lays it. -/
import Derived.Test.YtlflblngbneacabGreatDoorRepState
import Derived.Test.YtlflblngbneacabGreatDoorGJn
namespace Go.Proofs.YtlflblngbneacabGreatDoor
open Go.RowKit

set_option maxRecDepth 100000 in
set_option maxHeartbeats 1600000 in
theorem implFormatState (s : SD) (hs : Fit s.list) (w : World) (ht : TabOk w) : Calls Tryz.prog 32 #[stateV s] w fun e w' => e = .returned (.string (listB s.list)) ∧ Below w.heap.size w w' := by
  have C := Lib.hid (fun W h ht => implNumbersText (.slice (some ⟨w.heap.size + 1, 0, none⟩) 4 4) s.list W h (by simp [SD.list]) ht hs)
  have b0 := alloc_below w (.cells #[.int .i64 s.b, .int .i64 s.h, .int .i64 s.l, .int .i64 s.g] 56)
  have P0 := StateAt.new w 56 s
  have s0 : (w.alloc (.cells #[.int .i64 s.b, .int .i64 s.h, .int .i64 s.l, .int .i64 s.g] 56)).heap.size = w.heap.size + 1 := by simp
  generalize hX : w.alloc (.cells #[.int .i64 s.b, .int .i64 s.h, .int .i64 s.l, .int .i64 s.g] 56) = X at b0 P0 s0
  have R0 : Hid (IntsAt (X.alloc (.cells #[.int .i64 s.b, .int .i64 s.h, .int .i64 s.l, .int .i64 s.g] 3)) (.slice (some ⟨w.heap.size + 1, 0, none⟩) 4 4) s.list) := by
    have h := World.ownsRow_lit (base := X.heap.size) (e := 3) (size := 1) X #[.int .i64 s.b, .int .i64 s.h, .int .i64 s.l, .int .i64 s.g] 4 (Nat.le_refl _) (by unfold maxLen; omega) rfl
    rw [s0] at h
    exact IntsAt.of_owns_n (l := s.list) h rfl
  have B0 := Lib.hid (below_up b0 (alloc_below X (.cells #[.int .i64 s.b, .int .i64 s.h, .int .i64 s.l, .int .i64 s.g] 3)))
  have HT := Lib.hid ht
  obtain ⟨e0, e1, e2, e3, -⟩ := P0
  unfold stateV
  generalize listB s.list = r at C ⊢
  clear b0 ht
  go_enter Tryz.func32, Tryz.ntmps32
  go_wp2_with fail
  refine (C.out _ R0.out (HT.out.below B0.out)).mono ?_
  rintro e w1 ⟨rfl, bb⟩
  have B1 := Lib.hid (below_up B0.out bb)
  clear bb
  go_wp2
  go_ret
  exact ⟨rfl, B1.out⟩

set_option maxRecDepth 100000 in
set_option maxHeartbeats 1600000 in
theorem implFormatPick (p : PD) (hs : Fit p.list) (w : World) (ht : TabOk w) : Calls Tryz.prog 38 #[pickV p] w fun e w' => e = .returned (.string (listB p.list)) ∧ Below w.heap.size w w' := by
  have C := Lib.hid (fun W h ht => implNumbersText (.slice (some ⟨w.heap.size + 1, 0, none⟩) 8 8) p.list W h (by simp [PD.list]) ht hs)
  have b0 := alloc_below w (.cells #[.int .i64 p.bl, .int .i64 p.br, .int .i64 p.hl, .int .i64 p.hr, .int .i64 p.ll, .int .i64 p.lr, .int .i64 p.gl, .int .i64 p.gr] 64)
  have P0 := PickAt.new w 64 p
  have s0 : (w.alloc (.cells #[.int .i64 p.bl, .int .i64 p.br, .int .i64 p.hl, .int .i64 p.hr, .int .i64 p.ll, .int .i64 p.lr, .int .i64 p.gl, .int .i64 p.gr] 64)).heap.size = w.heap.size + 1 := by simp
  generalize hX : w.alloc (.cells #[.int .i64 p.bl, .int .i64 p.br, .int .i64 p.hl, .int .i64 p.hr, .int .i64 p.ll, .int .i64 p.lr, .int .i64 p.gl, .int .i64 p.gr] 64) = X at b0 P0 s0
  have R0 : Hid (IntsAt (X.alloc (.cells #[.int .i64 p.bl, .int .i64 p.br, .int .i64 p.hl, .int .i64 p.hr, .int .i64 p.ll, .int .i64 p.lr, .int .i64 p.gl, .int .i64 p.gr] 3)) (.slice (some ⟨w.heap.size + 1, 0, none⟩) 8 8) p.list) := by
    have h := World.ownsRow_lit (base := X.heap.size) (e := 3) (size := 1) X #[.int .i64 p.bl, .int .i64 p.br, .int .i64 p.hl, .int .i64 p.hr, .int .i64 p.ll, .int .i64 p.lr, .int .i64 p.gl, .int .i64 p.gr] 8 (Nat.le_refl _) (by unfold maxLen; omega) rfl
    rw [s0] at h
    exact IntsAt.of_owns_n (l := p.list) h rfl
  have B0 := Lib.hid (below_up b0 (alloc_below X (.cells #[.int .i64 p.bl, .int .i64 p.br, .int .i64 p.hl, .int .i64 p.hr, .int .i64 p.ll, .int .i64 p.lr, .int .i64 p.gl, .int .i64 p.gr] 3)))
  have HT := Lib.hid ht
  obtain ⟨e0, e1, e2, e3, e4, e5, e6, e7, -⟩ := P0
  unfold pickV
  generalize listB p.list = r at C ⊢
  clear b0 ht
  go_enter Tryz.func38, Tryz.ntmps38
  go_wp2_with fail
  refine (C.out _ R0.out (HT.out.below B0.out)).mono ?_
  rintro e w1 ⟨rfl, bb⟩
  have B1 := Lib.hid (below_up B0.out bb)
  clear bb
  go_wp2
  go_ret
  exact ⟨rfl, B1.out⟩
end Go.Proofs.YtlflblngbneacabGreatDoor
