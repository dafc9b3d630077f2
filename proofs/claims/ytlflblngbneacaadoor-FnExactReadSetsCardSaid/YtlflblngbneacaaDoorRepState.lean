/- The contracts of the model's FormatState, FormatPick and StateLine. Condition: numbers that fit Go's int. -/
import Derived.Test.YtlflblngbneacaaDoorFmtWeighSpec
import Derived.Test.YtlflblngbneacaaDoorGStates
import Derived.Test.YtlflblngbneacaaDoorGFinds
import Derived.Deep.RegionHeld3
namespace Go.Proofs.YtlflblngbneacaaDoor
open Go.RowKit

/-- Every number of a list fits Go's int. -/
def Fit (l : List Int) : Prop := ∀ x ∈ l, -9223372036854775808 ≤ x ∧ x ≤ 9223372036854775807

set_option maxRecDepth 100000 in
set_option maxHeartbeats 1600000 in
theorem specFormatState (s : SD) (hs : Fit s.list) (w : World) : Calls Tryd.prog 30 #[stateV s] w fun e w' => e = .returned (.string (listB s.list)) ∧ Below w.heap.size w w' := by
  have C := Lib.hid (fun W h => specList (.slice (some ⟨w.heap.size + 1, 0, none⟩) 4 4) s.list W h (by simp [SD.list]) hs)
  have b0 := alloc_below w (.cells #[.int .i64 s.b, .int .i64 s.h, .int .i64 s.l, .int .i64 s.g] 42)
  have P0 := StateAt.new w 42 s
  have s0 : (w.alloc (.cells #[.int .i64 s.b, .int .i64 s.h, .int .i64 s.l, .int .i64 s.g] 42)).heap.size = w.heap.size + 1 := by simp
  generalize hX : w.alloc (.cells #[.int .i64 s.b, .int .i64 s.h, .int .i64 s.l, .int .i64 s.g] 42) = X at b0 P0 s0
  have R0 : Hid (IntsAt (X.alloc (.cells #[.int .i64 s.b, .int .i64 s.h, .int .i64 s.l, .int .i64 s.g] 3)) (.slice (some ⟨w.heap.size + 1, 0, none⟩) 4 4) s.list) := by
    have h := World.ownsRow_lit (base := X.heap.size) (e := 3) (size := 1) X #[.int .i64 s.b, .int .i64 s.h, .int .i64 s.l, .int .i64 s.g] 4 (Nat.le_refl _) (by unfold maxLen; omega) rfl
    rw [s0] at h
    exact IntsAt.of_owns_n (l := s.list) h rfl
  have B0 := Lib.hid (below_up b0 (alloc_below X (.cells #[.int .i64 s.b, .int .i64 s.h, .int .i64 s.l, .int .i64 s.g] 3)))
  obtain ⟨e0, e1, e2, e3, -⟩ := P0
  unfold stateV
  generalize listB s.list = r at C ⊢
  clear b0
  go_enter Tryd.func30, Tryd.ntmps30
  go_wp2_with fail
  refine (C.out _ R0.out).mono ?_
  rintro e w1 ⟨rfl, bb⟩
  have B1 := Lib.hid (below_up B0.out bb)
  clear bb
  go_wp2
  go_ret
  exact ⟨rfl, B1.out⟩

set_option maxRecDepth 100000 in
set_option maxHeartbeats 1600000 in
theorem specFormatPick (p : PD) (hs : Fit p.list) (w : World) : Calls Tryd.prog 33 #[pickV p] w fun e w' => e = .returned (.string (listB p.list)) ∧ Below w.heap.size w w' := by
  have C := Lib.hid (fun W h => specList (.slice (some ⟨w.heap.size + 1, 0, none⟩) 8 8) p.list W h (by simp [PD.list]) hs)
  have b0 := alloc_below w (.cells #[.int .i64 p.bl, .int .i64 p.br, .int .i64 p.hl, .int .i64 p.hr, .int .i64 p.ll, .int .i64 p.lr, .int .i64 p.gl, .int .i64 p.gr] 48)
  have P0 := PickAt.new w 48 p
  have s0 : (w.alloc (.cells #[.int .i64 p.bl, .int .i64 p.br, .int .i64 p.hl, .int .i64 p.hr, .int .i64 p.ll, .int .i64 p.lr, .int .i64 p.gl, .int .i64 p.gr] 48)).heap.size = w.heap.size + 1 := by simp
  generalize hX : w.alloc (.cells #[.int .i64 p.bl, .int .i64 p.br, .int .i64 p.hl, .int .i64 p.hr, .int .i64 p.ll, .int .i64 p.lr, .int .i64 p.gl, .int .i64 p.gr] 48) = X at b0 P0 s0
  have R0 : Hid (IntsAt (X.alloc (.cells #[.int .i64 p.bl, .int .i64 p.br, .int .i64 p.hl, .int .i64 p.hr, .int .i64 p.ll, .int .i64 p.lr, .int .i64 p.gl, .int .i64 p.gr] 3)) (.slice (some ⟨w.heap.size + 1, 0, none⟩) 8 8) p.list) := by
    have h := World.ownsRow_lit (base := X.heap.size) (e := 3) (size := 1) X #[.int .i64 p.bl, .int .i64 p.br, .int .i64 p.hl, .int .i64 p.hr, .int .i64 p.ll, .int .i64 p.lr, .int .i64 p.gl, .int .i64 p.gr] 8 (Nat.le_refl _) (by unfold maxLen; omega) rfl
    rw [s0] at h
    exact IntsAt.of_owns_n (l := p.list) h rfl
  have B0 := Lib.hid (below_up b0 (alloc_below X (.cells #[.int .i64 p.bl, .int .i64 p.br, .int .i64 p.hl, .int .i64 p.hr, .int .i64 p.ll, .int .i64 p.lr, .int .i64 p.gl, .int .i64 p.gr] 3)))
  obtain ⟨e0, e1, e2, e3, e4, e5, e6, e7, -⟩ := P0
  unfold pickV
  generalize listB p.list = r at C ⊢
  clear b0
  go_enter Tryd.func33, Tryd.ntmps33
  go_wp2_with fail
  refine (C.out _ R0.out).mono ?_
  rintro e w1 ⟨rfl, bb⟩
  have B1 := Lib.hid (below_up B0.out bb)
  clear bb
  go_wp2
  go_ret
  exact ⟨rfl, B1.out⟩

/-- The text of a state, its cases and its number of weighings. -/
def stateT (s : SD) : ByteArray := if stateB s = true then (((listB s.list ++ ⟨#[32, 99, 97, 115, 101, 115, 32]⟩) ++ fmtB (casesS s)) ++ ⟨#[32, 119, 101, 105, 103, 104, 105, 110, 103, 115, 32]⟩) ++ fmtB (fewestI s) else ⟨#[]⟩
theorem fewest_in (s : SD) : -1 ≤ fewestI s ∧ fewestI s ≤ 3 := by
  unfold fewestI
  split
  · omega
  · split
    · omega
    · split
      · omega
      · split <;> omega
theorem cases_in {s : SD} (h : stateB s = true) : 0 ≤ casesS s ∧ casesS s ≤ 100 := by
  have := stateB_in h
  unfold casesS countS
  rw [if_pos h]
  omega
theorem state_fit {s : SD} (h : stateB s = true) : Fit s.list := fun x hx => by
  have := stateB_in h
  simp only [SD.list, List.mem_cons, List.not_mem_nil, or_false] at hx
  rcases hx with rfl | rfl | rfl | rfl <;> omega

end Go.Proofs.YtlflblngbneacaaDoor
