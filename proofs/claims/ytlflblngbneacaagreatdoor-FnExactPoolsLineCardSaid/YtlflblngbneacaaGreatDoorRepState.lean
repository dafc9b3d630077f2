/- The contracts of the model's FormatState, FormatPick and StateLine. Condition: numbers that fit Go's int. -/
import Derived.Test.YtlflblngbneacaaGreatDoorFmtWeighSpec
import Derived.Test.YtlflblngbneacaaGreatDoorGStates
import Derived.Test.YtlflblngbneacaaGreatDoorGFinds
import Derived.Deep.RegionHeld3
namespace Go.Proofs.YtlflblngbneacaaGreatDoor
open Go.RowKit

/-- Every number of a list fits Go's int. -/
def Fit (l : List Int) : Prop := ∀ x ∈ l, -9223372036854775808 ≤ x ∧ x ≤ 9223372036854775807

set_option maxRecDepth 100000 in
set_option maxHeartbeats 1600000 in
theorem specFormatState (s : SD) (hs : Fit s.list) (w : World) : Calls Tryz.prog 25 #[stateV s] w fun e w' => e = .returned (.string (listB s.list)) ∧ Below w.heap.size w w' := by
  have C := Lib.hid (fun W h => specList (.slice (some ⟨w.heap.size + 1, 0, none⟩) 4 4) s.list W h (by simp [SD.list]) hs)
  have b0 := alloc_below w (.cells #[.int .i64 s.b, .int .i64 s.h, .int .i64 s.l, .int .i64 s.g] 36)
  have P0 := StateAt.new w 36 s
  have s0 : (w.alloc (.cells #[.int .i64 s.b, .int .i64 s.h, .int .i64 s.l, .int .i64 s.g] 36)).heap.size = w.heap.size + 1 := by simp
  generalize hX : w.alloc (.cells #[.int .i64 s.b, .int .i64 s.h, .int .i64 s.l, .int .i64 s.g] 36) = X at b0 P0 s0
  have R0 : Hid (IntsAt (X.alloc (.cells #[.int .i64 s.b, .int .i64 s.h, .int .i64 s.l, .int .i64 s.g] 3)) (.slice (some ⟨w.heap.size + 1, 0, none⟩) 4 4) s.list) := by
    have h := World.ownsRow_lit (base := X.heap.size) (e := 3) (size := 1) X #[.int .i64 s.b, .int .i64 s.h, .int .i64 s.l, .int .i64 s.g] 4 (Nat.le_refl _) (by unfold maxLen; omega) rfl
    rw [s0] at h
    exact IntsAt.of_owns_n (l := s.list) h rfl
  have B0 := Lib.hid (below_up b0 (alloc_below X (.cells #[.int .i64 s.b, .int .i64 s.h, .int .i64 s.l, .int .i64 s.g] 3)))
  obtain ⟨e0, e1, e2, e3, -⟩ := P0
  unfold stateV
  generalize listB s.list = r at C ⊢
  clear b0
  go_enter Tryz.func25, Tryz.ntmps25
  go_wp2_with fail
  refine (C.out _ R0.out).mono ?_
  rintro e w1 ⟨rfl, bb⟩
  have B1 := Lib.hid (below_up B0.out bb)
  clear bb
  go_wp2
  go_ret
  exact ⟨rfl, B1.out⟩

/-- The text of a state, its cases and its number of weighings. -/
def stateT (s : SD) : ByteArray := if stateB s = true then (((listB s.list ++ ⟨#[32, 99, 97, 115, 101, 115, 32]⟩) ++ fmtB (casesS s)) ++ ⟨#[32, 119, 101, 105, 103, 104, 105, 110, 103, 115, 32]⟩) ++ fmtB (fewestI s) else ⟨#[]⟩
theorem fewest_in (s : SD) : -1 ≤ fewestI s ∧ fewestI s ≤ 3 := by
  unfold fewestI
  split
  · omega
  · split
    · omega
    · split
      · omega
      · split <;> omega
theorem cases_in {s : SD} (h : stateB s = true) : 0 ≤ casesS s ∧ casesS s ≤ 100 := by
  have := stateB_in h
  unfold casesS countS
  rw [if_pos h]
  omega
theorem state_fit {s : SD} (h : stateB s = true) : Fit s.list := fun x hx => by
  have := stateB_in h
  simp only [SD.list, List.mem_cons, List.not_mem_nil, or_false] at hx
  rcases hx with rfl | rfl | rfl | rfl <;> omega

set_option maxRecDepth 100000 in
set_option maxHeartbeats 3200000 in
theorem specStateLine (s : SD) (w : World) : Calls Tryz.prog 13 #[stateV s] w fun e w' => e = .returned (.string (stateT s)) ∧ Below w.heap.size w w' := by
  have C1 := Lib.hid (fun W => specStateOk s W)
  have HT : Hid (stateT s = if stateB s = true then (((listB s.list ++ ⟨#[32, 99, 97, 115, 101, 115, 32]⟩) ++ fmtB (casesS s)) ++ ⟨#[32, 119, 101, 105, 103, 104, 105, 110, 103, 115, 32]⟩) ++ fmtB (fewestI s) else ⟨#[]⟩) := rfl
  have P0 := StateAt.new w 36 s
  have b0 := alloc_below w (.cells #[.int .i64 s.b, .int .i64 s.h, .int .i64 s.l, .int .i64 s.g] 36)
  generalize hX : w.alloc (.cells #[.int .i64 s.b, .int .i64 s.h, .int .i64 s.l, .int .i64 s.g] 36) = X at b0 P0
  replace P0 := Lib.hid P0
  have B0 := Lib.hid b0
  clear b0
  cases hs : stateB s with
  | false =>
    have HE : Hid (stateT s = ⟨#[]⟩) := by unfold Hid; rw [HT.out, hs]; rfl
    rw [hs] at C1
    generalize stateT s = t at HE ⊢
    clear HT hs
    unfold stateV at C1 ⊢
    obtain ⟨e0, e1, e2, e3, -⟩ := P0.out
    go_enter Tryz.func13, Tryz.ntmps13
    go_wp2_with fail
    refine (C1.out _).mono ?_
    rintro e w1 ⟨rfl, bb⟩
    have B1 := Lib.hid (below_up B0.out bb)
    clear bb
    go_wp2
    go_ret
    exact ⟨ret_str HE.out.symm, B1.out⟩
  | true =>
    have HE : Hid (stateT s = (((listB s.list ++ ⟨#[32, 99, 97, 115, 101, 115, 32]⟩) ++ fmtB (casesS s)) ++ ⟨#[32, 119, 101, 105, 103, 104, 105, 110, 103, 115, 32]⟩) ++ fmtB (fewestI s)) := by unfold Hid; rw [HT.out, hs]; rfl
    rw [hs] at C1
    have hc := cases_in hs
    have hf := fewest_in s
    have hfit := state_fit hs
    have C2 := Lib.hid (fun W => specFormatState s hfit W)
    have C3 := Lib.hid (fun W => specCountCases s W)
    have C4 := Lib.hid (fun W => specFewest s W)
    have C5 := Lib.hid (fun W => specFmt (casesS s) W (by omega) (by omega))
    have C6 := Lib.hid (fun W => specFmt (fewestI s) W (by omega) (by omega))
    have z1 : (listB s.list).size ≤ 88 := listB_size hfit
    have z2 := fmtW_size (casesS s) (by omega) (by omega)
    have z3 := fmtW_size (fewestI s) (by omega) (by omega)
    generalize stateT s = t at HE ⊢
    generalize hA : listB s.list = A at C2 HE z1
    generalize hB : fmtB (casesS s) = B at C5 HE z2
    generalize hC : fmtB (fewestI s) = D at C6 HE z3
    generalize casesS s = x at C3 C5
    generalize fewestI s = y at C4 C6
    clear HT hs hc hf hfit hA hB hC
    have q1 : ¬ 9223372036854775807 < A.size + 7 := by omega
    have q2 : ¬ 9223372036854775807 < A.size + 7 + B.size := by omega
    have q3 : ¬ 9223372036854775807 < A.size + 7 + B.size + 11 := by omega
    have q4 : ¬ 9223372036854775807 < A.size + 7 + B.size + 11 + D.size := by omega
    unfold stateV at C1 C2 C3 C4 ⊢
    clear z1 z2 z3
    obtain ⟨e0, e1, e2, e3, -⟩ := P0.out
    go_enter Tryz.func13, Tryz.ntmps13
    go_wp2_with fail
    clear e0 e1 e2 e3
    refine (C1.out _).mono ?_
    rintro e w1 ⟨rfl, bb⟩
    have B1 := Lib.hid (below_up B0.out bb)
    have P1 := Lib.hid (P0.out.below bb)
    clear bb P0 B0 hX
    go_wp2_with fail
    go_region_held3 (fun w' => w'.cell? ⟨w.heap.size, 0, none⟩ = some (.int .i64 s.b) ∧ w'.cell? ⟨w.heap.size, 1, none⟩ = some (.int .i64 s.h) ∧ w'.cell? ⟨w.heap.size, 2, none⟩ = some (.int .i64 s.l) ∧ w'.cell? ⟨w.heap.size, 3, none⟩ = some (.int .i64 s.g) ∧ w.heap.size < w'.heap.size)
      (first | exact P6.out | exact P5.out | exact P4.out | exact P3.out | exact P2.out | exact P1.out.below (Below.refl _ _).drew)
      (first
        | (go_at_call 25; refine (C2.out _).mono ?_; rintro e w2 ⟨rfl, bb⟩; have P2 := Lib.hid ((P1.out.below (Below.refl _ _).drew).below bb); have B2 := Lib.hid (below_up B1.out.drew bb); clear bb)
        | (go_at_call 27; refine (C3.out _).mono ?_; rintro e w3 ⟨rfl, bb⟩; have P3 := Lib.hid (P2.out.below bb); have B3 := Lib.hid (below_up B2.out bb); clear bb)
        | (go_at_call_of 26 (Value.int .i64 x); refine (C5.out _).mono ?_; rintro e w4 ⟨rfl, bb⟩; have P4 := Lib.hid (P3.out.below bb); have B4 := Lib.hid (below_up B3.out bb); clear bb)
        | (go_at_call 28; refine (C4.out _).mono ?_; rintro e w5 ⟨rfl, bb⟩; have P5 := Lib.hid (P4.out.below bb); have B5 := Lib.hid (below_up B4.out bb); clear bb)
        | (go_at_call_of 26 (Value.int .i64 y); refine (C6.out _).mono ?_; rintro e w6 ⟨rfl, bb⟩; have P6 := Lib.hid (P5.out.below bb); have B6 := Lib.hid (below_up B5.out bb); clear bb)
        | fail)
    all_goals go_wp2
    all_goals go_ret
    all_goals exact ⟨ret_str HE.out.symm, B6.out⟩
end Go.Proofs.YtlflblngbneacaaGreatDoor
