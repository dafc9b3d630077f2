/- The contracts of the program's own functions on cases: known, kind, coin, in, CaseOk and CoinOf, and the model's CoinOf. Condition: a number of coins and a case that fit Go's int. -/
import Derived.Test.YthgdobnegepgoaaCase
namespace Go.Proofs.Ythgdobnegepgoaa
open Go.RowKit

theorem implKnown (c : Int) (w : World) : Calls Try.prog 81 #[.int .i64 c] w fun e w' => e = .returned (.bool (inB c)) ∧ w = w' := by
  have HD : Hid (inB c = (decide (-13 ≤ c) && decide (c ≤ 13))) := rfl
  cases h1 : decide (-13 ≤ c)
  all_goals
    rw [h1] at HD
    go_enter Try.func81, Try.ntmps81
    go_wp2
    go_ret
    exact ⟨ret_bool HD.out.symm, rfl⟩

/-- What is wrong in a case, as a number. -/
def kindI (c : Int) : Int := if 0 < c then 1 else if c < 0 then 2 else 0

theorem implKind (c : Int) (w : World) : Calls Try.prog 70 #[.int .i64 c] w fun e w' => e = .returned (.int .i64 (kindI c)) ∧ w = w' := by
  rcases Int.lt_trichotomy c 0 with hc | hc | hc
  · have HD : Hid (kindI c = 2) := by unfold Hid kindI; rw [if_neg (by omega), if_pos hc]
    go_enter Try.func70, Try.ntmps70
    go_wp2
    go_ret
    exact ⟨ret_int HD.out.symm, rfl⟩
  · subst hc
    go_enter Try.func70, Try.ntmps70
    go_wp2
    go_ret
    exact ⟨rfl, rfl⟩
  · have HD : Hid (kindI c = 1) := by unfold Hid kindI; rw [if_pos hc]
    go_enter Try.func70, Try.ntmps70
    go_wp2
    go_ret
    exact ⟨ret_int HD.out.symm, rfl⟩

theorem inB_bounds {c : Int} (h : inB c = true) : -13 ≤ c ∧ c ≤ 13 := by
  simpa [inB] using h

set_option maxHeartbeats 800000 in
theorem implCoin (c : Int) (w : World) (c0 : -9223372036854775808 ≤ c) (c1 : c ≤ 9223372036854775807) : Calls Try.prog 82 #[.int .i64 c] w fun e w' => e = .returned (.int .i64 (coinI c)) ∧ w = w' := by
  have C := Lib.hid (fun W => implKnown c W)
  have K := Lib.hid (fun W => implKind c W)
  have HD : Hid (coinI c = if inB c = true then (if c < 0 then -c else c) else 0) := rfl
  have HP := Lib.hid (@inB_bounds c)
  generalize inB c = b at C HD HP
  cases b
  · have HE : Hid (coinI c = 0) := HD.out
    clear HD
    go_enter Try.func82, Try.ntmps82
    go_wp2_with fail
    refine (C.out _).mono ?_
    rintro e w1 ⟨rfl, rfl⟩
    go_wp2
    go_ret
    exact ⟨ret_int HE.out.symm, rfl⟩
  · obtain ⟨b0, b1⟩ := HP.out rfl
    by_cases hc : c < 0
    · have HE : Hid (coinI c = -c) := by unfold Hid; rw [HD.out, if_pos rfl, if_pos hc]
      have hk : kindI c = 2 := by unfold kindI; rw [if_neg (by omega), if_pos hc]
      rw [hk] at K
      clear HD hk
      go_enter Try.func82, Try.ntmps82
      go_wp2_with fail
      refine (C.out _).mono ?_
      rintro e w1 ⟨rfl, rfl⟩
      go_wp2_with fail
      refine (K.out _).mono ?_
      rintro e w1 ⟨rfl, rfl⟩
      go_wp2
      go_ret
      exact ⟨ret_int HE.out.symm, rfl⟩
    · have HE : Hid (coinI c = c) := by unfold Hid; rw [HD.out, if_pos rfl, if_neg hc]
      have hk : (kindI c == 2) = false := by unfold kindI; rw [if_neg hc]; split <;> rfl
      generalize kindI c = k at K hk
      clear HD
      go_enter Try.func82, Try.ntmps82
      go_wp2_with fail
      refine (C.out _).mono ?_
      rintro e w1 ⟨rfl, rfl⟩
      go_wp2_with fail
      refine (K.out _).mono ?_
      rintro e w1 ⟨rfl, rfl⟩
      go_wp2
      go_ret
      exact ⟨ret_int HE.out.symm, rfl⟩

theorem implCoinOf (c : Int) (w : World) (c0 : -9223372036854775808 ≤ c) (c1 : c ≤ 9223372036854775807) : Calls Try.prog 69 #[.int .i64 c] w fun e w' => e = .returned (.int .i64 (coinI c)) ∧ w = w' := by
  have C := Lib.hid (fun W => implCoin c W c0 c1)
  generalize coinI c = k at C ⊢
  go_enter Try.func69, Try.ntmps69
  go_wp2_with fail
  refine (C.out _).mono ?_
  rintro e w1 ⟨rfl, rfl⟩
  go_wp2
  go_ret
  exact ⟨rfl, rfl⟩

theorem specCoinOf (c : Int) (w : World) (c0 : -9223372036854775808 ≤ c) (c1 : c ≤ 9223372036854775807) : Calls Try.prog 84 #[.int .i64 c] w fun e w' => e = .returned (.int .i64 (coinI c)) ∧ w = w' := by
  have C := Lib.hid (fun W => specIn c W)
  have HD : Hid (coinI c = if inB c = true then (if c < 0 then -c else c) else 0) := rfl
  have HP := Lib.hid (@inB_bounds c)
  generalize inB c = b at C HD HP
  cases b
  · have HE : Hid (coinI c = 0) := HD.out
    clear HD
    go_enter Try.func84, Try.ntmps84
    go_wp2_with fail
    refine (C.out _).mono ?_
    rintro e w1 ⟨rfl, rfl⟩
    go_wp2
    go_ret
    exact ⟨ret_int HE.out.symm, rfl⟩
  · obtain ⟨b0, b1⟩ := HP.out rfl
    by_cases hc : c < 0
    · have HE : Hid (coinI c = -c) := by unfold Hid; rw [HD.out, if_pos rfl, if_pos hc]
      clear HD
      go_enter Try.func84, Try.ntmps84
      go_wp2_with fail
      refine (C.out _).mono ?_
      rintro e w1 ⟨rfl, rfl⟩
      go_wp2
      go_ret
      exact ⟨ret_int HE.out.symm, rfl⟩
    · have HE : Hid (coinI c = c) := by unfold Hid; rw [HD.out, if_pos rfl, if_neg hc]
      clear HD
      go_enter Try.func84, Try.ntmps84
      go_wp2_with fail
      refine (C.out _).mono ?_
      rintro e w1 ⟨rfl, rfl⟩
      go_wp2
      go_ret
      exact ⟨ret_int HE.out.symm, rfl⟩
end Go.Proofs.Ythgdobnegepgoaa
