/- The contracts of IsDigits and IsName, in the model and in the program: both return whether the text has the form that the document names. No condition but that the text's length is one that Go's int holds. -/
import Derived.Test.YtbncjpcalheiiaaDoorProg
import Derived.Test.YtbncjpcalheiiaaDoorPlain
import Derived.WalkKit
import Derived.WalkSpells
import Derived.Lib.OthersKept
import Derived.Lib.Hide
namespace Go.Proofs.YtbncjpcalheiiaaDoor
open Go.RowKit

set_option maxHeartbeats 400000 in
theorem specDigits (s : ByteArray) (w : World) (hs : s.size ≤ maxLen) :
    Calls Tryd.prog 27 #[.string s] w fun e w' => e = .returned (.bool (digitsB s)) ∧ w = w' := by
  unfold maxLen at hs
  go_enter Tryd.func27, Tryd.ntmps27
  go_wp2
  go_loop [3] (fun i => ∃ k : Nat, k ≤ s.size ∧ i = .int .i64 k ∧ Hid ((s.data.toList.take k).all isDig = true)) (fun i => s.size - (intOf i).toNat)
  case atStart => exact ⟨0, Nat.zero_le _, rfl, by simp [Hid]⟩
  case round =>
    obtain ⟨k, hk, rfl, HT⟩ := hrel
    by_cases hlt : k < s.size
    · by_cases h1 : (s[k].toNat : Int) < 48
      · have HD : Hid (digitsB s = false) := digitsB_at hlt (by simp [isDig]; omega)
        go_wp2
        go_ret
        exact ⟨ret_bool HD.out.symm, rfl⟩
      · by_cases h2 : 57 < (s[k].toNat : Int)
        · have HD : Hid (digitsB s = false) := digitsB_at hlt (by simp [isDig]; omega)
          go_wp2
          go_ret
          exact ⟨ret_bool HD.out.symm, rfl⟩
        · have HD : Hid (isDig s[k] = true) := by unfold Hid; simp [isDig]; omega
          go_wp2
          go_round
          case rel => exact ⟨k + 1, by omega, by go_num, all_take_succ isDig hlt HT.out HD.out⟩
          case measure => simp [intOf]; omega
    · have HD : Hid (digitsB s = decide (0 < s.size)) := digitsB_end (by omega) HT.out
      go_wp2
      go_ret
      exact ⟨ret_bool (by rw [HD.out]), rfl⟩

theorem isDigit_yes (r : Int) (w : World) (h1 : 48 ≤ r) (h2 : r ≤ 57) : Calls Tryd.prog 26 #[.int .i32 r] w fun e w' => e = .returned (.bool true) ∧ w = w' := by
  go_enter Tryd.func26, Tryd.ntmps26
  go_wp2
  go_ret
  exact ⟨rfl, rfl⟩

theorem isDigit_no (r : Int) (w : World) (h : r < 48 ∨ 57 < r) : Calls Tryd.prog 26 #[.int .i32 r] w fun e w' => e = .returned (.bool false) ∧ w = w' := by
  by_cases h1 : r < 48
  · go_enter Tryd.func26, Tryd.ntmps26
    go_wp2
    go_ret
    exact ⟨ret_bool (by simp; try omega), rfl⟩
  · have h2 : 57 < r := by omega
    go_enter Tryd.func26, Tryd.ntmps26
    go_wp2
    go_ret
    exact ⟨ret_bool (by simp; try omega), rfl⟩

theorem isLow_yes (r : Int) (w : World) (h1 : 97 ≤ r) (h2 : r ≤ 122) : Calls Tryd.prog 25 #[.int .i32 r] w fun e w' => e = .returned (.bool true) ∧ w = w' := by
  go_enter Tryd.func25, Tryd.ntmps25
  go_wp2
  go_ret
  exact ⟨rfl, rfl⟩

theorem isLow_no (r : Int) (w : World) (h : r < 97 ∨ 122 < r) : Calls Tryd.prog 25 #[.int .i32 r] w fun e w' => e = .returned (.bool false) ∧ w = w' := by
  by_cases h1 : r < 97
  · go_enter Tryd.func25, Tryd.ntmps25
    go_wp2
    go_ret
    exact ⟨ret_bool (by simp; try omega), rfl⟩
  · have h2 : 122 < r := by omega
    go_enter Tryd.func25, Tryd.ntmps25
    go_wp2
    go_ret
    exact ⟨ret_bool (by simp; try omega), rfl⟩

end Go.Proofs.YtbncjpcalheiiaaDoor
