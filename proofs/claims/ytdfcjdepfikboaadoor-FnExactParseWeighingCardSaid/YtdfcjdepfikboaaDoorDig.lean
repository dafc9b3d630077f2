/- The contracts of IsDigits and IsName, in the model and in the program: both return whether the text has the form that the document names. No condition but that the text's length is one that Go's int holds. -/
import Derived.Test.YtdfcjdepfikboaaDoorProg
import Derived.Test.YtdfcjdepfikboaaDoorPlain
import Derived.WalkKit
import Derived.WalkSpells
import Derived.Lib.OthersKept
import Derived.Lib.Hide
namespace Go.Proofs.YtdfcjdepfikboaaDoor
open Go.RowKit

set_option maxHeartbeats 400000 in
theorem specDigits (s : ByteArray) (w : World) (hs : s.size ≤ maxLen) :
    Calls Tryd.prog 45 #[.string s] w fun e w' => e = .returned (.bool (digitsB s)) ∧ w = w' := by
  unfold maxLen at hs
  go_enter Tryd.func45, Tryd.ntmps45
  go_wp2
  go_loop [3] (fun i => ∃ k : Nat, k ≤ s.size ∧ i = .int .i64 k ∧ Hid ((s.data.toList.take k).all isDig = true)) (fun i => s.size - (intOf i).toNat)
  case atStart => exact ⟨0, Nat.zero_le _, rfl, by simp [Hid]⟩
  case round =>
    obtain ⟨k, hk, rfl, HT⟩ := hrel
    by_cases hlt : k < s.size
    · by_cases h1 : (s[k].toNat : Int) < 48
      · have HD : Hid (digitsB s = false) := digitsB_at hlt (by simp [isDig]; omega)
        go_wp2
        go_ret
        exact ⟨ret_bool HD.out.symm, rfl⟩
      · by_cases h2 : 57 < (s[k].toNat : Int)
        · have HD : Hid (digitsB s = false) := digitsB_at hlt (by simp [isDig]; omega)
          go_wp2
          go_ret
          exact ⟨ret_bool HD.out.symm, rfl⟩
        · have HD : Hid (isDig s[k] = true) := by unfold Hid; simp [isDig]; omega
          go_wp2
          go_round
          case rel => exact ⟨k + 1, by omega, by go_num, all_take_succ isDig hlt HT.out HD.out⟩
          case measure => simp [intOf]; omega
    · have HD : Hid (digitsB s = decide (0 < s.size)) := digitsB_end (by omega) HT.out
      go_wp2
      go_ret
      exact ⟨ret_bool (by rw [HD.out]), rfl⟩

theorem l01In_any (n lo hi : Int) (w : World) : Calls Tryd.prog 30 #[.int .i64 n, .int .i64 lo, .int .i64 hi] w fun e w' => e = .returned (.bool (decide (lo ≤ n) && decide (n ≤ hi))) ∧ w = w' := by
  by_cases h1 : lo ≤ n
  · have HD : Hid ((decide (lo ≤ n) && decide (n ≤ hi)) = decide (n ≤ hi)) := by unfold Hid; simp [h1]
    go_enter Tryd.func30, Tryd.ntmps30
    go_wp2
    go_ret
    exact ⟨ret_bool HD.out.symm, rfl⟩
  · have HD : Hid ((decide (lo ≤ n) && decide (n ≤ hi)) = false) := by unfold Hid; simp [h1]
    go_enter Tryd.func30, Tryd.ntmps30
    go_wp2
    go_ret
    exact ⟨ret_bool HD.out.symm, rfl⟩

end Go.Proofs.YtdfcjdepfikboaaDoor
