/- The contract of the program's isSetOf. Condition: a number of items from 1 to 10. -/
import Derived.Test.YtfopallbhfcppaaPoolPlain
import Derived.Test.YtfopallbhfcppaaGBase
import Derived.WalkKit
namespace Go.Proofs.Ytfopallbhfcppaa
open Go.RowKit

theorem pool_split (n p : Int) : poolB n p = (decide (0 ≤ p) && decide (p < topI n + 1)) := by
  unfold poolB
  congr 1
  rw [decide_eq_decide]
  omega
set_option maxHeartbeats 1600000 in
theorem implIsSet (n p : Int) (n1 : 1 ≤ n) (n10 : n ≤ 10) (w : World) : Calls Try.prog 70 #[.int .i64 n, .int .i64 p] w fun e w' => e = .returned (.bool (poolB n p)) ∧ w = w' := by
  have HP := Lib.hid (pool_split n p)
  obtain ⟨hs1, hs2, hs3, hs4⟩ := shl_top n1 n10
  rw [hs2] at hs1
  generalize poolB n p = r at HP ⊢
  generalize topI n = T at hs1 hs2 hs3 hs4 HP
  by_cases h0 : 0 ≤ p
  · have HE : Hid (r = decide (p < T + 1)) := by unfold Hid; rw [HP.out, decide_eq_true h0]; rfl
    go_enter Try.func70, Try.ntmps70
    go_wp2
    go_ret
    exact ⟨ret_bool HE.out.symm, rfl⟩
  · have HE : Hid (r = false) := by unfold Hid; rw [HP.out, decide_eq_false h0]; rfl
    go_enter Try.func70, Try.ntmps70
    go_wp2
    go_ret
    exact ⟨ret_bool HE.out.symm, rfl⟩
end Go.Proofs.Ytfopallbhfcppaa
