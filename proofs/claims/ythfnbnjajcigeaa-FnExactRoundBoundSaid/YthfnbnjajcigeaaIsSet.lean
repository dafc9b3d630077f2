/- The contract of the program's isSetOf. Condition: a number of items from 1 to 16. -/
import Derived.Test.YthfnbnjajcigeaaPoolPlain
import Derived.Test.YthfnbnjajcigeaaGBase
import Derived.WalkKit
namespace Go.Proofs.Ythfnbnjajcigeaa
open Go.RowKit

theorem pool_split (n p : Int) : poolB n p = (decide (0 ≤ p) && decide (p < topI n + 1)) := by
  unfold poolB
  congr 1
  rw [decide_eq_decide]
  omega
theorem two_pow_in16 : ∀ m : Nat, m ≤ 16 → (1 : Int) ≤ 2 ^ m ∧ (2 : Int) ^ m ≤ 65536 := by decide
theorem top_in16 {n : Int} (h1 : n ≤ 16) : 0 ≤ topI n ∧ topI n ≤ 65535 := by
  have := two_pow_in16 n.toNat (by omega)
  unfold topI
  omega
theorem shl_top16 {n : Int} (h0 : 1 ≤ n) (h1 : n ≤ 16) : IntKind.i64.wrap (2 ^ n.toNat) = 2 ^ n.toNat ∧ (2 : Int) ^ n.toNat = topI n + 1 ∧ 0 ≤ topI n ∧ topI n ≤ 65535 := by
  have := two_pow_in16 n.toNat (by omega)
  have ht : (2 : Int) ^ n.toNat = topI n + 1 := by unfold topI; omega
  have hi := top_in16 h1
  refine ⟨?_, ht, hi⟩
  rw [IntKind.wrap_i64]
  omega
set_option maxHeartbeats 1600000 in
theorem implIsSet16 (n p : Int) (n1 : 1 ≤ n) (n10 : n ≤ 16) (w : World) : Calls Try.prog 60 #[.int .i64 n, .int .i64 p] w fun e w' => e = .returned (.bool (poolB n p)) ∧ w = w' := by
  have HP := Lib.hid (pool_split n p)
  obtain ⟨hs1, hs2, hs3, hs4⟩ := shl_top16 n1 n10
  rw [hs2] at hs1
  generalize poolB n p = r at HP ⊢
  generalize topI n = T at hs1 hs2 hs3 hs4 HP
  by_cases h0 : 0 ≤ p
  · have HE : Hid (r = decide (p < T + 1)) := by unfold Hid; rw [HP.out, decide_eq_true h0]; rfl
    go_enter Try.func60, Try.ntmps60
    go_wp2
    go_ret
    exact ⟨ret_bool HE.out.symm, rfl⟩
  · have HE : Hid (r = false) := by unfold Hid; rw [HP.out, decide_eq_false h0]; rfl
    go_enter Try.func60, Try.ntmps60
    go_wp2
    go_ret
    exact ⟨ret_bool HE.out.symm, rfl⟩
theorem implIsSet (n p : Int) (n1 : 1 ≤ n) (n10 : n ≤ 10) (w : World) : Calls Try.prog 60 #[.int .i64 n, .int .i64 p] w fun e w' => e = .returned (.bool (poolB n p)) ∧ w = w' := implIsSet16 n p n1 (by omega) w
end Go.Proofs.Ythfnbnjajcigeaa
