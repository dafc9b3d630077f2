/- The contracts of the model's InfoBound and MostUnknown. No condition. -/
import Derived.Test.YtbkhmlkicafheaaGStates
import Derived.Test.YtbkhmlkicafheaaGBounds
namespace Go.Proofs.Ytbkhmlkicafheaa
open Go.RowKit

theorem pow_in : ∀ i, i ≤ 13 → (1 : Int) ≤ 3 ^ i ∧ (3 : Int) ^ i ≤ 1594323 := by decide
set_option maxHeartbeats 1600000 in
theorem specPowerW (k : Nat) (hk : k ≤ 13) (w : World) : Calls Try.prog 55 #[.int .i64 k] w fun e w' => e = .returned (.int .i64 ((3 : Int) ^ k)) ∧ w = w' := by
  go_enter Try.func55, Try.ntmps55
  go_wp2
  go_loopw [3, 4] (fun nv iv wr => ∃ i : Nat, i ≤ k ∧ iv = .int .i64 i ∧ nv = .int .i64 ((3 : Int) ^ i) ∧ wr = w) (fun _ iv _ => k - (intOf iv).toNat)
  case atStart => exact ⟨0, Nat.zero_le _, rfl, rfl, rfl⟩
  case round =>
    obtain ⟨i, hik, rfl, rfl, rfl⟩ := hrel
    by_cases hlt : i < k
    · have i1 : (i : Int) < (k : Int) := by omega
      have hp : (3 : Int) * 3 ^ i = 3 ^ (i + 1) := by rw [Int.pow_succ]; omega
      have hw : IntKind.i64.wrap ((3 : Int) * 3 ^ i) = 3 ^ (i + 1) := by
        rw [hp, IntKind.wrap_i64]
        have := pow_in (i + 1) (by omega)
        omega
      have HP := Lib.hid hp
      clear hp
      go_wp2
      go_roundw
      case rel => exact ⟨i + 1, by omega, by go_num, by first | rfl | trivial, by first | rfl | trivial⟩
      case measure => simp [intOf]; omega
    · obtain rfl : i = k := by omega
      go_wp2
      go_ret
      exact ⟨rfl, rfl⟩

set_option maxHeartbeats 1600000 in
theorem specInfoBound (n : Int) (w : World) : Calls Try.prog 13 #[.int .i64 n] w fun e w' => e = .returned (.int .i64 (infoI n)) ∧ w = w' := by
  have C := Lib.hid (fun W => l01In_is n 1 1000000 W)
  have CP := Lib.hid (fun (k : Nat) (hk : k ≤ 13) W => specPowerW k hk W)
  have HE : Hid (infoI n = if (decide (1 ≤ n) && decide (n ≤ 1000000)) = true then ((leastP n 13 0 : Nat) : Int) else -1) := by
    unfold Hid infoI
    simp only [Bool.and_eq_true, decide_eq_true_eq]
  have HB : Hid ((decide (1 ≤ n) && decide (n ≤ 1000000)) = true → n ≤ 1000000) := fun h => by simp at h; exact h.2
  generalize (decide (1 ≤ n) && decide (n ≤ 1000000)) = kb at C HE HB
  cases kb with
  | false =>
    go_enter Try.func13, Try.ntmps13
    go_wp2_with fail
    refine (C.out _).mono ?_
    rintro e w2 ⟨rfl, rfl⟩
    go_wp2
    go_ret
    exact ⟨by rw [HE.out]; rfl, rfl⟩
  | true =>
    have hn := HB.out rfl
    have HE2 : Hid (infoI n = ((leastP n 13 0 : Nat) : Int)) := HE.out
    clear HE HB
    go_enter Try.func13, Try.ntmps13
    go_wp2_with fail
    refine (C.out _).mono ?_
    rintro e w2 ⟨rfl, rfl⟩
    go_wp2
    go_loopw [3] (fun kv wr => ∃ i : Nat, i ≤ 13 ∧ kv = .int .i64 i ∧ wr = w ∧ Hid (leastP n (13 - i) i = leastP n 13 0)) (fun kv _ => 13 - (intOf kv).toNat)
    case atStart => exact ⟨0, Nat.zero_le _, rfl, rfl, rfl⟩
    case round =>
      obtain ⟨i, hik, rfl, rfl, HI⟩ := hrel
      by_cases hlt : (3 : Int) ^ i < n
      · have hi : i < 13 := by
          by_cases e : i = 13
          · subst e; exfalso; have : (3 : Int) ^ 13 = 1594323 := by decide
            omega
          · omega
        have HN : Hid (leastP n (13 - (i + 1)) (i + 1) = leastP n 13 0) := by
          have := HI.out
          rw [show 13 - i = 13 - (i + 1) + 1 by omega] at this
          unfold leastP at this
          rwa [if_pos hlt] at this
        have k0 : (i : Int) < 13 := by omega
        go_wp2_with fail
        refine (CP.out i hik _).mono ?_
        rintro e w2 ⟨rfl, rfl⟩
        go_wp2
        go_roundw
        case rel => exact ⟨i + 1, by omega, by go_num, by first | rfl | trivial, HN⟩
        case measure => simp [intOf]; omega
      · have HN : Hid (infoI n = (i : Int)) := by
          unfold Hid
          rw [HE2.out, ← HI.out]
          cases h : 13 - i with
          | zero => rfl
          | succ m => unfold leastP; rw [if_neg hlt]
        go_wp2_with fail
        refine (CP.out i hik _).mono ?_
        rintro e w2 ⟨rfl, rfl⟩
        go_wp2
        go_ret
        exact ⟨by rw [HN.out]; rfl, rfl⟩

theorem pow_half (k : Nat) (hk : k ≤ 12) : (0 : Int) ≤ 3 ^ k - 1 ∧ (3 : Int) ^ k - 1 ≤ 1594323 ∧ (-2 : Int) ≤ 3 ^ k - 3 := by have := pow_in k (by omega); omega
theorem tdiv2_in {a : Int} (h0 : -2 ≤ a) (h1 : a ≤ 1594323) : -1 ≤ a.tdiv 2 ∧ a.tdiv 2 ≤ 1594323 := by
  by_cases h : 0 ≤ a
  · rw [Int.tdiv_eq_ediv_of_nonneg h]; omega
  · rcases (show a = -1 ∨ a = -2 by omega) with rfl | rfl <;> decide
set_option maxHeartbeats 1600000 in
theorem specMostUnknown (k : Int) (g : Bool) (w : World) : Calls Try.prog 15 #[.int .i64 k, .bool g] w fun e w' => e = .returned (.int .i64 (mostI k g)) ∧ w = w' := by
  have C := Lib.hid (fun W => l01In_is k 0 12 W)
  have HE : Hid (mostI k g = if (decide (0 ≤ k) && decide (k ≤ 12)) = true then (if g = true then Int.tdiv (3 ^ k.toNat - 1) 2 else max 0 (Int.tdiv (3 ^ k.toNat - 3) 2)) else 0) := by
    unfold Hid mostI
    simp only [Bool.and_eq_true, decide_eq_true_eq]
  have HB : Hid ((decide (0 ≤ k) && decide (k ≤ 12)) = true → 0 ≤ k ∧ k ≤ 12) := fun h => by simpa using h
  generalize (decide (0 ≤ k) && decide (k ≤ 12)) = kb at C HE HB
  cases kb with
  | false =>
    go_enter Try.func15, Try.ntmps15
    go_wp2_with fail
    refine (C.out _).mono ?_
    rintro e w2 ⟨rfl, rfl⟩
    go_wp2
    go_ret
    exact ⟨by rw [HE.out]; rfl, rfl⟩
  | true =>
    obtain ⟨k0, k12⟩ := HB.out rfl
    have HE2 : Hid (mostI k g = if g = true then Int.tdiv (3 ^ k.toNat - 1) 2 else max 0 (Int.tdiv (3 ^ k.toNat - 3) 2)) := HE.out
    clear HE HB
    obtain ⟨m, rfl⟩ := Int.eq_ofNat_of_zero_le k0
    have hm : m ≤ 12 := by omega
    have CP := Lib.hid (fun W => specPowerW m (by omega) W)
    rw [show ((m : Int)).toNat = m from rfl] at HE2
    have hh := pow_half m hm
    generalize (3 : Int) ^ m = P at CP HE2 hh
    have v1 : IntKind.i64.wrap (P - 1) = P - 1 := by rw [IntKind.wrap_i64]; omega
    have v3 : IntKind.i64.wrap (P - 3) = P - 3 := by rw [IntKind.wrap_i64]; omega
    have q1 : IntKind.i64.wrap ((P - 1).tdiv 2) = (P - 1).tdiv 2 := by rw [IntKind.wrap_i64]; have := tdiv2_in (a := P - 1) (by omega) (by omega); omega
    have q3 : IntKind.i64.wrap ((P - 3).tdiv 2) = (P - 3).tdiv 2 := by rw [IntKind.wrap_i64]; have := tdiv2_in (a := P - 3) (by omega) (by omega); omega
    cases g with
    | true =>
      go_enter Try.func15, Try.ntmps15
      go_wp2_with fail
      refine (C.out _).mono ?_
      rintro e w2 ⟨rfl, rfl⟩
      go_wp2_with fail
      refine (CP.out _).mono ?_
      rintro e w2 ⟨rfl, rfl⟩
      go_wp2
      go_ret
      exact ⟨by rw [HE2.out]; rfl, rfl⟩
    | false =>
      go_enter Try.func15, Try.ntmps15
      go_wp2_with fail
      refine (C.out _).mono ?_
      rintro e w2 ⟨rfl, rfl⟩
      go_wp2_with fail
      refine (CP.out _).mono ?_
      rintro e w2 ⟨rfl, rfl⟩
      go_wp2
      all_goals
        go_ret
        refine ⟨?_, rfl⟩
        rw [HE2.out]
        simp only [Bool.false_eq_true, if_false]
        first
          | (rw [Int.max_eq_right (by omega)]; rfl)
          | (rw [Int.max_eq_left (by omega)]; rfl)
end Go.Proofs.Ytbkhmlkicafheaa
