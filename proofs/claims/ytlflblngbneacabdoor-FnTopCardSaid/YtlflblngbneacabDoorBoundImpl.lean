/- The contracts of the program's mostCases up to 13 weighings, of InfoBound and of MostUnknown. No condition but that bound. -/
import Derived.Test.YtlflblngbneacabDoorBoundLaws
namespace Go.Proofs.YtlflblngbneacabDoor
open Go.RowKit

set_option maxHeartbeats 1600000 in
theorem implMostW (k : Nat) (hk : k ≤ 13) (w : World) : Calls Tryd.prog 87 #[.int .i64 k] w fun e w' => e = .returned (.int .i64 ((3 : Int) ^ k)) ∧ w = w' := by
  go_enter Tryd.func87, Tryd.ntmps87
  go_wp2
  go_loopw [3, 5] (fun nv iv wr => ∃ i : Nat, i ≤ k ∧ iv = .int .i64 i ∧ nv = .int .i64 ((3 : Int) ^ i) ∧ wr = w) (fun _ iv _ => k - (intOf iv).toNat)
  case atStart => exact ⟨0, Nat.zero_le _, rfl, rfl, rfl⟩
  case round =>
    obtain ⟨i, hik, rfl, rfl, rfl⟩ := hrel
    by_cases hlt : i < k
    · have i1 : (i : Int) < (k : Int) := by omega
      have hw : IntKind.i64.wrap ((3 : Int) ^ i * 3) = 3 ^ (i + 1) := by
        rw [← Int.pow_succ, IntKind.wrap_i64]
        have := pow_in (i + 1) (by omega)
        omega
      go_wp2
      go_roundw
      case rel => exact ⟨i + 1, by omega, by go_num, by first | rfl | trivial, by first | rfl | trivial⟩
      case measure => simp [intOf]; omega
    · obtain rfl : i = k := by omega
      go_wp2
      go_ret
      exact ⟨rfl, rfl⟩

set_option maxHeartbeats 1600000 in
theorem implInfoBoundE (n : Int) (w : World) : Calls Tryd.prog 38 #[.int .i64 n] w fun e w' => e = .returned (.int .i64 (infoI n)) ∧ w = w' := by
  have CP := Lib.hid (fun (k : Nat) (hk : k ≤ 13) W => implMostW k hk W)
  have HE : Hid (infoI n = if 1 ≤ n ∧ n ≤ 1000000 then ((leastP n 13 0 : Nat) : Int) else -1) := rfl
  by_cases n1 : n < 1
  · have HN : Hid (infoI n = -1) := by unfold Hid; rw [HE.out, if_neg (by omega)]
    go_enter Tryd.func38, Tryd.ntmps38
    go_wp2
    go_ret
    exact ⟨ret_int HN.out.symm, rfl⟩
  · by_cases n2 : 1000000 < n
    · have HN : Hid (infoI n = -1) := by unfold Hid; rw [HE.out, if_neg (by omega)]
      go_enter Tryd.func38, Tryd.ntmps38
      go_wp2
      go_ret
      exact ⟨ret_int HN.out.symm, rfl⟩
    · have HE2 : Hid (infoI n = ((leastP n 13 0 : Nat) : Int)) := by unfold Hid; rw [HE.out, if_pos (by omega)]
      clear HE
      go_enter Tryd.func38, Tryd.ntmps38
      go_wp2
      go_loopw [3] (fun kv wr => ∃ i : Nat, i ≤ 13 ∧ kv = .int .i64 i ∧ wr = w ∧ Hid (leastP n (13 - i) i = leastP n 13 0)) (fun kv _ => 13 - (intOf kv).toNat)
      case atStart => exact ⟨0, Nat.zero_le _, rfl, rfl, rfl⟩
      case round =>
        obtain ⟨i, hik, rfl, rfl, HI⟩ := hrel
        by_cases hlt : (3 : Int) ^ i < n
        · have hi : i < 13 := by
            by_cases e : i = 13
            · subst e; exfalso; have : (3 : Int) ^ 13 = 1594323 := by decide
              omega
            · omega
          have HN : Hid (leastP n (13 - (i + 1)) (i + 1) = leastP n 13 0) := by
            have := HI.out
            rw [show 13 - i = 13 - (i + 1) + 1 by omega] at this
            unfold leastP at this
            rwa [if_pos hlt] at this
          have k0 : (i : Int) < 13 := by omega
          go_wp2_with fail
          refine (CP.out i hik _).mono ?_
          rintro e w2 ⟨rfl, rfl⟩
          go_wp2
          go_roundw
          case rel => exact ⟨i + 1, by omega, by go_num, by first | rfl | trivial, HN⟩
          case measure => simp [intOf]; omega
        · have HN : Hid (infoI n = (i : Int)) := by
            unfold Hid
            rw [HE2.out, ← HI.out]
            cases h : 13 - i with
            | zero => rfl
            | succ m => unfold leastP; rw [if_neg hlt]
          go_wp2_with fail
          refine (CP.out i hik _).mono ?_
          rintro e w2 ⟨rfl, rfl⟩
          go_wp2
          go_ret
          exact ⟨ret_int HN.out.symm, rfl⟩
theorem implInfoBound (n : Int) : InfoBoundIs 38 n := fun W => (implInfoBoundE n W).mono fun _ _ h => ⟨h.1, h.2 ▸ Below.refl _ _⟩

set_option maxHeartbeats 1600000 in
theorem implMostUnknownE (k : Int) (g : Bool) (w : World) : Calls Tryd.prog 37 #[.int .i64 k, .bool g] w fun e w' => e = .returned (.int .i64 (mostI k g)) ∧ w = w' := by
  have HE : Hid (mostI k g = if 0 ≤ k ∧ k ≤ 12 then (if g = true then Int.tdiv (3 ^ k.toNat - 1) 2 else max 0 (Int.tdiv (3 ^ k.toNat - 3) 2)) else 0) := rfl
  by_cases k0 : k < 0
  · have HN : Hid (mostI k g = 0) := by unfold Hid; rw [HE.out, if_neg (by omega)]
    go_enter Tryd.func37, Tryd.ntmps37
    go_wp2
    go_ret
    exact ⟨ret_int HN.out.symm, rfl⟩
  · by_cases k12 : 12 < k
    · have HN : Hid (mostI k g = 0) := by unfold Hid; rw [HE.out, if_neg (by omega)]
      go_enter Tryd.func37, Tryd.ntmps37
      go_wp2
      go_ret
      exact ⟨ret_int HN.out.symm, rfl⟩
    · have HE2 : Hid (mostI k g = if g = true then Int.tdiv (3 ^ k.toNat - 1) 2 else max 0 (Int.tdiv (3 ^ k.toNat - 3) 2)) := by unfold Hid; rw [HE.out, if_pos (by omega)]
      clear HE
      obtain ⟨m, rfl⟩ := Int.eq_ofNat_of_zero_le (show 0 ≤ k by omega)
      have hm : m ≤ 12 := by omega
      have CP := Lib.hid (fun W => implMostW m (by omega) W)
      rw [show ((m : Int)).toNat = m from rfl] at HE2
      have hh := pow_half m hm
      generalize (3 : Int) ^ m = P at CP HE2 hh
      have v1 : IntKind.i64.wrap (P - 1) = P - 1 := by rw [IntKind.wrap_i64]; omega
      have v3 : IntKind.i64.wrap (P - 3) = P - 3 := by rw [IntKind.wrap_i64]; omega
      have q1 : IntKind.i64.wrap ((P - 1).tdiv 2) = (P - 1).tdiv 2 := by rw [IntKind.wrap_i64]; have := tdiv2_in (a := P - 1) (by omega) (by omega); omega
      have q3 : IntKind.i64.wrap ((P - 3).tdiv 2) = (P - 3).tdiv 2 := by rw [IntKind.wrap_i64]; have := tdiv2_in (a := P - 3) (by omega) (by omega); omega
      cases g with
      | true =>
        go_enter Tryd.func37, Tryd.ntmps37
        go_wp2_with fail
        refine (CP.out _).mono ?_
        rintro e w2 ⟨rfl, rfl⟩
        go_wp2
        go_ret
        exact ⟨ret_int (by rw [HE2.out]; rfl), rfl⟩
      | false =>
        go_enter Tryd.func37, Tryd.ntmps37
        go_wp2_with fail
        refine (CP.out _).mono ?_
        rintro e w2 ⟨rfl, rfl⟩
        go_wp2
        all_goals
          go_ret
          refine ⟨?_, rfl⟩
          rw [HE2.out]
          simp only [Bool.false_eq_true, if_false]
          first
            | (rw [Int.max_eq_right (by omega)]; rfl)
            | (rw [Int.max_eq_left (by omega)]; rfl)
theorem implMostUnknown (k : Int) (g : Bool) : MostUnknownIs 37 k g := fun W => (implMostUnknownE k g W).mono fun _ _ h => ⟨h.1, h.2 ▸ Below.refl _ _⟩

end Go.Proofs.YtlflblngbneacabDoor
