/- The contracts of the helpers of the model's search: powers of three, the state behind a pick, a completed pick. Conditions: a valid state, a pick within it. -/
import Derived.Test.YtfabcaodiohmaaaSearchPlain
import Derived.Test.YtfabcaodiohmaaaPickSpec
namespace Go.Proofs.Ytfabcaodiohmaaa
open Go.RowKit

set_option maxHeartbeats 1600000 in
theorem specPower (k : Nat) (hk : k ≤ 3) (w : World) : Calls Try.prog 41 #[.int .i64 k] w fun e w' => e = .returned (.int .i64 ((3 : Int) ^ k)) ∧ w = w' := by
  go_enter Try.func41, Try.ntmps41
  go_wp2
  go_loopw [3, 4] (fun nv iv wr => ∃ i : Nat, i ≤ k ∧ iv = .int .i64 i ∧ nv = .int .i64 ((3 : Int) ^ i) ∧ wr = w) (fun _ iv _ => k - (intOf iv).toNat)
  case atStart => exact ⟨0, Nat.zero_le _, rfl, rfl, rfl⟩
  case round =>
    obtain ⟨i, hik, rfl, rfl, rfl⟩ := hrel
    by_cases hlt : i < k
    · have i1 : (i : Int) < (k : Int) := by omega
      have hp : (3 : Int) * 3 ^ i = 3 ^ (i + 1) := by rw [Int.pow_succ]; omega
      have hw : IntKind.i64.wrap ((3 : Int) * 3 ^ i) = 3 ^ (i + 1) := by
        rw [hp, IntKind.wrap_i64]
        rcases (show i = 0 ∨ i = 1 ∨ i = 2 by omega) with rfl | rfl | rfl <;> decide
      have HP := Lib.hid hp
      clear hp
      go_wp2
      go_roundw
      case rel => exact ⟨i + 1, by omega, by go_num, by first | rfl | trivial, by first | rfl | trivial⟩
      case measure => simp [intOf]; omega
    · obtain rfl : i = k := by omega
      go_wp2
      go_ret
      exact ⟨rfl, rfl⟩

set_option maxRecDepth 100000 in
set_option maxHeartbeats 6400000 in
theorem specAfter (s : SD) (p : PD) (x : Int) (hs : SIn s) (hp : PIn s p) (w : World) :
    Calls Try.prog 33 #[stateV s, pickV p, .int .i64 x] w fun e w' => e = .returned (stateV (afterS s p x)) ∧ Below w.heap.size w w' := by
  unfold SIn sumS at hs
  unfold PIn at hp
  have P0 := StateAt.new w 25 s
  have B0 := alloc_below w (.cells #[.int .i64 s.b, .int .i64 s.h, .int .i64 s.l, .int .i64 s.g] 25)
  have s0 : (w.alloc (.cells #[.int .i64 s.b, .int .i64 s.h, .int .i64 s.l, .int .i64 s.g] 25)).heap.size = w.heap.size + 1 := by simp
  generalize hX0 : w.alloc (.cells #[.int .i64 s.b, .int .i64 s.h, .int .i64 s.l, .int .i64 s.g] 25) = X0 at P0 B0 s0
  have Q0 := PickAt.new X0 32 p
  have B1 := alloc_below X0 (.cells #[.int .i64 p.bl, .int .i64 p.br, .int .i64 p.hl, .int .i64 p.hr, .int .i64 p.ll, .int .i64 p.lr, .int .i64 p.gl, .int .i64 p.gr] 32)
  have s1 : (X0.alloc (.cells #[.int .i64 p.bl, .int .i64 p.br, .int .i64 p.hl, .int .i64 p.hr, .int .i64 p.ll, .int .i64 p.lr, .int .i64 p.gl, .int .i64 p.gr] 32)).heap.size = w.heap.size + 2 := by simp [s0]
  generalize hX1 : X0.alloc (.cells #[.int .i64 p.bl, .int .i64 p.br, .int .i64 p.hl, .int .i64 p.hr, .int .i64 p.ll, .int .i64 p.lr, .int .i64 p.gl, .int .i64 p.gr] 32) = X1 at Q0 B1 s1
  rw [s0] at Q0
  have BX := Lib.hid (below_up B0 B1)
  obtain ⟨e0, e1, e2, e3, elt⟩ := P0.below B1
  obtain ⟨q0, q1, q2, q3, q4, q5, q6, q7, qlt⟩ := Q0
  clear P0 B0 B1
  have hor : x = 1 ∨ x = -1 ∨ (x ≠ 1 ∧ x ≠ -1) := by omega
  unfold stateV pickV
  have HB : Hid (∀ o o', Below w.heap.size w ((X1.alloc o).alloc o')) := fun o o' => below_up (below_up BX.out (alloc_below X1 o)) (alloc_below _ o')
  rcases hor with rfl | rfl | ⟨hx1, hx2⟩
  · have HA : Hid (afterS s p 1 = ⟨0, p.bl + p.hl, p.br + p.lr, s.b + s.h + s.l + s.g - (p.bl + p.hl) - (p.br + p.lr)⟩) := by unfold Hid afterS goodS; rw [if_pos rfl]; simp
    go_enter Try.func33, Try.ntmps33
    go_wp2
    refine bodyPost_ret (v := .agg #[.int .i64 (0), .int .i64 (p.bl + p.hl), .int .i64 (p.br + p.lr), .int .i64 (s.b + s.h + s.l + s.g - (p.bl + p.hl) - (p.br + p.lr))]) (by simp only [← s1]; simp [results, Try.results33, go_sem]) rfl ⟨?_, HB.out _ _⟩
    rw [HA.out]
  · have HA : Hid (afterS s p (-1) = ⟨0, p.br + p.hr, p.bl + p.ll, s.b + s.h + s.l + s.g - (p.br + p.hr) - (p.bl + p.ll)⟩) := by unfold Hid afterS goodS; rw [if_neg (by omega), if_pos rfl]; simp
    go_enter Try.func33, Try.ntmps33
    go_wp2
    refine bodyPost_ret (v := .agg #[.int .i64 (0), .int .i64 (p.br + p.hr), .int .i64 (p.bl + p.ll), .int .i64 (s.b + s.h + s.l + s.g - (p.br + p.hr) - (p.bl + p.ll))]) (by simp only [← s1]; simp [results, Try.results33, go_sem]) rfl ⟨?_, HB.out _ _⟩
    rw [HA.out]
  · have HA : Hid (afterS s p x = ⟨s.b - p.bl - p.br, s.h - p.hl - p.hr, s.l - p.ll - p.lr, s.b + s.h + s.l + s.g - (s.b - p.bl - p.br) - (s.h - p.hl - p.hr) - (s.l - p.ll - p.lr)⟩) := by unfold Hid afterS goodS; rw [if_neg hx1, if_neg hx2]
    have g1 : (x == 1) = false := by simpa using hx1
    have g2 : (x == -1) = false := by simpa using hx2
    clear hx1 hx2
    go_enter Try.func33, Try.ntmps33
    go_wp2
    refine bodyPost_ret (v := .agg #[.int .i64 (s.b - p.bl - p.br), .int .i64 (s.h - p.hl - p.hr), .int .i64 (s.l - p.ll - p.lr), .int .i64 (s.b + s.h + s.l + s.g - (s.b - p.bl - p.br) - (s.h - p.hl - p.hr) - (s.l - p.ll - p.lr))]) (by simp only [← s1]; simp [results, Try.results33, go_sem]) rfl ⟨?_, HB.out _ _⟩
    rw [HA.out]

end Go.Proofs.Ytfabcaodiohmaaa
