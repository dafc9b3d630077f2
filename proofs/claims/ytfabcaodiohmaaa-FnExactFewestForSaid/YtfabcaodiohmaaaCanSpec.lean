/- The contract of the model's search for a case, by induction on the number of weighings. Conditions: a valid state, at most three weighings. -/
import Derived.Test.YtfabcaodiohmaaaFirstSpec
namespace Go.Proofs.Ytfabcaodiohmaaa
open Go.RowKit

set_option maxRecDepth 100000 in
set_option maxHeartbeats 6400000 in
/-- One step of the search, round what the search for a first pick returns. -/
theorem canStep (k : Nat) (hk : k ≤ 3) (s : SD) (hs : SIn s) (g : PD) (ok : Bool)
    (HF : 1 ≤ k → ∀ W, Calls Try.prog 39 #[stateV s, .int .i64 k] W fun e w' => e = .returned (.tuple #[pickV g, .bool ok]) ∧ Below W.heap.size W w') (w : World) :
    Calls Try.prog 35 #[stateV s, .int .i64 k] w fun e w' => e = .returned (.bool (decide (countS s ≤ 1) || (decide (1 ≤ k) && (decide (countS s ≤ 3 ^ k) && ok)))) ∧ Below w.heap.size w w' := by
  have CN := Lib.hid (fun W => specCountOf s (stateB_iff.2 hs) W)
  have CP := Lib.hid (fun W => specPower k hk W)
  have CF := Lib.hid HF
  clear HF hs
  obtain ⟨r, hr⟩ : ∃ r, (decide (countS s ≤ 1) || (decide (1 ≤ k) && (decide (countS s ≤ 3 ^ k) && ok))) = r := ⟨_, rfl⟩
  rw [hr]
  have HR := Lib.hid hr
  clear hr
  have P0 := Lib.hid (StateAt.new w 25 s)
  have B0 := Lib.hid (alloc_below w (.cells #[.int .i64 s.b, .int .i64 s.h, .int .i64 s.l, .int .i64 s.g] 25))
  have s0 : (w.alloc (.cells #[.int .i64 s.b, .int .i64 s.h, .int .i64 s.l, .int .i64 s.g] 25)).heap.size = w.heap.size + 1 := by simp
  generalize hX0 : w.alloc (.cells #[.int .i64 s.b, .int .i64 s.h, .int .i64 s.l, .int .i64 s.g] 25) = X0 at P0 B0 s0
  have S0 := Lib.hid s0
  clear s0
  unfold stateV at CN CF ⊢
  unfold pickV at CF
  generalize countS s = n at CN HR
  obtain ⟨e0, e1, e2, e3, -⟩ := P0.out
  go_enter Try.func35, Try.ntmps35
  go_wp2_with fail
  refine (CN.out _).mono ?_
  rintro e w1 ⟨rfl, b1⟩
  have B1 := Lib.hid (below_up B0.out b1)
  have P1 := Lib.hid (P0.out.below b1)
  clear b1 e0 e1 e2 e3 hX0
  by_cases h1 : n ≤ 1
  · have HF : Hid (r = true) := by unfold Hid; rw [← HR.out, decide_eq_true h1]; rfl
    clear HR
    go_wp2
    go_ret
    exact ⟨ret_bool HF.out.symm, B1.out⟩
  · have HR1 : Hid ((decide (1 ≤ k) && (decide (n ≤ 3 ^ k) && ok)) = r) := by unfold Hid; rw [← HR.out, decide_eq_false h1]; rfl
    clear HR
    by_cases hk1 : 1 ≤ k
    · have HR2 : Hid ((decide (n ≤ 3 ^ k) && ok) = r) := by unfold Hid; rw [← HR1.out, decide_eq_true hk1]; rfl
      have CF := Lib.hid (CF.out hk1)
      clear HR1
      have hk2 : ¬ ((k : Int) < 1) := by omega
      obtain ⟨e0, e1, e2, e3, -⟩ := P1.out
      go_wp2_with fail
      refine (CN.out _).mono ?_
      rintro e w2 ⟨rfl, b2⟩
      have B2 := Lib.hid (below_up B1.out b2)
      have P2 := Lib.hid (P1.out.below b2)
      clear b2 e0 e1 e2 e3
      go_wp2_with fail
      refine (CP.out _).mono ?_
      rintro e w3 ⟨rfl, rfl⟩
      by_cases hp : n ≤ 3 ^ k
      · have HF : Hid (ok = r) := by unfold Hid; rw [← HR2.out, decide_eq_true hp]; rfl
        clear HR2
        have hp2 : ¬ ((3 : Int) ^ k < n) := by omega
        obtain ⟨e0, e1, e2, e3, -⟩ := P2.out
        go_wp2_with fail
        refine (CF.out _).mono ?_
        rintro e w4 ⟨rfl, b4⟩
        have B4 := Lib.hid (below_up B2.out b4)
        obtain ⟨-, -, -, -, hw4⟩ := P2.out.below b4
        clear e0 e1 e2 e3 b4
        have b5 := alloc_below w4 (.cells #[.int .i64 0, .int .i64 0, .int .i64 0, .int .i64 0, .int .i64 0, .int .i64 0, .int .i64 0, .int .i64 0] 32)
        have q5 := EightVar.new w4 32 zeroP
        have B5 := Lib.hid (below_up B4.out b5)
        change EightVar (w4.alloc (.cells #[.int .i64 0, .int .i64 0, .int .i64 0, .int .i64 0, .int .i64 0, .int .i64 0, .int .i64 0, .int .i64 0] 32)) _ _ at q5
        generalize hX5 : w4.alloc (.cells #[.int .i64 0, .int .i64 0, .int .i64 0, .int .i64 0, .int .i64 0, .int .i64 0, .int .i64 0, .int .i64 0] 32) = X5 at b5 q5 B5
        have B6 := Lib.hid (below_fill B5.out (b := w4.heap.size) (by omega) g)
        obtain ⟨⟨q0, q1, q2, q3, q4, q5, q6, q7, ql⟩, f0, f1, f2, f3, f4, f5, f6, f7⟩ := q5
        clear B4 b5 hw4
        go_wp2
        go_ret
        exact ⟨ret_bool HF.out, B6.out⟩
      · have HF : Hid (r = false) := by unfold Hid; rw [← HR2.out, decide_eq_false hp]; rfl
        clear HR2
        have hp2 : (3 : Int) ^ k < n := by omega
        go_wp2
        go_ret
        exact ⟨ret_bool HF.out.symm, B2.out⟩
    · have HF : Hid (r = false) := by unfold Hid; rw [← HR1.out, decide_eq_false hk1]; rfl
      clear HR1
      have hk2 : ((k : Int) < 1) := by omega
      go_wp2
      go_ret
      exact ⟨ret_bool HF.out.symm, B1.out⟩

/-- The model's search tells whether the case of a valid state can be found. -/
theorem specCan : ∀ k : Nat, k ≤ 3 → CanIs k (canS k)
  | 0, _ => fun s hs w => by
    have C := canStep 0 (by omega) s hs zeroP false (fun h => absurd h (by omega)) w
    refine C.mono ?_
    rintro e w' ⟨he, hb⟩
    refine ⟨?_, hb⟩
    rw [he]
    unfold canS
    simp
  | j + 1, hk => fun s hs w => by
    have C := canStep (j + 1) hk s hs ((firstP (canS j) (3 ^ j) s).getD zeroP) (firstP (canS j) (3 ^ j) s).isSome
      (fun _ W => specFirst j (by omega) ((j + 1 : Nat) : Int) (by omega) (canS j) (specCan j (by omega)) s hs W) w
    refine C.mono ?_
    rintro e w' ⟨he, hb⟩
    refine ⟨?_, hb⟩
    rw [he]
    conv => rhs; unfold canS
    simp
end Go.Proofs.Ytfabcaodiohmaaa
