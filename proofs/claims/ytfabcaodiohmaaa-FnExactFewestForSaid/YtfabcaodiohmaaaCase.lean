/- The contracts of ProblemOk, CaseOk and CoinOf, in the model and in the program: each returns what the document's chapter says. Condition: a number of coins that fits Go's int, and a case that does. -/
import Derived.Test.YtfabcaodiohmaaaProg
import Derived.Test.YtfabcaodiohmaaaPlain
import Derived.WalkKit
import Derived.IntWalk
import Derived.BigQuiet
import Derived.Deep.QuietTactic
import Derived.Deep.RegionHeld3
import Derived.Deep.RegionWith
import Derived.Lib.Hide
namespace Go.Proofs.Ytfabcaodiohmaaa
open Go.RowKit

/-- Whether a problem of n coins is valid. -/
def probB (n : Int) (h l : Bool) : Bool := (decide (1 ≤ n) && decide (n ≤ 13)) && (h || l)
/-- Whether a number is the case of some problem. -/
def inB (c : Int) : Bool := decide (-13 ≤ c) && decide (c ≤ 13)
/-- Whether c is a case of the problem. -/
def caseB (n : Int) (h l z : Bool) (c : Int) : Bool := probB n h l && (if 0 < c then h && decide (c ≤ n) else if c < 0 then l && decide (-n ≤ c) else z)
/-- The coin of a case. -/
def coinI (c : Int) : Int := if inB c = true then (if c < 0 then -c else c) else 0

/-- A problem as a value. -/
def probV (n : Int) (h l z : Bool) : Value := .agg #[.int .i64 n, .bool h, .bool l, .bool z]

theorem below_of {W X w1 : World} (h : Below W.heap.size W X) (hb : Below X.heap.size X w1) : Below W.heap.size W w1 := h.trans (hb.mono h.size)

theorem l01In_is (n lo hi : Int) (w : World) : Calls Try.prog 28 #[.int .i64 n, .int .i64 lo, .int .i64 hi] w fun e w' => e = .returned (.bool (decide (lo ≤ n) && decide (n ≤ hi))) ∧ w = w' := by
  by_cases h1 : lo ≤ n
  · have HD : Hid ((decide (lo ≤ n) && decide (n ≤ hi)) = decide (n ≤ hi)) := by unfold Hid; simp [h1]
    go_enter Try.func28, Try.ntmps28
    go_wp2
    go_ret
    exact ⟨ret_bool HD.out.symm, rfl⟩
  · have HD : Hid ((decide (lo ≤ n) && decide (n ≤ hi)) = false) := by unfold Hid; simp [h1]
    go_enter Try.func28, Try.ntmps28
    go_wp2
    go_ret
    exact ⟨ret_bool HD.out.symm, rfl⟩

/-- A problem's four cells lie in block b. -/
def ProbAt (w : World) (b : Nat) (n : Int) (h l z : Bool) : Prop :=
  w.cell? ⟨b, 0, none⟩ = some (.int .i64 n) ∧ w.cell? ⟨b, 1, none⟩ = some (.bool h) ∧ w.cell? ⟨b, 2, none⟩ = some (.bool l) ∧ w.cell? ⟨b, 3, none⟩ = some (.bool z) ∧ b < w.heap.size
theorem ProbAt.belowN {w w' : World} {b B : Nat} {n : Int} {h l z : Bool} (hp : ProbAt w b n h l z) (hb : Below B w w') (hlt : b < B) : ProbAt w' b n h l z := by
  obtain ⟨e0, e1, e2, e3, hlt0⟩ := hp
  refine ⟨?_, ?_, ?_, ?_, Nat.lt_of_lt_of_le hlt0 hb.size⟩
  · rw [hb.cell (p := ⟨b, 0, none⟩) hlt]; exact e0
  · rw [hb.cell (p := ⟨b, 1, none⟩) hlt]; exact e1
  · rw [hb.cell (p := ⟨b, 2, none⟩) hlt]; exact e2
  · rw [hb.cell (p := ⟨b, 3, none⟩) hlt]; exact e3
theorem ProbAt.below {w w' : World} {b : Nat} {n : Int} {h l z : Bool} (hp : ProbAt w b n h l z) (hb : Below w.heap.size w w') : ProbAt w' b n h l z := hp.belowN hb hp.2.2.2.2
theorem ProbAt.new (w : World) (ty : TypeId) (n : Int) (h l z : Bool) : ProbAt (w.alloc (.cells #[.int .i64 n, .bool h, .bool l, .bool z] ty)) w.heap.size n h l z := by
  refine ⟨?_, ?_, ?_, ?_, ?_⟩ <;> simp

theorem bcellC {W w1 : World} (hb : Below W.heap.size W w1) : ∀ b o, b < W.heap.size → w1.cell? ⟨b, o, none⟩ = W.cell? ⟨b, o, none⟩ :=
  fun b o h => hb.cell (p := ⟨b, o, none⟩) h

theorem probB_bounds {n : Int} {h l : Bool} (hp : probB n h l = true) : 1 ≤ n ∧ n ≤ 13 := by
  simp only [probB, Bool.and_eq_true, decide_eq_true_eq] at hp
  exact hp.1

end Go.Proofs.Ytfabcaodiohmaaa
