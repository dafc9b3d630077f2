/- The contracts of the model's FindOne, FindAll, CountHalving, WorstHalving, SkipTests and OneByOne. No condition. -/
import Derived.Test.YtfopallbhfcppaaHalfPlain
import Derived.Test.YtfopallbhfcppaaItemsSpec
import Derived.Deep.QuietTactic
import Derived.BigQuiet
namespace Go.Proofs.Ytfopallbhfcppaa
open Go.RowKit

theorem half_mid {a b : Nat} (h : 1 < b - a) (hb : b ≤ 10) : IntKind.i64.wrap ((b : Int) - (a : Int)) = (b : Int) - a ∧ IntKind.i64.wrap (((b : Int) - (a : Int)).tdiv 2) = (midN a b : Int) - a ∧
    IntKind.i64.wrap ((a : Int) + ((midN a b : Int) - a)) = (midN a b : Int) ∧ IntKind.i64.wrap (midN a b : Int) = (midN a b : Int) := by
  have hm := mid_in h
  have hd : ((b : Int) - (a : Int)).tdiv 2 = (midN a b : Int) - a := by
    rw [Int.tdiv_eq_ediv_of_nonneg (by omega)]
    unfold midN
    omega
  rw [hd]
  refine ⟨?_, ?_, ?_, ?_⟩ <;> (rw [IntKind.wrap_i64]; omega)

set_option maxHeartbeats 1600000 in
theorem specRange (a b : Nat) (h : a ≤ b) (hb : b ≤ 10) (w : World) : Calls Try.prog 52 #[.int .i64 (a : Int), .int .i64 (b : Int)] w fun e w' => e = .returned (.int .i64 (spanI a b)) ∧ Below w.heap.size w w' := by
  obtain ⟨q1, q2, q3⟩ := pow_in (k := b) hb
  obtain ⟨p1, p2, p3⟩ := pow_in (k := a) (by omega)
  have b0 : (0 : Int) ≤ (b : Int) := by omega
  have a0 : (0 : Int) ≤ (a : Int) := by omega
  have hw : IntKind.i64.wrap ((2 : Int) ^ b - 2 ^ a) = spanI a b := by unfold spanI; rw [IntKind.wrap_i64]; omega
  go_enter Try.func52, Try.ntmps52
  go_wp2
  go_quiet (fail)
  go_wp2
  go_ret
  exact ⟨ret_int (by first | exact hw | rfl), below_drewN (Below.refl _ _) _⟩

/-- What FindOne and FindAll give back. -/
def Finds (L : List Int) (k : Int) (b : Bool) (w : World) (e : Ending) (w' : World) : Prop :=
  ∃ u, e = .returned (.tuple #[u, .int .i64 k, .bool b]) ∧ Own w' w.heap.size u L ∧ Below w.heap.size w w'
theorem Finds.no {L : List Int} {k : Int} {b : Bool} {w w' : World} (hl : L = []) (hk : k = 0) (h : b = false) (hb : Below w.heap.size w w') : Finds L k b w (.returned (.tuple #[.slice none 0 0, .int .i64 0, .bool false])) w' := by
  subst h hl hk
  exact ⟨_, rfl, Own.nil _ _, hb⟩
theorem Finds.yes {L : List Int} {k k' : Int} {b : Bool} {w w' : World} {u : Value} (hk : k = k') (h : b = true) (ho : Own w' w.heap.size u L) (hb : Below w.heap.size w w') : Finds L k b w (.returned (.tuple #[u, .int .i64 k', .bool true])) w' := by
  subst h hk
  exact ⟨_, rfl, ho, hb⟩
end Go.Proofs.Ytfopallbhfcppaa
