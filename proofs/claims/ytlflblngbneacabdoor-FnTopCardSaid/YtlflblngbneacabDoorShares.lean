/- The contract of the program's shares, and of the iterator that it returns. Condition: a number of coins. -/
import Derived.Test.YtlflblngbneacabDoorSharePlain
import Derived.Test.YtlflblngbneacabDoorGBase
import Derived.RangeFuncNested
import Derived.RangeFuncBound
import Derived.RangeFuncCalls
import Derived.RangeFuncLeaves
import Derived.Shelf.Abstract
import Derived.Shelf.RegionOpen
import Derived.WalkKit
import Derived.OwnWalkIn
import Derived.TacticsInMore
import Derived.LoopNIn
import Derived.LoopIn
namespace Go.Proofs.YtlflblngbneacabDoor
open Go.RowKit Go.Shelf
attribute [local go_sem] Oper.semAt_some

set_option maxHeartbeats 1000000 in
theorem shares_in (F : Fence) (n : Nat) (hf : F.fn 169) (hro : F.round = none) (c : Int) (w : World) :
    CallsIn F n Tryd.prog 169 #[.int .i64 c] w fun e w' => e = .returned (.func (.func 176) #[] #[.pointer (some ⟨w.heap.size, 0, none⟩)]) ∧ w' = w.alloc (.cells #[.int .i64 c] 3) := by
  refine callsIn_of_wp Tryd.func169 rfl hf ?_ hro
  simp only [Tryd.ntmps169, List.size_toArray, List.length_cons, List.length_nil, Nat.reduceAdd, Nat.reduceSub, Array.replicate_succ, Array.replicate_zero, List.push_toArray, List.append_toArray, List.nil_append, List.cons_append]
  gi_wp2
  go_ret
  exact ⟨rfl, rfl⟩

/-- What a round keeps of the iterator: the block of its number of coins. -/
def SameAt (b : Nat) (W W' : World) : Prop := W'.heap[b]? = W.heap[b]?
theorem SameAt.refl (b : Nat) (W : World) : SameAt b W W := rfl

set_option maxRecDepth 100000 in
set_option maxHeartbeats 2000000 in
theorem shares1_in (F : Fence) (n : Nat) (hf : F.fn 176) (hro : F.round = none) (hn : 1 ≤ n) (l b c : Nat) (hc : c ≤ 13) (J Jx : List (Nat × Nat) → World → Prop)
    (hY : ∀ pre x W, J pre W → pre.length < (pairsL c).length → YieldAt F (n - 1) Tryd.prog l #[.int .i64 (cl x.1), .int .i64 (cl x.2)] W fun e W' =>
      (e = .returned (.bool true) ∧ J (pre ++ [x]) W' ∧ SameAt b W W') ∨ (e = .returned (.bool false) ∧ Jx (pre ++ [x]) W'))
    (W : World) (hb : Boxed W b 3 (.int .i64 c)) (h0 : J [] W) :
    CallsIn F n Tryd.prog 176 #[.func (.yield l) #[] #[], .pointer (some ⟨b, 0, none⟩)] W fun e W' => (∃ v, e = .returned v) ∧
      ((∃ ys, ys = pairsL c ∧ J ys W') ∨ (∃ pre, pre <+: pairsL c ∧ Jx pre W')) := by
  have hc0 := hb.cell
  have hw1 : IntKind.i64.wrap ((c : Int) + 1) = c + 1 := by rw [IntKind.wrap_i64]; omega
  refine callsIn_of_wp Tryd.func176 rfl hf ?_ hro
  simp only [Tryd.ntmps176, List.size_toArray, List.length_cons, List.length_nil, Nat.reduceAdd, Nat.reduceSub, Array.replicate_succ, Array.replicate_zero, List.push_toArray, List.append_toArray, List.nil_append, List.cons_append]
  gi_wp2
  gi_loopw [7] (fun v wr => ∃ i : Nat, v = .int .i64 i ∧ i ≤ c + 1 ∧ Boxed wr b 3 (.int .i64 c) ∧ J (rowsL c i) wr) (fun v _ => c + 1 - (intOf v).toNat)
  case atStart => exact ⟨0, rfl, by omega, hb, h0⟩
  case round =>
    obtain ⟨i, rfl, hi, hbi, hJ⟩ := hrel
    have hci := hbi.cell
    by_cases hlt : i < c + 1
    · have i1 : (i : Int) < (c : Int) + 1 := by omega
      have v1 : IntKind.i64.wrap ((c : Int) - i) = ((c - i : Nat) : Int) := by rw [IntKind.wrap_i64]; omega
      have v2 : IntKind.i64.wrap (((c - i : Nat) : Int) + 1) = ((c - i : Nat) : Int) + 1 := by rw [IntKind.wrap_i64]; omega
      gi_wp2
      gi_loopw [14] (fun v ws => ∃ j : Nat, v = .int .i64 j ∧ j ≤ c - i + 1 ∧ Boxed ws b 3 (.int .i64 c) ∧ J (rowsL c i ++ rowL i j) ws) (fun v _ => c - i + 1 - (intOf v).toNat)
      case atStart => exact ⟨0, rfl, by omega, hbi, by simpa [rowL] using hJ⟩
      case round =>
        obtain ⟨j, rfl, hj, hbj, hJj⟩ := hrel
        by_cases hlt2 : j < c - i + 1
        · have j1 : (j : Int) < ((c - i : Nat) : Int) + 1 := by omega
          obtain ⟨fn, tmps, assign, body, hy, hR⟩ := hY _ (i, j) _ hJj (pairs_lt (by omega) hlt2)
          simp only [cl_of (show i ≤ 13 by omega), cl_of (show j ≤ 13 by omega)] at hy
          gi_wp2
          refine hR.mono ?_
          rintro e W3 (⟨rfl, hJ3, hk3⟩ | ⟨rfl, hJx3⟩)
          · gi_wp2
            go_roundw
            case rel => exact ⟨j + 1, by go_num, by omega, hk3.trans hbj, by rw [rowL_succ, ← List.append_assoc]; exact hJ3⟩
            case measure => simp [intOf]; omega
          · gi_wp2
            refine bodyPost_ret (results_none rfl _ _ _) rfl ?_
            exact ⟨⟨_, rfl⟩, .inr ⟨_, by rw [List.append_assoc, ← rowL_succ]; exact rows_prefix (by omega) (by omega), hJx3⟩⟩
        · obtain rfl : j = c - i + 1 := by omega
          gi_wp2
          go_roundw
          case rel => exact ⟨i + 1, by go_num, by omega, hbj, by rw [rowsL_succ]; exact hJj⟩
          case measure => simp [intOf]; omega
    · obtain rfl : i = c + 1 := by omega
      gi_wp2
      go_end0
      exact ⟨⟨_, rfl⟩, .inl ⟨_, rfl, hJ⟩⟩

/-- The value that shares returns yields all pairs in their order, or a part of them where a round has said 'no more'. -/
theorem shares_stops (F : Fence) (n : Nat) (hf : F.fn 176) (hro : F.round = none) (hn : 1 ≤ n) (b c : Nat) (hc : c ≤ 13) (w : World) (hb : Boxed w b 3 (.int .i64 c)) :
    SeqStopsK F n Tryd.prog 176 #[.pointer (some ⟨b, 0, none⟩)] (fun x : Nat × Nat => #[Value.int .i64 (cl x.1), .int .i64 (cl x.2)]) (SameAt b) (fun ys => ys = pairsL c) (fun pre => pre <+: pairsL c) (pairsL c).length w := fun l J Jx W hW _ _ hY h0 =>
  shares1_in F n hf hro hn l b c hc J Jx hY W ((hW.block b hb.lt).trans hb) h0
end Go.Proofs.YtlflblngbneacabDoor
