/- The contract of the program's hasItem and itemsOf, and of the iterator that it returns: the items of a set in ascending order. Condition: an int. -/
import Derived.Test.YthfnbnjajcigeaaBitPlain
import Derived.Test.YthfnbnjajcigeaaGBase
import Derived.RangeFuncNested
import Derived.RangeFuncBound
import Derived.RangeFuncCalls
import Derived.RangeFuncLeaves
import Derived.Shelf.Abstract
import Derived.Shelf.RegionOpen
import Derived.WalkKit
import Derived.OwnWalkIn
import Derived.TacticsInMore
import Derived.LoopNIn
import Derived.LoopIn
namespace Go.Proofs.Ythfnbnjajcigeaa
open Go.RowKit Go.Shelf
attribute [local go_sem] Oper.semAt_some

theorem itsK_up (s : Int) (i : Nat) : ∀ d, itsK s i <+: itsK s (i + d)
  | 0 => List.prefix_refl _
  | d + 1 => by
    rw [show i + (d + 1) = (i + d) + 1 by omega, itsK_succ]
    split
    · exact (itsK_up s i d).trans (List.prefix_append _ _)
    · exact itsK_up s i d
theorem itsK_pre {s : Int} {i : Nat} (hi : i ≤ 63) : itsK s i <+: itsL s := by
  have := itsK_up s i (63 - i)
  rwa [show i + (63 - i) = 63 by omega] at this
theorem shr_in {s : Int} {i : Nat} (h1 : s ≤ 9223372036854775807) (hi : i ≤ 63) (h : 0 < s / 2 ^ i) : 0 ≤ s ∧ i ≤ 62 := by
  have hp : (0 : Int) < 2 ^ i := Int.pow_pos (by decide)
  have h2 := (Int.le_ediv_iff_mul_le hp).1 (show (1 : Int) ≤ s / 2 ^ i by omega)
  refine ⟨by omega, ?_⟩
  by_cases h3 : i ≤ 62
  · exact h3
  · obtain rfl : i = 63 := by omega
    have h63 : (2 : Int) ^ 63 = 9223372036854775808 := by decide
    omega

set_option maxHeartbeats 1000000 in
theorem hasItem_in (F : Fence) (n : Nat) (hf : F.fn 40) (hro : F.round = none) (s : Int) (i : Nat) (h0 : 0 ≤ s) (h1 : s ≤ 9223372036854775807) (hi : i ≤ 62) (w : World) :
    CallsIn F n Try.prog 40 #[.int .i64 s, .int .i64 i] w fun e w' => e = .returned (.bool (s.toNat.testBit i)) ∧ w' = w := by
  have HB := Lib.hid (has_bit h0 h1 hi)
  have hp := (pow_i hi).1
  have hi0 : (0 : Int) ≤ i := by omega
  have hi1 : (i : Int) ≤ 64 := by omega
  refine callsIn_of_wp Try.func40 rfl hf ?_ hro
  simp only [Try.ntmps40, List.size_toArray, List.length_cons, List.length_nil, Nat.reduceAdd, Nat.reduceSub, Array.replicate_succ, Array.replicate_zero, List.push_toArray, List.append_toArray, List.nil_append, List.cons_append]
  gi_wp2
  go_ret
  exact ⟨ret_bool HB.out, rfl⟩

set_option maxHeartbeats 1000000 in
theorem itemsOf_in (F : Fence) (n : Nat) (hf : F.fn 47) (hro : F.round = none) (s : Int) (w : World) :
    CallsIn F n Try.prog 47 #[.int .i64 s] w fun e w' => e = .returned (.func (.func 61) #[] #[.pointer (some ⟨w.heap.size, 0, none⟩)]) ∧ w' = w.alloc (.cells #[.int .i64 s] 3) := by
  refine callsIn_of_wp Try.func47 rfl hf ?_ hro
  simp only [Try.ntmps47, List.size_toArray, List.length_cons, List.length_nil, Nat.reduceAdd, Nat.reduceSub, Array.replicate_succ, Array.replicate_zero, List.push_toArray, List.append_toArray, List.nil_append, List.cons_append]
  gi_wp2
  go_ret
  exact ⟨rfl, rfl⟩

/-- What a round keeps of the iterator: the block of its set. -/
def SameBlk (b : Nat) (W W' : World) : Prop := W'.heap[b]? = W.heap[b]?

set_option maxRecDepth 100000 in
set_option maxHeartbeats 2000000 in
theorem items1_in (F : Fence) (n : Nat) (hf : F.fn 61) (hf2 : F.fn 40) (hro : F.round = none) (hn : 1 ≤ n) (l b : Nat) (s : Int) (hs : s ≤ 9223372036854775807) (J Jx : List Nat → World → Prop)
    (hY : ∀ pre x W, J pre W → x ≤ 62 → pre.length < 63 → YieldAt F (n - 1) Try.prog l #[.int .i64 (x : Nat)] W fun e W' =>
      (e = .returned (.bool true) ∧ J (pre ++ [x]) W' ∧ SameBlk b W W') ∨ (e = .returned (.bool false) ∧ Jx (pre ++ [x]) W'))
    (W : World) (hb : Boxed W b 3 (.int .i64 s)) (h0 : J [] W) :
    CallsIn F n Try.prog 61 #[.func (.yield l) #[] #[], .pointer (some ⟨b, 0, none⟩)] W fun e W' => (∃ v, e = .returned v) ∧
      ((∃ ys, ys = itsL s ∧ J ys W') ∨ (∃ pre, pre <+: itsL s ∧ Jx pre W')) := by
  have hc0 := hb.cell
  refine callsIn_of_wp Try.func61 rfl hf ?_ hro
  simp only [Try.ntmps61, List.size_toArray, List.length_cons, List.length_nil, Nat.reduceAdd, Nat.reduceSub, Array.replicate_succ, Array.replicate_zero, List.push_toArray, List.append_toArray, List.nil_append, List.cons_append]
  gi_wp2
  gi_loopw [3] (fun v wr => ∃ i : Nat, v = .int .i64 i ∧ i ≤ 63 ∧ Boxed wr b 3 (.int .i64 s) ∧ J (itsK s i) wr) (fun v _ => 63 - (intOf v).toNat)
  case atStart => exact ⟨0, rfl, by omega, hb, h0⟩
  case round =>
    obtain ⟨i, rfl, hi, hbi, hJ⟩ := hrel
    have hci := hbi.cell
    have y0 : (0 : Int) ≤ i := by omega
    have y1 : (i : Int) ≤ 64 := by omega
    by_cases hpos : 0 < s / 2 ^ i
    · obtain ⟨s0, hi2⟩ := shr_in hs hi hpos
      have HH := Lib.hid (fun W => hasItem_in F (n - 1) hf2 hro s i s0 hs hi2 W)
      obtain ⟨fn, tmps, assign, body, hy, hR⟩ := hY _ i _ hJ hi2 (Nat.lt_of_le_of_lt (itsK_len s i) (by omega))
      cases hbit : s.toNat.testBit i with
      | true =>
        rw [hbit] at HH
        gi_wp2_with (gi_at_call 40; refine (HH.out _).mono ?_; rintro e w' ⟨rfl, rfl⟩)
        refine hR.mono ?_
        rintro e W3 (⟨rfl, hJ3, hk3⟩ | ⟨rfl, hJx3⟩)
        · gi_wp2
          go_roundw
          case rel => exact ⟨i + 1, by go_num, by omega, Eq.trans hk3 hbi, by rw [itsK_yes hbit]; exact hJ3⟩
          case measure => simp [intOf]; omega
        · gi_wp2
          refine bodyPost_ret (results_none rfl _ _ _) rfl ?_
          exact ⟨⟨_, rfl⟩, .inr ⟨_, by rw [← itsK_yes hbit]; exact itsK_pre (by omega), hJx3⟩⟩
      | false =>
        rw [hbit] at HH
        gi_wp2_with (gi_at_call 40; refine (HH.out _).mono ?_; rintro e w' ⟨rfl, rfl⟩)
        refine ⟨fun _ h => (by cases h), ?_⟩
        gi_wp2
        go_roundw
        case rel => exact ⟨i + 1, by go_num, by omega, hbi, by rw [itsK_no hbit]; exact hJ⟩
        case measure => simp [intOf]; omega
    · have HA := Lib.hid (itsK_all hi hpos)
      gi_wp2
      go_end0
      exact ⟨⟨_, rfl⟩, .inl (by rw [← HA.out]; exact hJ)⟩

/-- The number of a bit: an item of a set. -/
abbrev Bit := { x : Nat // x ≤ 62 }
def bits0 (l : List Bit) : List Nat := l.map (·.1)
theorem bits0_snoc (l : List Bit) (x : Bit) : bits0 (l ++ [x]) = bits0 l ++ [x.1] := by simp [bits0]
theorem bits0_len (l : List Bit) : (bits0 l).length = l.length := by simp [bits0]
theorem bits0_any (l : List Bit) (f : Nat → Bool) : (bits0 l).any f = l.any (fun x => f x.1) := by simp [bits0]

/-- The value that itemsOf returns yields all items in their order, or a part of them where a round has said 'no more'. -/
theorem items_stops (F : Fence) (n : Nat) (hf : F.fn 61) (hf2 : F.fn 40) (hro : F.round = none) (hn : 1 ≤ n) (b : Nat) (s : Int) (hs : s ≤ 9223372036854775807) (w : World) (hb : Boxed w b 3 (.int .i64 s)) :
    SeqStopsK F n Try.prog 61 #[.pointer (some ⟨b, 0, none⟩)] (fun x : Bit => #[Value.int .i64 (x.1 : Nat)]) (SameBlk b) (fun ys => bits0 ys = itsL s) (fun pre => bits0 pre <+: itsL s) 63 w := fun l J Jx W hW _ _ hY h0 => by
  refine (items1_in F n hf hf2 hro hn l b s hs (fun pre V => ∃ q, bits0 q = pre ∧ J q V) (fun pre V => ∃ q, bits0 q = pre ∧ Jx q V) ?_ W ((hW.block b hb.lt).trans hb) ⟨[], rfl, h0⟩).mono ?_
  · rintro pre x V ⟨q, rfl, hj⟩ hx hl
    rw [bits0_len] at hl
    refine (hY q ⟨x, hx⟩ V hj hl).mono ?_
    rintro e V' (⟨he, hj', hk⟩ | ⟨he, hj'⟩)
    · exact .inl ⟨he, ⟨_, bits0_snoc _ _, hj'⟩, hk⟩
    · exact .inr ⟨he, ⟨_, bits0_snoc _ _, hj'⟩⟩
  · rintro e V ⟨hv, (⟨ys, rfl, q, hq, hj⟩ | ⟨pre, hp, q, rfl, hj⟩)⟩
    · exact ⟨hv, .inl ⟨q, hq, hj⟩⟩
    · exact ⟨hv, .inr ⟨q, hp, hj⟩⟩
end Go.Proofs.Ythfnbnjajcigeaa
