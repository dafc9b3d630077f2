/- Several texts in one file; each says what it proves and under which condition. No condition. -/
import Derived.Test.YtlflblngbneacabGreatDoorGPool
import Derived.Test.YtlflblngbneacabGreatDoorJoinB
import Derived.Test.YtlflblngbneacabGreatDoorFmt
import Derived.Test.YtlflblngbneacabGreatDoorGBase
import Derived.RangeFuncNested
import Derived.RangeFuncBound
import Derived.RangeFuncCalls
import Derived.RangeFuncLeaves
import Derived.Shelf.Abstract
import Derived.Shelf.RegionOpen
import Derived.WalkKit
import Derived.OwnWalkIn
import Derived.TacticsInMore
import Derived.LoopNIn
import Derived.LoopIn
import Derived.OrdersIn
import Derived.OrdersHeld
import Derived.Deep.RegionHeld3
import Derived.Stop.RegionWithIn
import Derived.RangeFuncBox
import Derived.Lib.OthersKept
/- The text of a set is the numerals of its items joined with nothing between them. No condition. -/
namespace Go.Proofs.YtlflblngbneacabGreatDoor
open Go.RowKit

theorem join_bare : ∀ xs : List (List UInt8), Lib.join xs [] = xs.flatten
  | [] => rfl
  | x :: r => by
    rw [Lib.join_cons]
    simp [Lib.joinTail]
theorem fmt_digit {k : Nat} (h : k ≤ 9) : fmtB (k : Int) = oneByte (48 + (k : Int)) := by
  unfold fmtB Lib.itoa
  rw [if_neg (by omega)]
  apply bytes_eq
  have e : ((k : Int)).toNat = k := Int.toNat_natCast k
  have e2 : (48 + (k : Int)).toNat = 48 + k := by omega
  simp [oneByte, e2, dec_small k (by omega), Nat.toUInt8, UInt8.ofNat]
/-- The numerals of some items. -/
def numL (l : List Nat) : List ByteArray := l.map fun (i : Nat) => fmtB (i : Int)
theorem bit_div (a k : Nat) : (((a : Int) / 2 ^ k % 2) = 1) ↔ a.testBit k = true := by
  have h2 : (2 : Int) ^ k = ((2 ^ k : Nat) : Int) := by simp
  rw [Nat.testBit_eq_decide_div_mod_eq, decide_eq_true_eq, h2]
  omega
theorem set_num {s : Int} (h0 : 0 ≤ s) : ∀ k, k ≤ 10 → ((numL (itsK s k)).map (·.data.toList)).flatten = (setC s k).data.toList ∧ (setC s k).size = (itsK s k).length
  | 0, _ => ⟨rfl, rfl⟩
  | k + 1, hk => by
    obtain ⟨ih, il⟩ := set_num h0 k (by omega)
    obtain ⟨a, rfl⟩ := Int.eq_ofNat_of_zero_le h0
    have hb := bit_div a k
    cases hc : a.testBit k with
    | true =>
      rw [setC_yes (hb.2 hc), itsK_yes (by rw [Int.toNat_natCast]; exact hc)]
      refine ⟨?_, ?_⟩
      · unfold numL at ih ⊢
        rw [List.map_append, List.map_append, List.flatten_append, ih, ByteArray.data_append, Array.toList_append, ← fmt_digit (show k ≤ 9 by omega)]
        simp
      · rw [ByteArray.size_append, oneByte_size, List.length_append, il]
        rfl
    | false =>
      rw [setC_no (by rw [hb, hc]; simp), itsK_no (by rw [Int.toNat_natCast]; exact hc)]
      exact ⟨ih, il⟩
theorem its_ten {s : Int} (h1 : s ≤ 1023) : itsL s = itsK s 10 := itsK_end (i := 10) (by omega) 53
theorem join_set {s : Int} (h0 : 0 ≤ s) (h1 : s ≤ 1023) : joinB (numL (itsL s)) ⟨#[]⟩ = setC s 10 := by
  apply bytes_eq
  show (Lib.join ((numL (itsL s)).map (·.data.toList)) ([] : List UInt8)).toArray.toList = _
  rw [join_bare, its_ten h1, (set_num h0 10 (Nat.le_refl _)).1]
theorem num_len (l : List Nat) : (numL l).length = l.length := by simp [numL]
/-- The text of the empty set, and of another one. -/
theorem setT_out {s : Int} (h : poolB 10 s = false) : setT s = ⟨#[]⟩ := by
  have e : topI 10 = 1023 := by decide
  unfold poolB at h
  rw [e] at h
  unfold setT
  rw [h]
  rfl
theorem setT_zero : setT 0 = ⟨#[45]⟩ := by decide +kernel
theorem setT_in {s : Int} (h0 : 0 < s) (h1 : s ≤ 1023) : setT s = setC s 10 ∧ 0 < (itsL s).length := by
  have hl : 0 < (itsL s).length := by
    obtain ⟨a, rfl⟩ := Int.eq_ofNat_of_zero_le (show 0 ≤ s by omega)
    obtain ⟨i, hi⟩ := Nat.exists_testBit_of_ne_zero (show a ≠ 0 by omega)
    have h63 : i < 63 := by
      by_cases hlt : i < 63
      · exact hlt
      · have : a.testBit i = false := Nat.testBit_lt_two_pow (Nat.lt_of_lt_of_le (show a < 2 ^ 10 by omega) (Nat.pow_le_pow_right (by decide) (by omega)))
        rw [this] at hi
        cases hi
    exact List.length_pos_of_mem (its_mem.2 ⟨h63, by rw [Int.toNat_natCast]; exact hi⟩)
  refine ⟨?_, hl⟩
  unfold setT
  rw [decide_eq_true (show 0 ≤ s by omega), decide_eq_true h1, if_pos (by rfl), if_neg]
  intro he
  have hs := (set_num (show 0 ≤ s by omega) 10 (Nat.le_refl _)).2
  rw [← its_ten h1] at hs
  have h3 := not_empty (setC s 10)
  rw [he, decide_eq_true (by omega)] at h3
  cases h3
end Go.Proofs.YtlflblngbneacabGreatDoor

/- The contract of the program's hasItem and itemsOf, and of the iterator that it returns: the items of a set in ascending order. Condition: an int. -/
namespace Go.Proofs.YtlflblngbneacabGreatDoor
open Go.RowKit Go.Shelf
attribute [local go_sem] Oper.semAt_some

theorem itsK_up (s : Int) (i : Nat) : ∀ d, itsK s i <+: itsK s (i + d)
  | 0 => List.prefix_refl _
  | d + 1 => by
    rw [show i + (d + 1) = (i + d) + 1 by omega, itsK_succ]
    split
    · exact (itsK_up s i d).trans (List.prefix_append _ _)
    · exact itsK_up s i d
theorem itsK_pre {s : Int} {i : Nat} (hi : i ≤ 63) : itsK s i <+: itsL s := by
  have := itsK_up s i (63 - i)
  rwa [show i + (63 - i) = 63 by omega] at this
theorem shr_in {s : Int} {i : Nat} (h1 : s ≤ 9223372036854775807) (hi : i ≤ 63) (h : 0 < s / 2 ^ i) : 0 ≤ s ∧ i ≤ 62 := by
  have hp : (0 : Int) < 2 ^ i := Int.pow_pos (by decide)
  have h2 := (Int.le_ediv_iff_mul_le hp).1 (show (1 : Int) ≤ s / 2 ^ i by omega)
  refine ⟨by omega, ?_⟩
  by_cases h3 : i ≤ 62
  · exact h3
  · obtain rfl : i = 63 := by omega
    have h63 : (2 : Int) ^ 63 = 9223372036854775808 := by decide
    omega

set_option maxHeartbeats 1000000 in
theorem hasItem_in (F : Fence) (n : Nat) (hf : F.fn 113) (hro : F.round = none) (s : Int) (i : Nat) (h0 : 0 ≤ s) (h1 : s ≤ 9223372036854775807) (hi : i ≤ 62) (w : World) :
    CallsIn F n Tryz.prog 113 #[.int .i64 s, .int .i64 i] w fun e w' => e = .returned (.bool (s.toNat.testBit i)) ∧ w' = w := by
  have HB := Lib.hid (has_bit h0 h1 hi)
  have hp := (pow_i hi).1
  have hi0 : (0 : Int) ≤ i := by omega
  have hi1 : (i : Int) ≤ 64 := by omega
  refine callsIn_of_wp Tryz.func113 rfl hf ?_ hro
  simp only [Tryz.ntmps113, List.size_toArray, List.length_cons, List.length_nil, Nat.reduceAdd, Nat.reduceSub, Array.replicate_succ, Array.replicate_zero, List.push_toArray, List.append_toArray, List.nil_append, List.cons_append]
  gi_wp2
  go_ret
  exact ⟨ret_bool HB.out, rfl⟩

set_option maxHeartbeats 1000000 in
theorem itemsOf_in (F : Fence) (n : Nat) (hf : F.fn 73) (hro : F.round = none) (s : Int) (w : World) :
    CallsIn F n Tryz.prog 73 #[.int .i64 s] w fun e w' => e = .returned (.func (.func 112) #[] #[.pointer (some ⟨w.heap.size, 0, none⟩)]) ∧ w' = w.alloc (.cells #[.int .i64 s] 3) := by
  refine callsIn_of_wp Tryz.func73 rfl hf ?_ hro
  simp only [Tryz.ntmps73, List.size_toArray, List.length_cons, List.length_nil, Nat.reduceAdd, Nat.reduceSub, Array.replicate_succ, Array.replicate_zero, List.push_toArray, List.append_toArray, List.nil_append, List.cons_append]
  gi_wp2
  go_ret
  exact ⟨rfl, rfl⟩

/-- What a round keeps of the iterator: the block of its set. -/
def SameBlk (b : Nat) (W W' : World) : Prop := W'.heap[b]? = W.heap[b]?

set_option maxRecDepth 100000 in
set_option maxHeartbeats 2000000 in
theorem items1_in (F : Fence) (n : Nat) (hf : F.fn 112) (hf2 : F.fn 113) (hro : F.round = none) (hn : 1 ≤ n) (l b : Nat) (s : Int) (hs : s ≤ 9223372036854775807) (J Jx : List Nat → World → Prop)
    (hY : ∀ pre x W, J pre W → x ≤ 62 → pre.length < 63 → YieldAt F (n - 1) Tryz.prog l #[.int .i64 (x : Nat)] W fun e W' =>
      (e = .returned (.bool true) ∧ J (pre ++ [x]) W' ∧ SameBlk b W W') ∨ (e = .returned (.bool false) ∧ Jx (pre ++ [x]) W'))
    (W : World) (hb : Boxed W b 3 (.int .i64 s)) (h0 : J [] W) :
    CallsIn F n Tryz.prog 112 #[.func (.yield l) #[] #[], .pointer (some ⟨b, 0, none⟩)] W fun e W' => (∃ v, e = .returned v) ∧
      ((∃ ys, ys = itsL s ∧ J ys W') ∨ (∃ pre, pre <+: itsL s ∧ Jx pre W')) := by
  have hc0 := hb.cell
  refine callsIn_of_wp Tryz.func112 rfl hf ?_ hro
  simp only [Tryz.ntmps112, List.size_toArray, List.length_cons, List.length_nil, Nat.reduceAdd, Nat.reduceSub, Array.replicate_succ, Array.replicate_zero, List.push_toArray, List.append_toArray, List.nil_append, List.cons_append]
  gi_wp2
  gi_loopw [3] (fun v wr => ∃ i : Nat, v = .int .i64 i ∧ i ≤ 63 ∧ Boxed wr b 3 (.int .i64 s) ∧ J (itsK s i) wr) (fun v _ => 63 - (intOf v).toNat)
  case atStart => exact ⟨0, rfl, by omega, hb, h0⟩
  case round =>
    obtain ⟨i, rfl, hi, hbi, hJ⟩ := hrel
    have hci := hbi.cell
    have y0 : (0 : Int) ≤ i := by omega
    have y1 : (i : Int) ≤ 64 := by omega
    by_cases hpos : 0 < s / 2 ^ i
    · obtain ⟨s0, hi2⟩ := shr_in hs hi hpos
      have HH := Lib.hid (fun W => hasItem_in F (n - 1) hf2 hro s i s0 hs hi2 W)
      obtain ⟨fn, tmps, assign, body, hy, hR⟩ := hY _ i _ hJ hi2 (Nat.lt_of_le_of_lt (itsK_len s i) (by omega))
      cases hbit : s.toNat.testBit i with
      | true =>
        rw [hbit] at HH
        gi_wp2_with (gi_at_call 113; refine (HH.out _).mono ?_; rintro e w' ⟨rfl, rfl⟩)
        refine hR.mono ?_
        rintro e W3 (⟨rfl, hJ3, hk3⟩ | ⟨rfl, hJx3⟩)
        · gi_wp2
          go_roundw
          case rel => exact ⟨i + 1, by go_num, by omega, Eq.trans hk3 hbi, by rw [itsK_yes hbit]; exact hJ3⟩
          case measure => simp [intOf]; omega
        · gi_wp2
          refine bodyPost_ret (results_none rfl _ _ _) rfl ?_
          exact ⟨⟨_, rfl⟩, .inr ⟨_, by rw [← itsK_yes hbit]; exact itsK_pre (by omega), hJx3⟩⟩
      | false =>
        rw [hbit] at HH
        gi_wp2_with (gi_at_call 113; refine (HH.out _).mono ?_; rintro e w' ⟨rfl, rfl⟩)
        refine ⟨fun _ h => (by cases h), ?_⟩
        gi_wp2
        go_roundw
        case rel => exact ⟨i + 1, by go_num, by omega, hbi, by rw [itsK_no hbit]; exact hJ⟩
        case measure => simp [intOf]; omega
    · have HA := Lib.hid (itsK_all hi hpos)
      gi_wp2
      go_end0
      exact ⟨⟨_, rfl⟩, .inl (by rw [← HA.out]; exact hJ)⟩

/-- The number of a bit: an item of a set. -/
abbrev Bit := { x : Nat // x ≤ 62 }
def bits0 (l : List Bit) : List Nat := l.map (·.1)
theorem bits0_snoc (l : List Bit) (x : Bit) : bits0 (l ++ [x]) = bits0 l ++ [x.1] := by simp [bits0]
theorem bits0_len (l : List Bit) : (bits0 l).length = l.length := by simp [bits0]
theorem bits0_any (l : List Bit) (f : Nat → Bool) : (bits0 l).any f = l.any (fun x => f x.1) := by simp [bits0]

/-- The value that itemsOf returns yields all items in their order, or a part of them where a round has said 'no more'. -/
theorem items_stops (F : Fence) (n : Nat) (hf : F.fn 112) (hf2 : F.fn 113) (hro : F.round = none) (hn : 1 ≤ n) (b : Nat) (s : Int) (hs : s ≤ 9223372036854775807) (w : World) (hb : Boxed w b 3 (.int .i64 s)) :
    SeqStopsK F n Tryz.prog 112 #[.pointer (some ⟨b, 0, none⟩)] (fun x : Bit => #[Value.int .i64 (x.1 : Nat)]) (SameBlk b) (fun ys => bits0 ys = itsL s) (fun pre => bits0 pre <+: itsL s) 63 w := fun l J Jx W hW _ _ hY h0 => by
  refine (items1_in F n hf hf2 hro hn l b s hs (fun pre V => ∃ q, bits0 q = pre ∧ J q V) (fun pre V => ∃ q, bits0 q = pre ∧ Jx q V) ?_ W ((hW.block b hb.lt).trans hb) ⟨[], rfl, h0⟩).mono ?_
  · rintro pre x V ⟨q, rfl, hj⟩ hx hl
    rw [bits0_len] at hl
    refine (hY q ⟨x, hx⟩ V hj hl).mono ?_
    rintro e V' (⟨he, hj', hk⟩ | ⟨he, hj'⟩)
    · exact .inl ⟨he, ⟨_, bits0_snoc _ _, hj'⟩, hk⟩
    · exact .inr ⟨he, ⟨_, bits0_snoc _ _, hj'⟩⟩
  · rintro e V ⟨hv, (⟨ys, rfl, q, hq, hj⟩ | ⟨pre, hp, q, rfl, hj⟩)⟩
    · exact ⟨hv, .inl ⟨q, hq, hj⟩⟩
    · exact ⟨hv, .inr ⟨q, hp, hj⟩⟩
end Go.Proofs.YtlflblngbneacabGreatDoor

/- The contracts of the model's FormatInt at one digit, SetText and ReadSet. Condition: the text is short enough to be counted. -/
namespace Go.Proofs.YtlflblngbneacabGreatDoor
open Go.RowKit

end Go.Proofs.YtlflblngbneacabGreatDoor

/- The walks of the exact laws of SetText and ReadSet round the contracts of the program's functions (in every world that lies above the one that the law starts in): each returns true for every argument. Condition: the text is short enough to be counted. -/
namespace Go.Proofs.YtlflblngbneacabGreatDoor
open Go.RowKit

/-- The contracts of the program's functions. -/
def SetTextIs (f : FuncId) (s : Int) (w : World) : Prop := ∀ W, Below w.heap.size w W → Calls Tryz.prog f #[.int .i64 s] W fun e w' => e = .returned (.string (setT s)) ∧ Below W.heap.size W w'
def ReadSetIs (f : FuncId) (t : ByteArray) (w : World) : Prop := ∀ W, Below w.heap.size w W → Calls Tryz.prog f #[.string t] W fun e w' => e = .returned (.tuple #[.int .i64 (readV t), .bool (readB t)]) ∧ Below W.heap.size W w'

end Go.Proofs.YtlflblngbneacabGreatDoor

/- A region that draws its order of evaluation, within a round of a range over a function: what holds of it in an ordinary frame, order by order, holds in the round's frame, at the wide fence. Conditions: no operation of the region defers; the way out by lack of memory is shut. -/
namespace Go.Proofs.YtlflblngbneacabGreatDoor
open Go.RowKit

section
variable {P : Program} {l n : Nat} {Q : Exit → Act → World → Prop}

theorem operIn_of {o : Oper} {a : Act} {w : World} {K : Act → World → Prop} (hd : ∀ c, o.op ≠ .defer c) (h : o.wp P a w K Q) : o.wpIn (Fence.wide.inRound l) n P a w K Q := by
  refine ⟨fun _ _ => trivial, ?_⟩
  rw [Oper.semAt_plain (Fence.wide.inRound l) _ _ hd]
  unfold Oper.wp at h
  generalize (execOp a.eval o).run P w = r at h ⊢
  cases r with
  | ok x w' =>
    cases x with
    | value v => exact h
    | skip => exact h
    | defer d => exact h
    | enter f args => exact ⟨fun hh => by simp [Fence.wide] at hh, (CallsIn.inRound l (callsIn_wide.2 h)).mono fun e w'' he => by cases e <;> exact he⟩
    | row r args => exact ⟨fun hh => by simp [Fence.wide] at hh, fun c cs _ => by obtain ⟨v, w'', hr, hs⟩ := h c cs; exact ⟨v, w'', hr, stepsIn_wide.2 hs⟩⟩
    | _ => exact h.elim
  | halt x w' => cases x <;> exact h

theorem opIn_of {ops : Array Oper} {i : Nat} {a : Act} {w : World} {K K' : Act → World → Prop} (hd : ∀ (j : Nat) (o : Oper), ops[j]? = some o → ∀ c, o.op ≠ .defer c) (hQ : ¬ LetsOut Q) (hK : ∀ a w, K a w → K' a w)
    (h : wpOp P ops Q i K a w) : wpOpIn (Fence.wide.inRound l) n P ops Q i K' a w := by
  unfold wpOp at h
  unfold wpOpIn
  cases ho : ops[i]? with
  | none => simp only [ho] at h ⊢; exact hK _ _ h
  | some o =>
    simp only [ho] at h ⊢
    split
    · rename_i hw
      simp only [hw, if_true] at h
      rcases h with h | h
      · exact operIn_of (hd i o ho) (Oper.wp_mono hK h)
      · exact absurd h.2 hQ
    · rename_i hw
      simp only [hw] at h
      exact ⟨fun _ _ => trivial, hK _ _ h⟩

theorem anyIn_of {md : Region.Mode} {ops : Array Oper} (hd : ∀ (j : Nat) (o : Oper), ops[j]? = some o → ∀ c, o.op ≠ .defer c) (hQ : ¬ LetsOut Q) :
    ∀ (fuel : Nat) (listed : Array Bool) (a : Act) (w : World), wpAny P md ops Q fuel listed a w → wpAnyIn (Fence.wide.inRound l) n P md ops Q fuel listed a w
  | 0, _, _, _, h => h
  | fuel + 1, _, _, _, h => ⟨h.1, fun i hi => opIn_of hd hQ (fun a' w' h' => anyIn_of hd hQ fuel _ a' w' h') (h.2 i hi)⟩

/-- No operation of the region is a 'defer' statement. -/
def noDefer (ops : Array Oper) : Bool := ops.toList.all fun o => match o.op with | .defer _ => false | _ => true
theorem noDefer_spec {ops : Array Oper} (h : noDefer ops = true) (j : Nat) (o : Oper) (hj : ops[j]? = some o) (c : Call) : o.op ≠ .defer c := fun e => by
  unfold noDefer at h
  rw [List.all_eq_true] at h
  have := h o (by rw [Array.mem_toList_iff]; exact Array.mem_of_getElem? hj)
  rw [e] at this
  cases this

/-- The beginning, in a round: S is shown of the world behind the draw. -/
theorem roundHeld {id : Nat} {ops : Array Oper} {S : World → Prop} {a : Act} {w : World} (hm : P.follows .mixedOrders = true) (hd : noDefer ops = true) (hQ : ¬ LetsOut Q) (hS : S w.drew)
    (h : S w.drew → wpAnyH P .any ops Q S ops.size (Array.replicate ops.size false) a w.drew) : (Code.region id ops true).wpIn (Fence.wide.inRound l) n P Q a w :=
  wpIn_region_any hm (anyIn_of (noDefer_spec hd) hQ _ _ _ _ (wpAny_of_held _ _ _ _ (h hS)))
end
end Go.Proofs.YtlflblngbneacabGreatDoor

/- The contract of the program's SetText. Condition: the library's table of powers of ten is as its text lays it. -/
namespace Go.Proofs.YtlflblngbneacabGreatDoor
open Go.RowKit Go.Shelf
attribute [local go_sem] Oper.semAt_some

theorem infoStrA : (Tryz.prog.info? 9).map (fun i => (i.zero, i.size, i.bytes)) = some (some (.string ByteArray.empty), 1, 16) := by kernel_rfl
theorem sameBlk_tr {b : Nat} {A B C : World} (h : SameBlk b A B) (k : SameBlk b B C) : SameBlk b A C := Eq.trans k h
theorem sameBlk_put {w : World} {b : Nat} (hb : b < w.heap.size) (W : World) (l : Nat) (o o' : Obj) (hl : w.heap.size ≤ l) (_ : W.heap[l]? = some o) (_ : o.isCells = false) (_ : o.isWalk = false) : SameBlk b W (W.putObj l o') := World.putObj_heap_other (by omega)
theorem boxedDeepS {W W' : World} {b : Nat} {t : TypeId} {v : Value} (h : Boxed W b t v) (hb : Below W.heap.size W W') : Boxed W' b t v := (hb.block b h.lt).trans h
theorem keepsOthers_below {V V' : World} (h : Below V.heap.size V V') : KeepsOthers V V' := ⟨h.size, fun k _ hk _ => (h.block k (Array.getElem?_eq_some_iff.1 hk).1).trans hk⟩
theorem below_onto {W X w1 : World} (h : Below W.heap.size W X) (hb : Below X.heap.size X w1) : Below W.heap.size W w1 := h.trans (hb.mono h.size)
/-- append to a list of the call's own, which may still be nil, as one step of a region that draws. -/
theorem step_append_any {P : Program} {ops : Array Oper} {o : Oper} {a : Act} {w : World} {K : Act → World → Prop} {Q : Exit → Act → World → Prop} {E : Prop}
    (hg : o.guard = none) (s x : Operand) (t : TypeId) (hop : o.op = Op.call { callee := Callee.builtin Builtin.append, args := #[s, x], argTypes := #[t, t] })
    (base : Nat) (e : TypeId) (i : TypeInfo) (z : Value) (size bytes : Nat) (h1 : P.underlying t = some (.slice e)) (h2 : P.info? e = some i) (h3 : i.zero = some z) (h4 : i.size = size) (h5 : i.bytes = bytes) (h6 : z.cells.size = size) (h7 : 0 < size)
    (v : Value) (n : Nat) (xs : List Value) (hs : a.eval s = v) (hown : w.ownsRow base e size v n xs)
    (ad : Addr) (m c : Nat) (news : List Value) (hx : a.eval x = .slice (some ad) m c) (hn : news.length = m * size) (hc : ∀ j u, news[j]? = some u → w.cell? (ad.add j) = some u) (h1c : ∀ u ∈ news, u.oneCell' = true)
    (b1 : n + m ≤ maxLen) (b2 : (n + m) * bytes ≤ 140737488355328) (hbase : base ≤ w.heap.size)
    (hK : ∀ v' w', w'.ownsRow base e size v' (n + m) (xs ++ news) → w.grownBy w' v.ownBlock → K (a.put o.dst v') w') :
    if Region.wanted o (yielded ops a.tmps) = true then Oper.wp P o a w K Q else E := by
  have hw : Region.wanted o (yielded ops a.tmps) = true := by simp [Region.wanted, hg]
  rw [if_pos hw]
  obtain ⟨v', w', hrun, r1, r2, -⟩ := run_append_own (P := P) w base t o.type e i z size bytes h1 h2 h3 h4 h5 h6 h7 v n xs hown ad m c news hn hc h1c b1 b2 hbase
  unfold Oper.wp
  simp [execOp, hop, resolve, invoke, builtin, hs, hx, hrun, Result.andThen]
  exact hK v' w' r1 r2
/-- What the loop keeps: the list of numerals that grows. -/
def NumI (w : World) (L : List ByteArray) (V : World) : Prop :=
  (∃ s, Boxed V w.heap.size 75 s ∧ V.ownsRow (w.heap.size + 2) 9 1 s L.length (L.map Value.string) ∧ True) ∧ Below w.heap.size w V
theorem numI_own {β : Type} {w : World} {f : β → List ByteArray} {B : Nat} (hB : w.heap.size ≤ B) : OwnFrom B (fun (s : β) V => NumI w (f s) V) :=
  OwnFrom.and (_root_.Go.Own.from (holdsRow_own (w.heap.size + 2) w.heap.size 75 9 1 (fun s => (f s).length) (fun s => (f s).map Value.string) (fun _ _ => True)) _)
    (ownFrom_below (Nat.le_refl _) hB)
theorem NumI.deep {w V V' : World} {L : List ByteArray} (h : NumI w L V) (hb : Below V.heap.size V V') : NumI w L V' := by
  obtain ⟨⟨s, bS, oS, ht⟩, hB⟩ := h
  exact ⟨⟨s, boxedDeepS bS hb, owns_below oS hb, ht⟩, below_onto hB hb⟩
/-- Behind an append to the list: ahead of the store the box still holds the old list; behind it all is kept. -/
theorem numAppend {w V w5 : World} {s v' u : Value} {x : ByteArray} {L : List ByteArray} {tmp : Obj} (bS : Boxed V w.heap.size 75 s) (oS : V.ownsRow (w.heap.size + 2) 9 1 s L.length (L.map Value.string)) (hB : Below w.heap.size w V)
    (hb : Boxed V (w.heap.size + 1) 3 u) (hown : w5.ownsRow (w.heap.size + 2) 9 1 v' (L.length + 1) (L.map Value.string ++ [.string x])) (hgrow : (V.alloc tmp).grownBy w5 s.ownBlock) :
    Boxed w5 w.heap.size 75 s ∧ KeepsOthers V (w5.setCell ⟨w.heap.size, 0, none⟩ v') ∧ SameBlk (w.heap.size + 1) V (w5.setCell ⟨w.heap.size, 0, none⟩ v') ∧ NumI w (L ++ [x]) (w5.setCell ⟨w.heap.size, 0, none⟩ v') := by
  have ne : ∀ b, b < w.heap.size + 2 → some b ≠ s.ownBlock := fun b hb e => by have := (oS.lt b e.symm).1; omega
  have ne' : ∀ b, b < w.heap.size + 2 → v'.ownBlock ≠ some b := fun b hb e => by have := (hown.lt b e).1; omega
  have S1 := (bS.alloc tmp).kept hgrow (ne _ (by omega))
  have M1 := ((hb.alloc tmp).kept hgrow (ne _ (by omega))).other (B' := w.heap.size) (by omega) v'
  refine ⟨S1, ?_, Eq.trans M1 (Eq.symm hb), ⟨v', S1.set v', ?_, trivial⟩, ?_⟩
  · refine ((KeepsOthers.alloc V tmp).trans (KeepsOthers.of_grownBy hgrow fun j o ej hj => ?_)).trans (KeepsOthers.setCell _ _ _)
    rcases (oS.alloc tmp).2 with ⟨rfl, _⟩ | ⟨g, cap, cur, rfl, _, hgb, _⟩
    · simp [Value.ownBlock] at ej
    · obtain rfl : g = j := by simpa [Value.ownBlock] using ej
      rw [hgb] at hj; cases hj; rfl
  · have := hown.kept (grownBy_setCell' w5 w.heap.size v') (.inr (ne' _ (by omega)))
    simpa using this
  · exact ((hB.alloc hB.size tmp).grown hgrow (by have := hB.size; simp; omega) fun j ej => by have := (oS.lt j ej).1; omega).setCell (p := ⟨w.heap.size, 0, none⟩) (by simp) v'
theorem below_drawn {V w3 : World} (bb : Below V.drew.heap.size V.drew w3) : Below V.heap.size V w3 := (Below.refl V.heap.size V).drew.trans bb

set_option maxRecDepth 100000 in
set_option maxHeartbeats 4000000 in
theorem setTextN (s : Int) (h0 : 0 < s) (h1 : s ≤ 1023) (n : Nat) (hn : 8 ≤ n) (w : World) (ht : TabOk w) :
    CallsIn Fence.wide n Tryz.prog 22 #[.int .i64 s] w fun e W' => e = .returned (.string (setT s)) ∧ Below w.heap.size w W' := by
  obtain ⟨i0, hi, hz0, hz1, hz2⟩ := info_parts infoStrA
  have hn1 : 1 ≤ n := by omega
  have hts := setT_in h0 h1
  have HJ : Hid (joinB (numL (itsL s)) ⟨#[]⟩ = setT s) := by unfold Hid; rw [hts.1, join_set (by omega) h1]
  have HLP : Hid (0 < (itsL s).length) := hts.2
  have HLS : Hid ((itsL s).length ≤ 63) := itsK_len s 63
  have HSZ : Hid ((setT s).size ≤ 10) := by unfold Hid; rw [hts.1]; exact setC_size s 10
  have HSO : Hid (poolB 10 s = true) := by
    have e : topI 10 = 1023 := by decide
    unfold Hid poolB
    rw [e, decide_eq_true (show 0 ≤ s by omega), decide_eq_true h1]
    rfl
  have CI := Lib.hid (fun W => implIsSet 10 s (by omega) (by omega) W)
  rw [HSO.out] at CI
  have HFM : Hid (∀ (x : Nat) W, x ≤ 62 → TabOk W → Calls Tryz.prog 30 #[.int .i64 (x : Nat)] W fun e w' => e = .returned (.string (fmtB (x : Nat))) ∧ Below W.heap.size W w') := fun x W hx hW => implFmt (x : Nat) W (by omega) (by omega) hW
  have HT := Lib.hid ht
  generalize setT s = r at HJ HSZ ⊢
  have hs : s ≤ 9223372036854775807 := by omega
  have hne : (s == 0) = false := beq_eq_false_iff_ne.2 (by omega)
  clear hts HSO ht
  refine callsIn_of_wp_marks Tryz.func22 rfl trivial ?_ rfl
  simp only [Tryz.ntmps22, List.size_toArray, List.length_cons, List.length_nil, Nat.reduceAdd, Nat.reduceSub, Array.replicate_succ, Array.replicate_zero, List.push_toArray, List.append_toArray, List.nil_append, List.cons_append]
  gi_wp2_with (first
    | (refine ⟨trivial, ?_⟩; gi_at_call 66; refine (callsIn_wide.2 (CI.out _)).mono ?_; rintro e w1 ⟨rfl, rfl⟩)
    | (refine ⟨trivial, ?_⟩; gi_at_call 73; refine (itemsOf_in Fence.wide (n - 1) trivial rfl _ _).mono ?_; rintro e w' ⟨rfl, rfl⟩))
  have c0 := Boxed.new w 75 (.slice none 0 0)
  have b1 := Boxed.new (w.alloc (.cells #[.slice none 0 0] 75)) 3 (.int .i64 s)
  rw [World.size_alloc] at b1
  have hB0 : Below w.heap.size w ((w.alloc (.cells #[.slice none 0 0] 75)).alloc (.cells #[.int .i64 s] 3)) := ((Below.refl _ w).alloc (Nat.le_refl _) _).alloc (by simp) _
  have HI0 : NumI w [] ((w.alloc (.cells #[.slice none 0 0] 75)).alloc (.cells #[.int .i64 s] 3)) := ⟨⟨_, c0.alloc _, World.ownsRow_nil _ _ _ _, trivial⟩, hB0⟩
  have hsz : ((w.alloc (.cells #[.slice none 0 0] 75)).alloc (.cells #[.int .i64 s] 3)).heap.size = w.heap.size + 2 := by simp
  generalize (w.alloc (.cells #[.slice none 0 0] 75)).alloc (.cells #[.int .i64 s] 3) = X2 at b1 hB0 HI0 hsz ⊢
  refine wpIn_rangeFunc_ownF rfl hn1 (gf := 112) (lb := #[.pointer (some ⟨w.heap.size + 1, 0, none⟩)]) rfl trivial (enters_of Tryz.func112 (by kernel_rfl) rfl)
    (items_stops Fence.wide (n - 1) trivial trivial rfl (by omega) (w.heap.size + 1) s hs _ b1) (fun h k => sameBlk_tr h k) (sameBlk_put (by omega)) (Below.refl _ _) (fun _ => rfl)
    (fun pre V => NumI w (numL (bits0 pre)) V ∧ Boxed V (w.heap.size + 1) 3 (.int .i64 s))
    (fun _ _ _ => False)
    (OwnFrom.and (numI_own (by omega)) (fun _ X Y row hs hg hr => boxed_own (w.heap.size + 1) 3 (fun (_ : Unit) => Value.int .i64 s) () X Y row hs hg (fun r e => (hr r e).2)))
    (fun _ _ _ _ _ hs _ _ => hs)
    ⟨HI0, b1⟩
    (fun x => { tmps := #[.int .i64 s, undef, .string ⟨#[]⟩, .pointer (some ⟨w.heap.size, 0, none⟩), .int .i64 (x.1 : Nat), .int .i64 s, .bool true, .bool false, .int .i64 s, .bool false, .int .i64 s, .func (.func 112) #[] #[.pointer (some ⟨w.heap.size + 1, 0, none⟩)], .int .i64 (x.1 : Nat), undef, undef, undef, undef, undef, undef, undef], defers := [] }) ?assign ?body ?done ?stop
  case assign =>
    intro l x W K hK
    gi_wp2
    exact hK
  case body =>
    rintro l pre x V ⟨hI, hbx⟩ hlen
    have HI := Lib.hid hI
    have HBX := Lib.hid hbx
    obtain ⟨⟨sv, bS, oS, -⟩, hB⟩ := hI
    obtain ⟨ga, gn, gc, rfl⟩ : ∃ a n c, sv = .slice a n c := by
      rcases oS.2 with ⟨rfl, -⟩ | ⟨g, cap, cur, rfl, -⟩
      · exact ⟨_, _, _, rfl⟩
      · exact ⟨_, _, _, rfl⟩
    have hc0 := bS.cell
    have hf0 := bS.frozen
    have CF := Lib.hid (HFM.out x.1 V.drew x.2 (HT.out.below (hB.drew)))
    have hLen : (numL (bits0 pre)).length < 63 := by rw [num_len, bits0_len]; exact hlen
    have HS : Hid (numL (bits0 (pre ++ [x])) = numL (bits0 pre) ++ [fmtB (x.1 : Nat)]) := by unfold Hid; rw [bits0_snoc]; simp [numL]
    have hn2 : 1 ≤ n - 1 - 1 := by omega
    have HOS := Lib.hid oS
    have HBS := Lib.hid bS
    have HB := Lib.hid hB
    clear oS bS hB hbx HFM
    obtain ⟨L, hL⟩ : ∃ L, numL (bits0 pre) = L := ⟨_, rfl⟩
    rw [hL] at HS hLen HOS HI
    have HLen := Lib.hid hLen
    generalize fmtB (x.1 : Nat) = d at CF HS
    clear hL hLen
    gi_wp2
    --BEGIN REGION
    refine wpIn_region_any (by kernel_rfl) (anyIn_of (noDefer_spec (by kernel_rfl)) (fun ⟨_, _, h⟩ => h) _ _ _ _ ?_)
    try (change wpAny _ _ _ _ _ _ _ (World.drew _))
    refine wpAny_take (i := 1) (oi := { dst := some 14, op := Op.move (Operand.tmp 4), type := 3, pos := "l08_pools.go:142", after := #[], guard := none }) (v := .int .i64 (x.1 : Nat)) rfl (by kernel_rfl) (by kernel_rfl) (by kernel_rfl) (fun _ _ _ h => h) (Or.inl ⟨by rfl, ?_⟩) ?_
    · intro w'
      go_simp
    simp only [Act.put, List.setIfInBounds_toArray, List.set_cons_zero, List.set_cons_succ]
    refine wpAny_ready (rs := [0, 2]) (by kernel_rfl) (by simp) ?_
    refine AllReady.cons (o := { dst := some 13, op := Op.load 75 (Operand.tmp 3), type := 75, pos := "l08_pools.go:142", after := #[], guard := none }) rfl (fun K0 hK0 => ?_) (AllReady.cons (o := { dst := some 15, op := Op.call { callee := Callee.value (Operand.func 30), args := #[Operand.tmp 14], argTypes := #[3] }, type := 9, pos := "l08_pools.go:142", after := #[{ on := 1, ground := Ground.data }], guard := none }) rfl (fun K0 hK0 => ?_) AllReady.nil)
    · skip
      go_simp
      refine hK0 _ _ ?_
      clear hK0 K0
      try simp only [Act.put, List.setIfInBounds_toArray, List.set_cons_zero, List.set_cons_succ]
      refine wpAny_ready (rs := [2]) (by kernel_rfl) (by simp) ?_
      refine AllReady.cons (o := { dst := some 15, op := Op.call { callee := Callee.value (Operand.func 30), args := #[Operand.tmp 14], argTypes := #[3] }, type := 9, pos := "l08_pools.go:142", after := #[{ on := 1, ground := Ground.data }], guard := none }) rfl (fun K1 hK1 => ?_) AllReady.nil
      go_simp
      refine CF.out.mono ?_
      rintro e w3 ⟨rfl, bb⟩
      have b3 := below_drawn bb
      have bS3 := boxedDeepS HBS.out b3
      have oS3 := owns_below HOS.out b3
      have hc3 := bS3.cell
      have hf3 := bS3.frozen
      have hc4 := (bS3.alloc (.cells #[.string d] 9)).cell
      have HB3 := Lib.hid b3
      have HS3 : Hid (w.heap.size + 2 ≤ w3.heap.size) := by unfold Hid; have := HB.out.size; have := HBX.out.lt; have := b3.size; omega
      have HOS3 := Lib.hid oS3
      have HBS3 := Lib.hid bS3
      clear b3 bS3 oS3 bb
      refine hK1 _ _ ?_
      clear hK1 K1
      try simp only [Act.put, List.setIfInBounds_toArray, List.set_cons_zero, List.set_cons_succ]
      refine wpAny_ready (rs := [3]) (by kernel_rfl) (by simp) ?_
      refine AllReady.cons (o := { dst := some 16, op := Op.buildSlice 75 1 #[(0, Operand.tmp 15)], type := 75, pos := "l08_pools.go:142", after := #[{ on := 2, ground := Ground.data }], guard := none }) rfl (fun K2 hK2 => ?_) AllReady.nil
      go_simp
      refine hK2 _ _ ?_
      clear hK2 K2
      try simp only [Act.put, List.setIfInBounds_toArray, List.set_cons_zero, List.set_cons_succ]
      refine wpAny_ready (rs := [4]) (by kernel_rfl) (by simp) ?_
      refine AllReady.cons (o := { dst := some 17, op := Op.call { callee := Callee.builtin Builtin.append, args := #[Operand.tmp 13, Operand.tmp 16], argTypes := #[75, 75] }, type := 75, pos := "l08_pools.go:142", after := #[{ on := 0, ground := Ground.data }, { on := 3, ground := Ground.data }, { on := 2, ground := Ground.chain }], guard := none }) rfl (fun K3 hK3 => ?_) AllReady.nil
      refine step_append_any rfl (.tmp 13) (.tmp 16) 75 rfl (w.heap.size + 2) 9 i0 (.string ByteArray.empty) 1 16 Tryz.underlying75 hi hz0 hz1 hz2 rfl (by decide) (.slice ga gn gc) L.length (L.map Value.string) rfl (HOS3.out.alloc _) ⟨w3.heap.size, 0, none⟩ 1 1 [.string d] rfl rfl (cell_one_new _ _ _) (by simp [Value.oneCell']) (by have := HLen.out; unfold maxLen; omega) (by have := HLen.out; omega) (by have := HS3.out; simp; omega) ?_
      intro v' w5 hown' hgrow
      obtain ⟨g', cap', rfl⟩ := ownsRow_succ hown'
      obtain ⟨hv1, hk2, hsb, hci⟩ := numAppend HBS3.out HOS3.out (below_onto HB.out HB3.out) (boxedDeepS HBX.out HB3.out) hown' hgrow
      have hc1 := hv1.cell
      have hf1 := hv1.frozen
      have HEND := Lib.hid (And.intro hk2 (And.intro hsb hci))
      have HBX5 := Lib.hid (Eq.trans hsb (boxedDeepS HBX.out HB3.out))
      clear hk2 hsb hci hown' hgrow hv1 hc3 hf3 hc4
      refine hK3 _ _ ?_
      clear hK3 K3
      try simp only [Act.put, List.setIfInBounds_toArray, List.set_cons_zero, List.set_cons_succ]
      refine wpAny_ready (rs := [5]) (by kernel_rfl) (by simp) ?_
      refine AllReady.cons (o := { dst := none, op := Op.store 75 (Operand.tmp 3) (Operand.tmp 17), type := 0, pos := "l08_pools.go:142", after := #[{ on := 4, ground := Ground.data }, { on := 4, ground := Ground.chain }, { on := 0, ground := Ground.phase }, { on := 1, ground := Ground.phase }, { on := 2, ground := Ground.phase }, { on := 3, ground := Ground.phase }, { on := 4, ground := Ground.phase }], guard := none }) rfl (fun K4 hK4 => ?_) AllReady.nil
      go_simp
      refine hK4 _ _ ?_
      clear hK4 K4
      try simp only [Act.put, List.setIfInBounds_toArray, List.set_cons_zero, List.set_cons_succ]
      refine wpAny_done (by kernel_rfl) ?_ _
      gi_wp2
      refine ⟨(keepsOthers_below HB3.out).trans HEND.out.1, sameBlk_tr (HB3.out.block _ HBX.out.lt) HEND.out.2.1, ?_, HBX5.out⟩
      show NumI w (numL (bits0 (pre ++ [x]))) _
      rw [HS.out]
      exact HEND.out.2.2
    · skip
      go_simp
      refine CF.out.mono ?_
      rintro e w3 ⟨rfl, bb⟩
      have b3 := below_drawn bb
      have bS3 := boxedDeepS HBS.out b3
      have oS3 := owns_below HOS.out b3
      have hc3 := bS3.cell
      have hf3 := bS3.frozen
      have hc4 := (bS3.alloc (.cells #[.string d] 9)).cell
      have HB3 := Lib.hid b3
      have HS3 : Hid (w.heap.size + 2 ≤ w3.heap.size) := by unfold Hid; have := HB.out.size; have := HBX.out.lt; have := b3.size; omega
      have HOS3 := Lib.hid oS3
      have HBS3 := Lib.hid bS3
      clear b3 bS3 oS3 bb
      refine hK0 _ _ ?_
      clear hK0 K0
      try simp only [Act.put, List.setIfInBounds_toArray, List.set_cons_zero, List.set_cons_succ]
      refine wpAny_ready (rs := [0, 3]) (by kernel_rfl) (by simp) ?_
      refine AllReady.cons (o := { dst := some 13, op := Op.load 75 (Operand.tmp 3), type := 75, pos := "l08_pools.go:142", after := #[], guard := none }) rfl (fun K1 hK1 => ?_) (AllReady.cons (o := { dst := some 16, op := Op.buildSlice 75 1 #[(0, Operand.tmp 15)], type := 75, pos := "l08_pools.go:142", after := #[{ on := 2, ground := Ground.data }], guard := none }) rfl (fun K1 hK1 => ?_) AllReady.nil)
      · skip
        go_simp
        refine hK1 _ _ ?_
        clear hK1 K1
        try simp only [Act.put, List.setIfInBounds_toArray, List.set_cons_zero, List.set_cons_succ]
        refine wpAny_ready (rs := [3]) (by kernel_rfl) (by simp) ?_
        refine AllReady.cons (o := { dst := some 16, op := Op.buildSlice 75 1 #[(0, Operand.tmp 15)], type := 75, pos := "l08_pools.go:142", after := #[{ on := 2, ground := Ground.data }], guard := none }) rfl (fun K2 hK2 => ?_) AllReady.nil
        go_simp
        refine hK2 _ _ ?_
        clear hK2 K2
        try simp only [Act.put, List.setIfInBounds_toArray, List.set_cons_zero, List.set_cons_succ]
        refine wpAny_ready (rs := [4]) (by kernel_rfl) (by simp) ?_
        refine AllReady.cons (o := { dst := some 17, op := Op.call { callee := Callee.builtin Builtin.append, args := #[Operand.tmp 13, Operand.tmp 16], argTypes := #[75, 75] }, type := 75, pos := "l08_pools.go:142", after := #[{ on := 0, ground := Ground.data }, { on := 3, ground := Ground.data }, { on := 2, ground := Ground.chain }], guard := none }) rfl (fun K3 hK3 => ?_) AllReady.nil
        refine step_append_any rfl (.tmp 13) (.tmp 16) 75 rfl (w.heap.size + 2) 9 i0 (.string ByteArray.empty) 1 16 Tryz.underlying75 hi hz0 hz1 hz2 rfl (by decide) (.slice ga gn gc) L.length (L.map Value.string) rfl (HOS3.out.alloc _) ⟨w3.heap.size, 0, none⟩ 1 1 [.string d] rfl rfl (cell_one_new _ _ _) (by simp [Value.oneCell']) (by have := HLen.out; unfold maxLen; omega) (by have := HLen.out; omega) (by have := HS3.out; simp; omega) ?_
        intro v' w5 hown' hgrow
        obtain ⟨g', cap', rfl⟩ := ownsRow_succ hown'
        obtain ⟨hv1, hk2, hsb, hci⟩ := numAppend HBS3.out HOS3.out (below_onto HB.out HB3.out) (boxedDeepS HBX.out HB3.out) hown' hgrow
        have hc1 := hv1.cell
        have hf1 := hv1.frozen
        have HEND := Lib.hid (And.intro hk2 (And.intro hsb hci))
        have HBX5 := Lib.hid (Eq.trans hsb (boxedDeepS HBX.out HB3.out))
        clear hk2 hsb hci hown' hgrow hv1 hc3 hf3 hc4
        refine hK3 _ _ ?_
        clear hK3 K3
        try simp only [Act.put, List.setIfInBounds_toArray, List.set_cons_zero, List.set_cons_succ]
        refine wpAny_ready (rs := [5]) (by kernel_rfl) (by simp) ?_
        refine AllReady.cons (o := { dst := none, op := Op.store 75 (Operand.tmp 3) (Operand.tmp 17), type := 0, pos := "l08_pools.go:142", after := #[{ on := 4, ground := Ground.data }, { on := 4, ground := Ground.chain }, { on := 0, ground := Ground.phase }, { on := 1, ground := Ground.phase }, { on := 2, ground := Ground.phase }, { on := 3, ground := Ground.phase }, { on := 4, ground := Ground.phase }], guard := none }) rfl (fun K4 hK4 => ?_) AllReady.nil
        go_simp
        refine hK4 _ _ ?_
        clear hK4 K4
        try simp only [Act.put, List.setIfInBounds_toArray, List.set_cons_zero, List.set_cons_succ]
        refine wpAny_done (by kernel_rfl) ?_ _
        gi_wp2
        refine ⟨(keepsOthers_below HB3.out).trans HEND.out.1, sameBlk_tr (HB3.out.block _ HBX.out.lt) HEND.out.2.1, ?_, HBX5.out⟩
        show NumI w (numL (bits0 (pre ++ [x]))) _
        rw [HS.out]
        exact HEND.out.2.2
      · skip
        go_simp
        refine hK1 _ _ ?_
        clear hK1 K1
        try simp only [Act.put, List.setIfInBounds_toArray, List.set_cons_zero, List.set_cons_succ]
        refine wpAny_ready (rs := [0]) (by kernel_rfl) (by simp) ?_
        refine AllReady.cons (o := { dst := some 13, op := Op.load 75 (Operand.tmp 3), type := 75, pos := "l08_pools.go:142", after := #[], guard := none }) rfl (fun K2 hK2 => ?_) AllReady.nil
        go_simp
        refine hK2 _ _ ?_
        clear hK2 K2
        try simp only [Act.put, List.setIfInBounds_toArray, List.set_cons_zero, List.set_cons_succ]
        refine wpAny_ready (rs := [4]) (by kernel_rfl) (by simp) ?_
        refine AllReady.cons (o := { dst := some 17, op := Op.call { callee := Callee.builtin Builtin.append, args := #[Operand.tmp 13, Operand.tmp 16], argTypes := #[75, 75] }, type := 75, pos := "l08_pools.go:142", after := #[{ on := 0, ground := Ground.data }, { on := 3, ground := Ground.data }, { on := 2, ground := Ground.chain }], guard := none }) rfl (fun K3 hK3 => ?_) AllReady.nil
        refine step_append_any rfl (.tmp 13) (.tmp 16) 75 rfl (w.heap.size + 2) 9 i0 (.string ByteArray.empty) 1 16 Tryz.underlying75 hi hz0 hz1 hz2 rfl (by decide) (.slice ga gn gc) L.length (L.map Value.string) rfl (HOS3.out.alloc _) ⟨w3.heap.size, 0, none⟩ 1 1 [.string d] rfl rfl (cell_one_new _ _ _) (by simp [Value.oneCell']) (by have := HLen.out; unfold maxLen; omega) (by have := HLen.out; omega) (by have := HS3.out; simp; omega) ?_
        intro v' w5 hown' hgrow
        obtain ⟨g', cap', rfl⟩ := ownsRow_succ hown'
        obtain ⟨hv1, hk2, hsb, hci⟩ := numAppend HBS3.out HOS3.out (below_onto HB.out HB3.out) (boxedDeepS HBX.out HB3.out) hown' hgrow
        have hc1 := hv1.cell
        have hf1 := hv1.frozen
        have HEND := Lib.hid (And.intro hk2 (And.intro hsb hci))
        have HBX5 := Lib.hid (Eq.trans hsb (boxedDeepS HBX.out HB3.out))
        clear hk2 hsb hci hown' hgrow hv1 hc3 hf3 hc4
        refine hK3 _ _ ?_
        clear hK3 K3
        try simp only [Act.put, List.setIfInBounds_toArray, List.set_cons_zero, List.set_cons_succ]
        refine wpAny_ready (rs := [5]) (by kernel_rfl) (by simp) ?_
        refine AllReady.cons (o := { dst := none, op := Op.store 75 (Operand.tmp 3) (Operand.tmp 17), type := 0, pos := "l08_pools.go:142", after := #[{ on := 4, ground := Ground.data }, { on := 4, ground := Ground.chain }, { on := 0, ground := Ground.phase }, { on := 1, ground := Ground.phase }, { on := 2, ground := Ground.phase }, { on := 3, ground := Ground.phase }, { on := 4, ground := Ground.phase }], guard := none }) rfl (fun K4 hK4 => ?_) AllReady.nil
        go_simp
        refine hK4 _ _ ?_
        clear hK4 K4
        try simp only [Act.put, List.setIfInBounds_toArray, List.set_cons_zero, List.set_cons_succ]
        refine wpAny_done (by kernel_rfl) ?_ _
        gi_wp2
        refine ⟨(keepsOthers_below HB3.out).trans HEND.out.1, sameBlk_tr (HB3.out.block _ HBX.out.lt) HEND.out.2.1, ?_, HBX5.out⟩
        show NumI w (numL (bits0 (pre ++ [x]))) _
        rw [HS.out]
        exact HEND.out.2.2
    --END REGION
  case done =>
    rintro D ys W hD hys ⟨hI, -⟩ hK
    obtain ⟨⟨sv, bS, oS, -⟩, hB⟩ := hI
    rw [hys] at oS
    have hlp := HLP.out
    have hls := HLS.out
    have hnl := num_len (itsL s)
    have HLJ : Hid ((Lib.join ((numL (itsL s)).map (·.data.toList)) (⟨#[]⟩ : ByteArray).data.toList).length ≤ 140737488355328) := by
      have h1 := HJ.out
      have h2 := HSZ.out
      rw [← h1] at h2
      have h3 : (joinB (numL (itsL s)) ⟨#[]⟩).size = (Lib.join ((numL (itsL s)).map (·.data.toList)) (⟨#[]⟩ : ByteArray).data.toList).length := by
        unfold joinB
        simp [ByteArray.size]
      unfold Hid
      omega
    obtain ⟨g, cap, hsv, hcap⟩ : ∃ g cap, sv = .slice (some ⟨g, 0, none⟩) (numL (itsL s)).length cap ∧ (numL (itsL s)).length ≤ cap := by
      rcases oS.2 with ⟨-, h0⟩ | ⟨g, cap, cur, h0, -, -, hle, -⟩
      · omega
      · exact ⟨g, cap, h0, by omega⟩
    subst hsv
    have hc0 := bS.cell
    have CJ := Lib.hid (implJoinAny g cap (numL (itsL s)) ⟨#[]⟩ W (w.heap.size + 2) oS hcap (by omega) HLJ.out)
    rw [HJ.out] at CJ
    have HB := Lib.hid hB
    generalize (numL (itsL s)).length = m at hc0 CJ
    clear oS hB hlp hls hnl
    gi_wp2_with (refine ⟨trivial, ?_⟩; gi_at_call 55; refine (callsIn_wide.2 CJ.out).mono ?_; rintro e w4 ⟨rfl, b4⟩)
    have hK4 := (b4.block D (Array.getElem?_eq_some_iff.1 hK).1).trans hK
    refine ⟨by simp, .inl ⟨_, _, rfl, run_takeDeferred hK4, ?_⟩⟩
    refine ⟨_, results_tmp rfl _ _ _, rfl, ?_⟩
    exact (below_onto HB.out b4).trans (belowK_b (w := w) (Nat.le_refl _) w4 D _ _ (by omega) hK4 rfl rfl)
  case stop =>
    rintro D c pre W _ _ h _
    exact h.elim
end Go.Proofs.YtlflblngbneacabGreatDoor

/- The contracts of the program's SetText and ReadSet, and the walks of their exact laws: each returns true for every argument. Condition: the library's table of powers of ten is as its text lays it. -/
namespace Go.Proofs.YtlflblngbneacabGreatDoor
open Go.RowKit

set_option maxHeartbeats 1600000 in
theorem implSetText (s : Int) (w : World) (ht : TabOk w) :
    Calls Tryz.prog 22 #[.int .i64 s] w fun e w' => e = .returned (.string (setT s)) ∧ Below w.heap.size w w' := by
  have e10 : topI 10 = 1023 := by decide
  cases hso : poolB 10 s with
  | false =>
    have HE := Lib.hid (setT_out hso)
    have CI := Lib.hid (fun W => implIsSet 10 s (by omega) (by omega) W)
    rw [hso] at CI
    generalize setT s = r at HE ⊢
    clear hso ht
    go_enter Tryz.func22, Tryz.ntmps22
    go_wp2_with fail
    refine (CI.out _).mono ?_
    rintro e w1 ⟨rfl, rfl⟩
    go_wp2
    go_ret
    exact ⟨ret_str HE.out.symm, Below.refl _ _⟩
  | true =>
    have hin : 0 ≤ s ∧ s ≤ 1023 := by
      unfold poolB at hso
      rw [e10] at hso
      simpa using hso
    by_cases hz : s = 0
    · subst hz
      have HE := Lib.hid setT_zero
      have CI := Lib.hid (fun W => implIsSet 10 0 (by omega) (by omega) W)
      rw [hso] at CI
      generalize setT 0 = r at HE ⊢
      clear hso ht hin
      go_enter Tryz.func22, Tryz.ntmps22
      go_wp2_with fail
      refine (CI.out _).mono ?_
      rintro e w1 ⟨rfl, rfl⟩
      go_wp2
      go_ret
      exact ⟨ret_str HE.out.symm, Below.refl _ _⟩
    · exact (callsIn_wide (n := 8)).1 (setTextN s (by omega) hin.2 8 (Nat.le_refl _) w ht)

/-- No byte of a set's text lies above 127. -/
theorem setC_low (s : Int) : ∀ k, k ≤ 10 → ∀ b ∈ (setC s k).data.toList, b.toNat < 128
  | 0, _, b, hb => by simp [setC] at hb
  | k + 1, hk, b, hb => by
    unfold setC at hb
    split at hb
    · rw [ByteArray.data_append, Array.toList_append, List.mem_append] at hb
      rcases hb with hb | hb
      · exact setC_low s k (by omega) b hb
      · have e : (48 + (k : Int)).toNat = 48 + k := by omega
        simp [oneByte, e] at hb
        subst hb
        simp [UInt8.toNat_ofNat]
        omega
    · exact setC_low s k (by omega) b hb
theorem setT_low (s : Int) : ∀ b ∈ (setT s).data.toList, b.toNat < 128 := by
  intro b hb
  unfold setT at hb
  split at hb
  · split at hb
    · simp at hb
      subst hb
      decide
    · exact setC_low s 10 (Nat.le_refl _) b hb
  · simp at hb
/-- A text with a byte above 127 is no set's. -/
theorem not_set {t : ByteArray} {k : Nat} (hk : k < t.size) (hh : 128 ≤ (t[k]'hk).toNat) (s : Int) : ((setT s).toList == t.toList) = false := by
  rw [beq_eq_false_iff_ne]
  intro e
  rw [ByteArray.toList_eq, ByteArray.toList_eq] at e
  have hm : t[k] ∈ t.data.toList := Array.getElem_mem_toList (xs := t.data) hk
  rw [← e] at hm
  have := setT_low s _ hm
  omega
def LowB (t : ByteArray) : Prop := ∀ k (h : k < t.size), (t[k]'h).toNat < 128
theorem read_not {t : ByteArray} (h : ¬ LowB t) : readB t = false ∧ ∀ s, ((setT s).toList == t.toList) = false := by
  have : ∃ k, ∃ h : k < t.size, 128 ≤ (t[k]'h).toNat := by
    refine Classical.byContradiction fun hn => h fun k hk => ?_
    refine Classical.byContradiction fun hb => hn ⟨k, hk, by omega⟩
  obtain ⟨k, hk, hh⟩ := this
  exact ⟨not_set hk hh _, fun s => not_set hk hh s⟩

theorem isDigit_y (r : Int) (w : World) (h1 : 48 ≤ r) (h2 : r ≤ 57) : Calls Tryz.prog 72 #[.int .i32 r] w fun e w' => e = .returned (.bool true) ∧ w = w' := by
  go_enter Tryz.func72, Tryz.ntmps72
  go_wp2
  go_ret
  exact ⟨rfl, rfl⟩
theorem isDigit_n (r : Int) (w : World) (h : r < 48 ∨ 57 < r) : Calls Tryz.prog 72 #[.int .i32 r] w fun e w' => e = .returned (.bool false) ∧ w = w' := by
  by_cases h1 : r < 48
  · go_enter Tryz.func72, Tryz.ntmps72
    go_wp2
    go_ret
    exact ⟨ret_bool (by simp; try omega), rfl⟩
  · have h2 : 57 < r := by omega
    go_enter Tryz.func72, Tryz.ntmps72
    go_wp2
    go_ret
    exact ⟨ret_bool (by simp; try omega), rfl⟩
theorem iter_below (w : World) (t : ByteArray) (p : Nat) : Below w.heap.size w (w.iter t p) := (Below.refl _ _).alloc (Nat.le_refl _) _

set_option maxRecDepth 100000 in
set_option maxHeartbeats 3200000 in
theorem implReadSet (t : ByteArray) (w : World) (ht : TabOk w) :
    Calls Tryz.prog 21 #[.string t] w fun e w' => e = .returned (.tuple #[.int .i64 (readV t), .bool (readB t)]) ∧ Below w.heap.size w w' := by
  have CT : Hid (∀ s p, Calls Tryz.prog 22 #[.int .i64 s] (w.iter t p) fun e w' => e = .returned (.string (setT s)) ∧ Below (w.iter t p).heap.size (w.iter t p) w') := fun s p => implSetText s _ (ht.below (iter_below w t p))
  have HV : Hid (readV t = if readB t = true then readI t t.size else 0) := rfl
  have HB : Hid (readB t = ((setT (readI t t.size)).toList == t.toList)) := rfl
  have HNO : Hid (¬ LowB t → readB t = false ∧ ∀ s, ((setT s).toList == t.toList) = false) := read_not
  generalize readV t = v at HV ⊢
  generalize readB t = b at HV HB HNO ⊢
  clear ht
  go_enter Tryz.func21, Tryz.ntmps21
  go_wp2
  go_loopw [4] (fun sv wr => ∃ (pos : Nat) (q : Int), sv = .int .i64 q ∧ 0 ≤ q ∧ q ≤ 1023 ∧ wr = w.iter t pos ∧ Hid (LowB t → pos ≤ t.size ∧ q = readI t pos)) (fun _ wr => t.size - wr.iterPos w.heap.size)
  case atStart => exact ⟨0, 0, rfl, by omega, by omega, rfl, fun _ => ⟨Nat.zero_le _, rfl⟩⟩
  case round =>
    obtain ⟨pos, q, rfl, q0, q1, rfl, HQ⟩ := hrel
    by_cases hlt : pos < t.size
    · clear CT HV HB HNO
      by_cases ha : (t[pos]'hlt).toNat < 128
      · have hnx : ∀ ty, (Instr.next (.pointer (some ⟨w.heap.size, 0, none⟩)) true ty).run Tryz.prog (w.iter t pos) = _ := fun ty => run_next_ascii w t pos ty hlt ha
        by_cases hd : (t[pos].toNat : Int) < 48 ∨ 57 < (t[pos].toNat : Int)
        · have HN : Hid (LowB t → pos + 1 ≤ t.size ∧ q = readI t (pos + 1)) := fun h => ⟨by omega, by rw [readI_no hlt hd]; exact (HQ.out h).2⟩
          have HD := Lib.hid hd
          clear HQ hd
          go_wp2_with (go_at_call 72; refine (isDigit_n _ _ HD.out).mono ?_; rintro e w' ⟨rfl, rfl⟩)
          go_roundw
          case rel => exact ⟨pos + 1, q, rfl, q0, q1, rfl, HN⟩
          case measure => simp; omega
        · have h1 : 48 ≤ t[pos].toNat := by omega
          have h2 : t[pos].toNat ≤ 57 := by omega
          have h512 := two_pow_512 (t[pos].toNat - 48) (by omega)
          have hor : 0 ≤ bits .or .i64 q (2 ^ (t[pos].toNat - 48)) ∧ bits .or .i64 q (2 ^ (t[pos].toNat - 48)) ≤ 1023 := or_in q0 q1 (by omega) (by omega)
          have HN : Hid (LowB t → pos + 1 ≤ t.size ∧ bits .or .i64 q (2 ^ (t[pos].toNat - 48)) = readI t (pos + 1)) := fun h => ⟨by omega, by
            have ex : ((t[pos].toNat : Int) - 48).toNat = t[pos].toNat - 48 := by omega
            rw [readI_yes hlt (by omega) (by omega), ← (HQ.out h).2, ex]
            rfl⟩
          have hw : IntKind.i64.wrap (2 ^ (t[pos].toNat - 48)) = 2 ^ (t[pos].toNat - 48) := by rw [IntKind.wrap_i64]; omega
          have hi1 : (48 : Int) ≤ (t[pos].toNat : Int) := by omega
          have hi2 : (t[pos].toNat : Int) ≤ 57 := by omega
          have hw32 : IntKind.i32.wrap ((t[pos].toNat : Int) - 48) = (t[pos].toNat : Int) - 48 := by
            simp [IntKind.wrap, IntKind.bits, IntKind.signed]
            omega
          have HOR := Lib.hid hor
          clear HQ hd hor
          go_wp2_with (go_at_call 72; refine (isDigit_y _ _ hi1 hi2).mono ?_; rintro e w' ⟨rfl, rfl⟩)
          go_roundw
          case rel => exact ⟨pos + 1, _, rfl, HOR.out.1, HOR.out.2, rfl, HN⟩
          case measure => simp; omega
      · have hnx : ∀ ty, (Instr.next (.pointer (some ⟨w.heap.size, 0, none⟩)) true ty).run Tryz.prog (w.iter t pos) = _ := fun ty => run_next_any w t pos ty hlt
        have hh := decode_high t pos hlt (by omega)
        have h1 : ((Utf8.decode t pos).1 : Int) < 48 ∨ 57 < ((Utf8.decode t pos).1 : Int) := by omega
        have HN : Hid (LowB t → pos + (Utf8.decode t pos).2 ≤ t.size ∧ q = readI t (pos + (Utf8.decode t pos).2)) := fun h => absurd (h pos hlt) ha
        have HD := Lib.hid h1
        have hw2 := hh.2
        clear HQ h1
        go_wp2_with (go_at_call 72; refine (isDigit_n _ _ HD.out).mono ?_; rintro e w' ⟨rfl, rfl⟩)
        go_roundw
        case rel => exact ⟨_, q, rfl, q0, q1, rfl, HN⟩
        case measure => simp; omega
    · have hnx : ∀ ty, (Instr.next (.pointer (some ⟨w.heap.size, 0, none⟩)) true ty).run Tryz.prog (w.iter t pos) = _ := fun ty => run_next_end w t pos ty hlt
      have HC : Hid (b = ((setT q).toList == t.toList)) := by
        unfold Hid
        rcases Classical.em (LowB t) with h | h
        · obtain ⟨h1, h2⟩ := HQ.out h
          obtain rfl : pos = t.size := by omega
          rw [h2]
          exact HB.out
        · rw [(HNO.out h).1, (HNO.out h).2 q]
      have HVQ : Hid (v = if b = true then q else 0) := by
        unfold Hid
        rcases Classical.em (LowB t) with h | h
        · obtain ⟨h1, h2⟩ := HQ.out h
          obtain rfl : pos = t.size := by omega
          rw [h2]
          exact HV.out
        · rw [HV.out, (HNO.out h).1]
          rfl
      have C := Lib.hid (CT.out q pos)
      clear CT HB HV HQ HNO
      generalize setT q = x at C HC
      go_wp2_with fail
      refine C.out.mono ?_
      rintro e w2 ⟨rfl, b2⟩
      have B2 := Lib.hid ((iter_below w t pos).trans (b2.mono (iter_below w t pos).size))
      clear b2
      cases hcmp : (x.toList == t.toList) with
      | false =>
        have HE : Hid (b = false) := by unfold Hid; rw [HC.out]; exact hcmp
        have HF : Hid (v = 0) := by unfold Hid; rw [HVQ.out, HE.out]; rfl
        clear HC HVQ
        go_wp2
        go_ret2
        exact ⟨by rw [HE.out, HF.out]; rfl, B2.out⟩
      | true =>
        have HE : Hid (b = true) := by unfold Hid; rw [HC.out]; exact hcmp
        have HF : Hid (v = q) := by unfold Hid; rw [HVQ.out, HE.out]; rfl
        clear HC HVQ
        go_wp2
        go_ret2
        exact ⟨by rw [HE.out, HF.out]; rfl, B2.out⟩

end Go.Proofs.YtlflblngbneacabGreatDoor
