/- The contract of the program's setsOf, and of the iterator that it returns: the sets of at most so many items in ascending order. Condition: a number of items from 1 to 10. -/
import Derived.Test.YtlflblngbneacaaGreatDoorCountImpl
import Derived.Test.YtlflblngbneacaaGreatDoorPoolsSpec
import Derived.Stop.RegionWithIn
namespace Go.Proofs.YtlflblngbneacaaGreatDoor
open Go.RowKit Go.Shelf
attribute [local go_sem] Oper.semAt_some

/-- The sets of at most so many items among the first k; all of them. -/
def setsK (most : Int) (k : Nat) : List Nat := (List.range k).filter fun j => decide (cntI (j : Int) ≤ most)
theorem setsK_yes {most : Int} {k : Nat} (h : cntI (k : Int) ≤ most) : setsK most (k + 1) = setsK most k ++ [k] := by
  unfold setsK
  rw [List.range_succ, List.filter_append]
  simp [h]
theorem setsK_no {most : Int} {k : Nat} (h : ¬ cntI (k : Int) ≤ most) : setsK most (k + 1) = setsK most k := by
  unfold setsK
  rw [List.range_succ, List.filter_append]
  simp [h]
theorem setsK_len (most : Int) (k : Nat) : (setsK most k).length ≤ k := by
  unfold setsK
  refine Nat.le_trans (List.length_filter_le _ _) ?_
  rw [List.length_range]
  exact Nat.le_refl _
theorem setsK_up (most : Int) (k : Nat) : ∀ d, setsK most k <+: setsK most (k + d)
  | 0 => List.prefix_refl _
  | d + 1 => by
    rw [show k + (d + 1) = (k + d) + 1 by omega]
    by_cases h : cntI ((k + d : Nat) : Int) ≤ most
    · rw [setsK_yes h]; exact (setsK_up most k d).trans (List.prefix_append _ _)
    · rw [setsK_no h]; exact setsK_up most k d
theorem setsK_pre {most : Int} {k N : Nat} (h : k ≤ N) : setsK most k <+: setsK most N := by
  have := setsK_up most k (N - k)
  rwa [show k + (N - k) = N by omega] at this

set_option maxHeartbeats 1000000 in
theorem setsOf_in (F : Fence) (n : Nat) (hf : F.fn 125) (hro : F.round = none) (m most : Int) (w : World) :
    CallsIn F n Tryz.prog 125 #[.int .i64 m, .int .i64 most] w fun e w' => e = .returned (.func (.func 150) #[] #[.pointer (some ⟨w.heap.size, 0, none⟩), .pointer (some ⟨w.heap.size + 1, 0, none⟩)]) ∧ w' = (w.alloc (.cells #[.int .i64 m] 3)).alloc (.cells #[.int .i64 most] 3) := by
  refine callsIn_of_wp Tryz.func125 rfl hf ?_ hro
  simp only [Tryz.ntmps125, List.size_toArray, List.length_cons, List.length_nil, Nat.reduceAdd, Nat.reduceSub, Array.replicate_succ, Array.replicate_zero, List.push_toArray, List.append_toArray, List.nil_append, List.cons_append]
  gi_wp2
  go_ret
  exact ⟨rfl, rfl⟩

/-- What abides an iterator's steps abides whatever makes new blocks alone. -/
theorem abides_below {β : Type} {B : Nat} {J : β → World → Prop} (h : AbidesFrom B J) {s : β} {W W' : World} (hj : J s W) (hb : Below W.heap.size W W') : J s W' :=
  h s W W' none hj ⟨hb.os, hb.tape, hb.output, hb.size, fun k hk _ => hb.block k hk⟩ (fun r e => by cases e)
theorem boxedDeep {W W' : World} {b : Nat} {t : TypeId} {v : Value} (h : Boxed W b t v) (hb : Below W.heap.size W W') : Boxed W' b t v := (hb.block b h.lt).trans h
/-- How a round ends, in one word. -/
def YieldEnd (b : Nat) (Y N : World → Prop) (W : World) (e : Ending) (W' : World) : Prop := ∃ c, e = .returned (.bool c) ∧ (c = true → Y W' ∧ SameBlk b W W') ∧ (c = false → N W')

set_option maxRecDepth 100000 in
set_option maxHeartbeats 4000000 in
theorem sets1_in (n : Nat) (hn : 6 ≤ n) (l b1 b2 : Nat) (m most : Int) (m1 : 1 ≤ m) (m10 : m ≤ 10) (N : Nat) (hN : 2 ^ m.toNat = N) (J Jx : List Nat → World → Prop)
    (W : World) (hJ : AbidesFrom W.heap.size J)
    (hY : ∀ pre x V, J pre V → x ≤ 1023 → pre.length < 1024 → YieldAt Fence.wide (n - 1) Tryz.prog l #[.int .i64 (x : Nat)] V fun e V' =>
      (e = .returned (.bool true) ∧ J (pre ++ [x]) V' ∧ SameBlk b2 V V') ∨ (e = .returned (.bool false) ∧ Jx (pre ++ [x]) V'))
    (hb1 : Boxed W b1 3 (.int .i64 m)) (hb2 : Boxed W b2 3 (.int .i64 most)) (h0 : J [] W) :
    CallsIn Fence.wide n Tryz.prog 150 #[.func (.yield l) #[] #[], .pointer (some ⟨b1, 0, none⟩), .pointer (some ⟨b2, 0, none⟩)] W fun e W' => (∃ v, e = .returned v) ∧
      ((∃ ys, ys = setsK most N ∧ J ys W') ∨ (∃ pre, pre <+: setsK most N ∧ Jx pre W')) := by
  obtain ⟨hs1, hs2, hs3, hs4⟩ := shl_top m1 m10
  have hNI : (2 : Int) ^ m.toNat = (N : Int) := by rw [← hN]; exact_mod_cast rfl
  have hN2 : N ≤ 1024 := by omega
  rw [hNI] at hs1
  have hY2 : ∀ pre x V, J pre V → x ≤ 1023 → pre.length < 1024 → YieldAt Fence.wide (n - 1) Tryz.prog l #[.int .i64 (x : Nat)] V (YieldEnd b2 (J (pre ++ [x])) (Jx (pre ++ [x])) V) := fun pre x V hj hx hl =>
    (hY pre x V hj hx hl).mono fun e V' h => by
      rcases h with ⟨he, h1, h2⟩ | ⟨he, h1⟩
      · exact ⟨true, he, fun _ => ⟨h1, h2⟩, fun h => (by cases h)⟩
      · exact ⟨false, he, fun h => (by cases h), fun _ => h1⟩
  have HA : Hid (∀ s V V', J s V → Below V.heap.size V V' → J s V') := fun s V V' hj hb => abides_below hJ hj hb
  have hc0 := hb1.cell
  have m64 : m ≤ 64 := by omega
  have m0 : 0 ≤ m := by omega
  have HCI := Lib.hid (fun (s : Int) (hs : s ≤ 9223372036854775807) V => countN s hs (n - 1) (by omega) V)
  have hn1 : 1 ≤ n := by omega
  clear hY hN hJ hs2 hs3 hs4
  refine callsIn_of_wp Tryz.func150 rfl trivial ?_ rfl
  simp only [Tryz.ntmps150, List.size_toArray, List.length_cons, List.length_nil, Nat.reduceAdd, Nat.reduceSub, Array.replicate_succ, Array.replicate_zero, List.push_toArray, List.append_toArray, List.nil_append, List.cons_append]
  gi_wp2
  clear hc0 hs1
  gi_loopw [7] (fun v wr => ∃ k : Nat, v = .int .i64 k ∧ k ≤ N ∧ Boxed wr b2 3 (.int .i64 most) ∧ J (setsK most k) wr) (fun v _ => N - (intOf v).toNat)
  case atStart => exact ⟨0, rfl, by omega, hb2, h0⟩
  case round =>
    clear h0 hb1 hb2
    obtain ⟨k, rfl, hk, hbk, hJk⟩ := hrel
    by_cases hlt : k < N
    · have k1 : (k : Int) < (N : Int) := by omega
      have HC1 := Lib.hid (fun V => HCI.out (k : Int) (by omega) V)
      have hq := hbk.cell
      by_cases hc : cntI (k : Int) ≤ most
      · have HS := Lib.hid (setsK_yes hc)
        generalize cntI (k : Int) = c at hc HC1
        have HL : Hid ((setsK most k).length < 1024) := by have := setsK_len most k; unfold Hid; omega
        have HBK := Lib.hid hbk
        have HJK := Lib.hid hJk
        have hk3 : k ≤ 1023 := by omega
        clear hJk hbk
        gi_wp2
        gi_region_with (first
          | (refine ⟨trivial, ?_⟩; gi_at_call 151; refine (HC1.out _).mono ?_; rintro e w3 ⟨rfl, bb⟩; have b3 : Below wr.heap.size wr w3 := (Below.refl wr.heap.size wr).drew.trans bb; have hq3 := Boxed.cell (boxedDeep HBK.out b3); obtain ⟨fn, tmps, assign, body, hy, hR⟩ := hY2 _ k w3 (HA.out _ _ _ HJK.out b3) hk3 HL.out; have HR := Lib.hid hR; have HB3 := Lib.hid (boxedDeep HBK.out b3); clear hR bb b3)
          | (refine HR.out.mono ?_; rintro e w4 ⟨y, rfl, hy1, hy0⟩; have HY1 := Lib.hid hy1; have HY0 := Lib.hid hy0; clear hy1 hy0))
        all_goals
          cases y with
          | true =>
            obtain ⟨hj4, hk4⟩ := HY1.out rfl
            have HJ4 := Lib.hid hj4
            have HB4 : Hid (Boxed w4 b2 3 (.int .i64 most)) := Eq.trans hk4 HB3.out
            clear hj4 hk4
            gi_wp2
            go_roundw
            case rel => exact ⟨k + 1, by go_num, by omega, HB4.out, by rw [HS.out]; exact HJ4.out⟩
            case measure => simp [intOf]; omega
          | false =>
            have HX := Lib.hid (HY0.out rfl)
            gi_wp2
            refine bodyPost_ret (results_none rfl _ _ _) rfl ?_
            exact ⟨⟨_, rfl⟩, .inr ⟨_, by rw [← HS.out]; exact setsK_pre (by omega), HX.out⟩⟩
      · have HS := Lib.hid (setsK_no hc)
        generalize cntI (k : Int) = c at hc HC1
        have HBK := Lib.hid hbk
        have HJK := Lib.hid hJk
        clear hJk hbk
        gi_wp2
        first | (gi_region_with (first
          | (refine ⟨trivial, ?_⟩; gi_at_call 151; refine (HC1.out _).mono ?_; rintro e w3 ⟨rfl, bb⟩; have b3 : Below wr.heap.size wr w3 := (Below.refl wr.heap.size wr).drew.trans bb; have hq3 := Boxed.cell (boxedDeep HBK.out b3); have HJ3 := Lib.hid (HA.out _ _ _ HJK.out b3); have HB3 := Lib.hid (boxedDeep HBK.out b3); clear bb b3)
          | (refine ⟨fun _ h => (by cases h), ?_⟩)
          | fail)) | fail
        all_goals
          gi_wp2
          go_roundw
          case rel => exact ⟨k + 1, by go_num, by omega, HB3.out, by rw [HS.out]; exact HJ3.out⟩
          case measure => simp [intOf]; omega
    · obtain rfl : k = N := by omega
      gi_wp2
      go_end0
      exact ⟨⟨_, rfl⟩, .inl ⟨_, rfl, hJk⟩⟩
end Go.Proofs.YtlflblngbneacaaGreatDoor
