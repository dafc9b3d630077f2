/- The contracts of the law's own helpers on lists of integers: comparing a list with itself returns true, marks are written into a list of the call's own, and marks that were written are found. Conditions: fewer than 100000000 elements, and the list is one of the call's own where it is written. -/
import Derived.Test.YthgdobnegepgoaaProg
import Derived.Test.YthgdobnegepgoaaPlain
import Derived.Test.YthgdobnegepgoaaStrRows
import Derived.BigQuiet
import Derived.IntWalk
import Derived.Deep.QuietTactic
import Derived.Maps.AppendAt
import Derived.Maps.RangeWalk
import Derived.OwnWalk
namespace Go.Proofs.Ythgdobnegepgoaa
open Go.RowKit

/-- The slice value v reads as the integers l in the world w. -/
def IntsAt (w : World) (v : Value) (l : List Int) : Prop :=
  ∃ a cap, v = .slice a l.length cap ∧ (l = [] ∨ ∃ b off, a = some ⟨b, off, none⟩ ∧ ∀ i (h : i < l.length), w.cell? ⟨b, off + i, none⟩ = some (.int .i64 l[i]))

theorem IntsAt.below {w w' : World} {v : Value} {l : List Int} (h : IntsAt w v l) (hb : Below w.heap.size w w') : IntsAt w' v l := by
  obtain ⟨a, cap, rfl, h⟩ := h
  refine ⟨a, cap, rfl, ?_⟩
  rcases h with h | ⟨b, off, rfl, hc⟩
  · exact .inl h
  · refine .inr ⟨b, off, rfl, fun i hi => ?_⟩
    have hlt := World.block_lt_of_cell? w _ (hc i hi)
    rw [hb.cell (p := ⟨b, off + i, none⟩) hlt]
    exact hc i hi

theorem IntsAt.of_owns {w : World} {B e : Nat} {v : Value} {l : List Int} (h : w.ownsRow B e 1 v l.length (l.map (Value.int .i64))) : IntsAt w v l := by
  rcases h.2 with ⟨rfl, h0⟩ | ⟨g, cap, cur, rfl, hB, hh, hn, hc, hs, ht⟩
  · have : l = [] := List.eq_nil_of_length_eq_zero h0
    subst this
    exact ⟨none, 0, rfl, .inl rfl⟩
  · refine ⟨some ⟨g, 0, none⟩, cap, rfl, .inr ⟨g, 0, rfl, fun i hi => ?_⟩⟩
    have := h.cellAt i (by omega)
    rw [Nat.zero_add, this]
    simp [hi]

theorem IntsAt.of_owns_n {w : World} {B e n : Nat} {v : Value} {l : List Int} (h : w.ownsRow B e 1 v n (l.map (Value.int .i64))) (hn : l.length = n) : IntsAt w v l := by
  subst hn
  exact IntsAt.of_owns h

set_option maxHeartbeats 800000 in
theorem eqInts_same (v1 v2 : Value) (l : List Int) (w : World) (h1 : IntsAt w v1 l) (h2 : IntsAt w v2 l) (hm : l.length ≤ 100000000) :
    Calls Try.prog 26 #[v1, v2] w fun e w' => e = .returned (.bool true) ∧ Below w.heap.size w w' := by
  obtain ⟨a1, c1, rfl, h1⟩ := h1
  obtain ⟨a2, c2, rfl, h2⟩ := h2
  by_cases hl : l.length ≤ 0
  · obtain rfl : l = [] := List.eq_nil_of_length_eq_zero (by omega)
    clear h1 h2
    go_enter Try.func26, Try.ntmps26
    go_wp2
    go_loop [5] (fun i => i = .int .i64 0) (fun _ => 0)
    case atStart => exact rfl
    case round =>
      subst hrel
      go_wp2
      go_ret
      exact ⟨rfl, Below.refl _ _⟩
  · rcases h1 with rfl | ⟨b1, o1, rfl, hc1⟩
    · simp at hl
    rcases h2 with rfl | ⟨b2, o2, rfl, hc2⟩
    · simp at hl
    have H1 := Lib.hid hc1
    have H2 := Lib.hid hc2
    clear hc1 hc2
    obtain ⟨n, hn⟩ : ∃ n, l.length = n := ⟨_, rfl⟩
    rw [hn] at hl hm ⊢
    have HN := Lib.hid hn
    clear hn
    go_enter Try.func26, Try.ntmps26
    go_wp2
    go_loopw [5] (fun i wr => ∃ k m : Nat, k ≤ n ∧ i = .int .i64 k ∧ wr = w.drewN m) (fun i _ => n - (intOf i).toNat)
    case atStart => exact ⟨0, 0, Nat.zero_le _, rfl, rfl⟩
    case round =>
      obtain ⟨k, m, hk, rfl, rfl⟩ := hrel
      by_cases hlt : k < n
      · have e1 := H1.out k (by rw [HN.out]; exact hlt)
        have e2 := H2.out k (by rw [HN.out]; exact hlt)
        obtain ⟨x, hx⟩ : ∃ x, l[k]'(by rw [HN.out]; exact hlt) = x := ⟨_, rfl⟩
        rw [hx] at e1 e2
        clear hx
        have i0 : (0 : Int) ≤ (k : Int) := by omega
        have i1 : (k : Int) < (n : Int) := by omega
        go_wp2
        go_quiet (fail)
        go_wp2
        go_roundw
        case rel => exact ⟨k + 1, _, by omega, by go_num, rfl⟩
        case measure => simp [intOf]; omega
      · go_wp2
        go_ret
        exact ⟨rfl, below_drewN (Below.refl _ _) _⟩

/-- n marks from q on. -/
def imarks (q : Int) (n : Nat) : List Int := (List.range n).map fun (i : Nat) => q + (i : Int)
theorem imarks_length (q : Int) (n : Nat) : (imarks q n).length = n := by simp [imarks]
theorem imarks_at (q : Int) (n i : Nat) (h : i < (imarks q n).length) : (imarks q n)[i] = q + i := by simp [imarks]
theorem imarks_succ (q : Int) (n : Nat) : imarks q (n + 1) = imarks q n ++ [q + n] := by
  simp [imarks, List.range_succ]

set_option maxHeartbeats 1600000 in
theorem heldInts (v : Value) (q : Int) (n : Nat) (w : World) (h : IntsAt w v (imarks q n)) (hq : 0 < q) (hqm : q ≤ 100000000) (hm : n ≤ 100000000) :
    Calls Try.prog 29 #[v, .int .i64 q] w fun e w' => e = .returned (.int .i64 (q + n)) ∧ w = w' := by
  obtain ⟨a, c, rfl, h⟩ := h
  rw [imarks_length]
  by_cases hl : n ≤ 0
  · obtain rfl : n = 0 := by omega
    clear h
    go_enter Try.func29, Try.ntmps29
    go_wp2
    go_loop [1, 5] (fun r i => r = .int .i64 q ∧ i = .int .i64 0) (fun _ _ => 0)
    case atStart => exact ⟨rfl, rfl⟩
    case round =>
      obtain ⟨rfl, rfl⟩ := hrel
      go_wp2
      go_ret
      exact ⟨ret_int (by simp), rfl⟩
  · rcases h with h | ⟨b, o, rfl, hc⟩
    · have := congrArg List.length h
      rw [imarks_length] at this
      simp at this
      omega
    have H1 : Hid (∀ i : Nat, i < n → w.cell? ⟨b, o + i, none⟩ = some (.int .i64 (q + i))) := by
      intro i hi
      have hi' : i < (imarks q n).length := by rw [imarks_length]; exact hi
      rw [hc i hi', imarks_at]
    clear hc
    go_enter Try.func29, Try.ntmps29
    go_wp2
    go_loop [1, 5] (fun r i => ∃ k : Nat, k ≤ n ∧ r = .int .i64 (q + k) ∧ i = .int .i64 k) (fun _ i => n - (intOf i).toNat)
    case atStart => exact ⟨0, Nat.zero_le _, by simp, rfl⟩
    case round =>
      obtain ⟨k, hk, rfl, rfl⟩ := hrel
      by_cases hlt : k < n
      · have e0 := H1.out k hlt
        have i0 : (0 : Int) ≤ (k : Int) := by omega
        have i1 : (k : Int) < (n : Int) := by omega
        go_wp2
        go_round
        case rel => exact ⟨k + 1, by omega, val_int (by omega), by go_num⟩
        case measure => simp [intOf]; omega
      · go_wp2
        go_ret
        exact ⟨ret_int (by omega), rfl⟩

/-- k marks in front of what the list held. -/
def imarked (q : Int) (l : List Int) (k : Nat) : List Int := imarks q k ++ l.drop k
theorem imarked_length (q : Int) (l : List Int) (k : Nat) (h : k ≤ l.length) : (imarked q l k).length = l.length := by
  simp [imarked, imarks_length]; omega
theorem imarked_zero (q : Int) (l : List Int) : imarked q l 0 = l := by simp [imarked, imarks]
theorem imarked_all (q : Int) (l : List Int) : imarked q l l.length = imarks q l.length := by simp [imarked]
theorem imarked_set (q : Int) (l : List Int) (k : Nat) (h : k < l.length) : (imarked q l k).set k (q + k) = imarked q l (k + 1) := by
  unfold imarked
  rw [imarks_succ, List.drop_eq_getElem_cons h, List.set_append_right _ _ (by rw [imarks_length]; exact Nat.le_refl _), imarks_length, Nat.sub_self, List.set_cons_zero, List.append_assoc]
  rfl

set_option maxHeartbeats 1600000 in
theorem markInts (B : Nat) (v : Value) (q : Int) (l : List Int) (w : World) (h : w.ownsRow B 3 1 v l.length (l.map (Value.int .i64))) (hq : 0 < q) (hqm : q ≤ 100000000) (hm : l.length ≤ 100000000) :
    Calls Try.prog 28 #[v, .int .i64 q] w fun e w' => e = .returned (.int .i64 (q + l.length)) ∧ w'.ownsRow B 3 1 v l.length ((imarks q l.length).map (Value.int .i64)) ∧ w.grownBy w' v.ownBlock := by
  by_cases hl : l.length ≤ 0
  · obtain rfl : l = [] := List.eq_nil_of_length_eq_zero (by omega)
    have hg : w.grownBy w v.ownBlock := ⟨rfl, rfl, rfl, Nat.le_refl _, fun _ _ _ => rfl⟩
    have h' : w.ownsRow B 3 1 v 0 [] := h
    rcases h.2 with ⟨rfl, _⟩ | ⟨g, cap, cur, rfl, _⟩
    all_goals
      have HX := Lib.hid (And.intro h' hg)
      clear h h' hg
      go_enter Try.func28, Try.ntmps28
      go_wp2
      go_loop [1, 5] (fun r i => r = .int .i64 q ∧ i = .int .i64 0) (fun _ _ => 0)
      case atStart => exact ⟨rfl, rfl⟩
      case round =>
        obtain ⟨rfl, rfl⟩ := hrel
        go_wp2
        go_ret
        exact ⟨ret_int (by simp), HX.out.1, HX.out.2⟩
  · obtain ⟨n, hn⟩ : ∃ n, l.length = n := ⟨_, rfl⟩
    rcases h.2 with ⟨_, h0⟩ | ⟨g, cap, cur, rfl, hB, _, _, _, _, _⟩
    · omega
    rw [hn] at h hl hm ⊢
    have HN := Lib.hid hn
    have HO := Lib.hid h
    clear hn h
    go_enter Try.func28, Try.ntmps28
    go_wp2
    go_loopw [1, 5] (fun r i wr => ∃ k : Nat, k ≤ n ∧ r = .int .i64 (q + k) ∧ i = .int .i64 k ∧ Hid (wr.ownsRow B 3 1 (.slice (some ⟨g, 0, none⟩) n cap) n ((imarked q l k).map (Value.int .i64))) ∧ w.grownBy wr (some g)) (fun _ i _ => n - (intOf i).toNat)
    case atStart => exact ⟨0, Nat.zero_le _, by simp, rfl, by unfold Hid; rw [imarked_zero]; exact HO.out, ⟨rfl, rfl, rfl, Nat.le_refl _, fun _ _ _ => rfl⟩⟩
    case round =>
      obtain ⟨k, hk, rfl, rfl, HW, hg⟩ := hrel
      by_cases hlt : k < n
      · have hbw := (HW.out.lt g rfl).2
        have fz := HW.out.frozenAt k
        have hkl : k < (imarked q l k).length := by rw [imarked_length q l k (by rw [HN.out]; omega), HN.out]; exact hlt
        have e1 : wr.cell? ⟨g, k, none⟩ = some (.int .i64 ((imarked q l k)[k])) := by rw [HW.out.cellAt k (by omega), List.getElem?_map, List.getElem?_eq_getElem hkl]; rfl
        obtain ⟨x, hx⟩ : ∃ x, (imarked q l k)[k] = x := ⟨_, rfl⟩
        rw [hx] at e1
        clear hx hkl
        have i0 : (0 : Int) ≤ (k : Int) := by omega
        have i1 : (k : Int) < (n : Int) := by omega
        have HG := Lib.hid hg
        clear hg
        go_wp2
        go_roundw
        case rel =>
          refine ⟨k + 1, by omega, val_int (by omega), by go_num, ?_, ?_⟩
          · have h2 := HW.out.stored k (.int .i64 (q + k))
            unfold Hid
            rw [← imarked_set q l k (by rw [HN.out]; exact hlt), List.map_set]
            exact h2.1
          · exact grown_set HG.out _ _
        case measure => simp [intOf]; omega
      · have : k = n := by omega
        subst this
        go_wp2
        go_ret
        have h1 := HW.out
        rw [← HN.out, imarked_all] at h1
        rw [← HN.out]
        exact ⟨rfl, h1, hg⟩
end Go.Proofs.Ythgdobnegepgoaa
