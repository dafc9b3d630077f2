/- The contracts of the program's own functions on weighings: a number in a list, an ascending list, the two sides as values of an interface, a valid weighing. Conditions: the sides read as integers and are short enough to be counted. -/
import Derived.Test.YtlflblngbneacabDoorGWei
namespace Go.Proofs.YtlflblngbneacabDoor
open Go.RowKit

/-! ### a number in a list -/
/-- The number that comes back is not negative exactly if x is in the list. -/
def IdxIs (l : List Int) (x : Int) (e : Ending) : Prop := ∃ i : Int, e = .returned (.int .i64 i) ∧ decide (0 ≤ i) = hasI l x
set_option maxHeartbeats 800000 in
theorem implIndex (v : Value) (l : List Int) (x : Int) (w : World) (h : IntsAt w v l) (hm : l.length ≤ 100000000) :
    Calls Tryd.prog 120 #[v, .int .i64 x] w fun e w' => IdxIs l x e ∧ w = w' := by
  obtain ⟨a, c, rfl, h⟩ := h
  have H : Hid (∀ i (h : i < l.length), ∃ b o, a = some ⟨b, o, none⟩ ∧ w.cell? ⟨b, o + i, none⟩ = some (.int .i64 l[i])) := by
    intro i hi
    rcases h with rfl | ⟨b, o, rfl, hc⟩
    · simp at hi
    · exact ⟨b, o, rfl, hc i hi⟩
  clear h
  obtain ⟨n, hn⟩ : ∃ n, l.length = n := ⟨_, rfl⟩
  rw [hn] at hm ⊢
  have HN := Lib.hid hn
  clear hn
  go_enter Tryd.func120, Tryd.ntmps120
  go_wp2
  go_loop [5, 8] (fun _ i => ∃ k : Nat, k ≤ n ∧ i = .int .i64 k ∧ Hid (hasI (l.take k) x = false)) (fun _ i => n - (intOf i).toNat)
  case atStart => exact ⟨0, Nat.zero_le _, rfl, by simp [Hid, hasI]⟩
  case round =>
    obtain ⟨k, hk, rfl, HF⟩ := hrel
    by_cases hlt : k < n
    · have hkl : k < l.length := by rw [HN.out]; exact hlt
      obtain ⟨b, o, rfl, e0⟩ := H.out k hkl
      have i0 : (0 : Int) ≤ (k : Int) := by omega
      have i1 : (k : Int) < (n : Int) := by omega
      obtain ⟨y, hy⟩ : ∃ y, l[k] = y := ⟨_, rfl⟩
      rw [hy] at e0
      cases hc : (x == y) with
      | true =>
        have HY := Lib.hid (hasI_yes hkl (hy.trans (eq_of_beq hc).symm))
        clear hy hkl
        go_wp2
        go_ret
        exact ⟨⟨_, rfl, (decide_eq_true i0).trans HY.out.symm⟩, rfl⟩
      | false =>
        have HY := Lib.hid (hasI_step hkl HF.out (fun e => by rw [hy] at e; subst e; simp at hc))
        clear hy hkl
        go_wp2
        go_round
        case rel => exact ⟨k + 1, by omega, by go_num, HY⟩
        case measure => simp [intOf]; omega
    · have HY := Lib.hid (hasI_end (by rw [HN.out]; omega) HF.out)
      go_wp2
      go_ret
      exact ⟨⟨_, rfl, (decide_eq_false (by decide)).trans HY.out.symm⟩, rfl⟩

theorem implContains (v : Value) (l : List Int) (x : Int) (w : World) (h : IntsAt w v l) (hm : l.length ≤ 100000000) :
    Calls Tryd.prog 75 #[v, .int .i64 x] w fun e w' => e = .returned (.bool (hasI l x)) ∧ w = w' := by
  have C := Lib.hid (implIndex v l x w h hm)
  obtain ⟨a, c, rfl, -⟩ := h
  unfold IdxIs at C
  generalize hasI l x = t at C ⊢
  go_enter Tryd.func75, Tryd.ntmps75
  go_wp2_with fail
  refine C.out.mono ?_
  rintro e w1 ⟨⟨i, rfl, rfl⟩, rfl⟩
  go_wp2
  go_ret
  exact ⟨rfl, rfl⟩

/-! ### an ascending list -/
/-- Whether each number is from the last one's next on, and at most hi. -/
def ascF : List Int → Int → Int → Bool
  | [], _, _ => true
  | x :: t, lo, hi => (decide (lo ≤ x) && decide (x ≤ hi)) && ascF t (x + 1) hi
theorem ascF_eq (l : List Int) (lo hi : Int) : ascF l lo hi = (decide (l.Pairwise (· < ·)) && l.all (fun x => decide (lo ≤ x) && decide (x ≤ hi))) := by
  induction l generalizing lo with
  | nil => simp [ascF]
  | cons x t ih =>
    rw [ascF, ih, Bool.eq_iff_iff]
    simp only [Bool.and_eq_true, decide_eq_true_eq, List.all_eq_true, List.pairwise_cons, List.mem_cons]
    constructor
    · rintro ⟨⟨h1, h2⟩, h3, h4⟩
      exact ⟨⟨fun y hy => by have := (h4 y hy).1; omega, h3⟩, fun y hy => by rcases hy with rfl | hy; exact ⟨h1, h2⟩; have := h4 y hy; omega⟩
    · rintro ⟨⟨h1, h2⟩, h3⟩
      exact ⟨h3 x (.inl rfl), h2, fun y hy => ⟨by have := h1 y hy; omega, (h3 y (.inr hy)).2⟩⟩
theorem ascF_asc (l : List Int) (hi : Int) : ascF l 1 hi = ascB l hi := ascF_eq l 1 hi
theorem ascF_step {l : List Int} {k : Nat} (h : k < l.length) (lo hi : Int) : ascF (l.drop k) lo hi = ((decide (lo ≤ l[k]) && decide (l[k] ≤ hi)) && ascF (l.drop (k + 1)) (l[k] + 1) hi) := by
  rw [List.drop_eq_getElem_cons h, ascF]
theorem ascF_end {l : List Int} {k : Nat} (h : l.length ≤ k) (lo hi : Int) : ascF (l.drop k) lo hi = true := by
  rw [List.drop_of_length_le h]; rfl

set_option maxHeartbeats 800000 in
theorem implAsc (v : Value) (l : List Int) (q : Int) (w : World) (h : IntsAt w v l) (hm : l.length ≤ 100000000) (hq : q ≤ 13) :
    Calls Tryd.prog 119 #[v, .int .i64 1, .int .i64 q] w fun e w' => e = .returned (.bool (ascB l q)) ∧ w = w' := by
  obtain ⟨a, c, rfl, h⟩ := h
  have H : Hid (∀ i (h : i < l.length), ∃ b o, a = some ⟨b, o, none⟩ ∧ w.cell? ⟨b, o + i, none⟩ = some (.int .i64 l[i])) := by
    intro i hi
    rcases h with rfl | ⟨b, o, rfl, hc⟩
    · simp at hi
    · exact ⟨b, o, rfl, hc i hi⟩
  clear h
  obtain ⟨r, hr⟩ : ∃ r, ascB l q = r := ⟨_, rfl⟩
  have H0 : Hid (ascF (l.drop 0) 1 q = r) := by unfold Hid; rw [List.drop_zero, ascF_asc, hr]
  rw [hr]
  clear hr
  obtain ⟨n, hn⟩ : ∃ n, l.length = n := ⟨_, rfl⟩
  rw [hn] at hm ⊢
  have HN := Lib.hid hn
  clear hn
  go_enter Tryd.func119, Tryd.ntmps119
  go_wp2
  go_loop [1, 8, 11] (fun m _ i => ∃ (k : Nat) (lo : Int), k ≤ n ∧ i = .int .i64 k ∧ m = .int .i64 lo ∧ 1 ≤ lo ∧ lo ≤ 14 ∧ Hid (ascF (l.drop k) lo q = r)) (fun _ _ i => n - (intOf i).toNat)
  case atStart => exact ⟨0, 1, Nat.zero_le _, rfl, rfl, by decide, by decide, H0⟩
  case round =>
    obtain ⟨k, lo, hk, rfl, rfl, l0, l1, HF⟩ := hrel
    by_cases hlt : k < n
    · have hkl : k < l.length := by rw [HN.out]; exact hlt
      obtain ⟨b, o, rfl, e0⟩ := H.out k hkl
      have i0 : (0 : Int) ≤ (k : Int) := by omega
      have i1 : (k : Int) < (n : Int) := by omega
      have HS := Lib.hid (ascF_step hkl lo q)
      obtain ⟨y, hy⟩ : ∃ y, l[k] = y := ⟨_, rfl⟩
      rw [hy] at e0 HS
      clear hy hkl
      by_cases g1 : y < lo
      · have HR : Hid (r = false) := by unfold Hid; rw [← HF.out, HS.out, decide_eq_false (by omega)]; rfl
        go_wp2
        go_ret
        exact ⟨ret_bool HR.out.symm, rfl⟩
      · by_cases g2 : q < y
        · have HR : Hid (r = false) := by unfold Hid; rw [← HF.out, HS.out, decide_eq_true (by omega), decide_eq_false (by omega)]; rfl
          go_wp2
          go_ret
          exact ⟨ret_bool HR.out.symm, rfl⟩
        · have HR : Hid (ascF (l.drop (k + 1)) (y + 1) q = r) := by unfold Hid; rw [← HF.out, HS.out, decide_eq_true (by omega), decide_eq_true (by omega)]; rfl
          go_wp2
          go_round
          case rel => exact ⟨k + 1, y + 1, by omega, by go_num, by go_num, by omega, by omega, HR⟩
          case measure => simp [intOf]; omega
    · have HR : Hid (r = true) := by unfold Hid; rw [← HF.out]; exact ascF_end (by rw [HN.out]; omega) _ _
      go_wp2
      go_ret
      exact ⟨ret_bool HR.out.symm, rfl⟩

/-! ### the sides -/
set_option maxHeartbeats 800000 in
theorem implSides (vl vr : Value) (w : World) : Calls Tryd.prog 74 #[.agg #[vl, vr]] w fun e w' =>
    ∃ b, e = .returned (.slice (some ⟨b, 0, none⟩) 2 2) ∧ TwoAt w' b (.iface 148 vl) (.iface 149 vr) ∧ w.heap.size ≤ b ∧ Below w.heap.size w w' := by
  have P1 := Lib.hid (TwoAt.new w 40 vl vr)
  have B1 := Lib.hid (alloc_below w (.cells #[vl, vr] 40))
  generalize hX1 : w.alloc (.cells #[vl, vr] 40) = X1 at P1 B1
  obtain ⟨e0, e1, -⟩ := P1.out
  go_enter Tryd.func74, Tryd.ntmps74
  go_wp2
  go_ret
  exact ⟨_, rfl, TwoAt.new _ _ _ _, B1.out.size, below_up B1.out (alloc_below _ _)⟩
end Go.Proofs.YtlflblngbneacabDoor
