/- Lists of truth values: the contracts of the law's own helpers on them, what stays of them, and how they come in. Conditions as with lists of integers: short enough, and the list is one of the call's own where it is written. -/
import Derived.Test.YtlflblngbneacaaDoorGBase
import Derived.Deep.Grids
namespace Go.Proofs.YtlflblngbneacaaDoor
open Go.RowKit

/-- The slice value v reads as the integers l in the world w. -/
def BoolsAt (w : World) (v : Value) (l : List Bool) : Prop :=
  ∃ a cap, v = .slice a l.length cap ∧ (l = [] ∨ ∃ b off, a = some ⟨b, off, none⟩ ∧ ∀ i (h : i < l.length), w.cell? ⟨b, off + i, none⟩ = some (.bool l[i]))

theorem BoolsAt.below {w w' : World} {v : Value} {l : List Bool} (h : BoolsAt w v l) (hb : Below w.heap.size w w') : BoolsAt w' v l := by
  obtain ⟨a, cap, rfl, h⟩ := h
  refine ⟨a, cap, rfl, ?_⟩
  rcases h with h | ⟨b, off, rfl, hc⟩
  · exact .inl h
  · refine .inr ⟨b, off, rfl, fun i hi => ?_⟩
    have hlt := World.block_lt_of_cell? w _ (hc i hi)
    rw [hb.cell (p := ⟨b, off + i, none⟩) hlt]
    exact hc i hi

theorem BoolsAt.of_owns {w : World} {B e : Nat} {v : Value} {l : List Bool} (h : w.ownsRow B e 1 v l.length (l.map Value.bool)) : BoolsAt w v l := by
  rcases h.2 with ⟨rfl, h0⟩ | ⟨g, cap, cur, rfl, hB, hh, hn, hc, hs, ht⟩
  · have : l = [] := List.eq_nil_of_length_eq_zero h0
    subst this
    exact ⟨none, 0, rfl, .inl rfl⟩
  · refine ⟨some ⟨g, 0, none⟩, cap, rfl, .inr ⟨g, 0, rfl, fun i hi => ?_⟩⟩
    have := h.cellAt i (by omega)
    rw [Nat.zero_add, this]
    simp [hi]

theorem BoolsAt.of_owns_n {w : World} {B e n : Nat} {v : Value} {l : List Bool} (h : w.ownsRow B e 1 v n (l.map Value.bool)) (hn : l.length = n) : BoolsAt w v l := by
  subst hn
  exact BoolsAt.of_owns h

set_option maxHeartbeats 800000 in
theorem eqBools_same (v1 v2 : Value) (l : List Bool) (w : World) (h1 : BoolsAt w v1 l) (h2 : BoolsAt w v2 l) (hm : l.length ≤ 100000000) :
    Calls Tryd.prog 25 #[v1, v2] w fun e w' => e = .returned (.bool true) ∧ Below w.heap.size w w' := by
  obtain ⟨a1, c1, rfl, h1⟩ := h1
  obtain ⟨a2, c2, rfl, h2⟩ := h2
  by_cases hl : l.length ≤ 0
  · obtain rfl : l = [] := List.eq_nil_of_length_eq_zero (by omega)
    clear h1 h2
    go_enter Tryd.func25, Tryd.ntmps25
    go_wp2
    go_loop [5] (fun i => i = .int .i64 0) (fun _ => 0)
    case atStart => exact rfl
    case round =>
      subst hrel
      go_wp2
      go_ret
      exact ⟨rfl, Below.refl _ _⟩
  · rcases h1 with rfl | ⟨b1, o1, rfl, hc1⟩
    · simp at hl
    rcases h2 with rfl | ⟨b2, o2, rfl, hc2⟩
    · simp at hl
    have H1 := Lib.hid hc1
    have H2 := Lib.hid hc2
    clear hc1 hc2
    obtain ⟨n, hn⟩ : ∃ n, l.length = n := ⟨_, rfl⟩
    rw [hn] at hl hm ⊢
    have HN := Lib.hid hn
    clear hn
    go_enter Tryd.func25, Tryd.ntmps25
    go_wp2
    go_loopw [5] (fun i wr => ∃ k m : Nat, k ≤ n ∧ i = .int .i64 k ∧ wr = w.drewN m) (fun i _ => n - (intOf i).toNat)
    case atStart => exact ⟨0, 0, Nat.zero_le _, rfl, rfl⟩
    case round =>
      obtain ⟨k, m, hk, rfl, rfl⟩ := hrel
      by_cases hlt : k < n
      · have e1 := H1.out k (by rw [HN.out]; exact hlt)
        have e2 := H2.out k (by rw [HN.out]; exact hlt)
        obtain ⟨x, hx⟩ : ∃ x, l[k]'(by rw [HN.out]; exact hlt) = x := ⟨_, rfl⟩
        rw [hx] at e1 e2
        clear hx
        have i0 : (0 : Int) ≤ (k : Int) := by omega
        have i1 : (k : Int) < (n : Int) := by omega
        go_wp2
        go_quiet (fail)
        go_wp2
        go_roundw
        case rel => exact ⟨k + 1, _, by omega, by go_num, rfl⟩
        case measure => simp [intOf]; omega
      · go_wp2
        go_ret
        exact ⟨rfl, below_drewN (Below.refl _ _) _⟩

/-- n marks from q on. -/
def bmarks (q : Int) (n : Nat) : List Bool := (List.range n).map fun (i : Nat) => ((q + (i : Int)) % 3 == 0)
theorem bmarks_length (q : Int) (n : Nat) : (bmarks q n).length = n := by simp [bmarks]
theorem bmarks_at (q : Int) (n i : Nat) (h : i < (bmarks q n).length) : (bmarks q n)[i] = ((q + (i : Int)) % 3 == 0) := by simp [bmarks]
theorem bmarks_succ (q : Int) (n : Nat) : bmarks q (n + 1) = bmarks q n ++ [((q + (n : Int)) % 3 == 0)] := by
  simp [bmarks, List.range_succ]

set_option maxHeartbeats 1600000 in
theorem heldBools (v : Value) (q : Int) (n : Nat) (w : World) (h : BoolsAt w v (bmarks q n)) (hq : 0 < q) (hqm : q ≤ 100000000) (hm : n ≤ 100000000) :
    Calls Tryd.prog 29 #[v, .int .i64 q] w fun e w' => e = .returned (.int .i64 (q + n)) ∧ w = w' := by
  obtain ⟨a, c, rfl, h⟩ := h
  rw [bmarks_length]
  by_cases hl : n ≤ 0
  · obtain rfl : n = 0 := by omega
    clear h
    go_enter Tryd.func29, Tryd.ntmps29
    go_wp2
    go_loop [1, 5] (fun r i => r = .int .i64 q ∧ i = .int .i64 0) (fun _ _ => 0)
    case atStart => exact ⟨rfl, rfl⟩
    case round =>
      obtain ⟨rfl, rfl⟩ := hrel
      go_wp2
      go_ret
      exact ⟨ret_int (by simp), rfl⟩
  · rcases h with h | ⟨b, o, rfl, hc⟩
    · have := congrArg List.length h
      rw [bmarks_length] at this
      simp at this
      omega
    have H1 : Hid (∀ i : Nat, i < n → w.cell? ⟨b, o + i, none⟩ = some (.bool ((q + (i : Int)) % 3 == 0))) := by
      intro i hi
      have hi' : i < (bmarks q n).length := by rw [bmarks_length]; exact hi
      rw [hc i hi', bmarks_at]
    clear hc
    go_enter Tryd.func29, Tryd.ntmps29
    go_wp2
    go_loop [1, 5] (fun r i => ∃ k : Nat, k ≤ n ∧ r = .int .i64 (q + k) ∧ i = .int .i64 k) (fun _ i => n - (intOf i).toNat)
    case atStart => exact ⟨0, Nat.zero_le _, by simp, rfl⟩
    case round =>
      obtain ⟨k, hk, rfl, rfl⟩ := hrel
      by_cases hlt : k < n
      · have e0 := H1.out k hlt
        have i0 : (0 : Int) ≤ (k : Int) := by omega
        have i1 : (k : Int) < (n : Int) := by omega
        go_wp2
        go_round
        case rel => exact ⟨k + 1, by omega, val_int (by omega), by go_num⟩
        case measure => simp [intOf]; omega
      · go_wp2
        go_ret
        exact ⟨ret_int (by omega), rfl⟩

/-- k marks in front of what the list held. -/
def bmarked (q : Int) (l : List Bool) (k : Nat) : List Bool := bmarks q k ++ l.drop k
theorem bmarked_length (q : Int) (l : List Bool) (k : Nat) (h : k ≤ l.length) : (bmarked q l k).length = l.length := by
  simp [bmarked, bmarks_length]; omega
theorem bmarked_zero (q : Int) (l : List Bool) : bmarked q l 0 = l := by simp [bmarked, bmarks]
theorem bmarked_all (q : Int) (l : List Bool) : bmarked q l l.length = bmarks q l.length := by simp [bmarked]
theorem bmarked_set (q : Int) (l : List Bool) (k : Nat) (h : k < l.length) : (bmarked q l k).set k ((q + (k : Int)) % 3 == 0) = bmarked q l (k + 1) := by
  unfold bmarked
  rw [bmarks_succ, List.drop_eq_getElem_cons h, List.set_append_right _ _ (by rw [bmarks_length]; exact Nat.le_refl _), bmarks_length, Nat.sub_self, List.set_cons_zero, List.append_assoc]
  rfl

set_option maxHeartbeats 1600000 in
theorem markBools (B : Nat) (v : Value) (q : Int) (l : List Bool) (w : World) (h : w.ownsRow B 4 1 v l.length (l.map Value.bool)) (hq : 0 < q) (hqm : q ≤ 100000000) (hm : l.length ≤ 100000000) :
    Calls Tryd.prog 28 #[v, .int .i64 q] w fun e w' => e = .returned (.int .i64 (q + l.length)) ∧ w'.ownsRow B 4 1 v l.length ((bmarks q l.length).map Value.bool) ∧ w.grownBy w' v.ownBlock := by
  by_cases hl : l.length ≤ 0
  · obtain rfl : l = [] := List.eq_nil_of_length_eq_zero (by omega)
    have hg : w.grownBy w v.ownBlock := ⟨rfl, rfl, rfl, Nat.le_refl _, fun _ _ _ => rfl⟩
    have h' : w.ownsRow B 4 1 v 0 [] := h
    rcases h.2 with ⟨rfl, _⟩ | ⟨g, cap, cur, rfl, _⟩
    all_goals
      have HX := Lib.hid (And.intro h' hg)
      clear h h' hg
      go_enter Tryd.func28, Tryd.ntmps28
      go_wp2
      go_loop [1, 5] (fun r i => r = .int .i64 q ∧ i = .int .i64 0) (fun _ _ => 0)
      case atStart => exact ⟨rfl, rfl⟩
      case round =>
        obtain ⟨rfl, rfl⟩ := hrel
        go_wp2
        go_ret
        exact ⟨ret_int (by simp), HX.out.1, HX.out.2⟩
  · obtain ⟨n, hn⟩ : ∃ n, l.length = n := ⟨_, rfl⟩
    rcases h.2 with ⟨_, h0⟩ | ⟨g, cap, cur, rfl, hB, _, _, _, _, _⟩
    · omega
    rw [hn] at h hl hm ⊢
    have HN := Lib.hid hn
    have HO := Lib.hid h
    clear hn h
    go_enter Tryd.func28, Tryd.ntmps28
    go_wp2
    go_loopw [1, 5] (fun r i wr => ∃ k : Nat, k ≤ n ∧ r = .int .i64 (q + k) ∧ i = .int .i64 k ∧ Hid (wr.ownsRow B 4 1 (.slice (some ⟨g, 0, none⟩) n cap) n ((bmarked q l k).map Value.bool)) ∧ w.grownBy wr (some g)) (fun _ i _ => n - (intOf i).toNat)
    case atStart => exact ⟨0, Nat.zero_le _, by simp, rfl, by unfold Hid; rw [bmarked_zero]; exact HO.out, ⟨rfl, rfl, rfl, Nat.le_refl _, fun _ _ _ => rfl⟩⟩
    case round =>
      obtain ⟨k, hk, rfl, rfl, HW, hg⟩ := hrel
      by_cases hlt : k < n
      · have hbw := (HW.out.lt g rfl).2
        have fz := HW.out.frozenAt k
        have hkl : k < (bmarked q l k).length := by rw [bmarked_length q l k (by rw [HN.out]; omega), HN.out]; exact hlt
        have e1 : wr.cell? ⟨g, k, none⟩ = some (.bool ((bmarked q l k)[k])) := by rw [HW.out.cellAt k (by omega), List.getElem?_map, List.getElem?_eq_getElem hkl]; rfl
        obtain ⟨x, hx⟩ : ∃ x, (bmarked q l k)[k] = x := ⟨_, rfl⟩
        rw [hx] at e1
        clear hx hkl
        have i0 : (0 : Int) ≤ (k : Int) := by omega
        have i1 : (k : Int) < (n : Int) := by omega
        have HG := Lib.hid hg
        clear hg
        go_wp2
        go_roundw
        case rel =>
          refine ⟨k + 1, by omega, val_int (by omega), by go_num, ?_, ?_⟩
          · have h2 := HW.out.stored k (.bool ((q + (k : Int)) % 3 == 0))
            unfold Hid
            rw [← bmarked_set q l k (by rw [HN.out]; exact hlt), List.map_set]
            exact h2.1
          · exact grown_set HG.out _ _
        case measure => simp [intOf]; omega
      · have : k = n := by omega
        subst this
        go_wp2
        go_ret
        have h1 := HW.out
        rw [← HN.out, bmarked_all] at h1
        rw [← HN.out]
        exact ⟨rfl, h1, hg⟩
theorem BoolsAt.only {T : Nat → Prop} {w w' : World} {v : Value} {l : List Bool} (h : BoolsAt w v l) (ho : Only T w w') (hb : Blk (fun k => ¬ T k) v) : BoolsAt w' v l := by
  obtain ⟨a, cap, rfl, h⟩ := h
  refine ⟨a, cap, rfl, ?_⟩
  rcases h with h | ⟨b, off, rfl, hc⟩
  · exact .inl h
  · refine .inr ⟨b, off, rfl, fun i hi => ?_⟩
    have hlt : b < w.heap.size := World.block_lt_of_cell? w _ (hc i hi)
    rw [World.cell?_of_block (w := w) (a := ⟨b, off + i, none⟩) (ho.block b hlt (hb b rfl))]
    exact hc i hi

theorem infoBoolA : (Tryd.prog.info? 4).map (fun i => (i.zero, i.size, i.bytes)) = some (some (.bool false), 1, 1) := by kernel_rfl

/-- The first k of a list, zeros behind. -/
def bcopied (l : List Bool) (n k : Nat) : List Bool := l.take k ++ List.replicate (n - k) false
theorem bcopied_length {l : List Bool} {n k : Nat} (h : l.length = n) (hk : k ≤ n) : (bcopied l n k).length = n := by simp [bcopied]; omega
theorem bcopied_set {l : List Bool} {n k : Nat} (h : l.length = n) (hk : k < n) : (bcopied l n k).set k (l[k]'(by omega)) = bcopied l n (k + 1) := by
  unfold bcopied
  have h1 : (l.take k).length = k := by simp; omega
  rw [List.set_append_right _ _ (by omega), h1, Nat.sub_self, show n - k = (n - (k + 1)) + 1 by omega, List.replicate_succ, List.set_cons_zero, List.take_succ_eq_append_getElem (by omega), List.append_assoc]
  rfl
theorem bcopied_all {l : List Bool} {n : Nat} (h : l.length = n) : bcopied l n n = l := by
  simp [bcopied, List.take_of_length_le (Nat.le_of_eq h)]

/-- A list of the call's own, from block B on. -/
def OwnB (w : World) (B : Nat) (v : Value) (l : List Bool) : Prop := w.ownsRow B 4 1 v l.length (l.map Value.bool)
theorem OwnB.reads {w : World} {B : Nat} {v : Value} {l : List Bool} (h : OwnB w B v l) : BoolsAt w v l := BoolsAt.of_owns h
theorem BoolsAt.form {w : World} {v : Value} {l : List Bool} (h : BoolsAt w v l) : ∃ a n c, v = .slice a n c := by
  obtain ⟨a, c, rfl, -⟩ := h
  exact ⟨a, _, c, rfl⟩
theorem OwnB.form {w : World} {B : Nat} {v : Value} {l : List Bool} (h : OwnB w B v l) : ∃ a n c, v = .slice a n c := h.reads.form
theorem OwnB.only {T : Nat → Prop} {w w' : World} {B : Nat} {v : Value} {l : List Bool} (h : OwnB w B v l) (ho : Only T w w') (hb : Blk (fun k => ¬ T k) v) : OwnB w' B v l := owns_only h ho hb
theorem OwnB.blk {w : World} {B : Nat} {v : Value} {l : List Bool} (h : OwnB w B v l) : Blk (fun k => B ≤ k ∧ k < w.heap.size) v := owns_blk h
theorem OwnB.lower {w : World} {B B' : Nat} {v : Value} {l : List Bool} (h : OwnB w B v l) (hB : B' ≤ B) : OwnB w B' v l :=
  ⟨h.1, h.2.imp id fun ⟨g, cap, cur, h1, h2, h3⟩ => ⟨g, cap, cur, h1, Nat.le_trans hB h2, h3⟩⟩
theorem OwnB.below {w w' : World} {B : Nat} {v : Value} {l : List Bool} (h : OwnB w B v l) (hb : Below w.heap.size w w') : OwnB w' B v l := owns_below h hb

set_option maxHeartbeats 1600000 in
theorem toBools (v : Value) (l : List Bool) (w : World) (h : BoolsAt w v l) (hm : l.length ≤ 1048576) :
    Calls Tryd.prog 23 #[v] w (fun e w' => ∃ v', e = .returned v' ∧ Solid v' ∧ OwnB w' w.heap.size v' l ∧ Below w.heap.size w w') := by
  unfold OwnB
  obtain ⟨i0, hi, hz0, hz1, hz2⟩ := info_parts infoBoolA
  obtain ⟨a, c, rfl, h⟩ := h
  have H : Hid (∀ i (h : i < l.length), ∃ b o, a = some ⟨b, o, none⟩ ∧ w.cell? ⟨b, o + i, none⟩ = some (.bool l[i])) := by
    intro i hi
    rcases h with rfl | ⟨b, o, rfl, hc⟩
    · simp at hi
    · exact ⟨b, o, rfl, hc i hi⟩
  clear h
  obtain ⟨n, hn⟩ : ∃ n, l.length = n := ⟨_, rfl⟩
  rw [hn] at hm ⊢
  have HN := Lib.hid hn
  clear hn
  go_enter Tryd.func23, Tryd.ntmps23
  go_wp2_with (at_make; refine wpList_make_full _ rfl _ _ 31 rfl w.heap.size 4 i0 (.bool false) 1 Tryd.underlying31 hi hz0 hz1 .i64 .i64 _ _ n rfl rfl rfl rfl (by rw [hz2]; omega) (by unfold maxLen; omega) (Nat.le_refl _) ?_; intro w1 hown hg)
  have hb := Below.grown (Below.refl w.heap.size w) hg (Nat.le_refl _) (by intro k hk; cases hk)
  have HO : Hid (w1.ownsRow w.heap.size 4 1 (.slice (some ⟨w.heap.size, 0, none⟩) n n) n ((bcopied l n 0).map Value.bool)) := by
    have : (madeCells (Value.bool false).cells (n * 1)).toList = (bcopied l n 0).map Value.bool := by
      simp [bcopied, madeCells, Value.cells, Nat.mod_one]
      apply List.ext_getElem <;> simp
    rw [← this]
    exact hown
  clear hown hg
  go_wp2
  go_loopw [4] (fun i wr => ∃ k : Nat, k ≤ n ∧ i = .int .i64 k ∧ Hid (wr.ownsRow w.heap.size 4 1 (.slice (some ⟨w.heap.size, 0, none⟩) n n) n ((bcopied l n k).map Value.bool)) ∧ Below w.heap.size w wr) (fun i _ => n - (intOf i).toNat)
  case atStart => exact ⟨0, Nat.zero_le _, rfl, HO, hb⟩
  case round =>
    clear HO hb
    obtain ⟨k, hk, rfl, HO, hb⟩ := hrel
    have HB := Lib.hid hb
    clear hb
    by_cases hlt : k < n
    · have hkl : k < l.length := by rw [HN.out]; exact hlt
      obtain ⟨b, o, rfl, e0⟩ := H.out k hkl
      have hbl := World.block_lt_of_cell? w _ e0
      have e1 : wr.cell? ⟨b, o + k, none⟩ = some (.bool (l[k])) := by rw [HB.out.cell (p := ⟨b, o + k, none⟩) hbl]; exact e0
      obtain ⟨x, hx⟩ : ∃ x, l[k] = x := ⟨_, rfl⟩
      have HS : Hid ((bcopied l n k).set k x = bcopied l n (k + 1)) := by unfold Hid; rw [← hx]; exact bcopied_set HN.out hlt
      rw [hx] at e1
      clear hx e0 hbl
      have fz := HO.out.frozenAt k
      have hcl : k < (bcopied l n k).length := by rw [bcopied_length HN.out (by omega)]; exact hlt
      have e2 : wr.cell? ⟨w.heap.size, k, none⟩ = some (.bool ((bcopied l n k)[k])) := by rw [HO.out.cellAt k (by omega), List.getElem?_map, List.getElem?_eq_getElem hcl]; rfl
      generalize (bcopied l n k)[k] = y at e2
      clear hcl hkl
      have i0' : (0 : Int) ≤ (k : Int) := by omega
      have i1 : (k : Int) < (n : Int) := by omega
      go_wp2
      go_roundw
      case rel =>
        have h2 := HO.out.stored k (.bool x)
        refine ⟨k + 1, by omega, by go_num, ?_, Below.setCell HB.out (Nat.le_refl _) _⟩
        unfold Hid
        rw [← HS.out, List.map_set]
        exact h2.1
      case measure => simp [intOf]; omega
    · obtain rfl : k = n := by omega
      have h1 := HO.out
      rw [bcopied_all HN.out] at h1
      have HW := Lib.hid h1
      clear h1
      go_wp2
      go_ret
      exact ⟨_, rfl, ⟨_, _, _, rfl⟩, HW.out, HB.out⟩


/-- What the walk is told of a slice of truth values that came in. -/
def CameBools (w : World) (v : Value) (l : List Bool) : Prop := BoolsAt w v l ∧ l.length ≤ maxLen
theorem cameBools {H : Type} {enc : TypeId × Value → H} {P : Program} {w : World} {base : Nat} {held : Bool} {t e : TypeId} {fuel : Nat} {u : Value} {x : DataW H × List MemPlace} (ht : P.underlying t = some (.slice e)) (he : P.underlying e = some .bool) (hc : P.cellsOf e = 1)
    (h : DataW.trod enc P w base (fun _ => true) held fuel t [u] = some x) : ∃ l, CameBools w u l := by
  rcases Go.Deep.open_bools ht he hc h with ⟨hcs, _⟩ | ⟨a, len, cap, B, hcs, _, hl, hm, _, hcell⟩
  · simp at hcs
    subst hcs
    exact ⟨[], ⟨none, 0, rfl, .inl rfl⟩, by unfold maxLen; simp⟩
  · simp at hcs
    subst hcs
    refine ⟨(List.range len).map B, ⟨some a, cap, by simp, ?_⟩, by simp; omega⟩
    by_cases h0 : len = 0
    · subst h0
      exact .inl rfl
    · obtain ⟨b, o, spot⟩ := a
      have hc0 := hcell 0 (by omega)
      have hspot : spot = none := by simpa [Addr.add] using World.cell?_spot hc0
      subst hspot
      refine .inr ⟨b, o, rfl, fun i hi => ?_⟩
      have hi2 : i < len := by simpa using hi
      have := hcell i (by omega)
      rw [Addr.add_lit] at this
      rw [this]
      simp
end Go.Proofs.YtlflblngbneacaaDoor
