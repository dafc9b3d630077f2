/- The contracts of the program's CountItems and isPositive. Conditions: an int; a pool and a set of at most sixteen items. -/
import Derived.Test.YtlflblngbneacaaGreatDoorGSet
namespace Go.Proofs.YtlflblngbneacaaGreatDoor
open Go.RowKit Go.Shelf
attribute [local go_sem] Oper.semAt_some

theorem newCell (W : World) (v : Value) (t : TypeId) : (W.alloc (.cells #[v] t)).cell? ⟨W.heap.size, 0, none⟩ = some v ∧ (W.alloc (.cells #[v] t)).frozen? ⟨W.heap.size, 0, none⟩ = false :=
  ⟨(Boxed.new W t v).cell, (Boxed.new W t v).frozen⟩
theorem cellUp {W : World} {a : Addr} {v : Value} (o : Obj) (h : W.cell? a = some v) : (W.alloc o).cell? a = some v := cell_kept h (World.grownBy_alloc W o none) (fun r e => by cases e)
theorem frozenUp {W : World} {a : Addr} {v : Value} (o : Obj) (h : W.cell? a = some v) (hf : W.frozen? a = false) : (W.alloc o).frozen? a = false := (frozen_kept h (World.grownBy_alloc W o none) (fun r e => by cases e)).trans hf
theorem sameBlk_t {b : Nat} {A B C : World} (h : SameBlk b A B) (k : SameBlk b B C) : SameBlk b A C := Eq.trans k h
theorem sameBlk_b {w : World} {b : Nat} (hb : b < w.heap.size) (W : World) (l : Nat) (o o' : Obj) (hl : w.heap.size ≤ l) (_ : W.heap[l]? = some o) (_ : o.isCells = false) (_ : o.isWalk = false) : SameBlk b W (W.putObj l o') := World.putObj_heap_other (by omega)

set_option maxRecDepth 100000 in
set_option maxHeartbeats 2000000 in
theorem countN (s : Int) (hs : s ≤ 9223372036854775807) (n : Nat) (hn : 4 ≤ n) (w : World) :
    CallsIn Fence.wide n Tryz.prog 151 #[.int .i64 s] w fun e W' => e = .returned (.int .i64 (cntI s)) ∧ Below w.heap.size w W' := by
  have h1 : 1 ≤ n := by omega
  have HC := Lib.hid (cnt_its hs)
  generalize cntI s = c at HC ⊢
  refine callsIn_of_wp_marks Tryz.func151 rfl trivial ?_ rfl
  simp only [Tryz.ntmps151, List.size_toArray, List.length_cons, List.length_nil, Nat.reduceAdd, Nat.reduceSub, Array.replicate_succ, Array.replicate_zero, List.push_toArray, List.append_toArray, List.nil_append, List.cons_append]
  gi_wp2_with (refine ⟨trivial, ?_⟩; gi_at_call 123; refine (itemsOf_in Fence.wide (n - 1) trivial rfl _ _).mono ?_; rintro e w' ⟨rfl, rfl⟩)
  have c0 := newCell w (.int .i64 0) 3
  have b1 := Boxed.new (w.alloc (.cells #[.int .i64 0] 3)) 3 (.int .i64 s)
  rw [World.size_alloc] at b1
  have hB0 : Below w.heap.size w ((w.alloc (.cells #[.int .i64 0] 3)).alloc (.cells #[.int .i64 s] 3)) := ((Below.refl _ w).alloc (Nat.le_refl _) _).alloc (by simp) _
  refine wpIn_rangeFunc_ownF rfl h1 (gf := 147) (lb := #[.pointer (some ⟨w.heap.size + 1, 0, none⟩)]) rfl trivial (enters_of Tryz.func147 (by kernel_rfl) rfl)
    (items_stops Fence.wide (n - 1) trivial trivial rfl (by omega) (w.heap.size + 1) s hs _ b1) (fun h k => sameBlk_t h k) (sameBlk_b (by simp)) (Below.refl _ _) (fun _ => rfl)
    (fun pre W => (W.cell? ⟨w.heap.size, 0, none⟩ = some (.int .i64 (pre.length : Nat)) ∧ W.frozen? ⟨w.heap.size, 0, none⟩ = false) ∧ Below w.heap.size w W)
    (fun _ _ _ => False)
    (OwnFrom.and (Own.from (fun s A B row hs hg hr => ⟨cell_kept hs.1 hg hr, (frozen_kept hs.1 hg hr).trans hs.2⟩) _) (ownFrom_below (Nat.le_refl _) (by simp; omega)))
    (fun _ _ _ _ _ hs _ _ => hs)
    ⟨⟨cellUp _ c0.1, frozenUp _ c0.1 c0.2⟩, hB0⟩
    (fun x => { tmps := #[.int .i64 s, undef, .int .i64 0, .pointer (some ⟨w.heap.size, 0, none⟩), .int .i64 s, .func (.func 147) #[] #[.pointer (some ⟨w.heap.size + 1, 0, none⟩)], .int .i64 (x.1 : Nat), undef, undef, undef], defers := [] }) ?assign ?body ?done ?stop
  case assign =>
    intro l x W K hK
    gi_wp2
    simpa using hK
  case body =>
    rintro l pre x W ⟨⟨hc, hf⟩, hB⟩ hlen
    have hw : IntKind.i64.wrap ((pre.length : Int) + 1) = ((pre.length : Int) + 1) := by rw [IntKind.wrap_i64]; omega
    gi_wp2
    exact ⟨KeepsOthers.setCell _ _ _, Below.heap_setCell _ _ _ _ (by simp), ⟨by rw [List.length_append]; exact World.cell?_setCell_same' _ _ _ (by rw [hc]; rfl), by rw [World.frozen?_setCell]; exact hf⟩, hB.setCell (p := ⟨w.heap.size, 0, none⟩) (Nat.le_refl _) _⟩
  case done =>
    rintro D ys W hD hys ⟨⟨hc, _⟩, hB⟩ hK
    have HF : Hid ((ys.length : Int) = c) := by unfold Hid; rw [HC.out, ← hys, bits0_len]
    gi_wp2
    refine ⟨by simp, .inl ⟨_, _, rfl, run_takeDeferred hK, ?_⟩⟩
    refine ⟨_, results_tmp rfl _ _ _, ?_, ?_⟩
    · exact ret_int HF.out
    · exact hB.trans (belowK_b (w := w) (Nat.le_refl _) W D _ _ (by simp at hD; omega) hK rfl rfl)
  case stop =>
    rintro D c pre W _ _ h _
    exact h.elim
theorem implCount (s : Int) (hs : s ≤ 9223372036854775807) (w : World) : Calls Tryz.prog 151 #[.int .i64 s] w fun e W' => e = .returned (.int .i64 (cntI s)) ∧ Below w.heap.size w W' :=
  (callsIn_wide (n := 4)).1 (countN s hs 4 (Nat.le_refl _) w)

set_option maxRecDepth 100000 in
set_option maxHeartbeats 2000000 in
theorem positiveN16 (p bad : Int) (h0 : 0 ≤ p) (h1 : p ≤ 65535) (g0 : 0 ≤ bad) (g1 : bad ≤ 65535) (n : Nat) (hn : 4 ≤ n) (w : World) :
    CallsIn Fence.wide n Tryz.prog 152 #[.int .i64 p, .int .i64 bad] w fun e W' => e = .returned (.bool (andI p bad != 0)) ∧ Below w.heap.size w W' := by
  have hn1 : 1 ≤ n := by omega
  have HC := Lib.hid (pos_and16 h0 h1 g0 g1)
  have HP : Hid (posB p bad = (itsL p).any bad.toNat.testBit) := rfl
  rw [← pos_and16 h0 h1 g0 g1]
  generalize posB p bad = r at HP ⊢
  clear HC
  refine callsIn_of_wp_marks Tryz.func152 rfl trivial ?_ rfl
  simp only [Tryz.ntmps152, List.size_toArray, List.length_cons, List.length_nil, Nat.reduceAdd, Nat.reduceSub, Array.replicate_succ, Array.replicate_zero, List.push_toArray, List.append_toArray, List.nil_append, List.cons_append]
  gi_wp2_with (refine ⟨trivial, ?_⟩; gi_at_call 123; refine (itemsOf_in Fence.wide (n - 1) trivial rfl _ _).mono ?_; rintro e w' ⟨rfl, rfl⟩)
  have c0 := newCell w (.int .i64 bad) 3
  have c1 := newCell (w.alloc (.cells #[.int .i64 bad] 3)) (.bool false) 4
  have b1 := Boxed.new ((w.alloc (.cells #[.int .i64 bad] 3)).alloc (.cells #[.bool false] 4)) 3 (.int .i64 p)
  simp only [World.size_alloc] at c1 b1
  have hB0 : Below w.heap.size w (((w.alloc (.cells #[.int .i64 bad] 3)).alloc (.cells #[.bool false] 4)).alloc (.cells #[.int .i64 p] 3)) := (((Below.refl _ w).alloc (Nat.le_refl _) _).alloc (by simp) _).alloc (by simp; omega) _
  refine wpIn_rangeFunc_ownF rfl hn1 (gf := 147) (lb := #[.pointer (some ⟨w.heap.size + 1 + 1, 0, none⟩)]) rfl trivial (enters_of Tryz.func147 (by kernel_rfl) rfl)
    (items_stops Fence.wide (n - 1) trivial trivial rfl (by omega) (w.heap.size + 1 + 1) p (by omega) _ b1) (fun h k => sameBlk_t h k) (sameBlk_b (by simp)) (Below.refl _ _) (fun _ => rfl)
    (fun pre W => ((bits0 pre).any bad.toNat.testBit = false ∧ W.cell? ⟨w.heap.size, 0, none⟩ = some (.int .i64 bad) ∧ W.cell? ⟨w.heap.size + 1, 0, none⟩ = some (.bool false) ∧ W.frozen? ⟨w.heap.size + 1, 0, none⟩ = false) ∧ Below w.heap.size w W)
    (fun c pre W => (c = .ret ∧ (bits0 pre).any bad.toNat.testBit = true ∧ W.cell? ⟨w.heap.size + 1, 0, none⟩ = some (.bool true)) ∧ Below w.heap.size w W)
    (OwnFrom.and (Own.from (fun s A B row hs hg hr => ⟨hs.1, cell_kept hs.2.1 hg hr, cell_kept hs.2.2.1 hg hr, (frozen_kept hs.2.2.1 hg hr).trans hs.2.2.2⟩) _) (ownFrom_below (Nat.le_refl _) (by simp; omega)))
    (fun c => OwnFrom.and (Own.from (fun s A B row hs hg hr => ⟨hs.1, hs.2.1, cell_kept hs.2.2 hg hr⟩) _) (ownFrom_below (Nat.le_refl _) (by simp; omega)))
    ⟨⟨by simp [bits0], cellUp _ (cellUp _ c0.1), cellUp _ c1.1, frozenUp _ c1.1 c1.2⟩, hB0⟩
    (fun x => { tmps := #[.int .i64 p, .int .i64 bad, undef, .pointer (some ⟨w.heap.size, 0, none⟩), .pointer (some ⟨w.heap.size + 1, 0, none⟩), .int .i64 (x.1 : Nat), .int .i64 p, .func (.func 147) #[] #[.pointer (some ⟨w.heap.size + 1 + 1, 0, none⟩)], .int .i64 (x.1 : Nat), undef, undef, undef], defers := [] }) ?assign ?body ?done ?stop
  case assign =>
    intro l x W K hK
    gi_wp2
    exact hK
  case body =>
    rintro l pre x W ⟨⟨hp, hcw, hcr, hfr⟩, hB⟩ hlen
    have HH := Lib.hid (fun V => hasItem_in Fence.wide (n - 1 - 1 - 1) trivial rfl bad x.1 g0 (by omega) x.2 V)
    have HS : Hid ((bits0 (pre ++ [x])).any bad.toNat.testBit = bad.toNat.testBit x.1) := by unfold Hid; rw [bits0_snoc, List.any_append, hp]; simp
    have hn2 : 1 ≤ n - 1 - 1 := by omega
    cases hbit : bad.toNat.testBit x.1 with
    | true =>
      rw [hbit] at HH HS
      gi_wp2_with (refine ⟨trivial, ?_⟩; gi_at_call 148; refine (CallsIn.inRound l (HH.out _)).mono ?_; rintro e w' ⟨rfl, rfl⟩)
      exact ⟨KeepsOthers.setCell _ _ _, ⟨rfl, HS.out, World.cell?_setCell_same' _ _ _ (by rw [hcr]; rfl)⟩, hB.setCell (p := ⟨w.heap.size + 1, 0, none⟩) (by simp) _⟩
    | false =>
      rw [hbit] at HH HS
      gi_wp2_with (refine ⟨trivial, ?_⟩; gi_at_call 148; refine (CallsIn.inRound l (HH.out _)).mono ?_; rintro e w' ⟨rfl, rfl⟩)
      exact ⟨KeepsOthers.refl _, rfl, ⟨HS.out, hcw, hcr, hfr⟩, hB⟩
  case done =>
    rintro D ys W hD hys ⟨⟨hne, _, hcr, hfr⟩, hB⟩ hK
    have HF : Hid (r = false) := by unfold Hid; rw [HP.out, ← hys, hne]
    gi_wp2
    have hK' := (KeepsOthers.setCell W ⟨w.heap.size + 1, 0, none⟩ (.bool false)).same D _ hK rfl
    refine ⟨by simp, .inl ⟨_, _, rfl, run_takeDeferred hK', ?_⟩⟩
    have hc5 := cell_kept (World.cell?_setCell_same' W ⟨w.heap.size + 1, 0, none⟩ (.bool false) (by rw [hcr]; rfl)) (grownBy_putObj' _ D (.deferred none)) (fun r e => by cases e; exact ⟨_, hK', rfl⟩)
    refine ⟨.bool false, ?_, ret_bool HF.out.symm, (hB.setCell (p := ⟨w.heap.size + 1, 0, none⟩) (by simp) _).trans (belowK_b (w := w) (Nat.le_refl _) _ D _ _ (by simp at hD; omega) hK' rfl rfl)⟩
    simp [results, Tryz.f152, go_sem, hc5]
  case stop =>
    rintro D c pre W hD hpre ⟨⟨rfl, hin, hcr⟩, hB⟩ hK
    have HT : Hid (r = true) := by
      unfold Hid
      rw [HP.out, List.any_eq_true]
      obtain ⟨x, hx, ht⟩ := List.any_eq_true.1 hin
      exact ⟨x, hpre.subset hx, ht⟩
    gi_wp2
    refine ⟨by simp, .inl ⟨_, _, rfl, run_takeDeferred hK, ?_⟩⟩
    have hc5 := cell_kept hcr (grownBy_putObj' _ D (.deferred none)) (fun r e => by cases e; exact ⟨_, hK, rfl⟩)
    refine ⟨.bool true, ?_, ret_bool HT.out.symm, hB.trans (belowK_b (w := w) (Nat.le_refl _) W D _ _ (by simp at hD; omega) hK rfl rfl)⟩
    simp [results, Tryz.f152, go_sem, hc5]
theorem positiveN (p bad : Int) (h0 : 0 ≤ p) (h1 : p ≤ 1023) (g0 : 0 ≤ bad) (g1 : bad ≤ 1023) (n : Nat) (hn : 4 ≤ n) (w : World) :
    CallsIn Fence.wide n Tryz.prog 152 #[.int .i64 p, .int .i64 bad] w fun e W' => e = .returned (.bool (andI p bad != 0)) ∧ Below w.heap.size w W' :=
  positiveN16 p bad h0 (by omega) g0 (by omega) n hn w
end Go.Proofs.YtlflblngbneacaaGreatDoor
