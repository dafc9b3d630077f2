/- Several texts in one file; each says what it proves and under which condition. No condition. -/
import Derived.Test.YtlflblngbneacabGreatDoorGDis
import Derived.Test.YtlflblngbneacabGreatDoorGSet
import Derived.Test.YtlflblngbneacabGreatDoorGPool
import Derived.Test.YtlflblngbneacabGreatDoorPoolsSpec
import Derived.Stop.RegionWithIn
import Derived.Deep.QuietTactic
import Derived.Maps.AppendAt
import Derived.Deep.RegionWith
import Derived.WalkSmall
/- The walks of the exact laws of PoolsOk, TestPools, CountItems, ConsistentSets, SurelyGood and SurelyBad round the contracts of the program's functions: each returns true for every argument. Condition: the slices that came in read as integers and as truth values. -/
namespace Go.Proofs.YtlflblngbneacabGreatDoor
open Go.RowKit

/-- The contracts of the program's functions. -/
def PoolsOkIs (f : FuncId) (n : Int) (P : List Int) : Prop := ∀ W vP, IntsAt W vP P → Calls Tryz.prog f #[.int .i64 n, vP] W fun e w' => e = .returned (.bool (poolsB n P)) ∧ Below W.heap.size W w'
def TestPoolsIs (f : FuncId) (n : Int) (P : List Int) (bad : Int) : Prop := ∀ W vP, IntsAt W vP P → Calls Tryz.prog f #[.int .i64 n, vP, .int .i64 bad] W (TestsR n P bad W)
def ConsistentSetsIs (f : FuncId) (n : Int) (P : List Int) (R : List Bool) (most : Int) : Prop := ∀ W vP vR, IntsAt W vP P → BoolsAt W vR R → Calls Tryz.prog f #[.int .i64 n, vP, vR, .int .i64 most] W (ListsI2 (consR n P R most) W)
def SurelyGoodIs (f : FuncId) (n : Int) (P : List Int) (R : List Bool) : Prop := ∀ W vP vR, IntsAt W vP P → BoolsAt W vR R → Calls Tryz.prog f #[.int .i64 n, vP, vR] W fun e w' => e = .returned (.int .i64 (goodR n P R)) ∧ Below W.heap.size W w'
def SurelyBadIs (f : FuncId) (n : Int) (P : List Int) (R : List Bool) : Prop := ∀ W vP vR, IntsAt W vP P → BoolsAt W vR R → Calls Tryz.prog f #[.int .i64 n, vP, vR] W fun e w' => e = .returned (.int .i64 (badR n P R)) ∧ Below W.heap.size W w'
def CountItemsIs (f : FuncId) (s : Int) : Prop := ∀ W, Calls Tryz.prog f #[.int .i64 s] W fun e w' => e = .returned (.int .i64 (cntI s)) ∧ Below W.heap.size W w'
theorem testR_len (n : Int) (P : List Int) (bad : Int) : (testR n P bad).length ≤ 12 := by
  unfold testR
  split
  · rename_i h
    unfold testsB at h
    rw [Bool.and_eq_true] at h
    rw [resL_len]
    exact (pools_in h.1).2.1
  · simp
theorem consR_len (n : Int) (P : List Int) (R : List Bool) (most : Int) : (consR n P R most).length ≤ 1024 := by
  unfold consR
  split
  · rename_i h
    obtain ⟨⟨h1, h2⟩, -⟩ := pools_in h
    unfold consL
    refine Nat.le_trans (List.length_filter_le _ _) ?_
    rw [List.length_map, List.length_range]
    have : n.toNat ≤ 10 := by omega
    exact Nat.le_trans (Nat.pow_le_pow_right (by decide) this) (by decide)
  · simp

end Go.Proofs.YtlflblngbneacabGreatDoor

/- The contracts of the program's CountItems and isPositive. Conditions: an int; a pool and a set of at most sixteen items. -/
namespace Go.Proofs.YtlflblngbneacabGreatDoor
open Go.RowKit Go.Shelf
attribute [local go_sem] Oper.semAt_some

theorem newCell (W : World) (v : Value) (t : TypeId) : (W.alloc (.cells #[v] t)).cell? ⟨W.heap.size, 0, none⟩ = some v ∧ (W.alloc (.cells #[v] t)).frozen? ⟨W.heap.size, 0, none⟩ = false :=
  ⟨(Boxed.new W t v).cell, (Boxed.new W t v).frozen⟩
theorem cellUp {W : World} {a : Addr} {v : Value} (o : Obj) (h : W.cell? a = some v) : (W.alloc o).cell? a = some v := cell_kept h (World.grownBy_alloc W o none) (fun r e => by cases e)
theorem frozenUp {W : World} {a : Addr} {v : Value} (o : Obj) (h : W.cell? a = some v) (hf : W.frozen? a = false) : (W.alloc o).frozen? a = false := (frozen_kept h (World.grownBy_alloc W o none) (fun r e => by cases e)).trans hf
theorem sameBlk_t {b : Nat} {A B C : World} (h : SameBlk b A B) (k : SameBlk b B C) : SameBlk b A C := Eq.trans k h
theorem sameBlk_b {w : World} {b : Nat} (hb : b < w.heap.size) (W : World) (l : Nat) (o o' : Obj) (hl : w.heap.size ≤ l) (_ : W.heap[l]? = some o) (_ : o.isCells = false) (_ : o.isWalk = false) : SameBlk b W (W.putObj l o') := World.putObj_heap_other (by omega)

set_option maxRecDepth 100000 in
set_option maxHeartbeats 2000000 in
theorem countN (s : Int) (hs : s ≤ 9223372036854775807) (n : Nat) (hn : 4 ≤ n) (w : World) :
    CallsIn Fence.wide n Tryz.prog 174 #[.int .i64 s] w fun e W' => e = .returned (.int .i64 (cntI s)) ∧ Below w.heap.size w W' := by
  have h1 : 1 ≤ n := by omega
  have HC := Lib.hid (cnt_its hs)
  generalize cntI s = c at HC ⊢
  refine callsIn_of_wp_marks Tryz.func174 rfl trivial ?_ rfl
  simp only [Tryz.ntmps174, List.size_toArray, List.length_cons, List.length_nil, Nat.reduceAdd, Nat.reduceSub, Array.replicate_succ, Array.replicate_zero, List.push_toArray, List.append_toArray, List.nil_append, List.cons_append]
  gi_wp2_with (refine ⟨trivial, ?_⟩; gi_at_call 73; refine (itemsOf_in Fence.wide (n - 1) trivial rfl _ _).mono ?_; rintro e w' ⟨rfl, rfl⟩)
  have c0 := newCell w (.int .i64 0) 3
  have b1 := Boxed.new (w.alloc (.cells #[.int .i64 0] 3)) 3 (.int .i64 s)
  rw [World.size_alloc] at b1
  have hB0 : Below w.heap.size w ((w.alloc (.cells #[.int .i64 0] 3)).alloc (.cells #[.int .i64 s] 3)) := ((Below.refl _ w).alloc (Nat.le_refl _) _).alloc (by simp) _
  refine wpIn_rangeFunc_ownF rfl h1 (gf := 112) (lb := #[.pointer (some ⟨w.heap.size + 1, 0, none⟩)]) rfl trivial (enters_of Tryz.func112 (by kernel_rfl) rfl)
    (items_stops Fence.wide (n - 1) trivial trivial rfl (by omega) (w.heap.size + 1) s hs _ b1) (fun h k => sameBlk_t h k) (sameBlk_b (by simp)) (Below.refl _ _) (fun _ => rfl)
    (fun pre W => (W.cell? ⟨w.heap.size, 0, none⟩ = some (.int .i64 (pre.length : Nat)) ∧ W.frozen? ⟨w.heap.size, 0, none⟩ = false) ∧ Below w.heap.size w W)
    (fun _ _ _ => False)
    (OwnFrom.and (Own.from (fun s A B row hs hg hr => ⟨cell_kept hs.1 hg hr, (frozen_kept hs.1 hg hr).trans hs.2⟩) _) (ownFrom_below (Nat.le_refl _) (by simp; omega)))
    (fun _ _ _ _ _ hs _ _ => hs)
    ⟨⟨cellUp _ c0.1, frozenUp _ c0.1 c0.2⟩, hB0⟩
    (fun x => { tmps := #[.int .i64 s, undef, .int .i64 0, .pointer (some ⟨w.heap.size, 0, none⟩), .int .i64 s, .func (.func 112) #[] #[.pointer (some ⟨w.heap.size + 1, 0, none⟩)], .int .i64 (x.1 : Nat), undef, undef, undef], defers := [] }) ?assign ?body ?done ?stop
  case assign =>
    intro l x W K hK
    gi_wp2
    simpa using hK
  case body =>
    rintro l pre x W ⟨⟨hc, hf⟩, hB⟩ hlen
    have hw : IntKind.i64.wrap ((pre.length : Int) + 1) = ((pre.length : Int) + 1) := by rw [IntKind.wrap_i64]; omega
    gi_wp2
    exact ⟨KeepsOthers.setCell _ _ _, Below.heap_setCell _ _ _ _ (by simp), ⟨by rw [List.length_append]; exact World.cell?_setCell_same' _ _ _ (by rw [hc]; rfl), by rw [World.frozen?_setCell]; exact hf⟩, hB.setCell (p := ⟨w.heap.size, 0, none⟩) (Nat.le_refl _) _⟩
  case done =>
    rintro D ys W hD hys ⟨⟨hc, _⟩, hB⟩ hK
    have HF : Hid ((ys.length : Int) = c) := by unfold Hid; rw [HC.out, ← hys, bits0_len]
    gi_wp2
    refine ⟨by simp, .inl ⟨_, _, rfl, run_takeDeferred hK, ?_⟩⟩
    refine ⟨_, results_tmp rfl _ _ _, ?_, ?_⟩
    · exact ret_int HF.out
    · exact hB.trans (belowK_b (w := w) (Nat.le_refl _) W D _ _ (by simp at hD; omega) hK rfl rfl)
  case stop =>
    rintro D c pre W _ _ h _
    exact h.elim
theorem implCount (s : Int) (hs : s ≤ 9223372036854775807) (w : World) : Calls Tryz.prog 174 #[.int .i64 s] w fun e W' => e = .returned (.int .i64 (cntI s)) ∧ Below w.heap.size w W' :=
  (callsIn_wide (n := 4)).1 (countN s hs 4 (Nat.le_refl _) w)

set_option maxRecDepth 100000 in
set_option maxHeartbeats 2000000 in
theorem positiveN16 (p bad : Int) (h0 : 0 ≤ p) (h1 : p ≤ 65535) (g0 : 0 ≤ bad) (g1 : bad ≤ 65535) (n : Nat) (hn : 4 ≤ n) (w : World) :
    CallsIn Fence.wide n Tryz.prog 107 #[.int .i64 p, .int .i64 bad] w fun e W' => e = .returned (.bool (andI p bad != 0)) ∧ Below w.heap.size w W' := by
  have hn1 : 1 ≤ n := by omega
  have HC := Lib.hid (pos_and16 h0 h1 g0 g1)
  have HP : Hid (posB p bad = (itsL p).any bad.toNat.testBit) := rfl
  rw [← pos_and16 h0 h1 g0 g1]
  generalize posB p bad = r at HP ⊢
  clear HC
  refine callsIn_of_wp_marks Tryz.func107 rfl trivial ?_ rfl
  simp only [Tryz.ntmps107, List.size_toArray, List.length_cons, List.length_nil, Nat.reduceAdd, Nat.reduceSub, Array.replicate_succ, Array.replicate_zero, List.push_toArray, List.append_toArray, List.nil_append, List.cons_append]
  gi_wp2_with (refine ⟨trivial, ?_⟩; gi_at_call 73; refine (itemsOf_in Fence.wide (n - 1) trivial rfl _ _).mono ?_; rintro e w' ⟨rfl, rfl⟩)
  have c0 := newCell w (.int .i64 bad) 3
  have c1 := newCell (w.alloc (.cells #[.int .i64 bad] 3)) (.bool false) 4
  have b1 := Boxed.new ((w.alloc (.cells #[.int .i64 bad] 3)).alloc (.cells #[.bool false] 4)) 3 (.int .i64 p)
  simp only [World.size_alloc] at c1 b1
  have hB0 : Below w.heap.size w (((w.alloc (.cells #[.int .i64 bad] 3)).alloc (.cells #[.bool false] 4)).alloc (.cells #[.int .i64 p] 3)) := (((Below.refl _ w).alloc (Nat.le_refl _) _).alloc (by simp) _).alloc (by simp; omega) _
  refine wpIn_rangeFunc_ownF rfl hn1 (gf := 112) (lb := #[.pointer (some ⟨w.heap.size + 1 + 1, 0, none⟩)]) rfl trivial (enters_of Tryz.func112 (by kernel_rfl) rfl)
    (items_stops Fence.wide (n - 1) trivial trivial rfl (by omega) (w.heap.size + 1 + 1) p (by omega) _ b1) (fun h k => sameBlk_t h k) (sameBlk_b (by simp)) (Below.refl _ _) (fun _ => rfl)
    (fun pre W => ((bits0 pre).any bad.toNat.testBit = false ∧ W.cell? ⟨w.heap.size, 0, none⟩ = some (.int .i64 bad) ∧ W.cell? ⟨w.heap.size + 1, 0, none⟩ = some (.bool false) ∧ W.frozen? ⟨w.heap.size + 1, 0, none⟩ = false) ∧ Below w.heap.size w W)
    (fun c pre W => (c = .ret ∧ (bits0 pre).any bad.toNat.testBit = true ∧ W.cell? ⟨w.heap.size + 1, 0, none⟩ = some (.bool true)) ∧ Below w.heap.size w W)
    (OwnFrom.and (Own.from (fun s A B row hs hg hr => ⟨hs.1, cell_kept hs.2.1 hg hr, cell_kept hs.2.2.1 hg hr, (frozen_kept hs.2.2.1 hg hr).trans hs.2.2.2⟩) _) (ownFrom_below (Nat.le_refl _) (by simp; omega)))
    (fun c => OwnFrom.and (Own.from (fun s A B row hs hg hr => ⟨hs.1, hs.2.1, cell_kept hs.2.2 hg hr⟩) _) (ownFrom_below (Nat.le_refl _) (by simp; omega)))
    ⟨⟨by simp [bits0], cellUp _ (cellUp _ c0.1), cellUp _ c1.1, frozenUp _ c1.1 c1.2⟩, hB0⟩
    (fun x => { tmps := #[.int .i64 p, .int .i64 bad, undef, .pointer (some ⟨w.heap.size, 0, none⟩), .pointer (some ⟨w.heap.size + 1, 0, none⟩), .int .i64 (x.1 : Nat), .int .i64 p, .func (.func 112) #[] #[.pointer (some ⟨w.heap.size + 1 + 1, 0, none⟩)], .int .i64 (x.1 : Nat), undef, undef, undef], defers := [] }) ?assign ?body ?done ?stop
  case assign =>
    intro l x W K hK
    gi_wp2
    exact hK
  case body =>
    rintro l pre x W ⟨⟨hp, hcw, hcr, hfr⟩, hB⟩ hlen
    have HH := Lib.hid (fun V => hasItem_in Fence.wide (n - 1 - 1 - 1) trivial rfl bad x.1 g0 (by omega) x.2 V)
    have HS : Hid ((bits0 (pre ++ [x])).any bad.toNat.testBit = bad.toNat.testBit x.1) := by unfold Hid; rw [bits0_snoc, List.any_append, hp]; simp
    have hn2 : 1 ≤ n - 1 - 1 := by omega
    cases hbit : bad.toNat.testBit x.1 with
    | true =>
      rw [hbit] at HH HS
      gi_wp2_with (refine ⟨trivial, ?_⟩; gi_at_call 113; refine (CallsIn.inRound l (HH.out _)).mono ?_; rintro e w' ⟨rfl, rfl⟩)
      exact ⟨KeepsOthers.setCell _ _ _, ⟨rfl, HS.out, World.cell?_setCell_same' _ _ _ (by rw [hcr]; rfl)⟩, hB.setCell (p := ⟨w.heap.size + 1, 0, none⟩) (by simp) _⟩
    | false =>
      rw [hbit] at HH HS
      gi_wp2_with (refine ⟨trivial, ?_⟩; gi_at_call 113; refine (CallsIn.inRound l (HH.out _)).mono ?_; rintro e w' ⟨rfl, rfl⟩)
      exact ⟨KeepsOthers.refl _, rfl, ⟨HS.out, hcw, hcr, hfr⟩, hB⟩
  case done =>
    rintro D ys W hD hys ⟨⟨hne, _, hcr, hfr⟩, hB⟩ hK
    have HF : Hid (r = false) := by unfold Hid; rw [HP.out, ← hys, hne]
    gi_wp2
    have hK' := (KeepsOthers.setCell W ⟨w.heap.size + 1, 0, none⟩ (.bool false)).same D _ hK rfl
    refine ⟨by simp, .inl ⟨_, _, rfl, run_takeDeferred hK', ?_⟩⟩
    have hc5 := cell_kept (World.cell?_setCell_same' W ⟨w.heap.size + 1, 0, none⟩ (.bool false) (by rw [hcr]; rfl)) (grownBy_putObj' _ D (.deferred none)) (fun r e => by cases e; exact ⟨_, hK', rfl⟩)
    refine ⟨.bool false, ?_, ret_bool HF.out.symm, (hB.setCell (p := ⟨w.heap.size + 1, 0, none⟩) (by simp) _).trans (belowK_b (w := w) (Nat.le_refl _) _ D _ _ (by simp at hD; omega) hK' rfl rfl)⟩
    simp [results, Tryz.f107, go_sem, hc5]
  case stop =>
    rintro D c pre W hD hpre ⟨⟨rfl, hin, hcr⟩, hB⟩ hK
    have HT : Hid (r = true) := by
      unfold Hid
      rw [HP.out, List.any_eq_true]
      obtain ⟨x, hx, ht⟩ := List.any_eq_true.1 hin
      exact ⟨x, hpre.subset hx, ht⟩
    gi_wp2
    refine ⟨by simp, .inl ⟨_, _, rfl, run_takeDeferred hK, ?_⟩⟩
    have hc5 := cell_kept hcr (grownBy_putObj' _ D (.deferred none)) (fun r e => by cases e; exact ⟨_, hK, rfl⟩)
    refine ⟨.bool true, ?_, ret_bool HT.out.symm, hB.trans (belowK_b (w := w) (Nat.le_refl _) W D _ _ (by simp at hD; omega) hK rfl rfl)⟩
    simp [results, Tryz.f107, go_sem, hc5]
theorem positiveN (p bad : Int) (h0 : 0 ≤ p) (h1 : p ≤ 1023) (g0 : 0 ≤ bad) (g1 : bad ≤ 1023) (n : Nat) (hn : 4 ≤ n) (w : World) :
    CallsIn Fence.wide n Tryz.prog 107 #[.int .i64 p, .int .i64 bad] w fun e W' => e = .returned (.bool (andI p bad != 0)) ∧ Below w.heap.size w W' :=
  positiveN16 p bad h0 (by omega) g0 (by omega) n hn w
end Go.Proofs.YtlflblngbneacabGreatDoor

/- The contracts of the program's PoolsOk, resultsOf and TestPools. Conditions: the slice reads as integers; a set of the items at hand. -/
namespace Go.Proofs.YtlflblngbneacabGreatDoor
open Go.RowKit

set_option maxHeartbeats 1600000 in
theorem implPoolsOk (n : Int) (v : Value) (P : List Int) (w : World) (h : IntsAt w v P) (hm : P.length ≤ maxLen) :
    Calls Tryz.prog 65 #[.int .i64 n, v] w fun e w' => e = .returned (.bool (poolsB n P)) ∧ w = w' := by
  have HP : Hid (poolsB n P = ((itemsB n && decide (P.length ≤ 12)) && P.all (poolB n))) := rfl
  obtain ⟨a, c, rfl, h⟩ := h
  have H := Lib.hid h
  unfold maxLen at hm
  clear h
  generalize poolsB n P = r at HP ⊢
  obtain ⟨m, hmm⟩ : ∃ m, P.length = m := ⟨_, rfl⟩
  rw [hmm] at HP hm ⊢
  have HN := Lib.hid hmm
  clear hmm
  have HI : Hid (itemsB n = (decide (1 ≤ n) && decide (n ≤ 10))) := rfl
  by_cases k1 : n < 1
  · have HE : Hid (r = false) := by unfold Hid; rw [HP.out, HI.out, decide_eq_false (by omega)]; rfl
    go_enter Tryz.func65, Tryz.ntmps65
    go_wp2
    go_ret
    exact ⟨ret_bool HE.out.symm, rfl⟩
  by_cases k10 : 10 < n
  · have HE : Hid (r = false) := by unfold Hid; rw [HP.out, HI.out, decide_eq_true (by omega), decide_eq_false (by omega)]; rfl
    go_enter Tryz.func65, Tryz.ntmps65
    go_wp2
    go_ret
    exact ⟨ret_bool HE.out.symm, rfl⟩
  by_cases k12 : (12 : Int) < (m : Int)
  · have HE : Hid (r = false) := by unfold Hid; rw [HP.out, decide_eq_false (show ¬ m ≤ 12 by omega), Bool.and_false, Bool.false_and]
    go_enter Tryz.func65, Tryz.ntmps65
    go_wp2
    go_ret
    exact ⟨ret_bool HE.out.symm, rfl⟩
  have HE : Hid (r = P.all (poolB n)) := by unfold Hid; rw [HP.out, HI.out, decide_eq_true (show m ≤ 12 by omega), decide_eq_true (show 1 ≤ n by omega), decide_eq_true (show n ≤ 10 by omega)]; rfl
  have CT := Lib.hid (fun p W => implIsSet n p (by omega) (by omega) W)
  clear HP HI
  go_enter Tryz.func65, Tryz.ntmps65
  go_wp2_with fail
  clear k12 k1 k10
  go_loopw [20] (fun iv wr => ∃ i : Nat, i ≤ m ∧ iv = .int .i64 i ∧ wr = w ∧ Hid ((P.take i).all (poolB n) = true)) (fun iv _ => m - (intOf iv).toNat)
  case atStart => exact ⟨0, Nat.zero_le _, rfl, rfl, by unfold Hid; simp⟩
  case round =>
    obtain ⟨i, hi, rfl, rfl, HT⟩ := hrel
    by_cases hlt : i < m
    · have hil : i < P.length := by rw [HN.out]; exact hlt
      rcases H.out with h0 | ⟨b, o, rfl, hc⟩
      · rw [h0] at hil; simp at hil
      have e0 := hc i hil
      obtain ⟨p, hp⟩ : ∃ p, P[i] = p := ⟨_, rfl⟩
      rw [hp] at e0
      have HTS : Hid ((P.take (i + 1)).all (poolB n) = poolB n p) := by unfold Hid; rw [List.take_succ_eq_append_getElem hil, List.all_append, HT.out, hp]; simp
      have HNO : Hid (poolB n p = false → P.all (poolB n) = false) := fun hb => by
        rw [List.all_eq_false]
        exact ⟨P[i], List.getElem_mem hil, by rw [hp, hb]; simp⟩
      have CT1 := Lib.hid (CT.out p)
      have i0 : (0 : Int) ≤ (i : Int) := by omega
      have i1 : (i : Int) < (m : Int) := by omega
      generalize poolB n p = pb at HTS HNO CT1
      clear hc hil hp CT
      cases pb with
      | false =>
        have HF : Hid (r = false) := by unfold Hid; rw [HE.out]; exact HNO.out rfl
        go_wp2_with fail
        refine (CT1.out _).mono ?_
        rintro e w2 ⟨rfl, rfl⟩
        go_wp2
        go_ret
        exact ⟨ret_bool HF.out.symm, rfl⟩
      | true =>
        go_wp2_with fail
        refine (CT1.out _).mono ?_
        rintro e w2 ⟨rfl, rfl⟩
        go_wp2
        go_roundw
        case rel => exact ⟨i + 1, by omega, by go_num, by first | rfl | trivial, HTS⟩
        case measure => simp [intOf]; omega
    · obtain rfl : i = m := by omega
      have HF : Hid (r = true) := by
        have := HT.out
        rw [List.take_of_length_le (by rw [HN.out]; omega)] at this
        unfold Hid
        rw [HE.out, this]
      go_wp2
      go_ret
      exact ⟨ret_bool HF.out.symm, rfl⟩

set_option maxHeartbeats 1600000 in
theorem implResults16 (v : Value) (P : List Int) (bad : Int) (w : World) (h : IntsAt w v P) (hm : P.length ≤ 1048576) (hP : ∀ p ∈ P, 0 ≤ p ∧ p ≤ 65535) (g0 : 0 ≤ bad) (g1 : bad ≤ 65535) :
    Calls Tryz.prog 67 #[v, .int .i64 bad] w (ListsB (resL P bad) w) := by
  obtain ⟨i0, hi, hz0, hz1, hz2⟩ := info_parts infoBoolA
  obtain ⟨a, c, rfl, h⟩ := h
  have H := Lib.hid h
  have HR : Hid (∀ i (h : i < P.length), resL (P.take (i + 1)) bad = resL (P.take i) bad ++ [andI P[i] bad != 0]) := fun i h => by
    rw [List.take_succ_eq_append_getElem h]
    unfold resL
    rw [List.map_append]
    rfl
  have HA : Hid (resL P bad = resL (P.take P.length) bad) := by unfold Hid; rw [List.take_length]
  have HL : Hid (∀ i, i ≤ P.length → (resL (P.take i) bad).length = i) := fun i h => by rw [resL_len, List.length_take]; omega
  have HZ : Hid (resL (P.take 0) bad = []) := rfl
  have HC : Hid (∀ i (h : i < P.length) W, Calls Tryz.prog 107 #[.int .i64 P[i], .int .i64 bad] W fun e W' => e = .returned (.bool (andI P[i] bad != 0)) ∧ Below W.heap.size W W') := fun i h W =>
    (callsIn_wide (n := 4)).1 (positiveN16 _ bad (hP _ (List.getElem_mem h)).1 (hP _ (List.getElem_mem h)).2 g0 g1 4 (Nat.le_refl _) W)
  clear h hP
  unfold ListsB
  generalize resL P bad = R at HA ⊢
  obtain ⟨m, hmm⟩ : ∃ m, P.length = m := ⟨_, rfl⟩
  rw [hmm] at HA hm ⊢
  have HN := Lib.hid hmm
  clear hmm
  have O1 := Lib.hid (OwnB.nil w w.heap.size)
  have B1 := Lib.hid (Below.refl w.heap.size w)
  go_enter Tryz.func67, Tryz.ntmps67
  go_wp2
  go_loopw [5, 10] (fun ov iv wr => ∃ i : Nat, i ≤ m ∧ iv = .int .i64 i ∧ Hid (OwnB wr w.heap.size ov (resL (P.take i) bad)) ∧ Hid (Below w.heap.size w wr)) (fun _ iv _ => m - (intOf iv).toNat)
  case atStart => exact ⟨0, Nat.zero_le _, rfl, O1, B1⟩
  case round =>
    clear O1 B1
    obtain ⟨i, hi2, rfl, O2, B2⟩ := hrel
    obtain ⟨go, no, co, rfl⟩ := O2.out.form
    by_cases hlt : i < m
    · have hil : i < P.length := by rw [HN.out]; exact hlt
      rcases H.out with h0 | ⟨b, o, rfl, hc⟩
      · rw [h0] at hil; simp at hil
      have hbl := World.block_lt_of_cell? w _ (hc i hil)
      have e0 : wr.cell? ⟨b, o + i, none⟩ = some (.int .i64 P[i]) := by rw [B2.out.cell (p := ⟨b, o + i, none⟩) hbl]; exact hc i hil
      have hst := HR.out i hil
      have hlen := HL.out i (by omega)
      have CP := Lib.hid (HC.out i hil)
      obtain ⟨p, hp⟩ : ∃ p, P[i] = p := ⟨_, rfl⟩
      rw [hp] at e0 hst CP
      have HST := Lib.hid hst
      generalize resL (P.take i) bad = L at O2 hlen HST
      generalize (andI p bad != 0) = x at HST CP
      have i0' : (0 : Int) ≤ (i : Int) := by omega
      have i1 : (i : Int) < (m : Int) := by omega
      clear hc hbl hst hp hil
      go_wp2_with fail
      refine (CP.out _).mono ?_
      rintro e w2 ⟨rfl, bb⟩
      have hown := O2.out.below bb
      have B3 := Lib.hid (below_up B2.out bb)
      have hbs : w.heap.size ≤ w2.heap.size := B3.out.size
      unfold OwnB at hown
      clear bb O2 B2
      go_wp2_with (at_builtin; refine wpList_append_own _ rfl _ _ 43 rfl w.heap.size 4 i0 (.bool false) 1 1 Tryz.underlying43 hi hz0 hz1 hz2 rfl (by decide) _ _ _ rfl (hown.alloc _) ⟨w2.heap.size, 0, none⟩ 1 1 [.bool x] rfl rfl (cell_one_new _ _ _) (by simp [Value.oneCell']) (by unfold maxLen; omega) (by omega) (by simp; omega) ?_; intro v' w3 hown' hg1 _)
      have hb2 := Below.grown (B3.out.alloc hbs _) hg1 (by simp; omega) (fun j hj => (hown.lt j hj).1)
      go_wp2
      go_roundw
      case rel =>
        refine ⟨i + 1, by omega, by go_num, ?_, Lib.hid hb2⟩
        unfold Hid OwnB
        rw [HST.out]
        simpa using hown'
      case measure => simp [intOf]; omega
    · obtain rfl : i = m := by omega
      have HE := HA.out
      go_wp2
      go_ret
      exact ⟨_, rfl, by rw [HE]; exact O2.out, B2.out⟩

theorem implResults (v : Value) (P : List Int) (bad : Int) (w : World) (h : IntsAt w v P) (hm : P.length ≤ 1048576) (hP : ∀ p ∈ P, 0 ≤ p ∧ p ≤ 1023) (g0 : 0 ≤ bad) (g1 : bad ≤ 1023) :
    Calls Tryz.prog 67 #[v, .int .i64 bad] w (ListsB (resL P bad) w) := implResults16 v P bad w h hm (fun p hp => ⟨(hP p hp).1, by have := (hP p hp).2; omega⟩) g0 (by omega)

set_option maxHeartbeats 1600000 in
theorem implTestPools (n : Int) (v : Value) (P : List Int) (bad : Int) (w : World) (h : IntsAt w v P) (hm : P.length ≤ 1048576) :
    Calls Tryz.prog 18 #[.int .i64 n, v, .int .i64 bad] w (TestsR n P bad w) := by
  have CP := Lib.hid (implPoolsOk n v P w h (by unfold maxLen; omega))
  have CT : Hid (poolsB n P = true → poolB n bad = true → Calls Tryz.prog 67 #[v, .int .i64 bad] w (ListsB (resL P bad) w)) := fun hp hb => by
    obtain ⟨⟨-, h10⟩, -, hP⟩ := pools_in hp
    have ht := top_in h10
    unfold poolB at hb
    simp only [Bool.and_eq_true, decide_eq_true_eq] at hb
    exact implResults v P bad w h hm hP hb.1 (by omega)
  have CI : Hid (poolsB n P = true → ∀ W, Calls Tryz.prog 66 #[.int .i64 n, .int .i64 bad] W fun e w' => e = .returned (.bool (poolB n bad)) ∧ W = w') := fun hp W => implIsSet n bad (pools_in hp).1.1 (pools_in hp).1.2 W
  have HB : Hid (testsB n P bad = (poolsB n P && poolB n bad)) := rfl
  have HN := Lib.hid (fun W' (hh : testsB n P bad = false) hb => TestsR.no (w := w) (w' := W') hh hb)
  have HY := Lib.hid (fun W' u (hh : testsB n P bad = true) ho hb => TestsR.yes (w := w) (w' := W') (u := u) hh ho hb)
  obtain ⟨a, c, rfl, -⟩ := h
  unfold ListsB at CT
  generalize testsB n P bad = tb at HB HN HY
  generalize poolsB n P = pb at CP HB CI CT
  generalize resL P bad = R at CT HY
  cases pb with
  | false =>
    have HE : Hid (tb = false) := HB.out
    clear CT CI
    go_enter Tryz.func18, Tryz.ntmps18
    go_wp2_with fail
    refine CP.out.mono ?_
    rintro e w1 ⟨rfl, rfl⟩
    go_wp2
    go_ret2
    exact HN.out _ HE.out (Below.refl _ _)
  | true =>
    generalize poolB n bad = ib at HB CI CT
    have HE : Hid (tb = ib) := HB.out
    have CI1 := Lib.hid (CI.out rfl)
    have CT1 := Lib.hid (CT.out rfl)
    clear CI CT
    go_enter Tryz.func18, Tryz.ntmps18
    go_wp2_with fail
    refine CP.out.mono ?_
    rintro e w1 ⟨rfl, rfl⟩
    cases ib with
    | false =>
      go_wp2_with fail
      refine (CI1.out _).mono ?_
      rintro e w2 ⟨rfl, rfl⟩
      go_wp2
      go_ret2
      exact HN.out _ HE.out (Below.refl _ _)
    | true =>
      have CT2 := Lib.hid (CT1.out rfl)
      clear CT1
      go_wp2_with fail
      refine (CI1.out _).mono ?_
      rintro e w2 ⟨rfl, rfl⟩
      go_wp2_with fail
      refine CT2.out.mono ?_
      rintro e w3 ⟨u, rfl, ou, bb⟩
      have OU := Lib.hid ou
      have BB := Lib.hid bb
      clear ou bb
      go_wp2
      go_ret2
      exact HY.out _ _ HE.out OU.out BB.out
end Go.Proofs.YtlflblngbneacabGreatDoor

/- The contracts of the program's resultsOk, SurelyGood and SurelyBad. Conditions: the slices read as integers and as truth values, and are short enough to be counted. -/
namespace Go.Proofs.YtlflblngbneacabGreatDoor
open Go.RowKit

/-- What is left of a set without another one. -/
theorem left_nat {a b : Nat} (ha : a < 1024) (hb : b < 1024) : bits .andNot .i64 (a : Int) (b : Int) = ((a - (a &&& b) : Nat) : Int) := by
  obtain ⟨x, hx⟩ : ∃ x : BitVec 64, BitVec.ofInt 64 (a : Int) = x := ⟨_, rfl⟩
  obtain ⟨y, hy⟩ : ∃ y : BitVec 64, BitVec.ofInt 64 (b : Int) = y := ⟨_, rfl⟩
  have xa : x.toNat = a := by rw [← hx]; exact nat64 (by omega)
  have yb : y.toNat = b := by rw [← hy]; exact nat64 (by omega)
  have hs : (x &&& y) + (x &&& ~~~y) = x := by
    rw [BitVec.add_eq_or_of_and_eq_zero _ _ (by ext i; simp; intro _ h1 _; exact h1)]
    ext i
    simp
    cases x[i] <;> simp
  have h1 : (x &&& y).toNat = a &&& b := by rw [BitVec.toNat_and, xa, yb]
  have h2 : (x &&& ~~~y).toNat ≤ a := by rw [BitVec.toNat_and, xa]; exact Nat.and_le_left
  have h3 : a &&& b ≤ a := Nat.and_le_left
  have h4 : (x &&& ~~~y).toNat = a - (a &&& b) := by
    have h5 := congrArg BitVec.toNat hs
    rw [BitVec.toNat_add, h1, xa] at h5
    omega
  show IntKind.i64.wrap ((BitVec.ofInt 64 (a : Int) &&& ~~~(BitVec.ofInt 64 (b : Int))).toNat : Nat) = _
  rw [hx, hy, h4, IntKind.wrap_i64]
  omega
theorem left_in {x y : Int} (h0 : 0 ≤ x) (h1 : x ≤ 1023) (g0 : 0 ≤ y) (g1 : y ≤ 1023) : bits .andNot .i64 x y = x - bits .and .i64 x y := by
  obtain ⟨a, rfl⟩ := Int.eq_ofNat_of_zero_le h0
  obtain ⟨b, rfl⟩ := Int.eq_ofNat_of_zero_le g0
  have h2 : bits .and .i64 (a : Int) (b : Int) = ((a &&& b : Nat) : Int) := and_nat (by omega) (by omega)
  have h3 : a &&& b ≤ a := Nat.and_le_left
  rw [left_nat (by omega) (by omega), h2]
  omega

def rokB (n : Int) (P : List Int) (R : List Bool) : Bool := poolsB n P && (R.length == P.length)
theorem rok_pools {n : Int} {P : List Int} {R : List Bool} (h : rokB n P R = true) : (∀ p ∈ P, 0 ≤ p ∧ p ≤ 1023) ∧ R.length = P.length := by
  unfold rokB at h
  rw [Bool.and_eq_true, beq_iff_eq] at h
  exact ⟨(pools_in h.1).2.2, h.2⟩
end Go.Proofs.YtlflblngbneacabGreatDoor

/- The contract of the program's setsOf, and of the iterator that it returns: the sets of at most so many items in ascending order. Condition: a number of items from 1 to 10. -/
namespace Go.Proofs.YtlflblngbneacabGreatDoor
open Go.RowKit Go.Shelf
attribute [local go_sem] Oper.semAt_some

/-- The sets of at most so many items among the first k; all of them. -/
def setsK (most : Int) (k : Nat) : List Nat := (List.range k).filter fun j => decide (cntI (j : Int) ≤ most)
theorem setsK_yes {most : Int} {k : Nat} (h : cntI (k : Int) ≤ most) : setsK most (k + 1) = setsK most k ++ [k] := by
  unfold setsK
  rw [List.range_succ, List.filter_append]
  simp [h]
theorem setsK_no {most : Int} {k : Nat} (h : ¬ cntI (k : Int) ≤ most) : setsK most (k + 1) = setsK most k := by
  unfold setsK
  rw [List.range_succ, List.filter_append]
  simp [h]
theorem setsK_len (most : Int) (k : Nat) : (setsK most k).length ≤ k := by
  unfold setsK
  refine Nat.le_trans (List.length_filter_le _ _) ?_
  rw [List.length_range]
  exact Nat.le_refl _
theorem setsK_up (most : Int) (k : Nat) : ∀ d, setsK most k <+: setsK most (k + d)
  | 0 => List.prefix_refl _
  | d + 1 => by
    rw [show k + (d + 1) = (k + d) + 1 by omega]
    by_cases h : cntI ((k + d : Nat) : Int) ≤ most
    · rw [setsK_yes h]; exact (setsK_up most k d).trans (List.prefix_append _ _)
    · rw [setsK_no h]; exact setsK_up most k d
theorem setsK_pre {most : Int} {k N : Nat} (h : k ≤ N) : setsK most k <+: setsK most N := by
  have := setsK_up most k (N - k)
  rwa [show k + (N - k) = N by omega] at this

set_option maxHeartbeats 1000000 in
theorem setsOf_in (F : Fence) (n : Nat) (hf : F.fn 187) (hro : F.round = none) (m most : Int) (w : World) :
    CallsIn F n Tryz.prog 187 #[.int .i64 m, .int .i64 most] w fun e w' => e = .returned (.func (.func 217) #[] #[.pointer (some ⟨w.heap.size, 0, none⟩), .pointer (some ⟨w.heap.size + 1, 0, none⟩)]) ∧ w' = (w.alloc (.cells #[.int .i64 m] 3)).alloc (.cells #[.int .i64 most] 3) := by
  refine callsIn_of_wp Tryz.func187 rfl hf ?_ hro
  simp only [Tryz.ntmps187, List.size_toArray, List.length_cons, List.length_nil, Nat.reduceAdd, Nat.reduceSub, Array.replicate_succ, Array.replicate_zero, List.push_toArray, List.append_toArray, List.nil_append, List.cons_append]
  gi_wp2
  go_ret
  exact ⟨rfl, rfl⟩

/-- What abides an iterator's steps abides whatever makes new blocks alone. -/
theorem abides_below {β : Type} {B : Nat} {J : β → World → Prop} (h : AbidesFrom B J) {s : β} {W W' : World} (hj : J s W) (hb : Below W.heap.size W W') : J s W' :=
  h s W W' none hj ⟨hb.os, hb.tape, hb.output, hb.size, fun k hk _ => hb.block k hk⟩ (fun r e => by cases e)
theorem boxedDeep {W W' : World} {b : Nat} {t : TypeId} {v : Value} (h : Boxed W b t v) (hb : Below W.heap.size W W') : Boxed W' b t v := (hb.block b h.lt).trans h
/-- How a round ends, in one word. -/
def YieldEnd (b : Nat) (Y N : World → Prop) (W : World) (e : Ending) (W' : World) : Prop := ∃ c, e = .returned (.bool c) ∧ (c = true → Y W' ∧ SameBlk b W W') ∧ (c = false → N W')

set_option maxRecDepth 100000 in
set_option maxHeartbeats 4000000 in
theorem sets1_in (n : Nat) (hn : 6 ≤ n) (l b1 b2 : Nat) (m most : Int) (m1 : 1 ≤ m) (m10 : m ≤ 10) (N : Nat) (hN : 2 ^ m.toNat = N) (J Jx : List Nat → World → Prop)
    (W : World) (hJ : AbidesFrom W.heap.size J)
    (hY : ∀ pre x V, J pre V → x ≤ 1023 → pre.length < 1024 → YieldAt Fence.wide (n - 1) Tryz.prog l #[.int .i64 (x : Nat)] V fun e V' =>
      (e = .returned (.bool true) ∧ J (pre ++ [x]) V' ∧ SameBlk b2 V V') ∨ (e = .returned (.bool false) ∧ Jx (pre ++ [x]) V'))
    (hb1 : Boxed W b1 3 (.int .i64 m)) (hb2 : Boxed W b2 3 (.int .i64 most)) (h0 : J [] W) :
    CallsIn Fence.wide n Tryz.prog 217 #[.func (.yield l) #[] #[], .pointer (some ⟨b1, 0, none⟩), .pointer (some ⟨b2, 0, none⟩)] W fun e W' => (∃ v, e = .returned v) ∧
      ((∃ ys, ys = setsK most N ∧ J ys W') ∨ (∃ pre, pre <+: setsK most N ∧ Jx pre W')) := by
  obtain ⟨hs1, hs2, hs3, hs4⟩ := shl_top m1 m10
  have hNI : (2 : Int) ^ m.toNat = (N : Int) := by rw [← hN]; exact_mod_cast rfl
  have hN2 : N ≤ 1024 := by omega
  rw [hNI] at hs1
  have hY2 : ∀ pre x V, J pre V → x ≤ 1023 → pre.length < 1024 → YieldAt Fence.wide (n - 1) Tryz.prog l #[.int .i64 (x : Nat)] V (YieldEnd b2 (J (pre ++ [x])) (Jx (pre ++ [x])) V) := fun pre x V hj hx hl =>
    (hY pre x V hj hx hl).mono fun e V' h => by
      rcases h with ⟨he, h1, h2⟩ | ⟨he, h1⟩
      · exact ⟨true, he, fun _ => ⟨h1, h2⟩, fun h => (by cases h)⟩
      · exact ⟨false, he, fun h => (by cases h), fun _ => h1⟩
  have HA : Hid (∀ s V V', J s V → Below V.heap.size V V' → J s V') := fun s V V' hj hb => abides_below hJ hj hb
  have hc0 := hb1.cell
  have m64 : m ≤ 64 := by omega
  have m0 : 0 ≤ m := by omega
  have HCI := Lib.hid (fun (s : Int) (hs : s ≤ 9223372036854775807) V => countN s hs (n - 1) (by omega) V)
  have hn1 : 1 ≤ n := by omega
  clear hY hN hJ hs2 hs3 hs4
  refine callsIn_of_wp Tryz.func217 rfl trivial ?_ rfl
  simp only [Tryz.ntmps217, List.size_toArray, List.length_cons, List.length_nil, Nat.reduceAdd, Nat.reduceSub, Array.replicate_succ, Array.replicate_zero, List.push_toArray, List.append_toArray, List.nil_append, List.cons_append]
  gi_wp2
  clear hc0 hs1
  gi_loopw [7] (fun v wr => ∃ k : Nat, v = .int .i64 k ∧ k ≤ N ∧ Boxed wr b2 3 (.int .i64 most) ∧ J (setsK most k) wr) (fun v _ => N - (intOf v).toNat)
  case atStart => exact ⟨0, rfl, by omega, hb2, h0⟩
  case round =>
    clear h0 hb1 hb2
    obtain ⟨k, rfl, hk, hbk, hJk⟩ := hrel
    by_cases hlt : k < N
    · have k1 : (k : Int) < (N : Int) := by omega
      have HC1 := Lib.hid (fun V => HCI.out (k : Int) (by omega) V)
      have hq := hbk.cell
      by_cases hc : cntI (k : Int) ≤ most
      · have HS := Lib.hid (setsK_yes hc)
        generalize cntI (k : Int) = c at hc HC1
        have HL : Hid ((setsK most k).length < 1024) := by have := setsK_len most k; unfold Hid; omega
        have HBK := Lib.hid hbk
        have HJK := Lib.hid hJk
        have hk3 : k ≤ 1023 := by omega
        clear hJk hbk
        gi_wp2
        gi_region_with (first
          | (refine ⟨trivial, ?_⟩; gi_at_call 174; refine (HC1.out _).mono ?_; rintro e w3 ⟨rfl, bb⟩; have b3 : Below wr.heap.size wr w3 := (Below.refl wr.heap.size wr).drew.trans bb; have hq3 := Boxed.cell (boxedDeep HBK.out b3); obtain ⟨fn, tmps, assign, body, hy, hR⟩ := hY2 _ k w3 (HA.out _ _ _ HJK.out b3) hk3 HL.out; have HR := Lib.hid hR; have HB3 := Lib.hid (boxedDeep HBK.out b3); clear hR bb b3)
          | (refine HR.out.mono ?_; rintro e w4 ⟨y, rfl, hy1, hy0⟩; have HY1 := Lib.hid hy1; have HY0 := Lib.hid hy0; clear hy1 hy0))
        all_goals
          cases y with
          | true =>
            obtain ⟨hj4, hk4⟩ := HY1.out rfl
            have HJ4 := Lib.hid hj4
            have HB4 : Hid (Boxed w4 b2 3 (.int .i64 most)) := Eq.trans hk4 HB3.out
            clear hj4 hk4
            gi_wp2
            go_roundw
            case rel => exact ⟨k + 1, by go_num, by omega, HB4.out, by rw [HS.out]; exact HJ4.out⟩
            case measure => simp [intOf]; omega
          | false =>
            have HX := Lib.hid (HY0.out rfl)
            gi_wp2
            refine bodyPost_ret (results_none rfl _ _ _) rfl ?_
            exact ⟨⟨_, rfl⟩, .inr ⟨_, by rw [← HS.out]; exact setsK_pre (by omega), HX.out⟩⟩
      · have HS := Lib.hid (setsK_no hc)
        generalize cntI (k : Int) = c at hc HC1
        have HBK := Lib.hid hbk
        have HJK := Lib.hid hJk
        clear hJk hbk
        gi_wp2
        first | (gi_region_with (first
          | (refine ⟨trivial, ?_⟩; gi_at_call 174; refine (HC1.out _).mono ?_; rintro e w3 ⟨rfl, bb⟩; have b3 : Below wr.heap.size wr w3 := (Below.refl wr.heap.size wr).drew.trans bb; have hq3 := Boxed.cell (boxedDeep HBK.out b3); have HJ3 := Lib.hid (HA.out _ _ _ HJK.out b3); have HB3 := Lib.hid (boxedDeep HBK.out b3); clear bb b3)
          | (refine ⟨fun _ h => (by cases h), ?_⟩)
          | fail)) | fail
        all_goals
          gi_wp2
          go_roundw
          case rel => exact ⟨k + 1, by go_num, by omega, HB3.out, by rw [HS.out]; exact HJ3.out⟩
          case measure => simp [intOf]; omega
    · obtain rfl : k = N := by omega
      gi_wp2
      go_end0
      exact ⟨⟨_, rfl⟩, .inl ⟨_, rfl, hJk⟩⟩
end Go.Proofs.YtlflblngbneacabGreatDoor

/- The contracts of slices.Equal on truth values and of the program's ConsistentSets. Conditions: the slices read as integers and as truth values, and are short enough to be counted. -/
namespace Go.Proofs.YtlflblngbneacabGreatDoor
open Go.RowKit Go.Shelf

set_option maxHeartbeats 1600000 in
theorem implEqualB (u v : Value) (A B : List Bool) (w : World) (h1 : BoolsAt w u A) (h2 : BoolsAt w v B) (m1 : A.length ≤ 1048576) :
    Calls Tryz.prog 188 #[u, v] w fun e w' => e = .returned (.bool (A == B)) ∧ ∃ m, w' = w.drewN m := by
  obtain ⟨a1, c1, rfl, h1⟩ := h1
  obtain ⟨a2, c2, rfl, h2⟩ := h2
  have H1 : Hid (∀ i (h : i < A.length), ∃ b o, a1 = some ⟨b, o, none⟩ ∧ w.cell? ⟨b, o + i, none⟩ = some (.bool A[i])) := by
    intro i hi
    rcases h1 with rfl | ⟨b, o, rfl, hc⟩
    · simp at hi
    · exact ⟨b, o, rfl, hc i hi⟩
  have H2 : Hid (∀ i (h : i < B.length), ∃ b o, a2 = some ⟨b, o, none⟩ ∧ w.cell? ⟨b, o + i, none⟩ = some (.bool B[i])) := by
    intro i hi
    rcases h2 with rfl | ⟨b, o, rfl, hc⟩
    · simp at hi
    · exact ⟨b, o, rfl, hc i hi⟩
  clear h1 h2
  by_cases hl : A.length = B.length
  · obtain ⟨r, hr⟩ : ∃ r, (A == B) = r := ⟨_, rfl⟩
    have HR := Lib.hid hr
    rw [hr]
    clear hr
    obtain ⟨n, hn⟩ : ∃ n, A.length = n := ⟨_, rfl⟩
    have hm : B.length = n := by omega
    have HN := Lib.hid hn
    have HM := Lib.hid hm
    rw [hn] at m1 ⊢
    rw [hm]
    clear hn hm hl
    have hne : ((n : Int) != (n : Int)) = false := by simp
    go_enter Tryz.func188, Tryz.ntmps188
    go_wp2
    go_loopw [5, 13] (fun _ i wr => ∃ k m : Nat, k ≤ n ∧ i = .int .i64 k ∧ Hid (A.take k = B.take k) ∧ wr = w.drewN m) (fun _ i _ => n - (intOf i).toNat)
    case atStart => exact ⟨0, 0, Nat.zero_le _, rfl, by simp [Hid], rfl⟩
    case round =>
      obtain ⟨k, m, hk, rfl, HF, rfl⟩ := hrel
      by_cases hlt : k < n
      · have k1 : k < A.length := by rw [HN.out]; exact hlt
        have k2 : k < B.length := by rw [HM.out]; exact hlt
        obtain ⟨b, o, rfl, e0⟩ := H1.out k k1
        obtain ⟨b', o', rfl, e1⟩ := H2.out k k2
        have hst : A.take (k + 1) = A.take k ++ [A[k]] := List.take_succ_eq_append_getElem k1
        have hsu : B.take (k + 1) = B.take k ++ [B[k]] := List.take_succ_eq_append_getElem k2
        have hno : A[k] ≠ B[k] → r = false := fun h => by
          rw [← HR.out, beq_eq_false_iff_ne]
          intro e
          subst e
          exact h rfl
        obtain ⟨x, hx⟩ : ∃ x, A[k] = x := ⟨_, rfl⟩
        obtain ⟨y, hy⟩ : ∃ y, B[k] = y := ⟨_, rfl⟩
        rw [hx] at e0 hst hno
        rw [hy] at e1 hsu hno
        have i0 : (0 : Int) ≤ (k : Int) := by omega
        have i1 : (k : Int) < (n : Int) := by omega
        clear hx hy k1 k2 hne
        by_cases hxy : x = y
        · subst hxy
          have HF2 : Hid (A.take (k + 1) = B.take (k + 1)) := by unfold Hid; rw [hst, hsu, HF.out]
          have hnx : (x != x) = false := by simp
          clear hst hsu hno
          go_wp2
          go_quiet (fail)
          go_wp2
          go_roundw
          case rel => exact ⟨k + 1, _, by omega, by go_num, HF2, rfl⟩
          case measure => simp [intOf]; omega
        · have hne : (x == y) = false := beq_eq_false_iff_ne.2 hxy
          have HF2 := Lib.hid (hno hxy)
          clear hst hsu hno
          go_wp2
          go_quiet (fail)
          go_wp2
          go_ret
          exact ⟨ret_bool HF2.out.symm, _, World.drewN_drewN ..⟩
      · have HF2 : Hid (r = true) := by
          obtain rfl : k = n := by omega
          have h3 := HF.out
          rw [List.take_of_length_le (by rw [HN.out]; omega), List.take_of_length_le (by rw [HM.out]; omega)] at h3
          unfold Hid
          rw [← HR.out, h3]
          simp
        have hk2 : ¬ ((k : Int) < (n : Int)) := by omega
        clear hne
        go_wp2
        go_ret
        exact ⟨ret_bool HF2.out.symm, _, rfl⟩
  · have HE : Hid ((A == B) = false) := beq_len hl
    generalize (A == B) = r at HE ⊢
    obtain ⟨p, hp⟩ : ∃ p, A.length = p := ⟨_, rfl⟩
    obtain ⟨q, hq⟩ : ∃ q, B.length = q := ⟨_, rfl⟩
    rw [hp, hq] at hl
    rw [hp] at m1 ⊢
    rw [hq]
    have hne : ((p : Int) != (q : Int)) = true := by simp; omega
    clear hp hq H1 H2
    go_enter Tryz.func188, Tryz.ntmps188
    go_wp2
    go_ret
    exact ⟨ret_bool HE.out.symm, 0, rfl⟩

/-- A set of at most ten items. -/
abbrev SetN := { x : Nat // x ≤ 1023 }
def sets0 (l : List SetN) : List Nat := l.map (·.1)
theorem sets0_snoc (l : List SetN) (x : SetN) : sets0 (l ++ [x]) = sets0 l ++ [x.1] := by simp [sets0]
theorem sets0_len (l : List SetN) : (sets0 l).length = l.length := by simp [sets0]

/-- The value that setsOf returns yields all such sets in their order, or a part of them where a round has said 'no more'. -/
theorem sets_stops (n : Nat) (hn : 6 ≤ n) (b1 b2 : Nat) (m most : Int) (m1 : 1 ≤ m) (m10 : m ≤ 10) (N : Nat) (hN : 2 ^ m.toNat = N) (w : World) (hb1 : Boxed w b1 3 (.int .i64 m)) (hb2 : Boxed w b2 3 (.int .i64 most)) :
    SeqStopsK Fence.wide n Tryz.prog 217 #[.pointer (some ⟨b1, 0, none⟩), .pointer (some ⟨b2, 0, none⟩)] (fun x : SetN => #[Value.int .i64 (x.1 : Nat)]) (SameBlk b2) (fun ys => sets0 ys = setsK most N) (fun pre => sets0 pre <+: setsK most N) 1024 w := fun l J Jx W hW hJ _ hY h0 => by
  refine (sets1_in n hn l b1 b2 m most m1 m10 N hN (fun pre V => ∃ q, sets0 q = pre ∧ J q V) (fun pre V => ∃ q, sets0 q = pre ∧ Jx q V) W
    (fun s V V' row ⟨q, hq, hj⟩ hg hr => ⟨q, hq, hJ q V V' row hj hg hr⟩) ?_ (boxedDeep hb1 hW) (boxedDeep hb2 hW) ⟨[], rfl, h0⟩).mono ?_
  · rintro pre x V ⟨q, rfl, hj⟩ hx hl
    rw [sets0_len] at hl
    refine (hY q ⟨x, hx⟩ V hj hl).mono ?_
    rintro e V' (⟨he, hj', hk⟩ | ⟨he, hj'⟩)
    · exact .inl ⟨he, ⟨_, sets0_snoc _ _, hj'⟩, hk⟩
    · exact .inr ⟨he, ⟨_, sets0_snoc _ _, hj'⟩⟩
  · rintro e V ⟨hv, (⟨ys, rfl, q, hq, hj⟩ | ⟨pre, hp, q, rfl, hj⟩)⟩
    · exact ⟨hv, .inl ⟨q, hq, hj⟩⟩
    · exact ⟨hv, .inr ⟨q, hp, hj⟩⟩

/-- The consistent ones among the sets that have come. -/
def fitL (P : List Int) (R : List Bool) (l : List Nat) : List Int := (l.map fun (j : Nat) => (j : Int)).filter fun b => resL P b == R
theorem fit_snoc (P : List Int) (R : List Bool) (l : List SetN) (x : SetN) : fitL P R (sets0 (l ++ [x])) = if (resL P (x.1 : Nat) == R) = true then fitL P R (sets0 l) ++ [(x.1 : Int)] else fitL P R (sets0 l) := by
  rw [sets0_snoc]
  unfold fitL
  rw [List.map_append, List.filter_append]
  split <;> rename_i h <;> simp [h]
theorem fit_len (P : List Int) (R : List Bool) (l : List Nat) : (fitL P R l).length ≤ l.length := by
  unfold fitL
  refine Nat.le_trans (List.length_filter_le _ _) ?_
  simp
theorem fit_cons (n : Int) (P : List Int) (R : List Bool) (most : Int) : fitL P R (setsK most (2 ^ n.toNat)) = consL n P R most := by
  unfold fitL setsK consL
  rw [List.filter_map, List.filter_map, List.filter_filter]
  congr 1
  refine List.filter_congr fun x _ => ?_
  simp [Function.comp, Bool.and_comm]
theorem cons_none {n : Int} {P : List Int} {R : List Bool} {most : Int} (h : rokB n P R = false) : consR n P R most = [] := by
  unfold consR
  split
  · rename_i hp
    unfold rokB at h
    rw [hp, Bool.true_and, beq_eq_false_iff_ne] at h
    unfold consL
    rw [List.filter_eq_nil_iff]
    intro x _
    rw [Bool.and_eq_true, not_and]
    intro _ he
    rw [beq_iff_eq] at he
    exact h (by rw [← he, resL_len])
  · rfl
end Go.Proofs.YtlflblngbneacabGreatDoor

/- The contract of the program's ConsistentSets. Conditions: the slices read as integers and as truth values, and are short enough to be counted. -/
namespace Go.Proofs.YtlflblngbneacabGreatDoor
open Go.RowKit Go.Shelf
attribute [local go_sem] Oper.semAt_some

theorem keepsOthers_belowC {V V' : World} (h : Below V.heap.size V V') : KeepsOthers V V' := ⟨h.size, fun k _ hk _ => (h.block k (Array.getElem?_eq_some_iff.1 hk).1).trans hk⟩
theorem owns_deep {V V' : World} {B : Nat} {e : TypeId} {size k : Nat} {v : Value} {xs : List Value} (h : V.ownsRow B e size v k xs) (hb : Below V.heap.size V V') : V'.ownsRow B e size v k xs := owns_below h hb
/-- What the loop keeps: the list that grows, the two slices that came in, the bound. -/
def ConsI (w : World) (v vr : Value) (most : Int) (L : List Int) (V : World) : Prop :=
  (∃ s, Boxed V (w.heap.size + 2) 26 s ∧ V.ownsRow (w.heap.size + 5) 3 1 s L.length (L.map (Value.int .i64)) ∧ True) ∧
    (Boxed V w.heap.size 26 v ∧ Boxed V (w.heap.size + 1) 43 vr ∧ Boxed V (w.heap.size + 4) 3 (.int .i64 most)) ∧ Below w.heap.size w V
theorem consI_own {β : Type} {w : World} {v vr : Value} {most : Int} {f : β → List Int} {B : Nat} (hB : w.heap.size ≤ B) : OwnFrom B (fun (s : β) V => ConsI w v vr most (f s) V) :=
  OwnFrom.and (_root_.Go.Own.from (holdsRow_own (w.heap.size + 5) (w.heap.size + 2) 26 3 1 (fun s => (f s).length) (fun s => (f s).map (Value.int .i64)) (fun _ _ => True)) _)
    (OwnFrom.and (fun _ X Y row hs hg hr => ⟨boxed_own w.heap.size 26 (fun (_ : Unit) => v) () X Y row hs.1 hg (fun r e => (hr r e).2), boxed_own (w.heap.size + 1) 43 (fun (_ : Unit) => vr) () X Y row hs.2.1 hg (fun r e => (hr r e).2), boxed_own (w.heap.size + 4) 3 (fun (_ : Unit) => Value.int .i64 most) () X Y row hs.2.2 hg (fun r e => (hr r e).2)⟩)
      (ownFrom_below (Nat.le_refl _) hB))
theorem ConsI.deep {w V V' : World} {v vr : Value} {most : Int} {L : List Int} (h : ConsI w v vr most L V) (hb : Below V.heap.size V V') : ConsI w v vr most L V' := by
  obtain ⟨⟨s, bS, oS, ht⟩, ⟨bP, bR, bM⟩, hB⟩ := h
  exact ⟨⟨s, boxedDeep bS hb, owns_deep oS hb, ht⟩, ⟨boxedDeep bP hb, boxedDeep bR hb, boxedDeep bM hb⟩, below_up hB hb⟩

/-- Behind an append to the list: ahead of the store the box still holds the old list; behind it all is kept. -/
theorem consAppend {w V w5 : World} {v vr s v' : Value} {most x : Int} {L : List Int} {tmp : Obj} (bS : Boxed V (w.heap.size + 2) 26 s) (oS : V.ownsRow (w.heap.size + 5) 3 1 s L.length (L.map (Value.int .i64)))
    (bP : Boxed V w.heap.size 26 v) (bR : Boxed V (w.heap.size + 1) 43 vr) (bM : Boxed V (w.heap.size + 4) 3 (.int .i64 most)) (hB : Below w.heap.size w V)
    (hown : w5.ownsRow (w.heap.size + 5) 3 1 v' (L.length + 1) (L.map (Value.int .i64) ++ [.int .i64 x])) (hgrow : (V.alloc tmp).grownBy w5 s.ownBlock) :
    Boxed w5 (w.heap.size + 2) 26 s ∧ KeepsOthers V (w5.setCell ⟨w.heap.size + 2, 0, none⟩ v') ∧ SameBlk (w.heap.size + 4) V (w5.setCell ⟨w.heap.size + 2, 0, none⟩ v') ∧ ConsI w v vr most (L ++ [x]) (w5.setCell ⟨w.heap.size + 2, 0, none⟩ v') := by
  have ne : ∀ b, b < w.heap.size + 5 → some b ≠ s.ownBlock := fun b hb e => by have := (oS.lt b e.symm).1; omega
  have ne' : ∀ b, b < w.heap.size + 5 → v'.ownBlock ≠ some b := fun b hb e => by have := (hown.lt b e).1; omega
  have S1 := (bS.alloc tmp).kept hgrow (ne _ (by omega))
  have P1 := ((bP.alloc tmp).kept hgrow (ne _ (by omega))).other (B' := w.heap.size + 2) (by omega) v'
  have R1 := ((bR.alloc tmp).kept hgrow (ne _ (by omega))).other (B' := w.heap.size + 2) (by omega) v'
  have M1 := ((bM.alloc tmp).kept hgrow (ne _ (by omega))).other (B' := w.heap.size + 2) (by omega) v'
  refine ⟨S1, ?_, Eq.trans M1 (Eq.symm bM), ⟨v', S1.set v', ?_, trivial⟩, ⟨P1, R1, M1⟩, ?_⟩
  · refine ((KeepsOthers.alloc V tmp).trans (KeepsOthers.of_grownBy hgrow fun j o ej hj => ?_)).trans (KeepsOthers.setCell _ _ _)
    rcases (oS.alloc tmp).2 with ⟨rfl, _⟩ | ⟨g, cap, cur, rfl, _, hgb, _⟩
    · simp [Value.ownBlock] at ej
    · obtain rfl : g = j := by simpa [Value.ownBlock] using ej
      rw [hgb] at hj; cases hj; rfl
  · have := hown.kept (grownBy_setCell' w5 (w.heap.size + 2) v') (.inr (ne' _ (by omega)))
    simpa using this
  · exact ((hB.alloc hB.size tmp).grown hgrow (by have := hB.size; simp; omega) fun j ej => by have := (oS.lt j ej).1; omega).setCell (p := ⟨w.heap.size + 2, 0, none⟩) (by simp) v'

end Go.Proofs.YtlflblngbneacabGreatDoor

/- The search for a list of separable pools, plainly. No condition. -/
namespace Go.Proofs.YtlflblngbneacabGreatDoor
open Go.RowKit

def natL (Q : List Nat) : List Int := Q.map fun (q : Nat) => (q : Int)
theorem natL_len (Q : List Nat) : (natL Q).length = Q.length := by simp [natL]
theorem natL_snoc (Q : List Nat) (p : Nat) : natL (Q ++ [p]) = natL Q ++ [(p : Int)] := by simp [natL]
/-- Any of so many numbers from one on. -/
def anyFrom (f : Nat → Bool) : Nat → Nat → Bool
  | 0, _ => false
  | m + 1, a => f a || anyFrom f m (a + 1)
theorem anyFrom_step (f : Nat → Bool) {N a : Nat} (h : a < N) : anyFrom f (N - a) a = (f a || anyFrom f (N - (a + 1)) (a + 1)) := by
  rw [show N - a = (N - (a + 1)) + 1 by omega]
  rfl
theorem anyFrom_end (f : Nat → Bool) {m : Nat} (a : Nat) (h : m = 0) : anyFrom f m a = false := by subst h; rfl
/-- The least pool that may follow. -/
def fromN (Q : List Nat) : Nat := match Q.getLast? with
  | none => 1
  | some x => x + 1
theorem fromN_nil {Q : List Nat} (h : Q.length = 0) : fromN Q = 1 := by
  obtain rfl := List.eq_nil_of_length_eq_zero h
  rfl
theorem fromN_last {Q : List Nat} (h : 0 < Q.length) : fromN Q = Q[Q.length - 1]'(by omega) + 1 := by
  unfold fromN
  rw [List.getLast?_eq_getElem?, List.getElem?_eq_getElem (by omega)]
/-- Whether so many pools more, in ascending order, make the list separable. -/
def searchB (n d : Int) : Nat → List Nat → Bool
  | 0, Q => sepR n (natL Q) d
  | l + 1, Q => anyFrom (fun p => searchB n d l (Q ++ [p])) (2 ^ n.toNat - fromN Q) (fromN Q)
end Go.Proofs.YtlflblngbneacabGreatDoor

/- The contract of slices.Collect over the sets of few items. Conditions: a number of items from 1 to 10. -/
namespace Go.Proofs.YtlflblngbneacabGreatDoor
open Go.RowKit Go.Shelf
attribute [local go_sem] Oper.semAt_some

/-- What the loop keeps: the list that grows, in its box. -/
def CollI (w : World) (L : List Int) (V : World) : Prop :=
  (∃ s, Boxed V w.heap.size 26 s ∧ V.ownsRow (w.heap.size + 1) 3 1 s L.length (L.map (Value.int .i64)) ∧ True) ∧ Below w.heap.size w V
theorem collI_own {β : Type} {w : World} {f : β → List Int} {B : Nat} (hB : w.heap.size ≤ B) : OwnFrom B (fun (s : β) V => CollI w (f s) V) :=
  OwnFrom.and (_root_.Go.Own.from (holdsRow_own (w.heap.size + 1) w.heap.size 26 3 1 (fun s => (f s).length) (fun s => (f s).map (Value.int .i64)) (fun _ _ => True)) _)
    (ownFrom_below (Nat.le_refl _) hB)
theorem collAppend {w V w5 : World} {s v' : Value} {x : Int} {L : List Int} {tmp : Obj} (bS : Boxed V w.heap.size 26 s) (oS : V.ownsRow (w.heap.size + 1) 3 1 s L.length (L.map (Value.int .i64)))
    (hB : Below w.heap.size w V) (hown : w5.ownsRow (w.heap.size + 1) 3 1 v' (L.length + 1) (L.map (Value.int .i64) ++ [.int .i64 x])) (hgrow : (V.alloc tmp).grownBy w5 s.ownBlock) :
    Boxed w5 w.heap.size 26 s ∧ KeepsOthers V (w5.setCell ⟨w.heap.size, 0, none⟩ v') ∧ CollI w (L ++ [x]) (w5.setCell ⟨w.heap.size, 0, none⟩ v') := by
  have ne : some w.heap.size ≠ s.ownBlock := fun e => by have := (oS.lt w.heap.size e.symm).1; omega
  have ne' : v'.ownBlock ≠ some w.heap.size := fun e => by have := (hown.lt w.heap.size e).1; omega
  have S1 := (bS.alloc tmp).kept hgrow ne
  refine ⟨S1, ?_, ⟨v', S1.set v', ?_, trivial⟩, ?_⟩
  · refine ((KeepsOthers.alloc V tmp).trans (KeepsOthers.of_grownBy hgrow fun j o ej hj => ?_)).trans (KeepsOthers.setCell _ _ _)
    rcases (oS.alloc tmp).2 with ⟨rfl, _⟩ | ⟨g, cap, cur, rfl, _, hgb, _⟩
    · simp [Value.ownBlock] at ej
    · obtain rfl : g = j := by simpa [Value.ownBlock] using ej
      rw [hgb] at hj; cases hj; rfl
  · have := hown.kept (grownBy_setCell' w5 w.heap.size v') (.inr ne')
    simpa using this
  · exact ((hB.alloc hB.size tmp).grown hgrow (by have := hB.size; simp; omega) fun j ej => by have := (oS.lt j ej).1; omega).setCell (p := ⟨w.heap.size, 0, none⟩) (by simp) v'
theorem same_below {w V W : World} {b : Nat} (hb : b < w.heap.size) (h : Below w.heap.size w V) (k : Below w.heap.size w W) : SameBlk b V W := (k.block b hb).trans (h.block b hb).symm

set_option maxRecDepth 100000 in
set_option maxHeartbeats 4000000 in
theorem appendSets (b1 b2 : Nat) (m most : Int) (m1 : 1 ≤ m) (m10 : m ≤ 10) (N : Nat) (hN : 2 ^ m.toNat = N) (w : World) (hb1 : Boxed w b1 3 (.int .i64 m)) (hb2 : Boxed w b2 3 (.int .i64 most)) :
    CallsIn Fence.wide 12 Tryz.prog 216 #[.slice none 0 0, .func (.func 217) #[] #[.pointer (some ⟨b1, 0, none⟩), .pointer (some ⟨b2, 0, none⟩)]] w fun e w' => ∃ u, e = .returned u ∧ Own w' w.heap.size u (natL (setsK most N)) ∧ Below w.heap.size w w' := by
  obtain ⟨i0, hi, hz0, hz1, hz2⟩ := info_parts infoIntA
  have hl2 := hb2.lt
  have S0 := Boxed.new w 26 (.slice none 0 0)
  have B1 := alloc_below w (.cells #[.slice none 0 0] 26)
  have s1 : (w.alloc (.cells #[.slice none 0 0] 26)).heap.size = w.heap.size + 1 := by simp
  have N1 := hb1.alloc (.cells #[.slice none 0 0] 26)
  have M1 := hb2.alloc (.cells #[.slice none 0 0] 26)
  generalize hX1 : w.alloc (.cells #[.slice none 0 0] 26) = X1 at S0 B1 s1 N1 M1
  have HI0 : CollI w [] X1 := ⟨⟨_, S0, World.ownsRow_nil _ _ _ _, trivial⟩, B1⟩
  refine callsIn_of_wp_marks Tryz.func216 rfl trivial ?_ rfl
  simp only [Tryz.ntmps216, List.size_toArray, List.length_cons, List.length_nil, Nat.reduceAdd, Nat.reduceSub, Array.replicate_succ, Array.replicate_zero, List.push_toArray, List.append_toArray, List.nil_append, List.cons_append]
  gi_wp2_with fail
  refine wpIn_rangeFunc_ownF rfl (by omega) (gf := 217) (lb := #[.pointer (some ⟨b1, 0, none⟩), .pointer (some ⟨b2, 0, none⟩)]) rfl trivial (enters_of Tryz.func217 (by kernel_rfl) rfl)
    (sets_stops 11 (by omega) b1 b2 m most m1 m10 N hN _ N1 M1) (fun h k => sameBlk_t h k) (sameBlk_b (by omega)) (Below.refl _ _) (fun _ => rfl)
    (fun pre V => CollI w (natL (sets0 pre)) V)
    (fun _ _ _ => False)
    (collI_own (by omega))
    (fun _ _ _ _ _ hs _ _ => hs)
    HI0
    (fun x => { tmps := #[.slice none 0 0, .func (.func 217) #[] #[.pointer (some ⟨b1, 0, none⟩), .pointer (some ⟨b2, 0, none⟩)], .pointer (some ⟨w.heap.size, 0, none⟩), undef, .slice none 0 0, .int .i64 (x.1 : Nat), .func (.func 217) #[] #[.pointer (some ⟨b1, 0, none⟩), .pointer (some ⟨b2, 0, none⟩)], .int .i64 (x.1 : Nat), undef, undef, undef, undef, undef], defers := [] }) ?assign ?body ?done ?stop
  case assign =>
    intro l x W K hK
    gi_wp2
    exact hK
  case body =>
    rintro l pre x V hI hlen
    obtain ⟨⟨s, bS, oS, -⟩, hB⟩ := hI
    have HS : Hid (natL (sets0 (pre ++ [x])) = natL (sets0 pre) ++ [(x.1 : Int)]) := by unfold Hid; rw [sets0_snoc, natL_snoc]
    have hL : (natL (sets0 pre)).length < 1024 := by rw [natL_len, sets0_len]; exact hlen
    have hBs : w.heap.size + 1 ≤ V.heap.size := by have := bS.lt; omega
    have HB := Lib.hid hB
    obtain ⟨L2, hL2⟩ : ∃ L2, natL (sets0 (pre ++ [x])) = L2 := ⟨_, rfl⟩
    rw [hL2] at HS
    have HL2 := Lib.hid hL2
    clear hL2
    generalize natL (sets0 pre) = L at HS oS hL
    have hc := bS.cell
    gi_wp2_with (gi_at_builtin; refine wpListIn_append_own _ rfl _ _ 26 rfl (w.heap.size + 1) 3 i0 (.int .i64 0) 1 8 Tryz.underlying26 hi hz0 hz1 hz2 rfl (by decide) _ _ _ rfl (oS.alloc _) ⟨V.heap.size, 0, none⟩ 1 1 [.int .i64 (x.1 : Nat)] rfl rfl (cell_one_new _ _ _) (by simp [Value.oneCell']) (by unfold maxLen; omega) (by omega) (by simp; omega) ?_; intro v' w5 hown' hgrow _; obtain ⟨g', cap', rfl⟩ := ownsRow_succ hown'; obtain ⟨hv1, hk2, hci⟩ := collAppend bS oS hB hown' hgrow; have hc1 := hv1.cell; have hf1 := hv1.frozen; have HEND := Lib.hid (And.intro hk2 hci); clear hk2 hci)
    refine ⟨HEND.out.1, same_below hl2 HB.out HEND.out.2.2, ?_⟩
    show CollI w (natL (sets0 (pre ++ [x]))) _
    rw [HL2.out, HS.out]
    exact HEND.out.2
  case done =>
    rintro D ys W hD hys hI hK
    have HF : Hid (natL (sets0 ys) = natL (setsK most N)) := by unfold Hid; rw [hys]
    obtain ⟨⟨s, bS, oS, -⟩, hB⟩ := hI
    have hc := bS.cell
    have HB := Lib.hid hB
    have HO := Lib.hid oS
    clear bS oS hB
    gi_wp2
    refine ⟨by simp, .inl ⟨_, _, rfl, run_takeDeferred hK, ?_⟩⟩
    refine ⟨_, results_tmp rfl _ _ _, s, rfl, ?_, ?_⟩
    · have h1 := ownsRow_putObj HO.out (.deferred none) hK rfl
      rw [HF.out] at h1
      exact Own.lower h1 (by omega)
    · exact HB.out.trans (belowK_b (w := w) (Nat.le_refl _) W D _ _ (by omega) hK rfl rfl)
  case stop =>
    rintro D c pre W _ _ h _
    exact h.elim

theorem implCollSets (b1 b2 : Nat) (m most : Int) (m1 : 1 ≤ m) (m10 : m ≤ 10) (N : Nat) (hN : 2 ^ m.toNat = N) (w : World) (hb1 : Boxed w b1 3 (.int .i64 m)) (hb2 : Boxed w b2 3 (.int .i64 most)) :
    Calls Tryz.prog 186 #[.func (.func 217) #[] #[.pointer (some ⟨b1, 0, none⟩), .pointer (some ⟨b2, 0, none⟩)]] w fun e w' => ∃ u, e = .returned u ∧ Own w' w.heap.size u (natL (setsK most N)) ∧ Below w.heap.size w w' := by
  have CA := Lib.hid ((callsIn_wide (n := 12)).1 (appendSets b1 b2 m most m1 m10 N hN w hb1 hb2))
  generalize natL (setsK most N) = S at CA ⊢
  go_enter Tryz.func186, Tryz.ntmps186
  go_wp2_with fail
  refine CA.out.mono ?_
  rintro e w1 ⟨u, rfl, ou, bb⟩
  have O := Lib.hid ou
  have B := Lib.hid bb
  clear ou bb
  obtain ⟨ga, na, ca, rfl⟩ := O.out.form
  go_wp2
  go_ret
  exact ⟨_, rfl, O.out, B.out⟩
end Go.Proofs.YtlflblngbneacabGreatDoor

/- Two sets with the same results, looked for in a list of the sets of few items, plainly. No condition. -/
namespace Go.Proofs.YtlflblngbneacabGreatDoor
open Go.RowKit

/-- The first pair of a list, by its first and then by its second member, for which h tells something. -/
def pairsF {β : Type} (h : Nat → Nat → Option β) : List Nat → Option β
  | [] => none
  | a :: t => (t.findSome? (h a)).or (pairsF h t)
theorem seek_filter {β : Type} (p : Nat → Bool) (g : Nat → Option β) : ∀ m a, seekF (fun b => if p b = true then g b else none) m a = ((List.range' a m).filter p).findSome? g
  | 0, _ => rfl
  | m + 1, a => by
    rw [seekF, seek_filter p g m (a + 1), List.range'_succ, List.filter_cons]
    cases p a with
    | false => rfl
    | true =>
      simp only [if_true, List.findSome?_cons]
      cases g a <;> rfl
theorem seek_pairs {β : Type} (p : Nat → Bool) (h : Nat → Nat → Option β) (G : Nat → Option β) (N : Nat)
    (hG : ∀ a, a < N → G a = if p a = true then seekF (fun b => if p b = true then h a b else none) (N - (a + 1)) (a + 1) else none) :
    ∀ m a, a + m = N → seekF G m a = pairsF h ((List.range' a m).filter p)
  | 0, _, _ => rfl
  | m + 1, a, e => by
    have e1 : N - (a + 1) = m := by omega
    rw [seekF, seek_pairs p h G N hG m (a + 1) (by omega), List.range'_succ, List.filter_cons, hG a (by omega), e1, seek_filter]
    cases p a with
    | false => rfl
    | true => rfl
def pairO (P : List Int) (a b : Nat) : Option (Int × Int) := if (resL P a == resL P b) = true then some ((a : Int), (b : Int)) else none
theorem weak_pairs {n : Int} {P : List Int} {d : Int} (h : okD n P d = true) : weakO n P d = pairsF (pairO P) (setsK d (2 ^ n.toNat)) := by
  unfold weakO
  rw [if_pos h]
  refine (seek_pairs (fun j => decide (cntI (j : Int) ≤ d)) (pairO P) _ (2 ^ n.toNat) (fun a _ => ?_) _ 0 (by omega)).trans ?_
  · unfold weakA
    have he : sameAt P d a = fun (b : Nat) => if decide (cntI (b : Int) ≤ d) = true then pairO P a b else none := by
      funext b
      unfold sameAt pairO
      cases decide (cntI (b : Int) ≤ d) <;> simp
    rw [he]
    by_cases hc : cntI (a : Int) ≤ d
    · rw [if_pos hc, if_pos (decide_eq_true hc)]
    · rw [if_neg hc, if_neg (by simpa using hc)]
  · unfold setsK
    rw [List.range_eq_range']
theorem pairs_at {β : Type} (h : Nat → Nat → Option β) {S : List Nat} {i : Nat} (hi : i < S.length) : pairsF h (S.drop i) = ((S.drop (i + 1)).findSome? (h S[i])).or (pairsF h (S.drop (i + 1))) := by
  rw [List.drop_eq_getElem_cons hi, pairsF]
theorem find_at {β : Type} (f : Nat → Option β) {S : List Nat} {j : Nat} (hj : j < S.length) : (S.drop j).findSome? f = (f S[j]).or ((S.drop (j + 1)).findSome? f) := by
  rw [List.drop_eq_getElem_cons hj, List.findSome?_cons]
  cases f S[j] <;> rfl
theorem pairs_end {β : Type} (h : Nat → Nat → Option β) {S : List Nat} {i : Nat} (hi : S.length ≤ i) : pairsF h (S.drop i) = none := by
  rw [List.drop_eq_nil_of_le hi]
  rfl
theorem find_end {β : Type} (f : Nat → Option β) {S : List Nat} {i : Nat} (hi : S.length ≤ i) : (S.drop i).findSome? f = none := by
  rw [List.drop_eq_nil_of_le hi]
  rfl
theorem sets_le {d : Int} {N x : Nat} (h : x ∈ setsK d N) : x < N := by
  unfold setsK at h
  rw [List.mem_filter, List.mem_range] at h
  exact h.1
end Go.Proofs.YtlflblngbneacabGreatDoor

/- The walks of the exact laws of IsDisjunct, Weakness and IsSeparable round the contracts of the program's functions: each returns true for every argument. Condition: the slice that came in reads as integers. -/
namespace Go.Proofs.YtlflblngbneacabGreatDoor
open Go.RowKit

/-- The contracts of the program's functions. -/
def IsDisjunctIs (f : FuncId) (n : Int) (P : List Int) (d : Int) : Prop := ∀ W vP, IntsAt W vP P → Calls Tryz.prog f #[.int .i64 n, vP, .int .i64 d] W fun e w' => e = .returned (.bool (disR n P d)) ∧ Below W.heap.size W w'
def WeaknessIs (f : FuncId) (n : Int) (P : List Int) (d : Int) : Prop := ∀ W vP, IntsAt W vP P → Calls Tryz.prog f #[.int .i64 n, vP, .int .i64 d] W (Weaks (weakO n P d) W)
def IsSeparableIs (f : FuncId) (n : Int) (P : List Int) (d : Int) : Prop := ∀ W vP, IntsAt W vP P → Calls Tryz.prog f #[.int .i64 n, vP, .int .i64 d] W fun e w' => e = .returned (.bool (sepR n P d)) ∧ Below W.heap.size W w'

end Go.Proofs.YtlflblngbneacabGreatDoor

/- The contracts of the program's poolsAndBadOk, Weakness and IsSeparable. Conditions: the slice reads as integers, and is short enough to be counted. -/
namespace Go.Proofs.YtlflblngbneacabGreatDoor
open Go.RowKit

theorem infoLstB : (Tryz.prog.info? 43).map (fun i => (i.zero, i.size, i.bytes)) = some (some (.slice none 0 0), 1, 24) := by kernel_rfl
theorem rowFormB {w : World} {B e s n : Nat} {v : Value} {xs : List Value} (h : w.ownsRow B e s v n xs) : ∃ a m c, v = .slice a m c := by
  rcases h.2 with ⟨rfl, _⟩ | ⟨g, cap, cur, rfl, _⟩
  · exact ⟨_, _, _, rfl⟩
  · exact ⟨_, _, _, rfl⟩
/-- A row of lists of truth values of the call's own; the lists lie in other blocks. -/
def RowsB (w : World) (lo : Nat) (ov : Value) (S : List (List Bool)) (us : List Value) : Prop :=
  us.length = S.length ∧ w.ownsRow lo 43 1 ov S.length us ∧ ∀ i (h : i < S.length) (h' : i < us.length), BoolsAt w us[i] S[i] ∧ Blk (fun b => ov.ownBlock ≠ some b ∧ b < w.heap.size) us[i]
theorem RowsB.below {w w' : World} {lo : Nat} {ov : Value} {S : List (List Bool)} {us : List Value} (h : RowsB w lo ov S us) (hb : Below w.heap.size w w') : RowsB w' lo ov S us :=
  ⟨h.1, owns_below h.2.1 hb, fun i h1 h2 => ⟨(h.2.2 i h1 h2).1.below hb, fun b e => ⟨((h.2.2 i h1 h2).2 b e).1, Nat.lt_of_lt_of_le ((h.2.2 i h1 h2).2 b e).2 hb.size⟩⟩⟩
theorem RowsB.push {w w' : World} {lo : Nat} {ov ov' : Value} {S : List (List Bool)} {us : List Value} (h : RowsB w lo ov S us) {s : List Bool} {u : Value}
    (hg : w.grownBy w' ov.ownBlock) (hown : w'.ownsRow lo 43 1 ov' (S.length + 1) (us ++ [u])) (hat : ov'.ownBlock = ov.ownBlock ∨ ov'.ownBlock = some w.heap.size)
    (hu : BoolsAt w u s) (hbu : Blk (fun b => ov.ownBlock ≠ some b ∧ b < w.heap.size) u) : RowsB w' lo ov' (S ++ [s]) (us ++ [u]) := by
  have T := Only.of_grown hg
  have key : ∀ (x : Value) (l : List Bool), BoolsAt w x l → Blk (fun b => ov.ownBlock ≠ some b ∧ b < w.heap.size) x → BoolsAt w' x l ∧ Blk (fun b => ov'.ownBlock ≠ some b ∧ b < w'.heap.size) x := fun x l hx hb =>
    ⟨hx.only T fun b e => (hb b e).1, fun b e => ⟨by
      have h1 := hb b e
      rcases hat with e' | e'
      · rw [e']; exact h1.1
      · rw [e']; intro e2; simp at e2; omega, Nat.lt_of_lt_of_le (hb b e).2 T.size⟩⟩
  refine ⟨by simp [h.1], by simpa using hown, fun i h1 h2 => ?_⟩
  by_cases e : i < S.length
  · have e' : i < us.length := by rw [h.1]; exact e
    rw [List.getElem_append_left e, List.getElem_append_left e']
    exact key _ _ (h.2.2 i e e').1 (h.2.2 i e e').2
  · have e1 : i = S.length := by simp at h1; omega
    have g1 : (S ++ [s])[i] = s := by rw [List.getElem_append_right (by omega)]; simp [e1]
    have g2 : (us ++ [u])[i] = u := by rw [List.getElem_append_right (by rw [h.1]; omega)]; simp [e1, h.1]
    rw [g1, g2]
    exact key u s hu hbu
/-- The slice value v reads as the lists of S. -/
def ReadsB (w : World) (v : Value) (S : List (List Bool)) : Prop :=
  ∃ a cap, v = .slice a S.length cap ∧ ∀ i (h : i < S.length), ∃ g u, a = some ⟨g, 0, none⟩ ∧ w.cell? ⟨g, i, none⟩ = some u ∧ BoolsAt w u S[i] ∧ g < w.heap.size
theorem ReadsB.below {w w' : World} {v : Value} {S : List (List Bool)} (h : ReadsB w v S) (hb : Below w.heap.size w w') : ReadsB w' v S := by
  obtain ⟨a, cap, rfl, h⟩ := h
  refine ⟨a, cap, rfl, fun i hi => ?_⟩
  obtain ⟨g, u, e, h1, h2, h3⟩ := h i hi
  exact ⟨g, u, e, by rw [hb.cell (p := ⟨g, i, none⟩) h3]; exact h1, h2.below hb, Nat.lt_of_lt_of_le h3 hb.size⟩
theorem RowsB.reads {w : World} {lo : Nat} {ov : Value} {S : List (List Bool)} {us : List Value} (h : RowsB w lo ov S us) : ReadsB w ov S := by
  rcases h.2.1.2 with ⟨h0, hn⟩ | ⟨g, cap, cur, h0, _⟩
  · exact ⟨none, 0, by rw [h0, hn], fun i hi => by omega⟩
  · have h1 := h.2.1
    subst h0
    refine ⟨_, cap, rfl, fun i hi => ?_⟩
    have hi' : i < us.length := by rw [h.1]; exact hi
    exact ⟨g, us[i], rfl, by rw [h1.cellAt i (by omega), List.getElem?_eq_getElem hi'], (h.2.2 i hi hi').1, (h1.lt g rfl).2⟩
/-- The results of the sets of a list. -/
def resS (P : List Int) (Q : List Nat) : List (List Bool) := Q.map fun (q : Nat) => resL P (q : Int)
theorem resS_len (P : List Int) (Q : List Nat) : (resS P Q).length = Q.length := by simp [resS]
theorem resS_take (P : List Int) {Q : List Nat} {i : Nat} (h : i < Q.length) : resS P (Q.take (i + 1)) = resS P (Q.take i) ++ [resL P (Q[i] : Nat)] := by
  unfold resS
  rw [List.take_succ_eq_append_getElem h, List.map_append]
  rfl
theorem rows_cell {w : World} {a : Option Addr} {n c : Nat} {P : List Int} {Q : List Nat} (h : ReadsB w (.slice a n c) (resS P Q)) {i : Nat} (hi : i < Q.length) :
    ∃ g u, a = some ⟨g, 0, none⟩ ∧ w.cell? ⟨g, i, none⟩ = some u ∧ BoolsAt w u (resL P (Q[i] : Nat)) ∧ g < w.heap.size := by
  obtain ⟨a', c', hv, hr⟩ := h
  cases hv
  obtain ⟨g, u, e, h1, h2, h3⟩ := hr i (by rw [resS_len]; exact hi)
  refine ⟨g, u, e, h1, ?_, h3⟩
  simpa [resS] using h2
theorem natL_at {Q : List Nat} {i : Nat} (h : i < (natL Q).length) : (natL Q)[i] = ((Q[i]'(by rw [natL_len] at h; exact h) : Nat) : Int) := by simp [natL]
theorem natL_cell {w : World} {a : Option Addr} {n c : Nat} {Q : List Nat} (h : IntsAt w (.slice a n c) (natL Q)) {i : Nat} (hi : i < Q.length) :
    ∃ b o, a = some ⟨b, o, none⟩ ∧ w.cell? ⟨b, o + i, none⟩ = some (.int .i64 (Q[i] : Nat)) ∧ b < w.heap.size := by
  obtain ⟨a', c', hv, hr⟩ := h
  cases hv
  have hi2 : i < (natL Q).length := by rw [natL_len]; exact hi
  rcases hr with h0 | ⟨b, o, rfl, hc⟩
  · rw [h0] at hi2; simp at hi2
  · have h1 := hc i hi2
    have h2 := World.block_lt_of_cell? w _ h1
    rw [natL_at] at h1
    exact ⟨b, o, rfl, h1, h2⟩

set_option maxHeartbeats 1600000 in
theorem implBadOk (n : Int) (v : Value) (P : List Int) (d : Int) (w : World) (h : IntsAt w v P) (hm : P.length ≤ 1048576) :
    Calls Tryz.prog 151 #[.int .i64 n, v, .int .i64 d] w fun e w' => e = .returned (.bool (okD n P d)) ∧ w = w' := by
  have CP := Lib.hid (implPoolsOk n v P w h (by unfold maxLen; omega))
  have HB : Hid (okD n P d = (poolsB n P && (decide (1 ≤ d) && decide (d ≤ 3)))) := rfl
  obtain ⟨a, c, rfl, -⟩ := h
  generalize okD n P d = r at HB ⊢
  generalize poolsB n P = pb at CP HB
  cases pb with
  | false =>
    have HE : Hid (r = false) := HB.out
    go_enter Tryz.func151, Tryz.ntmps151
    go_wp2_with fail
    refine CP.out.mono ?_
    rintro e w1 ⟨rfl, rfl⟩
    go_wp2
    go_ret
    exact ⟨ret_bool HE.out.symm, rfl⟩
  | true =>
    by_cases h1 : 1 ≤ d
    · have HE : Hid (r = decide (d ≤ 3)) := by unfold Hid; rw [HB.out, decide_eq_true h1]; rfl
      have d1 : decide (1 ≤ d) = true := decide_eq_true h1
      go_enter Tryz.func151, Tryz.ntmps151
      go_wp2_with fail
      refine CP.out.mono ?_
      rintro e w1 ⟨rfl, rfl⟩
      go_wp2
      go_ret
      exact ⟨ret_bool HE.out.symm, rfl⟩
    · have HE : Hid (r = false) := by unfold Hid; rw [HB.out, decide_eq_false h1]; rfl
      have d1 : decide (1 ≤ d) = false := decide_eq_false h1
      go_enter Tryz.func151, Tryz.ntmps151
      go_wp2_with fail
      refine CP.out.mono ?_
      rintro e w1 ⟨rfl, rfl⟩
      go_wp2
      go_ret
      exact ⟨ret_bool HE.out.symm, rfl⟩

theorem implSetsOf (m most : Int) (w : World) : Calls Tryz.prog 187 #[.int .i64 m, .int .i64 most] w fun e w' => e = .returned (.func (.func 217) #[] #[.pointer (some ⟨w.heap.size, 0, none⟩), .pointer (some ⟨w.heap.size + 1, 0, none⟩)]) ∧ w' = (w.alloc (.cells #[.int .i64 m] 3)).alloc (.cells #[.int .i64 most] 3) :=
  (callsIn_wide (n := 4)).1 (setsOf_in Fence.wide 4 trivial rfl m most w)

set_option maxRecDepth 100000 in
set_option maxHeartbeats 6400000 in
theorem implWeak (n : Int) (v : Value) (P : List Int) (d : Int) (w : World) (h : IntsAt w v P) (hm : P.length ≤ 1048576) :
    Calls Tryz.prog 150 #[.int .i64 n, v, .int .i64 d] w (Weaks (weakO n P d) w) := by
  obtain ⟨i0, hi, hz0, hz1, hz2⟩ := info_parts infoLstB
  have CP := Lib.hid (implBadOk n v P d w h hm)
  have H := Lib.hid h
  by_cases hok : okD n P d = true
  · have HR : Hid (weakO n P d = pairsF (pairO P) (setsK d (2 ^ n.toNat))) := weak_pairs hok
    rw [hok] at CP
    have hp : poolsB n P = true := by unfold okD at hok; rw [Bool.and_eq_true] at hok; exact hok.1
    clear hok
    obtain ⟨⟨n1, n10⟩, -, hin⟩ := pools_in hp
    have hN2 : 2 ^ n.toNat ≤ 1024 := Nat.pow_le_pow_right (n := 2) (by decide) (show n.toNat ≤ 10 by omega)
    obtain ⟨N, hN⟩ : ∃ N : Nat, 2 ^ n.toNat = N := ⟨_, rfl⟩
    rw [hN] at HR hN2
    have HM : Hid (∀ x ∈ setsK d N, x ≤ 1023) := fun x hx => by have := sets_le hx; omega
    have hQl : (setsK d N).length ≤ 1024 := by have := setsK_len d N; omega
    have CR : Hid (∀ (x : Nat) W, x ≤ 1023 → IntsAt W v P → Calls Tryz.prog 67 #[v, .int .i64 (x : Nat)] W (ListsB (resL P (x : Nat)) W)) := fun x W hx hW => implResults v P (x : Nat) W hW hm hin (by omega) (by omega)
    have HRL : Hid (∀ bad, (resL P bad).length ≤ 1048576) := fun bad => by rw [resL_len]; exact hm
    -- ahead of the walk: the sets
    have CS := Lib.hid (implSetsOf n d w)
    have F0 := (Boxed.new w 3 (.int .i64 n)).alloc (.cells #[.int .i64 d] 3)
    have F1 := Boxed.new (w.alloc (.cells #[.int .i64 n] 3)) 3 (.int .i64 d)
    have s1 : (w.alloc (.cells #[.int .i64 n] 3)).heap.size = w.heap.size + 1 := by simp
    have B2 := below_up (alloc_below w (.cells #[.int .i64 n] 3)) (alloc_below (w.alloc (.cells #[.int .i64 n] 3)) (.cells #[.int .i64 d] 3))
    rw [s1] at F1
    generalize (w.alloc (.cells #[.int .i64 n] 3)).alloc (.cells #[.int .i64 d] 3) = X at CS F0 F1 B2
    have CC := Lib.hid (implCollSets w.heap.size (w.heap.size + 1) n d n1 n10 N hN X F0 F1)
    have BX := Lib.hid B2
    clear F0 F1 s1 B2 hp hin hN hN2
    obtain ⟨a, c, rfl, -⟩ := h
    generalize weakO n P d = r at HR ⊢
    generalize setsK d N = Q at HR HM hQl CC
    unfold ListsB at CR
    go_enter Tryz.func150, Tryz.ntmps150
    go_wp2_with fail
    refine CP.out.mono ?_
    rintro e w1 ⟨rfl, rfl⟩
    go_wp2_with fail
    refine CS.out.mono ?_
    rintro e w2 ⟨rfl, rfl⟩
    go_wp2_with fail
    refine CC.out.mono ?_
    rintro e w3 ⟨u, rfl, ou, bb⟩
    have SA : Hid (IntsAt w3 u (natL Q)) := ou.reads
    have B3 := Lib.hid (below_up BX.out bb)
    clear ou bb CC CS CP BX
    obtain ⟨sa, sc, hsv, -⟩ := id SA.out
    obtain ⟨nQ, hnQ⟩ : ∃ nQ, Q.length = nQ := ⟨_, rfl⟩
    rw [natL_len, hnQ] at hsv
    rw [hnQ] at hQl
    subst hsv
    have HC : Hid (∀ i (h : i < Q.length), ∃ b o, sa = some ⟨b, o, none⟩ ∧ w3.cell? ⟨b, o + i, none⟩ = some (.int .i64 (Q[i] : Nat)) ∧ b < w3.heap.size) := fun i h => natL_cell SA.out h
    have HNQ := Lib.hid hnQ
    clear hnQ SA
    have R0 : Hid (RowsB w3 w3.heap.size (.slice none 0 0) (resS P (Q.take 0)) []) := ⟨rfl, World.ownsRow_nil _ _ _ _, fun i h1 _ => by simp [resS] at h1⟩
    have A0 := Lib.hid (Below.refl w3.heap.size w3)
    go_wp2
    go_loopw [9, 25] (fun ov iv wr => ∃ (i : Nat) (us : List Value), i ≤ nQ ∧ iv = .int .i64 i ∧ Hid (RowsB wr w3.heap.size ov (resS P (Q.take i)) us) ∧ Hid (Below w3.heap.size w3 wr)) (fun _ iv _ => nQ - (intOf iv).toNat)
    case atStart => exact ⟨0, [], Nat.zero_le _, rfl, R0, A0⟩
    case round =>
      clear R0 A0
      obtain ⟨i, us, hiQ, rfl, R1, A1⟩ := hrel
      by_cases hlt : i < nQ
      · have hil : i < Q.length := by rw [HNQ.out]; exact hlt
        obtain ⟨b, o, rfl, hc, hb⟩ := HC.out i hil
        have e1 : wr.cell? ⟨b, o + i, none⟩ = some (.int .i64 (Q[i] : Nat)) := by rw [A1.out.cell (p := ⟨b, o + i, none⟩) hb]; exact hc
        have HT := Lib.hid (resS_take P hil)
        have CR1 := Lib.hid (CR.out Q[i] wr (HM.out _ (List.getElem_mem hil)) (H.out.below (below_up B3.out A1.out)))
        have hSl : (resS P (Q.take i)).length = i := by rw [resS_len, List.length_take]; omega
        generalize resS P (Q.take i) = S at R1 HT hSl
        generalize Q[i] = q at e1 CR1 HT
        generalize resL P (q : Nat) = rq at CR1 HT
        obtain ⟨oa, on, oc, hov⟩ := rowFormB R1.out.2.1
        subst hov
        have HS := Lib.hid hSl
        have i0' : (0 : Int) ≤ (i : Int) := by omega
        have i1 : (i : Int) < (nQ : Int) := by omega
        clear hc hb hil hSl
        go_wp2_with fail
        refine CR1.out.mono ?_
        rintro e w4 ⟨u, rfl, ou, bb⟩
        obtain ⟨ua, un, uc, rfl⟩ := ou.form
        have BB := Lib.hid bb
        have A3 := Lib.hid (alloc_below w4 (.cells #[.slice ua un uc] 43))
        have R2 := Lib.hid ((R1.out.below bb).below A3.out)
        have O3 : Hid ((w4.alloc (.cells #[.slice ua un uc] 43)).ownsRow w3.heap.size 43 1 (.slice oa on oc) i us) := by have := R2.out.2.1; rw [HS.out] at this; exact this
        have UB := Lib.hid ou.blk
        have UR := Lib.hid (ou.reads.below A3.out)
        have z3 : w3.heap.size ≤ (w4.alloc (.cells #[.slice ua un uc] 43)).heap.size := by have := bb.size; have := A1.out.size; simp; omega
        clear bb ou CR1
        go_wp2_with (at_builtin; refine wpList_append_own_at _ rfl _ _ 236 rfl w3.heap.size 43 i0 (.slice none 0 0) 1 24 Tryz.underlying236 hi hz0 hz1 hz2 rfl (by decide) (.slice oa on oc) i us rfl O3.out ⟨w4.heap.size, 0, none⟩ 1 1 [.slice ua un uc] rfl rfl (cell_one_new _ _ _) (by simp [Value.oneCell']) (by unfold maxLen; omega) (by omega) z3 ?_; intro v5 w5 hown5 hg5 _ hat5; have hg5' : (w4.alloc (.cells #[.slice ua un uc] 43)).grownBy w5 (Value.slice oa on oc).ownBlock := hg5; have HG5 := Lib.hid hg5'; have HO5 := Lib.hid hown5; have HAT5 := Lib.hid hat5; clear hg5 hg5' hown5 hat5)
        have R8 : Hid (RowsB w5 w3.heap.size v5 (S ++ [rq]) (us ++ [.slice ua un uc])) := R2.out.push HG5.out (by rw [HS.out]; exact HO5.out) HAT5.out UR.out (fun k hk => ⟨fun e => by have h1 := (UB.out k hk).1; have h2 := (R1.out.2.1.lt k e).2; omega, by have h1 := (UB.out k hk).2; simp; omega⟩)
        rw [← HT.out] at R8
        have A8 := Lib.hid (Below.grown (below_up (below_up A1.out BB.out) A3.out) HG5.out z3 (fun k hk => by have := (O3.out.lt k hk).1; omega))
        go_wp2
        go_roundw
        case rel => exact ⟨i + 1, us ++ [.slice ua un uc], by omega, by go_num, R8, A8⟩
        case measure => simp [intOf]; omega
      · obtain rfl : i = nQ := by omega
        obtain ⟨oa, on, oc, hov⟩ := rowFormB R1.out.2.1
        subst hov
        have hRW : ReadsB wr (.slice oa on oc) (resS P Q) := by
          have := R1.out.reads
          rwa [List.take_of_length_le (by rw [HNQ.out]; exact Nat.le_refl _)] at this
        have hon : on = i := by
          obtain ⟨a', c', hv, -⟩ := id hRW
          have h1 : on = (resS P Q).length := by cases hv; rfl
          rw [h1, resS_len, HNQ.out]
        subst hon
        have HRW : Hid (∀ k (h : k < Q.length), ∃ g u, oa = some ⟨g, 0, none⟩ ∧ wr.cell? ⟨g, k, none⟩ = some u ∧ BoolsAt wr u (resL P (Q[k] : Nat)) ∧ g < wr.heap.size) := fun k h => rows_cell hRW h
        have HQ0 : Hid (r = pairsF (pairO P) (Q.drop 0)) := by unfold Hid; rw [HR.out, List.drop_zero]
        have BW := Lib.hid (below_up B3.out A1.out)
        have C0 := Lib.hid (Below.refl wr.heap.size wr)
        clear hRW R1 HR CR
        obtain ⟨wo, hwo⟩ : ∃ wo : World, wo = wr := ⟨_, rfl⟩
        subst hwo
        go_wp2
        go_loopw [38] (fun iv wr => ∃ (i : Nat), i ≤ on ∧ iv = .int .i64 i ∧ Hid (r = pairsF (pairO P) (Q.drop i)) ∧ Hid (Below wo.heap.size wo wr)) (fun iv _ => on - (intOf iv).toNat)
        case atStart => exact ⟨0, Nat.zero_le _, rfl, HQ0, C0⟩
        case round =>
          clear HQ0 C0
          obtain ⟨i, hiQ, rfl, HX, C1⟩ := hrel
          by_cases hlt : i < on
          · have hil : i < Q.length := by rw [HNQ.out]; exact hlt
            have HX1 : Hid (r = ((Q.drop (i + 1)).findSome? (pairO P Q[i])).or (pairsF (pairO P) (Q.drop (i + 1)))) := by unfold Hid; rw [HX.out, pairs_at _ hil]
            obtain ⟨t, ht⟩ : ∃ t, pairsF (pairO P) (Q.drop (i + 1)) = t := ⟨_, rfl⟩
            rw [ht] at HX1
            have HT := Lib.hid ht
            have i0' : (0 : Int) ≤ (i : Int) := by omega
            have i1 : (i : Int) < (on : Int) := by omega
            clear ht HX
            go_wp2
            go_loopw [13] (fun jv ws => ∃ (j : Nat), i + 1 ≤ j ∧ j ≤ on ∧ jv = .int .i64 j ∧ Hid (r = ((Q.drop j).findSome? (pairO P Q[i])).or t) ∧ Hid (Below wo.heap.size wo ws)) (fun jv _ => on - (intOf jv).toNat)
            case atStart => exact ⟨i + 1, Nat.le_refl _, by omega, by go_num, HX1, C1⟩
            case round =>
              clear HX1 C1
              obtain ⟨j, hij, hjQ, rfl, HY, C2⟩ := hrel
              by_cases hjlt : j < on
              · have hjl : j < Q.length := by rw [HNQ.out]; exact hjlt
                obtain ⟨b, o, hsa, hci, hb⟩ := HC.out i hil
                obtain ⟨b', o', hsa', hcj, -⟩ := HC.out j hjl
                obtain ⟨g, ui, hoa, hri, hui, hg⟩ := HRW.out i hil
                obtain ⟨g', uj, hoa', hrj, huj, -⟩ := HRW.out j hjl
                subst hsa hoa
                cases hsa'
                cases hoa'
                have HS : Hid (r = (if (resL P (Q[i] : Nat) == resL P (Q[j] : Nat)) = true then some (((Q[i] : Nat) : Int), ((Q[j] : Nat) : Int)) else none).or (((Q.drop (j + 1)).findSome? (pairO P Q[i])).or t)) := by
                  unfold Hid
                  rw [HY.out, find_at _ hjl, Option.or_assoc]
                  rfl
                have e1 : wr.cell? ⟨g, i, none⟩ = some ui := by rw [C2.out.cell (p := ⟨g, i, none⟩) hg]; exact hri
                have e2 : wr.cell? ⟨g, j, none⟩ = some uj := by rw [C2.out.cell (p := ⟨g, j, none⟩) hg]; exact hrj
                have e3 : Hid (∀ W, Below wr.heap.size wr W → W.cell? ⟨b, o + i, none⟩ = some (.int .i64 (Q[i] : Nat)) ∧ W.cell? ⟨b, o + j, none⟩ = some (.int .i64 (Q[j] : Nat))) := fun W hW => by
                  have hBW := A1.out.trans ((C2.out.trans (hW.mono C2.out.size)).mono A1.out.size)
                  exact ⟨by rw [hBW.cell (p := ⟨b, o + i, none⟩) hb]; exact hci, by rw [hBW.cell (p := ⟨b, o + j, none⟩) hb]; exact hcj⟩
                have hli := HRL.out (Q[i] : Nat)
                have HU1 := Lib.hid (hui.below C2.out)
                have HU2 := Lib.hid (huj.below C2.out)
                have HQI : Hid (Q[i] = Q[i]) := rfl
                have HFI : Hid (∀ k, ((Q.drop k).findSome? (pairO P Q[i])) = ((Q.drop k).findSome? (pairO P Q[i]))) := fun _ => rfl
                obtain ⟨F, hF⟩ : ∃ F : Option (Int × Int), (Q.drop (j + 1)).findSome? (pairO P Q[i]) = F := ⟨_, rfl⟩
                rw [hF] at HS
                have HF := Lib.hid hF
                clear hci hcj hri hrj hui huj hb hg HY HQI HFI hF
                generalize Q[i] = qi at HS e3 HU1 hli HF
                generalize Q[j] = qj at HS e3 HU2
                obtain ⟨au, nu, cu, rfl⟩ := HU1.out.form
                obtain ⟨av, nv, cv, rfl⟩ := HU2.out.form
                have CEQ := Lib.hid (fun n => implEqualB _ _ _ _ (wr.drewN n) (HU1.out.below (below_drewN (Below.refl _ _) n)) (HU2.out.below (below_drewN (Below.refl _ _) n)) hli)
                have j0 : (0 : Int) ≤ (j : Int) := by omega
                have j1 : (j : Int) < (on : Int) := by omega
                clear HU1 HU2 hli
                generalize resL P (qi : Nat) = ri at HS CEQ
                generalize resL P (qj : Nat) = rj at HS CEQ
                generalize (ri == rj) = sb at HS CEQ
                cases sb with
                | false =>
                  have HZ : Hid (r = ((Q.drop (j + 1)).findSome? (pairO P qi)).or t) := by unfold Hid; rw [HF.out]; exact HS.out
                  clear HS HF e3
                  go_wp2
                  go_quiet (first | (go_at_call 188; exact Calls.quiet_of (CEQ.out _)) | fail)
                  go_wp2
                  go_roundw
                  case rel => exact ⟨j + 1, by omega, by omega, by go_num, HZ, below_drewN C2.out _⟩
                  case measure => simp [intOf]; omega
                | true =>
                  have HZ : Hid (r = some ((qi : Int), (qj : Int))) := HS.out
                  clear HS HF
                  go_wp2
                  go_quiet (first | (go_at_call 188; exact Calls.quiet_of (CEQ.out _)) | fail)
                  obtain ⟨Y, hY⟩ : ∃ Y, wr.drewN nq = Y := ⟨_, rfl⟩
                  rw [hY]
                  have HYB : Hid (Below wr.heap.size wr Y) := by unfold Hid; rw [← hY]; exact below_drewN (Below.refl _ _) _
                  obtain ⟨f1, f2⟩ := e3.out Y HYB.out
                  have BY := Lib.hid (below_up (below_up BW.out C2.out) HYB.out)
                  have hys : w.heap.size ≤ Y.heap.size := BY.out.size
                  clear hY e1 e2 e3 CEQ
                  go_wp2
                  go_region
                  all_goals
                    go_wp2
                    go_ret2
                    exact Weaks.yes HZ.out (Own.lit2 Y.drew w.heap.size (qi : Int) (qj : Int) (by simpa using hys)) (below_up BY.out.drew (alloc_below Y.drew _))
              · have HZ : Hid (r = pairsF (pairO P) (Q.drop (i + 1))) := by
                  unfold Hid
                  rw [HY.out, find_end _ (by rw [HNQ.out]; omega), HT.out]
                  rfl
                clear HY HT
                go_wp2
                go_roundw
                case rel => exact ⟨i + 1, by omega, by go_num, HZ, C2⟩
                case measure => simp [intOf]; omega
          · have HE : Hid (r = none) := by unfold Hid; rw [HX.out, pairs_end _ (by rw [HNQ.out]; omega)]
            have BE := Lib.hid (below_up BW.out C1.out)
            go_wp2
            go_ret2
            exact Weaks.no HE.out BE.out
  · have hok2 : okD n P d = false := by simpa using hok
    have HE : Hid (weakO n P d = none) := by unfold Hid weakO; rw [if_neg hok]
    rw [hok2] at CP
    obtain ⟨a, c, rfl, -⟩ := h
    generalize weakO n P d = r at HE ⊢
    clear hok hok2
    go_enter Tryz.func150, Tryz.ntmps150
    go_wp2_with fail
    refine CP.out.mono ?_
    rintro e w1 ⟨rfl, rfl⟩
    go_wp2
    go_ret2
    exact Weaks.no HE.out (Below.refl _ _)
end Go.Proofs.YtlflblngbneacabGreatDoor

/- The pools of single items and of bits, and the decoding of results, plainly. No condition. -/
namespace Go.Proofs.YtlflblngbneacabGreatDoor
open Go.RowKit

def decB (n : Int) (P : List Int) (R : List Bool) : Bool := (poolsB n P && (R.length == P.length)) && (resL P (topI n - goodR n P R) == R)
def decV (n : Int) (P : List Int) (R : List Bool) : Int := if decB n P R = true then topI n - goodR n P R else 0
/-- The pools of the single items. -/
def singK (k : Nat) : List Int := (List.range k).map fun (j : Nat) => (2 : Int) ^ j
theorem singK_len (k : Nat) : (singK k).length = k := by simp [singK]
theorem singK_succ (k : Nat) : singK (k + 1) = singK k ++ [(2 : Int) ^ k] := by simp [singK, List.range_succ]
def singO (n : Int) : List Int := if itemsB n = true then singK n.toNat else []
/-- The items whose number has the bit. -/
def bitF (bit : Int) : Nat → Int
  | 0 => 0
  | k + 1 => if andI (k : Int) bit = 0 then bitF bit k else orI (bitF bit k) (2 ^ k)
theorem bitF_in (bit : Int) : ∀ k, k ≤ 10 → 0 ≤ bitF bit k ∧ bitF bit k ≤ 1023
  | 0, _ => by unfold bitF; omega
  | k + 1, h => by
    have ih := bitF_in bit k (by omega)
    unfold bitF
    split
    · exact ih
    · have hp : ∀ m : Nat, m ≤ 9 → (0 : Int) ≤ 2 ^ m ∧ (2 : Int) ^ m ≤ 512 := by decide
      have := hp k (by omega)
      exact or_in ih.1 ih.2 (by omega) (by omega)
/-- The pools of the bits below so many. -/
def bitsK (n : Int) : Nat → List Int
  | 0 => []
  | j + 1 => bitsK n j ++ [bitF (2 ^ j) n.toNat, topI n - bitF (2 ^ j) n.toNat]
theorem bitsK_len (n : Int) : ∀ j, (bitsK n j).length = 2 * j
  | 0 => rfl
  | j + 1 => by unfold bitsK; rw [List.length_append, bitsK_len n j]; simp; omega
/-- How many bits the numbers of the items have. -/
def bitN (n : Int) : Nat := if n ≤ 1 then 0 else if n ≤ 2 then 1 else if n ≤ 4 then 2 else if n ≤ 8 then 3 else 4
theorem bitN_is (n : Int) : (n ≤ 1 ∧ bitN n = 0) ∨ (1 < n ∧ n ≤ 2 ∧ bitN n = 1) ∨ (2 < n ∧ n ≤ 4 ∧ bitN n = 2) ∨ (4 < n ∧ n ≤ 8 ∧ bitN n = 3) ∨ (8 < n ∧ bitN n = 4) := by
  unfold bitN
  repeat' split
  all_goals omega
theorem two_pows : ∀ j : Nat, j ≤ 4 → (2 : Int) ^ j = if j = 0 then 1 else if j = 1 then 2 else if j = 2 then 4 else if j = 3 then 8 else 16 := by decide
theorem bitN_more {n : Int} {j : Nat} (h : (2 : Int) ^ j < n) (hn : n ≤ 10) : j < bitN n ∧ j ≤ 3 := by
  have h3 : j ≤ 3 := by
    apply Nat.le_of_not_lt
    intro h4
    have : (2 : Int) ^ 4 ≤ 2 ^ j := by exact_mod_cast Nat.pow_le_pow_right (by decide) (show 4 ≤ j by omega)
    have e : (2 : Int) ^ 4 = 16 := by decide
    omega
  have hp := two_pows j (by omega)
  have hb := bitN_is n
  rw [hp] at h
  refine ⟨?_, h3⟩
  generalize bitN n = z at hb ⊢
  repeat' split at h
  all_goals omega
theorem bitN_end {n : Int} {j : Nat} (h : ¬ (2 : Int) ^ j < n) (hj : j ≤ bitN n) : bitN n = j := by
  have hb := bitN_is n
  generalize bitN n = z at hb hj ⊢
  have hp := two_pows j (by omega)
  rw [hp] at h
  repeat' split at h
  all_goals omega
def bitsO (n : Int) : List Int := if itemsB n = true then bitsK n (bitN n) else []
end Go.Proofs.YtlflblngbneacabGreatDoor

/- The contracts of the model's DecodeItems, SinglePools and BitPools. Conditions: the slices read as integers and as truth values. -/
namespace Go.Proofs.YtlflblngbneacabGreatDoor
open Go.RowKit

/-- What a function that makes pools gives back. -/
def Gives (L : List Int) (b : Bool) (w : World) (e : Ending) (w' : World) : Prop :=
  ∃ u, e = .returned (.tuple #[u, .bool b]) ∧ Own w' w.heap.size u L ∧ Below w.heap.size w w'
theorem Gives.no {L : List Int} {b : Bool} {w w' : World} (hl : L = []) (h : b = false) (hb : Below w.heap.size w w') : Gives L b w (.returned (.tuple #[.slice none 0 0, .bool false])) w' := by
  subst h hl
  exact ⟨_, rfl, Own.nil _ _, hb⟩
theorem Gives.yes {L : List Int} {b : Bool} {w w' : World} {u : Value} (h : b = true) (ho : Own w' w.heap.size u L) (hb : Below w.heap.size w w') : Gives L b w (.returned (.tuple #[u, .bool true])) w' := by
  subst h
  exact ⟨_, rfl, ho, hb⟩
theorem pow_in {k : Nat} (h : k ≤ 10) : IntKind.i64.wrap (2 ^ k) = 2 ^ k ∧ (1 : Int) ≤ 2 ^ k ∧ (2 : Int) ^ k ≤ 1024 := by
  have := two_pow_in k h
  refine ⟨?_, this⟩
  rw [IntKind.wrap_i64]
  omega

set_option maxHeartbeats 1600000 in
theorem specSinglePools (n : Int) (w : World) :
    Calls Tryz.prog 45 #[.int .i64 n] w (Gives (singO n) (itemsB n) w) := by
  obtain ⟨i0, hi, hz0, hz1, hz2⟩ := info_parts infoIntA
  have CI : Hid (∀ W, Calls Tryz.prog 94 #[.int .i64 n, .int .i64 1, .int .i64 10] W fun e w' => e = .returned (.bool (itemsB n)) ∧ W = w') := fun W => l01In_is n 1 10 W
  have HL : Hid (singO n = if itemsB n = true then singK n.toNat else []) := rfl
  have HB : Hid (itemsB n = true → 1 ≤ n ∧ n ≤ 10) := fun h => by unfold itemsB at h; simpa using h
  generalize singO n = L at HL ⊢
  generalize hb : itemsB n = b at CI HL HB ⊢
  clear hb
  cases b with
  | false =>
    have HE : Hid (L = []) := HL.out
    go_enter Tryz.func45, Tryz.ntmps45
    go_wp2_with fail
    refine (CI.out _).mono ?_
    rintro e w1 ⟨rfl, rfl⟩
    go_wp2
    go_ret2
    exact Gives.no HE.out rfl (Below.refl _ _)
  | true =>
    obtain ⟨n1, n10⟩ := HB.out rfl
    obtain ⟨m, rfl⟩ : ∃ m : Nat, n = m := ⟨n.toNat, by omega⟩
    have HE : Hid (L = singK m) := by unfold Hid; rw [HL.out, Int.toNat_natCast]; rfl
    have O1 := Lib.hid (Own.lit w w.heap.size (Nat.le_refl _))
    have B1 := Lib.hid (alloc_below w (.cells #[] 3))
    clear HL HB
    go_enter Tryz.func45, Tryz.ntmps45
    go_wp2_with fail
    refine (CI.out _).mono ?_
    rintro e w1 ⟨rfl, rfl⟩
    go_wp2_with fail
    go_loopw [4, 5] (fun ov kv wr => ∃ k : Nat, k ≤ m ∧ kv = .int .i64 k ∧ Hid (Own wr w.heap.size ov (singK k)) ∧ Hid (Below w.heap.size w wr)) (fun _ kv _ => m - (intOf kv).toNat)
    case atStart => exact ⟨0, Nat.zero_le _, rfl, O1, B1⟩
    case round =>
      clear O1 B1
      obtain ⟨k, hk, rfl, O2, B2⟩ := hrel
      by_cases hlt : k < m
      · have HK := Lib.hid (singK_succ k)
        have hlen := singK_len k
        obtain ⟨q1, q2, q3⟩ := pow_in (k := k) (by omega)
        have km : (k : Int) < (m : Int) := by omega
        have hown := O2.out
        have hbs : w.heap.size ≤ wr.heap.size := B2.out.size
        obtain ⟨g, mm, cc, rfl⟩ := O2.out.form
        generalize singK k = S at hown hlen HK
        clear O2
        unfold Own at hown
        go_wp2_with (at_builtin; refine wpList_append_own _ rfl _ _ 26 rfl w.heap.size 3 i0 (.int .i64 0) 1 8 Tryz.underlying26 hi hz0 hz1 hz2 rfl (by decide) _ _ _ rfl (hown.alloc _) ⟨wr.heap.size, 0, none⟩ 1 1 [.int .i64 (2 ^ k)] rfl rfl (cell_one_new _ _ _) (by simp [Value.oneCell']) (by unfold maxLen; omega) (by omega) (by simp; omega) ?_; intro v' w5 hown' hg1 _)
        have hb2 := Below.grown (B2.out.alloc hbs _) hg1 (by simp; omega) (fun j hj => (hown.lt j hj).1)
        go_wp2
        go_roundw
        case rel =>
          refine ⟨k + 1, by omega, by go_num, ?_, Lib.hid hb2⟩
          unfold Hid Own
          rw [HK.out]
          simpa using hown'
        case measure => simp [intOf]; omega
      · obtain rfl : k = m := by omega
        go_wp2
        go_ret2
        exact Gives.yes rfl (by rw [HE.out]; exact O2.out) B2.out

set_option maxRecDepth 100000 in
set_option maxHeartbeats 3200000 in
theorem specBitPools (n : Int) (w : World) :
    Calls Tryz.prog 44 #[.int .i64 n] w (Gives (bitsO n) (itemsB n) w) := by
  obtain ⟨i0, hi, hz0, hz1, hz2⟩ := info_parts infoIntA
  have CI : Hid (∀ W, Calls Tryz.prog 94 #[.int .i64 n, .int .i64 1, .int .i64 10] W fun e w' => e = .returned (.bool (itemsB n)) ∧ W = w') := fun W => l01In_is n 1 10 W
  have HL : Hid (bitsO n = if itemsB n = true then bitsK n (bitN n) else []) := rfl
  have HB : Hid (itemsB n = true → 1 ≤ n ∧ n ≤ 10) := fun h => by unfold itemsB at h; simpa using h
  generalize bitsO n = L at HL ⊢
  generalize hb : itemsB n = b at CI HL HB ⊢
  clear hb
  cases b with
  | false =>
    have HE : Hid (L = []) := HL.out
    go_enter Tryz.func44, Tryz.ntmps44
    go_wp2_with fail
    refine (CI.out _).mono ?_
    rintro e w1 ⟨rfl, rfl⟩
    go_wp2
    go_ret2
    exact Gives.no HE.out rfl (Below.refl _ _)
  | true =>
    obtain ⟨n1, n10⟩ := HB.out rfl
    obtain ⟨hs1, hs2, hs3, hs4⟩ := shl_top n1 n10
    rw [hs2] at hs1
    have hT : IntKind.i64.wrap (topI n) = topI n := by rw [IntKind.wrap_i64]; omega
    have HE : Hid (L = bitsK n (bitN n)) := HL.out
    have HS : Hid (∀ j, bitsK n (j + 1) = bitsK n j ++ [bitF (2 ^ j) n.toNat, topI n - bitF (2 ^ j) n.toNat]) := fun _ => rfl
    have HM : Hid (∀ j : Nat, (2 : Int) ^ j < n → j < bitN n ∧ j ≤ 3) := fun j h => bitN_more h n10
    have HN : Hid (∀ j : Nat, ¬ (2 : Int) ^ j < n → j ≤ bitN n → bitN n = j) := fun j h hj => bitN_end h hj
    have HLN : Hid (∀ j, (bitsK n j).length = 2 * j) := bitsK_len n
    have O1 : Hid (Own (w.alloc (.cells #[] 3)) w.heap.size (.slice (some ⟨w.heap.size, 0, none⟩) 0 0) (bitsK n 0)) := Own.lit w w.heap.size (Nat.le_refl _)
    have B1 := Lib.hid (alloc_below w (.cells #[] 3))
    have H4 : bitN n ≤ 4 := by have := bitN_is n; omega
    generalize bitN n = z at HE HM HN H4
    generalize topI n = T at hs1 hs2 hs3 hs4 hT HS
    generalize bitsK n = K at HE HS HLN O1
    obtain ⟨m, rfl⟩ : ∃ m : Nat, n = m := ⟨n.toNat, by omega⟩
    rw [Int.toNat_natCast] at hs2
    have HS2 : Hid (∀ j, K (j + 1) = K j ++ [bitF (2 ^ j) m, T - bitF (2 ^ j) m]) := fun j => by have := HS.out j; rwa [Int.toNat_natCast] at this
    clear HL HB HS
    go_enter Tryz.func44, Tryz.ntmps44
    go_wp2_with fail
    refine (CI.out _).mono ?_
    rintro e w1 ⟨rfl, rfl⟩
    go_wp2_with fail
    go_loopw [4, 5] (fun ov bv wr => ∃ (j : Nat) (q : Int), j ≤ z ∧ bv = .int .i64 q ∧ Hid (q = 2 ^ j) ∧ Hid (Own wr w.heap.size ov (K j)) ∧ Hid (Below w.heap.size w wr)) (fun _ bv _ => 32 - (intOf bv).toNat)
    case atStart => exact ⟨0, 1, Nat.zero_le _, rfl, rfl, O1, B1⟩
    case round =>
      clear O1 B1
      obtain ⟨j, q, hj, rfl, HQ, O2, B2⟩ := hrel
      by_cases hlt : q < (m : Int)
      · obtain ⟨hjz, hj3⟩ := HM.out j (by rw [← HQ.out]; exact hlt)
        obtain ⟨-, p2, p3⟩ := pow_in (k := j) (by omega)
        have HBI : Hid (∀ k, k ≤ 10 → 0 ≤ bitF (2 ^ j) k ∧ bitF (2 ^ j) k ≤ 1023) := bitF_in (2 ^ j)
        have HBS : Hid (∀ k : Nat, bitF (2 ^ j) (k + 1) = if bits .and .i64 (k : Int) (2 ^ j) = 0 then bitF (2 ^ j) k else bits .or .i64 (bitF (2 ^ j) k) (2 ^ k)) := fun _ => rfl
        have HB0 : Hid (bitF (2 ^ j) 0 = 0) := rfl
        have HK := Lib.hid (HS2.out j)
        have hlen := HLN.out j
        have hp2 : (2 : Int) ^ (j + 1) = 2 * 2 ^ j := by rw [Int.pow_succ]; omega
        generalize bitF (2 ^ j) = F at HBI HBS HB0 HK
        rw [← HQ.out] at p2 p3 HBS
        have HP : Hid (2 * q = 2 ^ (j + 1)) := by unfold Hid; rw [hp2, HQ.out]
        clear hp2 HQ
        go_wp2
        go_loopw [6, 7] (fun pv kv ws => ∃ k : Nat, k ≤ m ∧ kv = .int .i64 k ∧ pv = .int .i64 (F k) ∧ ws = wr) (fun _ kv _ => m - (intOf kv).toNat)
        case atStart => exact ⟨0, Nat.zero_le _, rfl, by rw [HB0.out], rfl⟩
        case round =>
          obtain ⟨k, hk, rfl, rfl, rfl⟩ := hrel
          obtain ⟨f0, f1⟩ := HBI.out k (by omega)
          by_cases hkm : k < m
          · have HF := Lib.hid (HBS.out k)
            obtain ⟨q1, q2, q3⟩ := pow_in (k := k) (by omega)
            have km : (k : Int) < (m : Int) := by omega
            generalize F k = f at HF f0 f1 ⊢
            by_cases hx : bits .and .i64 (k : Int) q = 0
            · rw [if_pos hx] at HF
              go_wp2
              go_roundw
              case rel => exact ⟨k + 1, by omega, by go_num, by rw [HF.out], by first | rfl | trivial⟩
              case measure => simp [intOf]; omega
            · rw [if_neg hx] at HF
              go_wp2
              go_roundw
              case rel => exact ⟨k + 1, by omega, by go_num, by rw [HF.out], by first | rfl | trivial⟩
              case measure => simp [intOf]; omega
          · obtain rfl : k = m := by omega
            generalize F k = f at HK f0 f1 ⊢
            have hown := O2.out
            have hbs : w.heap.size ≤ wr.heap.size := B2.out.size
            obtain ⟨g, mm, cc, rfl⟩ := O2.out.form
            generalize K j = S at hown hlen HK
            clear O2
            unfold Own at hown
            go_wp2_with (at_builtin; refine wpList_append_own _ rfl _ _ 26 rfl w.heap.size 3 i0 (.int .i64 0) 1 8 Tryz.underlying26 hi hz0 hz1 hz2 rfl (by decide) _ _ _ rfl (hown.alloc _) ⟨wr.heap.size, 0, none⟩ 2 2 [.int .i64 f, .int .i64 (T - f)] rfl rfl (cell_two_new _ _ _ _) (by simp [Value.oneCell']) (by unfold maxLen; omega) (by omega) (by simp; omega) ?_; intro v' w5 hown' hg1 _)
            have hb2 := Below.grown (B2.out.alloc hbs _) hg1 (by simp; omega) (fun j hj => (hown.lt j hj).1)
            go_wp2
            go_roundw
            case rel =>
              refine ⟨j + 1, 2 * q, by omega, by first | rfl | trivial, HP, ?_, Lib.hid hb2⟩
              unfold Hid Own
              rw [HK.out]
              simpa using hown'
            case measure => simp [intOf]; omega
      · obtain rfl : z = j := HN.out j (by rw [← HQ.out]; omega) hj
        go_wp2
        go_ret2
        exact Gives.yes rfl (by rw [HE.out]; exact O2.out) B2.out
end Go.Proofs.YtlflblngbneacabGreatDoor

/- The walks of the exact laws of DecodeItems, SinglePools and BitPools round the contracts of the program's functions: each returns true for every argument. Condition: the slices that came in read as integers and as truth values. -/
namespace Go.Proofs.YtlflblngbneacabGreatDoor
open Go.RowKit

theorem singO_len (n : Int) : (singO n).length ≤ 20 := by
  unfold singO
  split
  · rename_i h
    unfold itemsB at h
    rw [Bool.and_eq_true, decide_eq_true_eq, decide_eq_true_eq] at h
    rw [singK_len]
    omega
  · simp
theorem bitsO_len (n : Int) : (bitsO n).length ≤ 20 := by
  unfold bitsO
  split
  · rw [bitsK_len]
    have := bitN_is n
    omega
  · simp
/-- The contracts of the program's functions. -/
def DecodeItemsIs (f : FuncId) (n : Int) (P : List Int) (R : List Bool) : Prop := ∀ W vP vR, IntsAt W vP P → BoolsAt W vR R → Calls Tryz.prog f #[.int .i64 n, vP, vR] W fun e w' => e = .returned (.tuple #[.int .i64 (decV n P R), .bool (decB n P R)]) ∧ Below W.heap.size W w'
def SinglePoolsIs (f : FuncId) (n : Int) : Prop := ∀ W, Calls Tryz.prog f #[.int .i64 n] W (Gives (singO n) (itemsB n) W)
def BitPoolsIs (f : FuncId) (n : Int) : Prop := ∀ W, Calls Tryz.prog f #[.int .i64 n] W (Gives (bitsO n) (itemsB n) W)

end Go.Proofs.YtlflblngbneacabGreatDoor

/- The set of all items and what is left of it, plainly. No condition. -/
namespace Go.Proofs.YtlflblngbneacabGreatDoor
open Go.RowKit

theorem top_nat {n : Int} (n1 : 1 ≤ n) (n10 : n ≤ 10) : ∃ k : Nat, k ≤ 10 ∧ topI n = ((2 ^ k - 1 : Nat) : Int) ∧ 2 ^ k ≤ 1024 ∧ n.toNat = k := by
  refine ⟨n.toNat, by omega, ?_, ?_, rfl⟩
  · have h1 := Nat.two_pow_pos n.toNat
    have hc : (2 : Int) ^ n.toNat = ((2 ^ n.toNat : Nat) : Int) := by push_cast; rfl
    unfold topI
    omega
  · exact Nat.pow_le_pow_right (n := 2) (by decide) (show n.toNat ≤ 10 by omega)
theorem or_top {n x y : Int} (n1 : 1 ≤ n) (n10 : n ≤ 10) (h0 : 0 ≤ x) (h1 : x ≤ topI n) (g0 : 0 ≤ y) (g1 : y ≤ topI n) : 0 ≤ orI x y ∧ orI x y ≤ topI n := by
  obtain ⟨k, hk, ht, h2, -⟩ := top_nat n1 n10
  rw [ht] at h1 g1 ⊢
  have hp := Nat.two_pow_pos k
  obtain ⟨a, rfl⟩ := Int.eq_ofNat_of_zero_le h0
  obtain ⟨b, rfl⟩ := Int.eq_ofNat_of_zero_le g0
  rw [or_nat (by omega) (by omega)]
  have : a ||| b < 2 ^ k := Nat.or_lt_two_pow (by omega) (by omega)
  omega
theorem top_left {n x : Int} (n1 : 1 ≤ n) (n10 : n ≤ 10) (h0 : 0 ≤ x) (h1 : x ≤ topI n) : bits .andNot .i64 (topI n) x = topI n - x := by
  obtain ⟨k, hk, ht, h2, -⟩ := top_nat n1 n10
  have ti := top_in n10
  rw [left_in ti.1 ti.2 h0 (by omega)]
  rw [ht] at h1 ⊢
  have hp := Nat.two_pow_pos k
  obtain ⟨a, rfl⟩ := Int.eq_ofNat_of_zero_le h0
  have he : bits .and .i64 ((2 ^ k - 1 : Nat) : Int) (a : Int) = (((2 ^ k - 1) &&& a : Nat) : Int) := and_nat (by omega) (by omega)
  rw [he, Nat.and_comm, Nat.and_two_pow_sub_one_eq_mod, Nat.mod_eq_of_lt (by omega)]
theorem goodF_top {n : Int} (n1 : 1 ≤ n) (n10 : n ≤ 10) {P : List Int} (R : List Bool) (h : ∀ p ∈ P, 0 ≤ p ∧ p ≤ topI n) : ∀ k, 0 ≤ goodF P R k ∧ goodF P R k ≤ topI n
  | 0 => by have := top_in n10; unfold goodF; omega
  | k + 1 => by
    have ih := goodF_top n1 n10 R h k
    unfold goodF
    split
    · exact ih
    · have hp : 0 ≤ P.getD k 0 ∧ P.getD k 0 ≤ topI n := by
        rw [List.getD_eq_getElem?_getD]
        by_cases hk : k < P.length
        · rw [List.getElem?_eq_getElem hk]; exact h _ (List.getElem_mem hk)
        · rw [List.getElem?_eq_none (by omega)]; have := top_in n10; simpa using this.1
      exact or_top n1 n10 ih.1 ih.2 hp.1 hp.2
theorem pools_top {n : Int} {P : List Int} (h : poolsB n P = true) : ∀ p ∈ P, 0 ≤ p ∧ p ≤ topI n := by
  unfold poolsB at h
  simp only [Bool.and_eq_true] at h
  intro p hp
  have hq := List.all_eq_true.1 h.2 p hp
  unfold poolB at hq
  simpa only [Bool.and_eq_true, decide_eq_true_eq] using hq
theorem goodR_top {n : Int} {P : List Int} (R : List Bool) (h : poolsB n P = true) : 0 ≤ goodR n P R ∧ goodR n P R ≤ topI n := by
  obtain ⟨⟨n1, n10⟩, -, -⟩ := pools_in h
  unfold goodR
  split
  · exact goodF_top n1 n10 R (pools_top h) _
  · have := top_in n10; omega
theorem pow_top {n : Int} {k : Nat} (h : k < n.toNat) : (0 : Int) ≤ 2 ^ k ∧ (2 : Int) ^ k ≤ topI n := by
  have h1 : 2 ^ (k + 1) ≤ 2 ^ n.toNat := Nat.pow_le_pow_right (by decide) h
  have hc : (2 : Int) ^ n.toNat = ((2 ^ n.toNat : Nat) : Int) := by push_cast; rfl
  have hd : (2 : Int) ^ k = ((2 ^ k : Nat) : Int) := by push_cast; rfl
  have hp := Nat.two_pow_pos k
  rw [Nat.pow_succ] at h1
  unfold topI
  omega
theorem bitF_top {n : Int} (n1 : 1 ≤ n) (n10 : n ≤ 10) (bit : Int) : ∀ k, k ≤ n.toNat → 0 ≤ bitF bit k ∧ bitF bit k ≤ topI n
  | 0, _ => by have := top_in n10; unfold bitF; omega
  | k + 1, h => by
    have ih := bitF_top n1 n10 bit k (by omega)
    unfold bitF
    split
    · exact ih
    · have hp := pow_top (n := n) (k := k) (by omega)
      exact or_top n1 n10 ih.1 ih.2 hp.1 hp.2
theorem pools_nil (n : Int) : poolsB n [] = itemsB n := by simp [poolsB]
end Go.Proofs.YtlflblngbneacabGreatDoor

/- The contracts of the program's allItems, maybeBad, itemsOk, itemsWithBit, BitPools and DecodeItems. Conditions: the slices read as integers and as truth values, and are short enough to be counted. -/
namespace Go.Proofs.YtlflblngbneacabGreatDoor
open Go.RowKit

set_option maxHeartbeats 1000000 in
theorem implHas (s : Int) (i : Nat) (hi : i ≤ 10) (w : World) : Calls Tryz.prog 113 #[.int .i64 s, .int .i64 i] w fun e w' => e = .returned (.bool (bits .and .i64 s (2 ^ i) != 0)) ∧ w = w' := by
  obtain ⟨q1, q2, q3⟩ := pow_in hi
  have hi0 : (0 : Int) ≤ i := by omega
  have hi1 : (i : Int) ≤ 64 := by omega
  go_enter Tryz.func113, Tryz.ntmps113
  go_wp2
  go_ret
  exact ⟨rfl, rfl⟩

end Go.Proofs.YtlflblngbneacabGreatDoor

/- The contract of the program's IsSeparable; the walks of the exact laws of Weakness, IsSeparable, BitPools and DecodeItems: each returns true for every argument. No condition. -/
namespace Go.Proofs.YtlflblngbneacabGreatDoor
open Go.RowKit

set_option maxHeartbeats 1600000 in
theorem implSep (n : Int) (v : Value) (P : List Int) (d : Int) (w : World) (h : IntsAt w v P) (hm : P.length ≤ 1048576) :
    Calls Tryz.prog 121 #[.int .i64 n, v, .int .i64 d] w fun e w' => e = .returned (.bool (sepR n P d)) ∧ Below w.heap.size w w' := by
  have CW := Lib.hid (implWeak n v P d w h hm)
  have CO := Lib.hid (fun W (hb : Below w.heap.size w W) => implBadOk n v P d W (h.below hb) hm)
  have HB : Hid (sepR n P d = (okD n P d && !(weakO n P d).isSome)) := rfl
  have HN : Hid (okD n P d = false → (weakO n P d).isSome = false) := fun h => by unfold weakO; rw [h]; rfl
  obtain ⟨a, c, rfl, -⟩ := h
  unfold Weaks at CW
  generalize sepR n P d = r at HB ⊢
  generalize okD n P d = ok at CO HB HN
  generalize weakO n P d = o at CW HB HN
  cases hs : o.isSome with
  | false =>
    rw [hs] at CW HB
    have HE : Hid (r = ok) := by unfold Hid; rw [HB.out]; simp
    clear HN hs
    cases ok <;>
    · go_enter Tryz.func121, Tryz.ntmps121
      go_wp2_with fail
      refine CW.out.mono ?_
      rintro e w1 ⟨u, rfl, ou, bb⟩
      obtain ⟨gu, nu, cu, rfl⟩ := ou.form
      have B1 := Lib.hid bb
      have CO1 := Lib.hid (CO.out w1 bb)
      clear ou bb
      go_wp2_with fail
      refine CO1.out.mono ?_
      rintro e w2 ⟨rfl, rfl⟩
      go_wp2
      go_ret
      exact ⟨ret_bool HE.out.symm, B1.out⟩
  | true =>
    cases ok with
    | false => rw [HN.out rfl] at hs; cases hs
    | true =>
      rw [hs] at CW HB
      have HE : Hid (r = false) := HB.out
      clear HN hs
      go_enter Tryz.func121, Tryz.ntmps121
      go_wp2_with fail
      refine CW.out.mono ?_
      rintro e w1 ⟨u, rfl, ou, bb⟩
      obtain ⟨gu, nu, cu, rfl⟩ := ou.form
      have B1 := Lib.hid bb
      have CO1 := Lib.hid (CO.out w1 bb)
      clear ou bb
      go_wp2_with fail
      refine CO1.out.mono ?_
      rintro e w2 ⟨rfl, rfl⟩
      go_wp2
      go_ret
      exact ⟨ret_bool HE.out.symm, B1.out⟩

end Go.Proofs.YtlflblngbneacabGreatDoor
