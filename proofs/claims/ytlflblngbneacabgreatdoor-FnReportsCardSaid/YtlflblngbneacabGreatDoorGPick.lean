/- Several texts in one file; each says what it proves and under which condition. No condition. -/
import Derived.Test.YtlflblngbneacabGreatDoorGStates
import Derived.Test.YtlflblngbneacabGreatDoorGBase
import Derived.RangeFuncNested
import Derived.RangeFuncBound
import Derived.RangeFuncCalls
import Derived.RangeFuncLeaves
import Derived.Shelf.Abstract
import Derived.Shelf.RegionOpen
import Derived.WalkKit
import Derived.OwnWalkIn
import Derived.TacticsInMore
import Derived.LoopNIn
import Derived.LoopIn
import Derived.Deep.DeepCutAuto
import Derived.Test.YtlflblngbneacabGreatDoorGClass
import Derived.Deep.RegionHeld3
import Derived.Deep.RegionWith
/- The pairs of numbers that shares yields, plainly. No condition. -/
namespace Go.Proofs.YtlflblngbneacabGreatDoor

theorem range_prefix {k n : Nat} (h : k ≤ n) : List.range k <+: List.range n := by
  have e : (List.range n).take k = List.range k := by rw [List.take_range, Nat.min_eq_left h]
  rw [← e]; exact List.take_prefix _ _
theorem map_prefix {α β : Type} {l m : List α} (f : α → β) (h : l <+: m) : l.map f <+: m.map f := by
  obtain ⟨t, rfl⟩ := h; exact ⟨t.map f, by simp⟩
theorem flatMap_prefix {α β : Type} {l m : List α} (f : α → List β) (h : l <+: m) : l.flatMap f <+: m.flatMap f := by
  obtain ⟨t, rfl⟩ := h; exact ⟨t.flatMap f, by simp⟩

/-- The pairs with left number a, up to the j-th; all pairs whose left number is less than i; all pairs. -/
def rowL (a j : Nat) : List (Nat × Nat) := (List.range j).map fun b => (a, b)
def rowsL (c i : Nat) : List (Nat × Nat) := (List.range i).flatMap fun a => rowL a (c - a + 1)
def pairsL (c : Nat) : List (Nat × Nat) := rowsL c (c + 1)
theorem rowL_succ (a j : Nat) : rowL a (j + 1) = rowL a j ++ [(a, j)] := by simp [rowL, List.range_succ]
theorem rowsL_succ (c i : Nat) : rowsL c (i + 1) = rowsL c i ++ rowL i (c - i + 1) := by simp [rowsL, List.range_succ]
theorem rows_prefix {c i j : Nat} (hi : i ≤ c) (hj : j ≤ c - i + 1) : rowsL c i ++ rowL i j <+: pairsL c := by
  have h1 : rowsL c (i + 1) <+: pairsL c := flatMap_prefix _ (range_prefix (by omega))
  refine List.IsPrefix.trans ?_ h1
  rw [rowsL_succ, List.prefix_append_right_inj]
  exact map_prefix _ (range_prefix hj)
theorem pairs_lt {c i j : Nat} (hi : i ≤ c) (hj : j < c - i + 1) : (rowsL c i ++ rowL i j).length < (pairsL c).length := by
  have h := (rows_prefix hi (show j + 1 ≤ c - i + 1 by omega)).length_le
  rw [rowL_succ] at h
  simp only [List.length_append, List.length_cons, List.length_nil] at h ⊢
  omega
theorem mem_pairs {c : Nat} {x : Nat × Nat} : x ∈ pairsL c ↔ x.1 + x.2 ≤ c := by
  obtain ⟨a, b⟩ := x
  simp only [pairsL, rowsL, rowL, List.mem_flatMap, List.mem_range, List.mem_map, Prod.mk.injEq]
  constructor
  · rintro ⟨i, hi, j, hj, rfl, rfl⟩; omega
  · intro h; exact ⟨a, by omega, b, by omega, rfl, rfl⟩
/-- A number of coins, for whatever number. -/
def cl (n : Nat) : Int := ((min n 13 : Nat) : Int)
theorem cl_of {n : Nat} (h : n ≤ 13) : cl n = (n : Int) := by unfold cl; rw [Nat.min_eq_left h]
theorem cl_in (n : Nat) : 0 ≤ cl n ∧ cl n ≤ 13 := by unfold cl; omega
end Go.Proofs.YtlflblngbneacabGreatDoor

/- The contract of the program's shares, and of the iterator that it returns. Condition: a number of coins. -/
namespace Go.Proofs.YtlflblngbneacabGreatDoor
open Go.RowKit Go.Shelf
attribute [local go_sem] Oper.semAt_some

set_option maxHeartbeats 1000000 in
theorem shares_in (F : Fence) (n : Nat) (hf : F.fn 223) (hro : F.round = none) (c : Int) (w : World) :
    CallsIn F n Tryz.prog 223 #[.int .i64 c] w fun e w' => e = .returned (.func (.func 235) #[] #[.pointer (some ⟨w.heap.size, 0, none⟩)]) ∧ w' = w.alloc (.cells #[.int .i64 c] 3) := by
  refine callsIn_of_wp Tryz.func223 rfl hf ?_ hro
  simp only [Tryz.ntmps223, List.size_toArray, List.length_cons, List.length_nil, Nat.reduceAdd, Nat.reduceSub, Array.replicate_succ, Array.replicate_zero, List.push_toArray, List.append_toArray, List.nil_append, List.cons_append]
  gi_wp2
  go_ret
  exact ⟨rfl, rfl⟩

/-- What a round keeps of the iterator: the block of its number of coins. -/
def SameAt (b : Nat) (W W' : World) : Prop := W'.heap[b]? = W.heap[b]?
theorem SameAt.refl (b : Nat) (W : World) : SameAt b W W := rfl

set_option maxRecDepth 100000 in
set_option maxHeartbeats 2000000 in
theorem shares1_in (F : Fence) (n : Nat) (hf : F.fn 235) (hro : F.round = none) (hn : 1 ≤ n) (l b c : Nat) (hc : c ≤ 13) (J Jx : List (Nat × Nat) → World → Prop)
    (hY : ∀ pre x W, J pre W → pre.length < (pairsL c).length → YieldAt F (n - 1) Tryz.prog l #[.int .i64 (cl x.1), .int .i64 (cl x.2)] W fun e W' =>
      (e = .returned (.bool true) ∧ J (pre ++ [x]) W' ∧ SameAt b W W') ∨ (e = .returned (.bool false) ∧ Jx (pre ++ [x]) W'))
    (W : World) (hb : Boxed W b 3 (.int .i64 c)) (h0 : J [] W) :
    CallsIn F n Tryz.prog 235 #[.func (.yield l) #[] #[], .pointer (some ⟨b, 0, none⟩)] W fun e W' => (∃ v, e = .returned v) ∧
      ((∃ ys, ys = pairsL c ∧ J ys W') ∨ (∃ pre, pre <+: pairsL c ∧ Jx pre W')) := by
  have hc0 := hb.cell
  have hw1 : IntKind.i64.wrap ((c : Int) + 1) = c + 1 := by rw [IntKind.wrap_i64]; omega
  refine callsIn_of_wp Tryz.func235 rfl hf ?_ hro
  simp only [Tryz.ntmps235, List.size_toArray, List.length_cons, List.length_nil, Nat.reduceAdd, Nat.reduceSub, Array.replicate_succ, Array.replicate_zero, List.push_toArray, List.append_toArray, List.nil_append, List.cons_append]
  gi_wp2
  gi_loopw [7] (fun v wr => ∃ i : Nat, v = .int .i64 i ∧ i ≤ c + 1 ∧ Boxed wr b 3 (.int .i64 c) ∧ J (rowsL c i) wr) (fun v _ => c + 1 - (intOf v).toNat)
  case atStart => exact ⟨0, rfl, by omega, hb, h0⟩
  case round =>
    obtain ⟨i, rfl, hi, hbi, hJ⟩ := hrel
    have hci := hbi.cell
    by_cases hlt : i < c + 1
    · have i1 : (i : Int) < (c : Int) + 1 := by omega
      have v1 : IntKind.i64.wrap ((c : Int) - i) = ((c - i : Nat) : Int) := by rw [IntKind.wrap_i64]; omega
      have v2 : IntKind.i64.wrap (((c - i : Nat) : Int) + 1) = ((c - i : Nat) : Int) + 1 := by rw [IntKind.wrap_i64]; omega
      gi_wp2
      gi_loopw [14] (fun v ws => ∃ j : Nat, v = .int .i64 j ∧ j ≤ c - i + 1 ∧ Boxed ws b 3 (.int .i64 c) ∧ J (rowsL c i ++ rowL i j) ws) (fun v _ => c - i + 1 - (intOf v).toNat)
      case atStart => exact ⟨0, rfl, by omega, hbi, by simpa [rowL] using hJ⟩
      case round =>
        obtain ⟨j, rfl, hj, hbj, hJj⟩ := hrel
        by_cases hlt2 : j < c - i + 1
        · have j1 : (j : Int) < ((c - i : Nat) : Int) + 1 := by omega
          obtain ⟨fn, tmps, assign, body, hy, hR⟩ := hY _ (i, j) _ hJj (pairs_lt (by omega) hlt2)
          simp only [cl_of (show i ≤ 13 by omega), cl_of (show j ≤ 13 by omega)] at hy
          gi_wp2
          refine hR.mono ?_
          rintro e W3 (⟨rfl, hJ3, hk3⟩ | ⟨rfl, hJx3⟩)
          · gi_wp2
            go_roundw
            case rel => exact ⟨j + 1, by go_num, by omega, hk3.trans hbj, by rw [rowL_succ, ← List.append_assoc]; exact hJ3⟩
            case measure => simp [intOf]; omega
          · gi_wp2
            refine bodyPost_ret (results_none rfl _ _ _) rfl ?_
            exact ⟨⟨_, rfl⟩, .inr ⟨_, by rw [List.append_assoc, ← rowL_succ]; exact rows_prefix (by omega) (by omega), hJx3⟩⟩
        · obtain rfl : j = c - i + 1 := by omega
          gi_wp2
          go_roundw
          case rel => exact ⟨i + 1, by go_num, by omega, hbj, by rw [rowsL_succ]; exact hJj⟩
          case measure => simp [intOf]; omega
    · obtain rfl : i = c + 1 := by omega
      gi_wp2
      go_end0
      exact ⟨⟨_, rfl⟩, .inl ⟨_, rfl, hJ⟩⟩

/-- The value that shares returns yields all pairs in their order, or a part of them where a round has said 'no more'. -/
theorem shares_stops (F : Fence) (n : Nat) (hf : F.fn 235) (hro : F.round = none) (hn : 1 ≤ n) (b c : Nat) (hc : c ≤ 13) (w : World) (hb : Boxed w b 3 (.int .i64 c)) :
    SeqStopsK F n Tryz.prog 235 #[.pointer (some ⟨b, 0, none⟩)] (fun x : Nat × Nat => #[Value.int .i64 (cl x.1), .int .i64 (cl x.2)]) (SameAt b) (fun ys => ys = pairsL c) (fun pre => pre <+: pairsL c) (pairsL c).length w := fun l J Jx W hW _ _ hY h0 =>
  shares1_in F n hf hro hn l b c hc J Jx hY W ((hW.block b hb.lt).trans hb) h0
end Go.Proofs.YtlflblngbneacabGreatDoor

/- A loop over what the program's shares returns, as an outermost loop and within a round of another: the caller's word on what it keeps. Condition: a number of coins. -/
namespace Go.Proofs.YtlflblngbneacabGreatDoor
open Go.RowKit Go.Shelf

/-- Whatever lies from block B on, and block bs, lies as it lay. -/
structure KeepUp (B bs : Nat) (V V' : World) : Prop where
  size : V.heap.size ≤ V'.heap.size
  up : ∀ k, B ≤ k → k < V.heap.size → V'.heap[k]? = V.heap[k]?
  at_ : V'.heap[bs]? = V.heap[bs]?

theorem KeepUp.refl (B bs : Nat) (V : World) : KeepUp B bs V V := ⟨Nat.le_refl _, fun _ _ _ => rfl, rfl⟩
theorem KeepUp.trans {B bs : Nat} {X Y Z : World} (h : KeepUp B bs X Y) (k : KeepUp B bs Y Z) : KeepUp B bs X Z :=
  ⟨Nat.le_trans h.size k.size, fun i hB hi => (k.up i hB (Nat.lt_of_lt_of_le hi h.size)).trans (h.up i hB hi), k.at_.trans h.at_⟩
theorem KeepUp.of_below {B bs : Nat} {V V' : World} (h : Below V.heap.size V V') (hb : bs < V.heap.size) : KeepUp B bs V V' := ⟨h.size, fun k _ hk => h.block k hk, h.block bs hb⟩
theorem KeepUp.alloc {B bs : Nat} {V : World} (o : Obj) (hb : bs < V.heap.size) : KeepUp B bs V (V.alloc o) := .of_below ((Below.refl _ V).alloc (Nat.le_refl _) o) hb
theorem KeepUp.box {B bs : Nat} {V V' : World} (h : KeepUp B bs V V') {b : Nat} {t : TypeId} {v : Value} (hb : Boxed V b t v) (hB : B ≤ b) : Boxed V' b t v := (h.up b hB hb.lt).trans hb
theorem KeepUp.from {B bs B' : Nat} {V V' : World} (h : KeepUp B bs V V') (hB : B ≤ B') : KeepsFrom B' V V' :=
  ⟨h.size, fun k o hk ho _ => (h.up k (by omega) (Array.getElem?_eq_some_iff.1 ho).1).trans ho⟩
theorem KeepUp.same {B bs b : Nat} {V V' : World} (h : KeepUp B bs V V') (hB : B ≤ b) (hb : b < V.heap.size) : SameAt b V V' := h.up b hB hb
theorem ownFrom_keepUp {β : Type} {B bs B' : Nat} {V0 : World} (h1 : V0.heap.size ≤ B') (h2 : bs < V0.heap.size) : OwnFrom B' (fun (_ : β) W => KeepUp B bs V0 W) :=
  fun _ X Y row hs hg hr => ⟨Nat.le_trans hs.size hg.size, fun k hB hk => (hg.block k (Nat.lt_of_lt_of_le hk hs.size) (fun e => by have := (hr k e.symm).1; omega)).trans (hs.up k hB hk),
    (hg.block bs (Nat.lt_of_lt_of_le h2 hs.size) (fun e => by have := (hr bs e.symm).1; omega)).trans hs.at_⟩
theorem ownFrom_up {β : Type} {B B' : Nat} {I : β → World → Prop} (h : OwnFrom B I) (hB : B ≤ B') : OwnFrom B' I := fun s X Y row hs hg hr => h s X Y row hs hg fun r e => ⟨Nat.le_trans hB (hr r e).1, (hr r e).2⟩

/-- How a round's body may be left: on with the loop, or by a return. -/
def levelPost (B bs : Nat) (J Jx : List (Nat × Nat) → World → Prop) (xs : List (Nat × Nat)) (W : World) : Exit → Act → World → Prop
  | .normal, _, W' => KeepUp B bs W W' ∧ J xs W'
  | .ret, _, W' => KeepUp B bs W W' ∧ Jx xs W'
  | _, _, _ => False

section
variable {g : Operand} {ps : Array Tmp} {assign body : Code} {Q : Exit → Act → World → Prop} {a : Act} {w : World} {n c b B bs : Nat}

/-- The loop within a round of loop l₀. -/
theorem sharesLoopN {l₀ : Nat} {r₀ : Loop} (hn : 3 ≤ n) (hl₀ : w.heap[l₀]? = some (.loop r₀)) (hc : c ≤ 13) (hb : Boxed w b 3 (.int .i64 c)) (hBb : B ≤ b) (hg : a.eval g = .func (.func 235) #[] #[.pointer (some ⟨b, 0, none⟩)]) (hps : ps.size = 2)
    (hbs : bs < B) (J Jx : List (Nat × Nat) → World → Prop) (hJ : OwnFrom B J) (hJx : OwnFrom B Jx) (h0 : J [] w)
    (Ax : Nat × Nat → Act → World → Prop) (hAx : ∀ x a', OwnFrom w.heap.size (fun (_ : Unit) W => Ax x a' W))
    (hassign : ∀ (l : Nat) (pre : List (Nat × Nat)) (x : Nat × Nat) (W : World) (K : Act → World → Prop), KeepUp B bs w W → J pre W → (∀ a' W', KeepUp B bs W W' → J pre W' → Ax x a' W' → K a' W') →
      assign.wpIn ((Fence.wide.inRound l₀).inRound l) (n - 1 - 1) Tryz.prog (Exit.then K (fun _ _ _ => False)) { tmps := (ps.zip #[Value.int .i64 (cl x.1), .int .i64 (cl x.2)]).foldl (fun t (p, v) => t.setIfInBounds p v) a.tmps, defers := [] } W)
    (hbody : ∀ (l : Nat) (pre : List (Nat × Nat)) (x : Nat × Nat) (a' : Act) (W : World), (∃ r, W.heap[l]? = some (.loop r)) → KeepUp B bs w W → J pre W → Ax x a' W → body.wpIn ((Fence.wide.inRound l₀).inRound l) (n - 1 - 1) Tryz.prog (levelPost B bs J Jx (pre ++ [x]) W) a' W)
    (hdone : ∀ W, KeepUp B bs w W → J (pairsL c) W → Q .normal a W)
    (hstop : ∀ pre W, pre <+: pairsL c → KeepUp B bs w W → Jx pre W → Code.ret.wpIn (Fence.wide.inRound l₀) n Tryz.prog Q a W) :
    (Code.rangeFunc g ps assign body).wpIn (Fence.wide.inRound l₀) n Tryz.prog Q a w := by
  have hbw := hb.lt
  refine wpIn_rangeFunc_ownN (l₀ := l₀) (r₀ := r₀) rfl hl₀ (by omega) (gf := 235) (lb := #[.pointer (some ⟨b, 0, none⟩)]) hg trivial (enters_of Tryz.func235 (by kernel_rfl) rfl)
    ((shares_stops Fence.wide (n - 1) trivial rfl (by omega) b c hc w hb).inRound l₀) (fun h k => Eq.trans k h) (fun W l o o' hl _ _ _ => World.putObj_heap_other (by omega)) (Below.refl _ _) (fun _ => hps.symm)
    (fun pre W => J pre W ∧ KeepUp B bs w W) (fun c' pre W => (c' = .ret ∧ Jx pre W) ∧ KeepUp B bs w W)
    (OwnFrom.and (ownFrom_up hJ (by omega)) (ownFrom_keepUp (Nat.le_refl _) (by omega))) (fun c' => OwnFrom.and (OwnFrom.and (ownFrom_pure _ _) (ownFrom_up hJx (by omega))) (ownFrom_keepUp (Nat.le_refl _) (by omega)))
    ⟨h0, .refl _ _ _⟩ Ax hAx ?assign ?body ?done ?stop
  case assign =>
    rintro l pre x W K ⟨hj, hk⟩ hK
    exact hassign l pre x W K hk hj fun a' W' hkW hj' hax => hK a' W' (hkW.from (by omega)) (hkW.same hBb (Nat.lt_of_lt_of_le hbw hk.size)) ⟨hj', hk.trans hkW⟩ hax
  case body =>
    rintro l pre x a' W hl hr ⟨hj, hk⟩ hax _
    refine wpIn_mono (hbody l pre x a' W hr hk hj hax) fun e a3 W3 hp => ?_
    have hbW : b < W.heap.size := Nat.lt_of_lt_of_le hbw hk.size
    cases e with
    | normal => exact ⟨hp.1.from (by omega), hp.1.same hBb hbW, hp.2, hk.trans hp.1⟩
    | ret => exact ⟨hp.1.from (by omega), ⟨rfl, hp.2⟩, hk.trans hp.1⟩
    | exit _ => exact hp.elim
    | goto _ => exact hp.elim
    | panic _ => exact hp.elim
    | outgrown => exact hp.elim
  case done =>
    rintro xs W rfl ⟨hj, hk⟩
    exact hdone W hk hj
  case stop =>
    rintro c' pre W hp ⟨⟨rfl, hj⟩, hk⟩
    exact hstop pre W hp hk hj

/-- The loop as an outermost one. -/
theorem sharesLoopH (hn : 3 ≤ n) (hc : c ≤ 13) (hb : Boxed w b 3 (.int .i64 c)) (hBb : B ≤ b) (hg : a.eval g = .func (.func 235) #[] #[.pointer (some ⟨b, 0, none⟩)]) (hps : ps.size = 2)
    (hbs : bs < B) (J Jx : List (Nat × Nat) → World → Prop) (hJ : OwnFrom B J) (hJx : OwnFrom B Jx) (h0 : J [] w)
    (Ax : Nat × Nat → Act → World → Prop) (hAx : ∀ x a', OwnFrom w.heap.size (fun (_ : Unit) W => Ax x a' W))
    (hassign : ∀ (l : Nat) (pre : List (Nat × Nat)) (x : Nat × Nat) (W : World) (K : Act → World → Prop), KeepUp B bs w W → J pre W → (∀ a' W', KeepUp B bs W W' → J pre W' → Ax x a' W' → K a' W') →
      assign.wpIn (Fence.wide.inRound l) (n - 1 - 1) Tryz.prog (Exit.then K (fun _ _ _ => False)) { tmps := (ps.zip #[Value.int .i64 (cl x.1), .int .i64 (cl x.2)]).foldl (fun t (p, v) => t.setIfInBounds p v) a.tmps, defers := [] } W)
    (hbody : ∀ (l : Nat) (pre : List (Nat × Nat)) (x : Nat × Nat) (a' : Act) (W : World), (∃ r, W.heap[l]? = some (.loop r)) → KeepUp B bs w W → J pre W → Ax x a' W → body.wpIn (Fence.wide.inRound l) (n - 1 - 1) Tryz.prog (levelPost B bs J Jx (pre ++ [x]) W) a' W)
    (hdone : ∀ D W, w.heap.size ≤ D → KeepUp B bs w W → J (pairsL c) W → W.heap[D]? = some (.deferred (some [])) → Q .normal { a with defers := { target := .collected D, args := #[] } :: a.defers } W)
    (hstop : ∀ D pre W, w.heap.size ≤ D → pre <+: pairsL c → KeepUp B bs w W → Jx pre W → W.heap[D]? = some (.deferred (some [])) → Code.ret.wpIn Fence.wide n Tryz.prog Q { a with defers := { target := .collected D, args := #[] } :: a.defers } W) :
    (Code.rangeFunc g ps assign body).wpIn Fence.wide n Tryz.prog Q a w := by
  have hbw := hb.lt
  refine wpIn_rangeFunc_ownH rfl (by omega) (gf := 235) (lb := #[.pointer (some ⟨b, 0, none⟩)]) hg trivial (enters_of Tryz.func235 (by kernel_rfl) rfl)
    (shares_stops Fence.wide (n - 1) trivial rfl (by omega) b c hc w hb) (fun h k => Eq.trans k h) (fun W l o o' hl _ _ _ => World.putObj_heap_other (by omega)) (Below.refl _ _) (fun _ => hps.symm)
    (fun pre W => J pre W ∧ KeepUp B bs w W) (fun c' pre W => (c' = .ret ∧ Jx pre W) ∧ KeepUp B bs w W)
    (OwnFrom.and (ownFrom_up hJ (by omega)) (ownFrom_keepUp (Nat.le_refl _) (by omega))) (fun c' => OwnFrom.and (OwnFrom.and (ownFrom_pure _ _) (ownFrom_up hJx (by omega))) (ownFrom_keepUp (Nat.le_refl _) (by omega)))
    ⟨h0, .refl _ _ _⟩ Ax hAx ?assign ?body ?done ?stop
  case assign =>
    rintro l pre x W K ⟨hj, hk⟩ hK
    exact hassign l pre x W K hk hj fun a' W' hkW hj' hax => hK a' W' (hkW.from (by omega)) (hkW.same hBb (Nat.lt_of_lt_of_le hbw hk.size)) ⟨hj', hk.trans hkW⟩ hax
  case body =>
    rintro l pre x a' W hl hr ⟨hj, hk⟩ hax _
    refine wpIn_mono (hbody l pre x a' W hr hk hj hax) fun e a3 W3 hp => ?_
    have hbW : b < W.heap.size := Nat.lt_of_lt_of_le hbw hk.size
    cases e with
    | normal => exact ⟨hp.1.from (by omega), hp.1.same hBb hbW, hp.2, hk.trans hp.1⟩
    | ret => exact ⟨hp.1.from (by omega), ⟨rfl, hp.2⟩, hk.trans hp.1⟩
    | exit _ => exact hp.elim
    | goto _ => exact hp.elim
    | panic _ => exact hp.elim
    | outgrown => exact hp.elim
  case done =>
    rintro D xs W hD rfl ⟨hj, hk⟩ hK
    exact hdone D W hD hk hj hK
  case stop =>
    rintro D c' pre W hD hp ⟨⟨rfl, hj⟩, hk⟩ hK
    exact hstop D pre W hD hp hk hj hK
end
end Go.Proofs.YtlflblngbneacabGreatDoor

/- The walk of the exact law of AfterPick round the contract of the program's function: it returns true for every argument. No condition. -/
namespace Go.Proofs.YtlflblngbneacabGreatDoor
open Go.RowKit

/-- A state's four cells of one's own, behind what is older than B. -/
def Fresh4 (B : Nat) (w : World) (b : Nat) (s : SD) : Prop := FourVar w b s ∧ B < b
theorem Fresh4.new {B : Nat} {w : World} (h : B < w.heap.size) (ty : TypeId) (s : SD) : Fresh4 B (w.alloc (.cells #[.int .i64 s.b, .int .i64 s.h, .int .i64 s.l, .int .i64 s.g] ty)) w.heap.size s := ⟨FourVar.new w ty s, h⟩
theorem Fresh4.below {B : Nat} {w w' : World} {b : Nat} {s : SD} (h : Fresh4 B w b s) (hb : Below w.heap.size w w') : Fresh4 B w' b s := ⟨h.1.below hb, h.2⟩
theorem StateAt.cells {w : World} {b : Nat} {s : SD} (h : StateAt w b s) : w.cell? ⟨b, 0, none⟩ = some (.int .i64 s.b) ∧ w.cell? ⟨b, 1, none⟩ = some (.int .i64 s.h) ∧ w.cell? ⟨b, 2, none⟩ = some (.int .i64 s.l) ∧ w.cell? ⟨b, 3, none⟩ = some (.int .i64 s.g) ∧ b < w.heap.size := h
theorem PickAt.cells {w : World} {b : Nat} {p : PD} (h : PickAt w b p) : w.cell? ⟨b, 0, none⟩ = some (.int .i64 p.bl) ∧ w.cell? ⟨b, 1, none⟩ = some (.int .i64 p.br) ∧ w.cell? ⟨b, 2, none⟩ = some (.int .i64 p.hl) ∧ w.cell? ⟨b, 3, none⟩ = some (.int .i64 p.hr) ∧
    w.cell? ⟨b, 4, none⟩ = some (.int .i64 p.ll) ∧ w.cell? ⟨b, 5, none⟩ = some (.int .i64 p.lr) ∧ w.cell? ⟨b, 6, none⟩ = some (.int .i64 p.gl) ∧ w.cell? ⟨b, 7, none⟩ = some (.int .i64 p.gr) ∧ b < w.heap.size := h
theorem StateAt.lt {w : World} {b : Nat} {s : SD} (h : StateAt w b s) : b < w.heap.size := h.2.2.2.2
theorem PickAt.lt {w : World} {b : Nat} {p : PD} (h : PickAt w b p) : b < w.heap.size := h.2.2.2.2.2.2.2.2
theorem StateAt.far4 {w : World} {b c : Nat} {s : SD} (h : StateAt w b s) (hne : b < c) (q : SD) : StateAt ((((w.setCell ⟨c, 0, none⟩ (.int .i64 q.b)).setCell ⟨c, 1, none⟩ (.int .i64 q.h)).setCell ⟨c, 2, none⟩ (.int .i64 q.l)).setCell ⟨c, 3, none⟩ (.int .i64 q.g)) b s := by
  have hn : c ≠ b := by omega
  obtain ⟨e0, e1, e2, e3, hlt⟩ := h
  refine ⟨?_, ?_, ?_, ?_, by simp only [setCell_size]; exact hlt⟩
  all_goals (rw [World.cell?_setCell_far _ _ _ _ hn, World.cell?_setCell_far _ _ _ _ hn, World.cell?_setCell_far _ _ _ _ hn, World.cell?_setCell_far _ _ _ _ hn]; assumption)
theorem PickAt.far4 {w : World} {b c : Nat} {p : PD} (h : PickAt w b p) (hne : b < c) (q : SD) : PickAt ((((w.setCell ⟨c, 0, none⟩ (.int .i64 q.b)).setCell ⟨c, 1, none⟩ (.int .i64 q.h)).setCell ⟨c, 2, none⟩ (.int .i64 q.l)).setCell ⟨c, 3, none⟩ (.int .i64 q.g)) b p := by
  have hn : c ≠ b := by omega
  obtain ⟨e0, e1, e2, e3, e4, e5, e6, e7, hlt⟩ := h
  refine ⟨?_, ?_, ?_, ?_, ?_, ?_, ?_, ?_, by simp only [setCell_size]; exact hlt⟩
  all_goals (rw [World.cell?_setCell_far _ _ _ _ hn, World.cell?_setCell_far _ _ _ _ hn, World.cell?_setCell_far _ _ _ _ hn, World.cell?_setCell_far _ _ _ _ hn]; assumption)
theorem Fresh4.drewT {B : Nat} {w : World} {b : Nat} {s : SD} (h : Fresh4 B w b s) : Fresh4 B w.drew b s := h.below (Below.refl _ _).drew
theorem Fresh4.lt {B : Nat} {w : World} {b : Nat} {s : SD} (h : Fresh4 B w b s) : b < w.heap.size := h.1.1.2.2.2.2
theorem Fresh4.far4 {B : Nat} {w : World} {b c : Nat} {s : SD} (h : Fresh4 B w b s) (hne : b < c) (q : SD) : Fresh4 B ((((w.setCell ⟨c, 0, none⟩ (.int .i64 q.b)).setCell ⟨c, 1, none⟩ (.int .i64 q.h)).setCell ⟨c, 2, none⟩ (.int .i64 q.l)).setCell ⟨c, 3, none⟩ (.int .i64 q.g)) b s := by
  refine ⟨⟨h.1.1.far4 hne q, ?_, ?_, ?_, ?_⟩, h.2⟩
  all_goals (obtain ⟨⟨-, f0, f1, f2, f3⟩, -⟩ := h; simp only [World.frozen?_setCell]; assumption)
theorem Fresh4.fill {B : Nat} {w : World} {b : Nat} {s : SD} (h : Fresh4 B w b s) (q : SD) : Fresh4 B ((((w.setCell ⟨b, 0, none⟩ (.int .i64 q.b)).setCell ⟨b, 1, none⟩ (.int .i64 q.h)).setCell ⟨b, 2, none⟩ (.int .i64 q.l)).setCell ⟨b, 3, none⟩ (.int .i64 q.g)) b q := by
  obtain ⟨⟨⟨e0, e1, e2, e3, hlt⟩, f0, f1, f2, f3⟩, hB⟩ := h
  refine ⟨⟨⟨?_, ?_, ?_, ?_, by simp only [setCell_size]; exact hlt⟩, ?_, ?_, ?_, ?_⟩, hB⟩
  · rw [World.cell?_setCell_other _ _ _ _ (by simp), World.cell?_setCell_other _ _ _ _ (by simp), World.cell?_setCell_other _ _ _ _ (by simp)]; exact World.cell?_setCell_same _ _ _ e0
  · rw [World.cell?_setCell_other _ _ _ _ (by simp), World.cell?_setCell_other _ _ _ _ (by simp)]; exact World.cell?_setCell_same _ _ _ ((World.cell?_setCell_other _ _ _ _ (by simp)).trans e1)
  · rw [World.cell?_setCell_other _ _ _ _ (by simp)]; exact World.cell?_setCell_same _ _ _ ((World.cell?_setCell_other _ _ _ _ (by simp)).trans ((World.cell?_setCell_other _ _ _ _ (by simp)).trans e2))
  · exact World.cell?_setCell_same _ _ _ ((World.cell?_setCell_other _ _ _ _ (by simp)).trans ((World.cell?_setCell_other _ _ _ _ (by simp)).trans ((World.cell?_setCell_other _ _ _ _ (by simp)).trans e3)))
  all_goals (simp only [World.frozen?_setCell]; assumption)
def AfterPickIs (f : FuncId) (s : SD) (p : PD) (x : Int) : Prop := ∀ W, Calls Tryz.prog f #[stateV s, pickV p, .int .i64 x] W fun e w' => e = .returned (.tuple #[stateV ((afterO s p x).getD zeroS), .bool (afterO s p x).isSome]) ∧ Below W.heap.size W w'

end Go.Proofs.YtlflblngbneacabGreatDoor

/- The contracts of the program's stateAfter and AfterPick. Conditions: a valid pick for stateAfter; the numbers of a pick are Go integers for AfterPick. -/
namespace Go.Proofs.YtlflblngbneacabGreatDoor
open Go.RowKit

theorem StateAt.setFar {w : World} {b c j : Nat} {s : SD} (h : StateAt w b s) (hne : c ≠ b) (v : Value) : StateAt (w.setCell ⟨c, j, none⟩ v) b s := by
  obtain ⟨e0, e1, e2, e3, hlt⟩ := h
  refine ⟨?_, ?_, ?_, ?_, by simp only [setCell_size]; exact hlt⟩
  all_goals (rw [World.cell?_setCell_far _ _ _ _ hne]; assumption)
theorem FourVar.setFar {w : World} {b c j : Nat} {s : SD} (h : FourVar w b s) (hne : c ≠ b) (v : Value) : FourVar (w.setCell ⟨c, j, none⟩ v) b s := by
  refine ⟨h.1.setFar hne v, ?_, ?_, ?_, ?_⟩
  all_goals (obtain ⟨-, f0, f1, f2, f3⟩ := h; simp only [World.frozen?_setCell]; assumption)
theorem FourVar.set0 {w : World} {b : Nat} {s : SD} (h : FourVar w b s) (x : Int) : FourVar (w.setCell ⟨b, 0, none⟩ (.int .i64 x)) b { s with b := x } := by
  obtain ⟨⟨e0, e1, e2, e3, hlt⟩, f0, f1, f2, f3⟩ := h
  refine ⟨⟨World.cell?_setCell_same _ _ _ e0, ?_, ?_, ?_, by simp only [setCell_size]; exact hlt⟩, ?_, ?_, ?_, ?_⟩
  iterate 3 (rw [World.cell?_setCell_other _ _ _ _ (by simp)]; assumption)
  all_goals (simp only [World.frozen?_setCell]; assumption)
theorem FourVar.set1 {w : World} {b : Nat} {s : SD} (h : FourVar w b s) (x : Int) : FourVar (w.setCell ⟨b, 1, none⟩ (.int .i64 x)) b { s with h := x } := by
  obtain ⟨⟨e0, e1, e2, e3, hlt⟩, f0, f1, f2, f3⟩ := h
  refine ⟨⟨?_, World.cell?_setCell_same _ _ _ e1, ?_, ?_, by simp only [setCell_size]; exact hlt⟩, ?_, ?_, ?_, ?_⟩
  iterate 3 (rw [World.cell?_setCell_other _ _ _ _ (by simp)]; assumption)
  all_goals (simp only [World.frozen?_setCell]; assumption)
theorem FourVar.set2 {w : World} {b : Nat} {s : SD} (h : FourVar w b s) (x : Int) : FourVar (w.setCell ⟨b, 2, none⟩ (.int .i64 x)) b { s with l := x } := by
  obtain ⟨⟨e0, e1, e2, e3, hlt⟩, f0, f1, f2, f3⟩ := h
  refine ⟨⟨?_, ?_, World.cell?_setCell_same _ _ _ e2, ?_, by simp only [setCell_size]; exact hlt⟩, ?_, ?_, ?_, ?_⟩
  iterate 3 (rw [World.cell?_setCell_other _ _ _ _ (by simp)]; assumption)
  all_goals (simp only [World.frozen?_setCell]; assumption)
theorem FourVar.set3 {w : World} {b : Nat} {s : SD} (h : FourVar w b s) (x : Int) : FourVar (w.setCell ⟨b, 3, none⟩ (.int .i64 x)) b { s with g := x } := by
  obtain ⟨⟨e0, e1, e2, e3, hlt⟩, f0, f1, f2, f3⟩ := h
  refine ⟨⟨?_, ?_, ?_, World.cell?_setCell_same _ _ _ e3, by simp only [setCell_size]; exact hlt⟩, ?_, ?_, ?_, ?_⟩
  iterate 3 (rw [World.cell?_setCell_other _ _ _ _ (by simp)]; assumption)
  all_goals (simp only [World.frozen?_setCell]; assumption)
theorem FourVar.drewT {w : World} {b : Nat} {s : SD} (h : FourVar w b s) : FourVar w.drew b s := h.below (Below.refl _ _).drew
theorem FourVar.cells {w : World} {b : Nat} {s : SD} (h : FourVar w b s) : w.cell? ⟨b, 0, none⟩ = some (.int .i64 s.b) ∧ w.cell? ⟨b, 1, none⟩ = some (.int .i64 s.h) ∧ w.cell? ⟨b, 2, none⟩ = some (.int .i64 s.l) ∧ w.cell? ⟨b, 3, none⟩ = some (.int .i64 s.g) ∧ b < w.heap.size := h.1

theorem afterS_parts (s : SD) (p : PD) :
    afterS s p (-1) = ⟨0, p.br + p.hr, p.bl + p.ll, sumS s - sumS ⟨0, p.br + p.hr, p.bl + p.ll, 0⟩⟩ ∧
    afterS s p 0 = ⟨s.b - p.bl - p.br, s.h - p.hl - p.hr, s.l - p.ll - p.lr, sumS s - sumS ⟨s.b - p.bl - p.br, s.h - p.hl - p.hr, s.l - p.ll - p.lr, 0⟩⟩ ∧
    afterS s p 1 = ⟨0, p.bl + p.hl, p.br + p.lr, sumS s - sumS ⟨0, p.bl + p.hl, p.br + p.lr, 0⟩⟩ := by
  unfold afterS goodS sumS
  refine ⟨?_, ?_, ?_⟩ <;> simp <;> omega

/-- What lies ahead of the last step: s in block b, the state that is left in block n, the result's variable in block r. -/
def Ahead (B : Nat) (w0 w : World) (b n r : Nat) (s q : SD) : Prop := (B ≤ b ∧ B ≤ n ∧ B ≤ r ∧ b ≠ n ∧ b ≠ r ∧ n ≠ r) ∧ StateAt w b s ∧ FourVar w n q ∧ FourVar w r zeroS ∧ Below B w0 w

set_option maxRecDepth 100000 in
set_option maxHeartbeats 6400000 in
theorem implStateAfter (s : SD) (p : PD) (x : Int) (hx : -1 ≤ x ∧ x ≤ 1) (hs : SIn s) (hp : PIn s p) (w : World) :
    Calls Tryz.prog 194 #[stateV s, pickV p, .int .i64 x] w fun e w' => e = .returned (stateV (afterS s p x)) ∧ Below w.heap.size w w' := by
  have HS : Hid (Small s) := by unfold SIn sumS at hs; unfold Hid Small; omega
  have CS := Lib.hid (fun W => implCountCoins s HS.out W)
  have P0 := StateAt.new w 56 s
  have B0 := alloc_below w (.cells #[.int .i64 s.b, .int .i64 s.h, .int .i64 s.l, .int .i64 s.g] 56)
  have s0 : (w.alloc (.cells #[.int .i64 s.b, .int .i64 s.h, .int .i64 s.l, .int .i64 s.g] 56)).heap.size = w.heap.size + 1 := by simp
  generalize hX0 : w.alloc (.cells #[.int .i64 s.b, .int .i64 s.h, .int .i64 s.l, .int .i64 s.g] 56) = X0 at P0 B0 s0
  have Q0 := PickAt.new X0 64 p
  have B1 := alloc_below X0 (.cells #[.int .i64 p.bl, .int .i64 p.br, .int .i64 p.hl, .int .i64 p.hr, .int .i64 p.ll, .int .i64 p.lr, .int .i64 p.gl, .int .i64 p.gr] 64)
  have s1 : (X0.alloc (.cells #[.int .i64 p.bl, .int .i64 p.br, .int .i64 p.hl, .int .i64 p.hr, .int .i64 p.ll, .int .i64 p.lr, .int .i64 p.gl, .int .i64 p.gr] 64)).heap.size = w.heap.size + 2 := by simp [s0]
  generalize hX1 : X0.alloc (.cells #[.int .i64 p.bl, .int .i64 p.br, .int .i64 p.hl, .int .i64 p.hr, .int .i64 p.ll, .int .i64 p.lr, .int .i64 p.gl, .int .i64 p.gr] 64) = X1 at Q0 B1 s1
  rw [s0] at Q0
  have R0 := FourVar.new X1 56 zeroS
  have B2 := alloc_below X1 (.cells #[.int .i64 0, .int .i64 0, .int .i64 0, .int .i64 0] 56)
  have s2 : (X1.alloc (.cells #[.int .i64 0, .int .i64 0, .int .i64 0, .int .i64 0] 56)).heap.size = w.heap.size + 3 := by simp [s1]
  rw [s1] at R0
  change FourVar (X1.alloc (.cells #[.int .i64 0, .int .i64 0, .int .i64 0, .int .i64 0] 56)) _ _ at R0
  generalize hX2 : X1.alloc (.cells #[.int .i64 0, .int .i64 0, .int .i64 0, .int .i64 0] 56) = X2 at R0 B2 s2
  have N0 := FourVar.new X2 56 zeroS
  have B3 := alloc_below X2 (.cells #[.int .i64 0, .int .i64 0, .int .i64 0, .int .i64 0] 56)
  rw [s2] at N0
  change FourVar (X2.alloc (.cells #[.int .i64 0, .int .i64 0, .int .i64 0, .int .i64 0] 56)) _ _ at N0
  generalize hX3 : X2.alloc (.cells #[.int .i64 0, .int .i64 0, .int .i64 0, .int .i64 0] 56) = X3 at N0 B3
  have P3 := Lib.hid (((P0.below B1).below B2).below B3)
  have Q3 := Lib.hid ((Q0.below B2).below B3)
  have R3 := Lib.hid (R0.below B3)
  have N3 := Lib.hid N0
  have BX := Lib.hid (below_up (below_up (below_up B0 B1) B2) B3)
  clear P0 B0 B1 B2 B3 Q0 R0 N0
  have HP : Hid (SIn s ∧ PIn s p) := ⟨hs, hp⟩
  unfold SIn sumS at hs
  unfold PIn at hp
  obtain ⟨e0, e1, e2, e3, -⟩ := P3.out
  obtain ⟨q0, q1, q2, q3, q4, q5, q6, q7, -⟩ := Q3.out
  obtain ⟨⟨n0, n1, n2, n3, -⟩, g0, g1, g2, g3⟩ := N3.out
  unfold stateV at CS ⊢
  unfold pickV
  go_enter Tryz.func194, Tryz.ntmps194
  rcases (show x = -1 ∨ x = 0 ∨ x = 1 by omega) with rfl | rfl | rfl
  · have v10 : IntKind.i64.wrap (p.br + p.hr) = p.br + p.hr := by rw [IntKind.wrap_i64]; omega
    have v11 : IntKind.i64.wrap (p.bl + p.ll) = p.bl + p.ll := by rw [IntKind.wrap_i64]; omega
    obtain ⟨q, hq⟩ : ∃ q : SD, q = ⟨0, p.br + p.hr, p.bl + p.ll, 0⟩ := ⟨_, rfl⟩
    have N4 := Lib.hid ((N3.out.set1 (p.br + p.hr)).set2 (p.bl + p.ll))
    have P4 := Lib.hid ((P3.out.setFar (c := w.heap.size + 3) (j := 1) (by omega) (.int .i64 (p.br + p.hr))).setFar (c := w.heap.size + 3) (j := 2) (by omega) (.int .i64 (p.bl + p.ll)))
    have R4 := Lib.hid ((R3.out.setFar (c := w.heap.size + 3) (j := 1) (by omega) (.int .i64 (p.br + p.hr))).setFar (c := w.heap.size + 3) (j := 2) (by omega) (.int .i64 (p.bl + p.ll)))
    have B4 : Hid (Below w.heap.size w ((X3.setCell ⟨w.heap.size + 3, 1, none⟩ (.int .i64 (p.br + p.hr))).setCell ⟨w.heap.size + 3, 2, none⟩ (.int .i64 (p.bl + p.ll)))) := ((BX.out.setCell (Nat.le_add_right _ 3) _).setCell (Nat.le_add_right _ 3) _)
    have HE : Hid (afterS s p (-1) = { q with g := sumS s - sumS q }) := by unfold Hid; rw [hq]; exact (afterS_parts s p).1
    have HM : Hid (Small q) := by rw [hq]; unfold Hid Small; simp only []; omega
    change Hid (FourVar _ _ ⟨0, p.br + p.hr, p.bl + p.ll, 0⟩) at N4
    rw [← hq] at N4
    have CQ := Lib.hid (fun W => implCountCoins q HM.out W)
    clear hs hp hx N3 P3 R3 BX
    go_upto_region 13 with fail
    clear v10 v11 e0 e1 e2 e3 q0 q1 q2 q3 q4 q5 q6 q7 n0 n1 n2 n3 g0 g1 g2 g3 Q3 HP
    clear hX0 hX1 hX2 hX3 s0 s1 s2
    generalize ((X3.setCell ⟨w.heap.size + 3, 1, none⟩ (.int .i64 (p.br + p.hr))).setCell ⟨w.heap.size + 3, 2, none⟩ (.int .i64 (p.bl + p.ll))) = Y at P4 R4 B4 N4
    clear hq
    unfold stateV at CQ
    have v3 : IntKind.i64.wrap (sumS s - sumS q) = sumS s - sumS q := by
      have h1 := HS.out
      have h2 := HM.out
      unfold Small at h1 h2
      unfold sumS
      rw [IntKind.wrap_i64]; omega
    obtain ⟨e0, e1, e2, e3, -⟩ := P4.out
    obtain ⟨⟨n0, n1, n2, n3, -⟩, g0, g1, g2, g3⟩ := N4.out
    (go_region_with (first
        | (go_at_call_of 123 (Value.int .i64 (SD.b s)); refine (CS.out _).mono ?_; rintro e w5 ⟨rfl, b5⟩; have B5 := Lib.hid (below_up B4.out.drew b5); have P5 := Lib.hid (P4.out.drewT.below b5); have N5 := Lib.hid (N4.out.drewT.below b5); have R5 := Lib.hid (R4.out.drewT.below b5); clear b5 e0 e1 e2 e3 n0 n1 n2 n3 g0 g1 g2 g3; obtain ⟨⟨n0, n1, n2, n3, -⟩, g0, g1, g2, g3⟩ := N5.out)
        | (go_at_call_of 123 (Value.int .i64 (SD.b q)); refine (CQ.out _).mono ?_; rintro e w6 ⟨rfl, b6⟩; have B6 := Lib.hid (below_up B5.out b6); have P6 := Lib.hid (P5.out.below b6); have N6 := Lib.hid (N5.out.below b6); have R6 := Lib.hid (R5.out.below b6); clear b6 n0 n1 n2 n3 g0 g1 g2 g3; obtain ⟨⟨n0, n1, n2, n3, -⟩, g0, g1, g2, g3⟩ := N6.out)
        | fail))
    all_goals
      obtain ⟨⟨r0, r1, r2, r3, -⟩, h0, h1, h2, h3⟩ := R6.out
      clear CS CQ HS HM v3
      go_wp2
      refine bodyPost_ret (v := .agg #[.int .i64 q.b, .int .i64 q.h, .int .i64 q.l, .int .i64 (sumS s - sumS q)]) (by simp [results, Tryz.results194, go_sem, r0, r1, r2, r3]) rfl ⟨?_, ?_⟩
      · rw [HE.out]
      · exact below_fill4 (B6.out.setCell (Nat.le_add_right _ 3) _) (Nat.le_add_right _ 2) ⟨q.b, q.h, q.l, sumS s - sumS q⟩
  · have v10 : IntKind.i64.wrap (s.b - p.bl) = s.b - p.bl := by rw [IntKind.wrap_i64]; omega
    have v11 : IntKind.i64.wrap (s.b - p.bl - p.br) = s.b - p.bl - p.br := by rw [IntKind.wrap_i64]; omega
    have v12 : IntKind.i64.wrap (s.h - p.hl) = s.h - p.hl := by rw [IntKind.wrap_i64]; omega
    have v13 : IntKind.i64.wrap (s.h - p.hl - p.hr) = s.h - p.hl - p.hr := by rw [IntKind.wrap_i64]; omega
    have v14 : IntKind.i64.wrap (s.l - p.ll) = s.l - p.ll := by rw [IntKind.wrap_i64]; omega
    have v15 : IntKind.i64.wrap (s.l - p.ll - p.lr) = s.l - p.ll - p.lr := by rw [IntKind.wrap_i64]; omega
    obtain ⟨q, hq⟩ : ∃ q : SD, q = ⟨s.b - p.bl - p.br, s.h - p.hl - p.hr, s.l - p.ll - p.lr, 0⟩ := ⟨_, rfl⟩
    have N4 := Lib.hid (((N3.out.set0 (s.b - p.bl - p.br)).set1 (s.h - p.hl - p.hr)).set2 (s.l - p.ll - p.lr))
    have P4 := Lib.hid (((P3.out.setFar (c := w.heap.size + 3) (j := 0) (by omega) (.int .i64 (s.b - p.bl - p.br))).setFar (c := w.heap.size + 3) (j := 1) (by omega) (.int .i64 (s.h - p.hl - p.hr))).setFar (c := w.heap.size + 3) (j := 2) (by omega) (.int .i64 (s.l - p.ll - p.lr)))
    have R4 := Lib.hid (((R3.out.setFar (c := w.heap.size + 3) (j := 0) (by omega) (.int .i64 (s.b - p.bl - p.br))).setFar (c := w.heap.size + 3) (j := 1) (by omega) (.int .i64 (s.h - p.hl - p.hr))).setFar (c := w.heap.size + 3) (j := 2) (by omega) (.int .i64 (s.l - p.ll - p.lr)))
    have B4 : Hid (Below w.heap.size w (((X3.setCell ⟨w.heap.size + 3, 0, none⟩ (.int .i64 (s.b - p.bl - p.br))).setCell ⟨w.heap.size + 3, 1, none⟩ (.int .i64 (s.h - p.hl - p.hr))).setCell ⟨w.heap.size + 3, 2, none⟩ (.int .i64 (s.l - p.ll - p.lr)))) := (((BX.out.setCell (Nat.le_add_right _ 3) _).setCell (Nat.le_add_right _ 3) _).setCell (Nat.le_add_right _ 3) _)
    have HE : Hid (afterS s p 0 = { q with g := sumS s - sumS q }) := by unfold Hid; rw [hq]; exact (afterS_parts s p).2.1
    have HM : Hid (Small q) := by rw [hq]; unfold Hid Small; simp only []; omega
    change Hid (FourVar _ _ ⟨s.b - p.bl - p.br, s.h - p.hl - p.hr, s.l - p.ll - p.lr, 0⟩) at N4
    rw [← hq] at N4
    have CQ := Lib.hid (fun W => implCountCoins q HM.out W)
    clear hs hp hx N3 P3 R3 BX
    go_upto_region 13 with fail
    clear v10 v11 v12 v13 v14 v15 e0 e1 e2 e3 q0 q1 q2 q3 q4 q5 q6 q7 n0 n1 n2 n3 g0 g1 g2 g3 Q3 HP
    clear hX0 hX1 hX2 hX3 s0 s1 s2
    generalize (((X3.setCell ⟨w.heap.size + 3, 0, none⟩ (.int .i64 (s.b - p.bl - p.br))).setCell ⟨w.heap.size + 3, 1, none⟩ (.int .i64 (s.h - p.hl - p.hr))).setCell ⟨w.heap.size + 3, 2, none⟩ (.int .i64 (s.l - p.ll - p.lr))) = Y at P4 R4 B4 N4
    clear hq
    unfold stateV at CQ
    have v3 : IntKind.i64.wrap (sumS s - sumS q) = sumS s - sumS q := by
      have h1 := HS.out
      have h2 := HM.out
      unfold Small at h1 h2
      unfold sumS
      rw [IntKind.wrap_i64]; omega
    obtain ⟨e0, e1, e2, e3, -⟩ := P4.out
    obtain ⟨⟨n0, n1, n2, n3, -⟩, g0, g1, g2, g3⟩ := N4.out
    (go_region_with (first
        | (go_at_call_of 123 (Value.int .i64 (SD.b s)); refine (CS.out _).mono ?_; rintro e w5 ⟨rfl, b5⟩; have B5 := Lib.hid (below_up B4.out.drew b5); have P5 := Lib.hid (P4.out.drewT.below b5); have N5 := Lib.hid (N4.out.drewT.below b5); have R5 := Lib.hid (R4.out.drewT.below b5); clear b5 e0 e1 e2 e3 n0 n1 n2 n3 g0 g1 g2 g3; obtain ⟨⟨n0, n1, n2, n3, -⟩, g0, g1, g2, g3⟩ := N5.out)
        | (go_at_call_of 123 (Value.int .i64 (SD.b q)); refine (CQ.out _).mono ?_; rintro e w6 ⟨rfl, b6⟩; have B6 := Lib.hid (below_up B5.out b6); have P6 := Lib.hid (P5.out.below b6); have N6 := Lib.hid (N5.out.below b6); have R6 := Lib.hid (R5.out.below b6); clear b6 n0 n1 n2 n3 g0 g1 g2 g3; obtain ⟨⟨n0, n1, n2, n3, -⟩, g0, g1, g2, g3⟩ := N6.out)
        | fail))
    all_goals
      obtain ⟨⟨r0, r1, r2, r3, -⟩, h0, h1, h2, h3⟩ := R6.out
      clear CS CQ HS HM v3
      go_wp2
      refine bodyPost_ret (v := .agg #[.int .i64 q.b, .int .i64 q.h, .int .i64 q.l, .int .i64 (sumS s - sumS q)]) (by simp [results, Tryz.results194, go_sem, r0, r1, r2, r3]) rfl ⟨?_, ?_⟩
      · rw [HE.out]
      · exact below_fill4 (B6.out.setCell (Nat.le_add_right _ 3) _) (Nat.le_add_right _ 2) ⟨q.b, q.h, q.l, sumS s - sumS q⟩
  · have v10 : IntKind.i64.wrap (p.bl + p.hl) = p.bl + p.hl := by rw [IntKind.wrap_i64]; omega
    have v11 : IntKind.i64.wrap (p.br + p.lr) = p.br + p.lr := by rw [IntKind.wrap_i64]; omega
    obtain ⟨q, hq⟩ : ∃ q : SD, q = ⟨0, p.bl + p.hl, p.br + p.lr, 0⟩ := ⟨_, rfl⟩
    have N4 := Lib.hid ((N3.out.set1 (p.bl + p.hl)).set2 (p.br + p.lr))
    have P4 := Lib.hid ((P3.out.setFar (c := w.heap.size + 3) (j := 1) (by omega) (.int .i64 (p.bl + p.hl))).setFar (c := w.heap.size + 3) (j := 2) (by omega) (.int .i64 (p.br + p.lr)))
    have R4 := Lib.hid ((R3.out.setFar (c := w.heap.size + 3) (j := 1) (by omega) (.int .i64 (p.bl + p.hl))).setFar (c := w.heap.size + 3) (j := 2) (by omega) (.int .i64 (p.br + p.lr)))
    have B4 : Hid (Below w.heap.size w ((X3.setCell ⟨w.heap.size + 3, 1, none⟩ (.int .i64 (p.bl + p.hl))).setCell ⟨w.heap.size + 3, 2, none⟩ (.int .i64 (p.br + p.lr)))) := ((BX.out.setCell (Nat.le_add_right _ 3) _).setCell (Nat.le_add_right _ 3) _)
    have HE : Hid (afterS s p 1 = { q with g := sumS s - sumS q }) := by unfold Hid; rw [hq]; exact (afterS_parts s p).2.2
    have HM : Hid (Small q) := by rw [hq]; unfold Hid Small; simp only []; omega
    change Hid (FourVar _ _ ⟨0, p.bl + p.hl, p.br + p.lr, 0⟩) at N4
    rw [← hq] at N4
    have CQ := Lib.hid (fun W => implCountCoins q HM.out W)
    clear hs hp hx N3 P3 R3 BX
    go_upto_region 13 with fail
    clear v10 v11 e0 e1 e2 e3 q0 q1 q2 q3 q4 q5 q6 q7 n0 n1 n2 n3 g0 g1 g2 g3 Q3 HP
    clear hX0 hX1 hX2 hX3 s0 s1 s2
    generalize ((X3.setCell ⟨w.heap.size + 3, 1, none⟩ (.int .i64 (p.bl + p.hl))).setCell ⟨w.heap.size + 3, 2, none⟩ (.int .i64 (p.br + p.lr))) = Y at P4 R4 B4 N4
    clear hq
    unfold stateV at CQ
    have v3 : IntKind.i64.wrap (sumS s - sumS q) = sumS s - sumS q := by
      have h1 := HS.out
      have h2 := HM.out
      unfold Small at h1 h2
      unfold sumS
      rw [IntKind.wrap_i64]; omega
    obtain ⟨e0, e1, e2, e3, -⟩ := P4.out
    obtain ⟨⟨n0, n1, n2, n3, -⟩, g0, g1, g2, g3⟩ := N4.out
    (go_region_with (first
        | (go_at_call_of 123 (Value.int .i64 (SD.b s)); refine (CS.out _).mono ?_; rintro e w5 ⟨rfl, b5⟩; have B5 := Lib.hid (below_up B4.out.drew b5); have P5 := Lib.hid (P4.out.drewT.below b5); have N5 := Lib.hid (N4.out.drewT.below b5); have R5 := Lib.hid (R4.out.drewT.below b5); clear b5 e0 e1 e2 e3 n0 n1 n2 n3 g0 g1 g2 g3; obtain ⟨⟨n0, n1, n2, n3, -⟩, g0, g1, g2, g3⟩ := N5.out)
        | (go_at_call_of 123 (Value.int .i64 (SD.b q)); refine (CQ.out _).mono ?_; rintro e w6 ⟨rfl, b6⟩; have B6 := Lib.hid (below_up B5.out b6); have P6 := Lib.hid (P5.out.below b6); have N6 := Lib.hid (N5.out.below b6); have R6 := Lib.hid (R5.out.below b6); clear b6 n0 n1 n2 n3 g0 g1 g2 g3; obtain ⟨⟨n0, n1, n2, n3, -⟩, g0, g1, g2, g3⟩ := N6.out)
        | fail))
    all_goals
      obtain ⟨⟨r0, r1, r2, r3, -⟩, h0, h1, h2, h3⟩ := R6.out
      clear CS CQ HS HM v3
      go_wp2
      refine bodyPost_ret (v := .agg #[.int .i64 q.b, .int .i64 q.h, .int .i64 q.l, .int .i64 (sumS s - sumS q)]) (by simp [results, Tryz.results194, go_sem, r0, r1, r2, r3]) rfl ⟨?_, ?_⟩
      · rw [HE.out]
      · exact below_fill4 (B6.out.setCell (Nat.le_add_right _ 3) _) (Nat.le_add_right _ 2) ⟨q.b, q.h, q.l, sumS s - sumS q⟩

/-- The program's AfterPick. -/
theorem after_ok {s : SD} {p : PD} {x : Int} (h : pickB s p = true) (hx : -1 ≤ x ∧ x ≤ 1) (W : World) : Calls Tryz.prog 194 #[stateV s, pickV p, .int .i64 x] W fun e w' => e = .returned (stateV (afterS s p x)) ∧ Below W.heap.size W w' :=
  implStateAfter s p x hx (pick_in h).1 (pick_in h).2 W

end Go.Proofs.YtlflblngbneacabGreatDoor

/- The contract of the program's picksOf, and of the iterator that it returns: all valid picks of a state in lexicographic order. Conditions: a valid state; the loop's body keeps what the iterator lays. -/
namespace Go.Proofs.YtlflblngbneacabGreatDoor
open Go.RowKit Go.Shelf
attribute [local go_sem] Oper.semAt_some

def mkP (x1 x2 x3 x4 : Nat × Nat) : PD := ⟨cl x1.1, cl x1.2, cl x2.1, cl x2.2, cl x3.1, cl x3.2, cl x4.1, cl x4.2⟩
def pk4 (s : SD) (x1 x2 x3 x4 : Nat × Nat) : List PD := if pickB s (mkP x1 x2 x3 x4) = true then [mkP x1 x2 x3 x4] else []
def pk3 (s : SD) (ng : Nat) (x1 x2 x3 : Nat × Nat) : List PD := (pairsL ng).flatMap (pk4 s x1 x2 x3)
def pk2 (s : SD) (nl ng : Nat) (x1 x2 : Nat × Nat) : List PD := (pairsL nl).flatMap (pk3 s ng x1 x2)
def pk1 (s : SD) (nh nl ng : Nat) (x1 : Nat × Nat) : List PD := (pairsL nh).flatMap (pk2 s nl ng x1)
/-- All valid picks of a state, in the program's order. -/
def picksN (s : SD) (nb nh nl ng : Nat) : List PD := (pairsL nb).flatMap (pk1 s nh nl ng)
theorem mkP_i64 (x1 x2 x3 x4 : Nat × Nat) : ∀ y ∈ (mkP x1 x2 x3 x4).list, I64 y := by
  intro y hy
  simp only [mkP, PD.list, List.mem_cons, List.not_mem_nil, or_false] at hy
  have c : ∀ n, I64 (cl n) := fun n => by have := cl_in n; unfold I64; omega
  rcases hy with rfl | rfl | rfl | rfl | rfl | rfl | rfl | rfl <;> exact c _
theorem StateAt.same {V V' : World} {b : Nat} {s : SD} (h : StateAt V b s) (e : V'.heap[b]? = V.heap[b]?) : StateAt V' b s := by
  obtain ⟨e0, e1, e2, e3, hlt⟩ := h
  refine ⟨?_, ?_, ?_, ?_, ?_⟩
  · exact (World.cell?_of_block (a := ⟨b, 0, none⟩) e).trans e0
  · exact (World.cell?_of_block (a := ⟨b, 1, none⟩) e).trans e1
  · exact (World.cell?_of_block (a := ⟨b, 2, none⟩) e).trans e2
  · exact (World.cell?_of_block (a := ⟨b, 3, none⟩) e).trans e3
  · rw [Array.getElem?_eq_getElem hlt] at e
    exact (Array.getElem?_eq_some_iff.1 e).1
theorem yieldAny {P : Program} {l m m' : Nat} {args : Array Value} {W : World} {R : Ending → World → Prop} (h : YieldAt Fence.wide m P l args W R) : YieldAt Fence.wide m' P l args W R := by
  obtain ⟨fn, tmps, assign, body, hy, hF, hr⟩ := h
  exact ⟨fn, tmps, assign, body, hy, hF, fun c cs _ => hr c cs (room_wide _)⟩
theorem ownFrom_comp {α β : Type} {B : Nat} {J : β → World → Prop} (h : OwnFrom B J) (f : α → β) : OwnFrom B (fun x V => J (f x) V) := fun s X Y row hs hg hr => h (f s) X Y row hs hg hr
theorem ownFrom_ex {α β : Type} {B : Nat} {J : β → World → Prop} (h : OwnFrom B J) (p : α → β → Prop) : OwnFrom B (fun (a : α) V => ∃ q, p a q ∧ J q V) := fun _ X Y row ⟨q, hq, hs⟩ hg hr => ⟨q, hq, h q X Y row hs hg hr⟩
theorem flat_snoc {α β : Type} (D : List β) (pre : List α) (x : α) (f : α → List β) : D ++ (pre ++ [x]).flatMap f = D ++ pre.flatMap f ++ f x := by simp

set_option maxHeartbeats 1000000 in
theorem picksOf_in (F : Fence) (n : Nat) (hf : F.fn 193) (hro : F.round = none) (s : SD) (w : World) :
    CallsIn F n Tryz.prog 193 #[stateV s] w fun e w' => e = .returned (.func (.func 222) #[] #[.pointer (some ⟨w.heap.size, 0, none⟩)]) ∧ w' = w.alloc (.cells #[.int .i64 s.b, .int .i64 s.h, .int .i64 s.l, .int .i64 s.g] 56) := by
  unfold stateV
  refine callsIn_of_wp Tryz.func193 rfl hf ?_ hro
  simp only [Tryz.ntmps193, List.size_toArray, List.length_cons, List.length_nil, Nat.reduceAdd, Nat.reduceSub, Array.replicate_succ, Array.replicate_zero, List.push_toArray, List.append_toArray, List.nil_append, List.cons_append]
  gi_wp2
  go_ret
  exact ⟨rfl, rfl⟩

set_option maxRecDepth 100000 in
set_option maxHeartbeats 8000000 in
theorem picks1_in (nb nh nl ng : Nat) (hs : SIn ⟨nb, nh, nl, ng⟩) (n : Nat) (hn : 20 ≤ n) (l bs : Nat) (W : World) (hS : StateAt W bs ⟨nb, nh, nl, ng⟩) (J Jx : List PD → World → Prop) (hJ : OwnFrom W.heap.size J) (hJx : OwnFrom W.heap.size Jx)
    (hY : ∀ m pre p V, J pre V → pickB ⟨nb, nh, nl, ng⟩ p = true → YieldAt Fence.wide m Tryz.prog l #[pickV p] V fun e V' => KeepUp W.heap.size bs V V' ∧ ((e = .returned (.bool true) ∧ J (pre ++ [p]) V') ∨ (e = .returned (.bool false) ∧ Jx (pre ++ [p]) V')))
    (h0 : J [] W) :
    CallsIn Fence.wide n Tryz.prog 222 #[.func (.yield l) #[] #[], .pointer (some ⟨bs, 0, none⟩)] W fun e W' => (∃ v, e = .returned v) ∧
      (J (picksN ⟨nb, nh, nl, ng⟩ nb nh nl ng) W' ∨ (∃ q, q <+: picksN ⟨nb, nh, nl, ng⟩ nb nh nl ng ∧ Jx q W')) := by
  obtain ⟨s, hse⟩ : ∃ s : SD, s = ⟨nb, nh, nl, ng⟩ := ⟨_, rfl⟩
  have hnb : nb ≤ 13 := by unfold SIn sumS at hs; simp only [] at hs; omega
  have hnh : nh ≤ 13 := by unfold SIn sumS at hs; simp only [] at hs; omega
  have hnl : nl ≤ 13 := by unfold SIn sumS at hs; simp only [] at hs; omega
  have hng : ng ≤ 13 := by unfold SIn sumS at hs; simp only [] at hs; omega
  obtain ⟨B, hB⟩ : ∃ B, W.heap.size = B := ⟨_, rfl⟩
  have hbs : bs < B := by rw [← hB]; exact hS.2.2.2.2
  rw [hB] at hJ hJx hY
  rw [← hse] at hY hS ⊢
  obtain ⟨all, hall⟩ : ∃ all, all = picksN s nb nh nl ng := ⟨_, rfl⟩
  rw [← hall]
  have f0 : s.b = nb := by rw [hse]
  have f1 : s.h = nh := by rw [hse]
  have f2 : s.l = nl := by rw [hse]
  have f3 : s.g = ng := by rw [hse]
  -- the world of the first loop
  have bY := Boxed.new W 272 (.func (.yield l) #[] #[])
  rw [hB] at bY
  have K0 : KeepUp B bs W (W.alloc (.cells #[.func (.yield l) #[] #[]] 272)) := .alloc _ (by omega)
  have sV : (W.alloc (.cells #[.func (.yield l) #[] #[]] 272)).heap.size = B + 1 := by simp [hB]
  have hS0 := hS.same K0.at_
  have hJ0 : J [] (W.alloc (.cells #[.func (.yield l) #[] #[]] 272)) := hJ.alloc _ h0
  refine callsIn_of_wp_marks Tryz.func222 rfl trivial ?_ rfl
  simp only [Tryz.ntmps222, List.size_toArray, List.length_cons, List.length_nil, Nat.reduceAdd, Nat.reduceSub, Array.replicate_succ, Array.replicate_zero, List.push_toArray, List.append_toArray, List.nil_append, List.cons_append]
  have e0 : (W.alloc (.cells #[.func (.yield l) #[] #[]] 272)).cell? ⟨bs, 0, none⟩ = some (.int .i64 nb) := by rw [← f0]; exact hS0.1
  have hn0 : 1 ≤ n := by omega
  have CP : Hid (∀ x1 x2 x3 x4 V, Calls Tryz.prog 224 #[.agg #[.int .i64 nb, .int .i64 nh, .int .i64 nl, .int .i64 ng], .agg #[.int .i64 (cl x1.1), .int .i64 (cl x1.2), .int .i64 (cl x2.1), .int .i64 (cl x2.2), .int .i64 (cl x3.1), .int .i64 (cl x3.2), .int .i64 (cl x4.1), .int .i64 (cl x4.2)]] V fun e w' => e = .returned (.bool (pickB s (mkP x1 x2 x3 x4))) ∧ Below V.heap.size V w') := by
    intro x1 x2 x3 x4 V
    rw [hse]
    exact implPickOk _ _ (mkP_i64 x1 x2 x3 x4) V
  clear hse hs
  gi_wp2_with (refine ⟨trivial, ?_⟩; gi_at_call 223; refine (shares_in Fence.wide (n - 1) trivial rfl _ _).mono ?_; rintro e w' ⟨rfl, rfl⟩)
  have bN0 := Boxed.new (W.alloc (.cells #[.func (.yield l) #[] #[]] 272)) 3 (.int .i64 nb)
  rw [sV] at bN0
  have bY0 := bY.alloc (.cells #[.int .i64 nb] 3)
  have K00 := K0.trans (KeepUp.alloc (B := B) (bs := bs) (V := W.alloc (.cells #[.func (.yield l) #[] #[]] 272)) (.cells #[.int .i64 nb] 3) (by omega))
  have hJ00 := hJ.alloc (.cells #[.int .i64 nb] 3) hJ0
  have sz0 : ((W.alloc (.cells #[.func (.yield l) #[] #[]] 272)).alloc (.cells #[.int .i64 nb] 3)).heap.size = B + 2 := by simp [hB]
  generalize (W.alloc (.cells #[.func (.yield l) #[] #[]] 272)).alloc (.cells #[.int .i64 nb] 3) = W0 at bN0 bY0 K00 hJ00 sz0 ⊢
  have S0 := hS.same K00.at_
  clear bY K0 sV hS0 hJ0 e0
  refine sharesLoopH (n := n) (c := nb) (b := B + 1) (B := B) (bs := bs) (by omega) hnb bN0 (by omega) (by rfl) (by rfl) hbs (fun pre V => J (pre.flatMap (pk1 s nh nl ng)) V) (fun pre V => ∃ q, q <+: (pre.flatMap (pk1 s nh nl ng)) ∧ Jx q V) (ownFrom_comp hJ _) (ownFrom_ex hJx _)
    hJ00 (fun x1 a' V => ∃ a1 b1, (B ≤ a1 ∧ B ≤ b1) ∧ Boxed V a1 3 (.int .i64 (cl x1.1)) ∧ Boxed V b1 3 (.int .i64 (cl x1.2)) ∧ a' = { tmps := #[.func (.yield l) #[] #[], .pointer (some ⟨bs, 0, none⟩), .pointer (some ⟨B, 0, none⟩), .pointer (some ⟨a1, 0, none⟩), .pointer (some ⟨b1, 0, none⟩), undef, undef, undef, undef, undef, undef, undef, .pointer (some ⟨bs, 0, none⟩), .int .i64 (nb : Nat), .func (.func 235) #[] #[.pointer (some ⟨B + 1, 0, none⟩)], .int .i64 (cl x1.1), .int .i64 (cl x1.2), undef, undef, undef, undef, undef, undef, undef, undef, undef, undef, undef, undef, undef, undef, undef, undef, undef, undef, undef, undef, undef, undef, undef, undef, undef, undef, undef, undef, undef, undef, undef, undef, undef], defers := [] }) (fun x a' _ X Y row hs hg hr => by obtain ⟨a1, b1, h0, h1, h2, h3⟩ := hs; exact ⟨a1, b1, h0, boxed_own a1 3 (fun (_ : Unit) => Value.int .i64 (cl x.1)) () X Y row h1 hg (fun r e => (hr r e).2), boxed_own b1 3 (fun (_ : Unit) => Value.int .i64 (cl x.2)) () X Y row h2 hg (fun r e => (hr r e).2), h3⟩) ?assign1 ?body1 ?done1 ?stop1
  case assign1 =>
    rintro l1 pre1 x1 V K hk hj hK
    have hsV := hk.size
    have kA : KeepUp B bs V (V.alloc (.cells #[.int .i64 (cl x1.1)] 3)) := .alloc _ (by omega)
    have kB : KeepUp B bs (V.alloc (.cells #[.int .i64 (cl x1.1)] 3)) ((V.alloc (.cells #[.int .i64 (cl x1.1)] 3)).alloc (.cells #[.int .i64 (cl x1.2)] 3)) := .alloc _ (by simp; omega)
    have nA := (Boxed.new V 3 (.int .i64 (cl x1.1))).alloc (.cells #[.int .i64 (cl x1.2)] 3)
    have nB := Boxed.new (V.alloc (.cells #[.int .i64 (cl x1.1)] 3)) 3 (.int .i64 (cl x1.2))
    rw [World.size_alloc] at nB
    have hJ2 := hJ.alloc (.cells #[.int .i64 (cl x1.2)] 3) (hJ.alloc (.cells #[.int .i64 (cl x1.1)] 3) hj)
    clear hk hj
    gi_wp2
    exact hK _ _ (kA.trans kB) hJ2 ⟨V.heap.size, V.heap.size + 1, ⟨by omega, by omega⟩, nA, nB, rfl⟩
  case body1 =>
    rintro l1 pre1 x1 a' W1 ⟨r1, hr1⟩ hk1 hj1 ⟨a1, b1, ⟨ha1, hb1⟩, bA1, bB1, rfl⟩
    have hs1 := hk1.size
    have S1 := S0.same hk1.at_
    have q1 : W1.cell? ⟨bs, 1, none⟩ = some (.int .i64 nh) := by rw [← f1]; exact S1.2.1
    have hn1 : 1 ≤ n - 1 - 1 := by omega
    gi_wp2_with (refine ⟨trivial, ?_⟩; gi_at_call 223; refine (CallsIn.inRound l1 (shares_in Fence.wide (n - 1 - 1 - 1) trivial rfl _ _)).mono ?_; rintro e w' ⟨rfl, rfl⟩)
    clear q1
    have K1 : KeepUp B bs W1 (W1.alloc (.cells #[.int .i64 nh] 3)) := .alloc _ (by omega)
    have bN1 := Boxed.new W1 3 (.int .i64 nh)
    have hr1' : (W1.alloc (.cells #[.int .i64 nh] 3)).heap[l1]? = some (.loop r1) := (Below.heap_alloc W1 _ l1 (Array.getElem?_eq_some_iff.1 hr1).1).trans hr1
    have szb1 : W1.heap.size < (W1.alloc (.cells #[.int .i64 nh] 3)).heap.size := by simp
    refine sharesLoopN (n := n - 1 - 1) (l₀ := l1) (r₀ := r1) (c := nh) (b := W1.heap.size) (B := B) (bs := bs) (by omega) hr1' hnh bN1 (by omega) (by rfl) (by rfl) hbs (fun pre V => J (pre1.flatMap (pk1 s nh nl ng) ++ pre.flatMap (pk2 s nl ng x1)) V) (fun pre V => ∃ q, q <+: (pre1.flatMap (pk1 s nh nl ng) ++ pre.flatMap (pk2 s nl ng x1)) ∧ Jx q V) (ownFrom_comp hJ _) (ownFrom_ex hJx _)
      (by simpa using hJ.alloc _ hj1) (fun x2 a' V => ∃ a2 b2, (B ≤ a2 ∧ B ≤ b2) ∧ Boxed V a2 3 (.int .i64 (cl x2.1)) ∧ Boxed V b2 3 (.int .i64 (cl x2.2)) ∧ a' = { tmps := #[.func (.yield l) #[] #[], .pointer (some ⟨bs, 0, none⟩), .pointer (some ⟨B, 0, none⟩), .pointer (some ⟨a1, 0, none⟩), .pointer (some ⟨b1, 0, none⟩), .pointer (some ⟨a2, 0, none⟩), .pointer (some ⟨b2, 0, none⟩), undef, undef, undef, undef, undef, .pointer (some ⟨bs, 0, none⟩), .int .i64 (nb : Nat), .func (.func 235) #[] #[.pointer (some ⟨B + 1, 0, none⟩)], .int .i64 (cl x1.1), .int .i64 (cl x1.2), .pointer (some ⟨bs, 1, none⟩), .int .i64 (nh : Nat), .func (.func 235) #[] #[.pointer (some ⟨W1.heap.size, 0, none⟩)], .int .i64 (cl x2.1), .int .i64 (cl x2.2), undef, undef, undef, undef, undef, undef, undef, undef, undef, undef, undef, undef, undef, undef, undef, undef, undef, undef, undef, undef, undef, undef, undef, undef, undef, undef, undef, undef], defers := [] }) (fun x a' _ X Y row hs hg hr => by obtain ⟨a2, b2, h0, h1, h2, h3⟩ := hs; exact ⟨a2, b2, h0, boxed_own a2 3 (fun (_ : Unit) => Value.int .i64 (cl x.1)) () X Y row h1 hg (fun r e => (hr r e).2), boxed_own b2 3 (fun (_ : Unit) => Value.int .i64 (cl x.2)) () X Y row h2 hg (fun r e => (hr r e).2), h3⟩) ?assign2 ?body2 ?done2 ?stop2
    case assign2 =>
      rintro l2 pre2 x2 V K hk hj hK
      have hsV := hk.size
      have kA : KeepUp B bs V (V.alloc (.cells #[.int .i64 (cl x2.1)] 3)) := .alloc _ (by omega)
      have kB : KeepUp B bs (V.alloc (.cells #[.int .i64 (cl x2.1)] 3)) ((V.alloc (.cells #[.int .i64 (cl x2.1)] 3)).alloc (.cells #[.int .i64 (cl x2.2)] 3)) := .alloc _ (by simp; omega)
      have nA := (Boxed.new V 3 (.int .i64 (cl x2.1))).alloc (.cells #[.int .i64 (cl x2.2)] 3)
      have nB := Boxed.new (V.alloc (.cells #[.int .i64 (cl x2.1)] 3)) 3 (.int .i64 (cl x2.2))
      rw [World.size_alloc] at nB
      have hJ2 := hJ.alloc (.cells #[.int .i64 (cl x2.2)] 3) (hJ.alloc (.cells #[.int .i64 (cl x2.1)] 3) hj)
      clear hk hj
      gi_wp2
      exact hK _ _ (kA.trans kB) hJ2 ⟨V.heap.size, V.heap.size + 1, ⟨by omega, by omega⟩, nA, nB, rfl⟩
    case body2 =>
      rintro l2 pre2 x2 a' W2 ⟨r2, hr2⟩ hk2 hj2 ⟨a2, b2, ⟨ha2, hb2⟩, bA2, bB2, rfl⟩
      have hs2 := hk2.size
      have S2 := S1.same (K1.trans hk2).at_
      have q2 : W2.cell? ⟨bs, 2, none⟩ = some (.int .i64 nl) := by rw [← f2]; exact S2.2.2.1
      have hn2 : 1 ≤ n - 1 - 1 - 1 - 1 := by omega
      gi_wp2_with (refine ⟨trivial, ?_⟩; gi_at_call 223; refine (CallsIn.inRound l2 (shares_in Fence.wide (n - 1 - 1 - 1 - 1 - 1) trivial rfl _ _)).mono ?_; rintro e w' ⟨rfl, rfl⟩)
      clear q2
      have K2 : KeepUp B bs W2 (W2.alloc (.cells #[.int .i64 nl] 3)) := .alloc _ (by omega)
      have bN2 := Boxed.new W2 3 (.int .i64 nl)
      have hr2' : (W2.alloc (.cells #[.int .i64 nl] 3)).heap[l2]? = some (.loop r2) := (Below.heap_alloc W2 _ l2 (Array.getElem?_eq_some_iff.1 hr2).1).trans hr2
      have szb2 : W2.heap.size < (W2.alloc (.cells #[.int .i64 nl] 3)).heap.size := by simp
      refine sharesLoopN (n := n - 1 - 1 - 1 - 1) (l₀ := l2) (r₀ := r2) (c := nl) (b := W2.heap.size) (B := B) (bs := bs) (by omega) hr2' hnl bN2 (by omega) (by rfl) (by rfl) hbs (fun pre V => J (pre1.flatMap (pk1 s nh nl ng) ++ pre2.flatMap (pk2 s nl ng x1) ++ pre.flatMap (pk3 s ng x1 x2)) V) (fun pre V => ∃ q, q <+: (pre1.flatMap (pk1 s nh nl ng) ++ pre2.flatMap (pk2 s nl ng x1) ++ pre.flatMap (pk3 s ng x1 x2)) ∧ Jx q V) (ownFrom_comp hJ _) (ownFrom_ex hJx _)
        (by simpa using hJ.alloc _ hj2) (fun x3 a' V => ∃ a3 b3, (B ≤ a3 ∧ B ≤ b3) ∧ Boxed V a3 3 (.int .i64 (cl x3.1)) ∧ Boxed V b3 3 (.int .i64 (cl x3.2)) ∧ a' = { tmps := #[.func (.yield l) #[] #[], .pointer (some ⟨bs, 0, none⟩), .pointer (some ⟨B, 0, none⟩), .pointer (some ⟨a1, 0, none⟩), .pointer (some ⟨b1, 0, none⟩), .pointer (some ⟨a2, 0, none⟩), .pointer (some ⟨b2, 0, none⟩), .pointer (some ⟨a3, 0, none⟩), .pointer (some ⟨b3, 0, none⟩), undef, undef, undef, .pointer (some ⟨bs, 0, none⟩), .int .i64 (nb : Nat), .func (.func 235) #[] #[.pointer (some ⟨B + 1, 0, none⟩)], .int .i64 (cl x1.1), .int .i64 (cl x1.2), .pointer (some ⟨bs, 1, none⟩), .int .i64 (nh : Nat), .func (.func 235) #[] #[.pointer (some ⟨W1.heap.size, 0, none⟩)], .int .i64 (cl x2.1), .int .i64 (cl x2.2), .pointer (some ⟨bs, 2, none⟩), .int .i64 (nl : Nat), .func (.func 235) #[] #[.pointer (some ⟨W2.heap.size, 0, none⟩)], .int .i64 (cl x3.1), .int .i64 (cl x3.2), undef, undef, undef, undef, undef, undef, undef, undef, undef, undef, undef, undef, undef, undef, undef, undef, undef, undef, undef, undef, undef, undef, undef], defers := [] }) (fun x a' _ X Y row hs hg hr => by obtain ⟨a3, b3, h0, h1, h2, h3⟩ := hs; exact ⟨a3, b3, h0, boxed_own a3 3 (fun (_ : Unit) => Value.int .i64 (cl x.1)) () X Y row h1 hg (fun r e => (hr r e).2), boxed_own b3 3 (fun (_ : Unit) => Value.int .i64 (cl x.2)) () X Y row h2 hg (fun r e => (hr r e).2), h3⟩) ?assign3 ?body3 ?done3 ?stop3
      case assign3 =>
        rintro l3 pre3 x3 V K hk hj hK
        have hsV := hk.size
        have kA : KeepUp B bs V (V.alloc (.cells #[.int .i64 (cl x3.1)] 3)) := .alloc _ (by omega)
        have kB : KeepUp B bs (V.alloc (.cells #[.int .i64 (cl x3.1)] 3)) ((V.alloc (.cells #[.int .i64 (cl x3.1)] 3)).alloc (.cells #[.int .i64 (cl x3.2)] 3)) := .alloc _ (by simp; omega)
        have nA := (Boxed.new V 3 (.int .i64 (cl x3.1))).alloc (.cells #[.int .i64 (cl x3.2)] 3)
        have nB := Boxed.new (V.alloc (.cells #[.int .i64 (cl x3.1)] 3)) 3 (.int .i64 (cl x3.2))
        rw [World.size_alloc] at nB
        have hJ2 := hJ.alloc (.cells #[.int .i64 (cl x3.2)] 3) (hJ.alloc (.cells #[.int .i64 (cl x3.1)] 3) hj)
        clear hk hj
        gi_wp2
        exact hK _ _ (kA.trans kB) hJ2 ⟨V.heap.size, V.heap.size + 1, ⟨by omega, by omega⟩, nA, nB, rfl⟩
      case body3 =>
        rintro l3 pre3 x3 a' W3 ⟨r3, hr3⟩ hk3 hj3 ⟨a3, b3, ⟨ha3, hb3⟩, bA3, bB3, rfl⟩
        have hs3 := hk3.size
        have S3 := S2.same (K2.trans hk3).at_
        have q3 : W3.cell? ⟨bs, 3, none⟩ = some (.int .i64 ng) := by rw [← f3]; exact S3.2.2.2.1
        have hn3 : 1 ≤ n - 1 - 1 - 1 - 1 - 1 - 1 := by omega
        gi_wp2_with (refine ⟨trivial, ?_⟩; gi_at_call 223; refine (CallsIn.inRound l3 (shares_in Fence.wide (n - 1 - 1 - 1 - 1 - 1 - 1 - 1) trivial rfl _ _)).mono ?_; rintro e w' ⟨rfl, rfl⟩)
        clear q3
        have K3 : KeepUp B bs W3 (W3.alloc (.cells #[.int .i64 ng] 3)) := .alloc _ (by omega)
        have bN3 := Boxed.new W3 3 (.int .i64 ng)
        have hr3' : (W3.alloc (.cells #[.int .i64 ng] 3)).heap[l3]? = some (.loop r3) := (Below.heap_alloc W3 _ l3 (Array.getElem?_eq_some_iff.1 hr3).1).trans hr3
        have szb3 : W3.heap.size < (W3.alloc (.cells #[.int .i64 ng] 3)).heap.size := by simp
        refine sharesLoopN (n := n - 1 - 1 - 1 - 1 - 1 - 1) (l₀ := l3) (r₀ := r3) (c := ng) (b := W3.heap.size) (B := B) (bs := bs) (by omega) hr3' hng bN3 (by omega) (by rfl) (by rfl) hbs (fun pre V => J (pre1.flatMap (pk1 s nh nl ng) ++ pre2.flatMap (pk2 s nl ng x1) ++ pre3.flatMap (pk3 s ng x1 x2) ++ pre.flatMap (pk4 s x1 x2 x3)) V) (fun pre V => ∃ q, q <+: (pre1.flatMap (pk1 s nh nl ng) ++ pre2.flatMap (pk2 s nl ng x1) ++ pre3.flatMap (pk3 s ng x1 x2) ++ pre.flatMap (pk4 s x1 x2 x3)) ∧ Jx q V) (ownFrom_comp hJ _) (ownFrom_ex hJx _)
          (by simpa using hJ.alloc _ hj3) (fun x4 a' _ => a' = { tmps := #[.func (.yield l) #[] #[], .pointer (some ⟨bs, 0, none⟩), .pointer (some ⟨B, 0, none⟩), .pointer (some ⟨a1, 0, none⟩), .pointer (some ⟨b1, 0, none⟩), .pointer (some ⟨a2, 0, none⟩), .pointer (some ⟨b2, 0, none⟩), .pointer (some ⟨a3, 0, none⟩), .pointer (some ⟨b3, 0, none⟩), .int .i64 (cl x4.1), .int .i64 (cl x4.2), undef, .pointer (some ⟨bs, 0, none⟩), .int .i64 (nb : Nat), .func (.func 235) #[] #[.pointer (some ⟨B + 1, 0, none⟩)], .int .i64 (cl x1.1), .int .i64 (cl x1.2), .pointer (some ⟨bs, 1, none⟩), .int .i64 (nh : Nat), .func (.func 235) #[] #[.pointer (some ⟨W1.heap.size, 0, none⟩)], .int .i64 (cl x2.1), .int .i64 (cl x2.2), .pointer (some ⟨bs, 2, none⟩), .int .i64 (nl : Nat), .func (.func 235) #[] #[.pointer (some ⟨W2.heap.size, 0, none⟩)], .int .i64 (cl x3.1), .int .i64 (cl x3.2), .pointer (some ⟨bs, 3, none⟩), .int .i64 (ng : Nat), .func (.func 235) #[] #[.pointer (some ⟨W3.heap.size, 0, none⟩)], .int .i64 (cl x4.1), .int .i64 (cl x4.2), undef, undef, undef, undef, undef, undef, undef, undef, undef, undef, undef, undef, undef, undef, undef, undef, undef, undef], defers := [] }) (fun _ _ _ _ _ _ hs _ _ => hs) ?assign4 ?body4 ?done4 ?stop4
        case assign4 =>
          rintro l4 pre4 x4 V K hk hj hK
          have hsV := hk.size
          gi_wp2
          exact hK _ _ (.refl _ _ _) hj rfl
        case body4 =>
          rintro l4 pre4 x4 a' W4 - hk4 hj4 rfl
          have hs4 := hk4.size
          have T3 := K3.trans hk4
          have T2 := (K2.trans hk3).trans T3
          have T1 := (K1.trans hk2).trans T2
          have T0 := hk1.trans T1
          have y0 := (T0.box bY0 (Nat.le_refl _)).cell
          have ca1 := (T1.box bA1 ha1).cell
          have cb1 := (T1.box bB1 hb1).cell
          have ca2 := (T2.box bA2 ha2).cell
          have cb2 := (T2.box bB2 hb2).cell
          have ca3 := (T3.box bA3 ha3).cell
          have cb3 := (T3.box bB3 hb3).cell
          have k5 : KeepUp B bs W4 (W4.alloc (.cells #[.int .i64 (cl x1.1), .int .i64 (cl x1.2), .int .i64 (cl x2.1), .int .i64 (cl x2.2), .int .i64 (cl x3.1), .int .i64 (cl x3.2), .int .i64 (cl x4.1), .int .i64 (cl x4.2)] 64)) := .alloc _ (by omega)
          have p5 := PickAt.new W4 64 (mkP x1 x2 x3 x4)
          change PickAt (W4.alloc (.cells #[.int .i64 (cl x1.1), .int .i64 (cl x1.2), .int .i64 (cl x2.1), .int .i64 (cl x2.2), .int .i64 (cl x3.1), .int .i64 (cl x3.2), .int .i64 (cl x4.1), .int .i64 (cl x4.2)] 64)) W4.heap.size (mkP x1 x2 x3 x4) at p5
          have j5 := hJ.alloc (.cells #[.int .i64 (cl x1.1), .int .i64 (cl x1.2), .int .i64 (cl x2.1), .int .i64 (cl x2.2), .int .i64 (cl x3.1), .int .i64 (cl x3.2), .int .i64 (cl x4.1), .int .i64 (cl x4.2)] 64) hj4
          have hl5 : bs < (W4.alloc (.cells #[.int .i64 (cl x1.1), .int .i64 (cl x1.2), .int .i64 (cl x2.1), .int .i64 (cl x2.2), .int .i64 (cl x3.1), .int .i64 (cl x3.2), .int .i64 (cl x4.1), .int .i64 (cl x4.2)] 64)).heap.size := by simp; omega
          obtain ⟨g0, g1, g2, g3, -⟩ := S0.same (T0.trans k5).at_
          rw [f0] at g0; rw [f1] at g1; rw [f2] at g2; rw [f3] at g3
          generalize hX5 : W4.alloc (.cells #[.int .i64 (cl x1.1), .int .i64 (cl x1.2), .int .i64 (cl x2.1), .int .i64 (cl x2.2), .int .i64 (cl x3.1), .int .i64 (cl x3.2), .int .i64 (cl x4.1), .int .i64 (cl x4.2)] 64) = W5 at k5 p5 j5 hl5 g0 g1 g2 g3
          have p6 := Lib.hid p5
          obtain ⟨v0, v1, v2, v3, v4, v5, v6, v7, -⟩ := p5
          simp only [mkP] at v0 v1 v2 v3 v4 v5 v6 v7
          have hn4 : 1 ≤ n - 1 - 1 - 1 - 1 - 1 - 1 - 1 - 1 := by omega
          gi_wp2_with fail
          refine ⟨trivial, ?_⟩
          refine (CallsIn.inRound l4 (callsIn_wide.2 (CP.out x1 x2 x3 x4 _))).mono ?_
          rintro e w5 ⟨rfl, b5⟩
          have k6 := k5.trans (.of_below b5 hl5)
          have j6 := hJ _ _ _ none j5 ⟨b5.os, b5.tape, b5.output, b5.size, fun k hk _ => b5.block k hk⟩ (fun r e => by cases e)
          have y6 := ((T0.trans k6).box bY0 (Nat.le_refl _)).cell
          obtain ⟨u0, u1, u2, u3, u4, u5, u6, u7, -⟩ := p6.out.below b5
          simp only [mkP] at u0 u1 u2 u3 u4 u5 u6 u7
          clear k5 p6 j5 hl5 b5 y0 ca1 ca2 ca3 cb1 cb2 cb3 g0 g1 g2 g3 CP v0 v1 v2 v3 v4 v5 v6 v7 hX5
          cases ht : pickB s (mkP x1 x2 x3 x4) with
          | false =>
            gi_wp2
            refine ⟨fun _ h => (by cases h), ?_⟩
            gi_wp2
            exact ⟨k6, by simpa [pk4, ht] using j6⟩
          | true =>
            obtain ⟨fn, tmps, assign, body, hy, hR⟩ := hY (n - 1 - 1 - 1 - 1 - 1 - 1 - 1 - 1 - 1) _ (mkP x1 x2 x3 x4) w5 j6 ht
            simp only [pickV, mkP] at hy
            gi_wp2
            refine RoundIn.mono (show RoundIn ((Fence.wide.inRound l3).inRound l4) _ _ _ _ _ _ _ _ _ from hR) ?_
            rintro e W6 ⟨hk6, (⟨rfl, hJ6⟩ | ⟨rfl, hx6⟩)⟩
            · gi_wp2
              exact ⟨k6.trans hk6, by simpa [pk4, ht] using hJ6⟩
            · gi_wp2
              exact ⟨k6.trans hk6, _, (by simp [pk4, ht]), hx6⟩
        case done4 =>
          rintro V hk hj
          gi_wp2
          exact ⟨K3.trans hk, by simpa [pk3] using hj⟩
        case stop4 =>
          rintro pre V hp hk ⟨q, hq, hx⟩
          gi_wp2
          refine ⟨K3.trans hk, q, hq.trans ?_, hx⟩
          have h := (List.prefix_append_right_inj (pre1.flatMap (pk1 s nh nl ng) ++ pre2.flatMap (pk2 s nl ng x1) ++ pre3.flatMap (pk3 s ng x1 x2))).2 (flatMap_prefix (pk4 s x1 x2 x3) hp)
          simpa [pk3] using h
      case done3 =>
        rintro V hk hj
        gi_wp2
        exact ⟨K2.trans hk, by simpa [pk2] using hj⟩
      case stop3 =>
        rintro pre V hp hk ⟨q, hq, hx⟩
        gi_wp2
        refine ⟨K2.trans hk, q, hq.trans ?_, hx⟩
        have h := (List.prefix_append_right_inj (pre1.flatMap (pk1 s nh nl ng) ++ pre2.flatMap (pk2 s nl ng x1))).2 (flatMap_prefix (pk3 s ng x1 x2) hp)
        simpa [pk2] using h
    case done2 =>
      rintro V hk hj
      gi_wp2
      exact ⟨K1.trans hk, by simpa [pk1] using hj⟩
    case stop2 =>
      rintro pre V hp hk ⟨q, hq, hx⟩
      gi_wp2
      refine ⟨K1.trans hk, q, hq.trans ?_, hx⟩
      have h := (List.prefix_append_right_inj (pre1.flatMap (pk1 s nh nl ng))).2 (flatMap_prefix (pk2 s nl ng x1) hp)
      simpa [pk1] using h
  case done1 =>
    rintro D V hD hk hj hK
    gi_wp2
    refine ⟨by simp, .inl ⟨_, _, rfl, run_takeDeferred hK, ?_⟩⟩
    exact ⟨_, results_none rfl _ _ _, ⟨_, rfl⟩, .inl (hJ.putObj _ (by rw [hall]; exact hj) (by omega) hK rfl)⟩
  case stop1 =>
    rintro D pre V hD hp hk ⟨q, hq, hx⟩ hK
    gi_wp2
    refine ⟨by simp, .inl ⟨_, _, rfl, run_takeDeferred hK, ?_⟩⟩
    exact ⟨_, results_none rfl _ _ _, ⟨_, rfl⟩, .inr ⟨q, by rw [hall]; exact hq.trans (flatMap_prefix _ hp), hJx.putObj _ hx (by omega) hK rfl⟩⟩
end Go.Proofs.YtlflblngbneacabGreatDoor

/- A loop over what the program's picksOf returns: the caller's word. The iterator lays and turns blocks of its own between the rounds, so that the caller's invariant must bear the turn of whatever block is no cells and is younger than the loop. Conditions: a valid state; the body keeps what is younger than the loop. -/
namespace Go.Proofs.YtlflblngbneacabGreatDoor
open Go.RowKit Go.Shelf

/-- How a round's body may be left: on with the loop, or by a return. -/
def pickPost (B bs : Nat) (I Ix : List PD → World → Prop) (xs : List PD) (W : World) : Exit → Act → World → Prop
  | .normal, _, W' => KeepUp B bs W W' ∧ I xs W'
  | .ret, _, W' => KeepUp B bs W W' ∧ Ix xs W'
  | _, _, _ => False

theorem KeepUp.up_ {B B' bs : Nat} {V V' : World} (h : KeepUp B bs V V') (hB : B ≤ B') : KeepUp B' bs V V' := ⟨h.size, fun k hk hl => h.up k (by omega) hl, h.at_⟩
theorem ownFrom_block {β : Type} {B k : Nat} {o : Obj} (hk : k < B) : OwnFrom B (fun (_ : β) W => W.heap[k]? = some o) := fun _ X Y row hs hg hr =>
  (hg.block k (Array.getElem?_eq_some_iff.1 hs).1 (fun e => by have := (hr k e.symm).1; omega)).trans hs

set_option maxHeartbeats 1000000 in
theorem picksLoop {g : Operand} {ps : Array Tmp} {assign body : Code} {Q : Exit → Act → World → Prop} {a : Act} {w : World} {n bs nb nh nl ng : Nat} (hs : SIn ⟨nb, nh, nl, ng⟩) (hn : 23 ≤ n) (hS : StateAt w bs ⟨nb, nh, nl, ng⟩)
    (hg : a.eval g = .func (.func 222) #[] #[.pointer (some ⟨bs, 0, none⟩)]) (hps : ps.size = 1)
    (I Ix : List PD → World → Prop) (hI : OwnFrom w.heap.size I) (hIx : OwnFrom w.heap.size Ix) (h0 : I [] w) (Ax : PD → Act → World → Prop) (hAx : ∀ p a', OwnFrom w.heap.size (fun (_ : Unit) W => Ax p a' W))
    (hassign : ∀ (l : Nat) (pre : List PD) (p : PD) (W : World) (K : Act → World → Prop), w.heap.size ≤ W.heap.size → I pre W → (∀ a' W', KeepUp w.heap.size bs W W' → I pre W' → Ax p a' W' → K a' W') →
      assign.wpIn (Fence.wide.inRound l) (n - 1 - 1) Tryz.prog (Exit.then K (fun _ _ _ => False)) { tmps := (ps.zip #[pickV p]).foldl (fun t (p, v) => t.setIfInBounds p v) a.tmps, defers := [] } W)
    (hbody : ∀ (l : Nat) (pre : List PD) (p : PD) (a' : Act) (W : World), w.heap.size ≤ W.heap.size → I pre W → Ax p a' W → pickB ⟨nb, nh, nl, ng⟩ p = true → body.wpIn (Fence.wide.inRound l) (n - 1 - 1) Tryz.prog (pickPost w.heap.size bs I Ix (pre ++ [p]) W) a' W)
    (hdone : ∀ D W, w.heap.size ≤ D → I (picksN ⟨nb, nh, nl, ng⟩ nb nh nl ng) W → W.heap[D]? = some (.deferred (some [])) → Q .normal { a with defers := { target := .collected D, args := #[] } :: a.defers } W)
    (hstop : ∀ D pre W, w.heap.size ≤ D → pre <+: picksN ⟨nb, nh, nl, ng⟩ nb nh nl ng → Ix pre W → W.heap[D]? = some (.deferred (some [])) → Code.ret.wpIn Fence.wide n Tryz.prog Q { a with defers := { target := .collected D, args := #[] } :: a.defers } W) :
    (Code.rangeFunc g ps assign body).wpIn Fence.wide n Tryz.prog Q a w := by
  have hbs : bs < w.heap.size := hS.2.2.2.2
  refine wpIn_rangeFunc fun fn _ => ?_
  obtain ⟨rc, hrc⟩ : ∃ rc : LoopState → Option Code → Loop, rc = fun st pe => { state := st, pending := pe, fn, tmps := a.tmps, params := ps, assign, body, defers := w.heap.size } := ⟨_, rfl⟩
  obtain ⟨X, hX⟩ : ∃ X, (w.alloc (.deferred (some []))).alloc (.loop (rc .ready none)) = X := ⟨_, rfl⟩
  have hXs : X.heap.size = w.heap.size + 2 := by rw [← hX]; simp
  have hL : X.heap[w.heap.size + 1]? = some (.loop (rc .ready none)) := by
    rw [← hX]; have := World.alloc_heap_new (w.alloc (.deferred (some []))) (.loop (rc .ready none)); rwa [World.size_alloc] at this
  have hD : X.heap[w.heap.size]? = some (.deferred (some [])) := by
    rw [← hX]; exact (Below.heap_alloc _ _ _ (by simp)).trans (World.alloc_heap_new w _)
  have hIX : I [] X := by rw [← hX]; exact hI.alloc _ (hI.alloc _ h0)
  have hSX : StateAt X bs ⟨nb, nh, nl, ng⟩ := hS.below (by rw [← hX]; exact ((Below.refl _ w).alloc (Nat.le_refl _) _).alloc (by simp) _)
  refine ⟨w.heap.size + 1, [{ target := .collected w.heap.size, args := #[] }], X, { target := .fn (.func 222) #[.pointer (some ⟨bs, 0, none⟩)], args := #[.func (.yield (w.heap.size + 1)) #[] #[]] }, X, 222,
    #[.func (.yield (w.heap.size + 1)) #[] #[], .pointer (some ⟨bs, 0, none⟩)], X, ?_, ?_, fun _ _ => trivial, ?_, fun h => by simp [Fence.wide] at h, ?_⟩
  · rw [← hX, hrc]; exact run_enterLoop_outer _ _ _ _ _
  · simp only [resolve, hg]
    simp [go_sem]
  · simp [invoke, go_sem]
  · refine (picks1_in nb nh nl ng hs (n - 1) (by omega) (w.heap.size + 1) bs X hSX
      (fun pre V => (I pre V ∧ w.heap.size + 2 ≤ V.heap.size) ∧ (V.heap[w.heap.size + 1]? = some (.loop (rc .ready none)) ∧ V.heap[w.heap.size]? = some (.deferred (some []))))
      (fun pre V => Ix pre V ∧ (V.heap[w.heap.size + 1]? = some (.loop (rc .done (some .ret))) ∧ V.heap[w.heap.size]? = some (.deferred (some []))))
      (OwnFrom.and (OwnFrom.and (ownFrom_up hI (by omega)) (fun _ A B row hs hg _ => Nat.le_trans hs hg.size)) (OwnFrom.and (ownFrom_block (by omega)) (ownFrom_block (by omega))))
      (OwnFrom.and (ownFrom_up hIx (by omega)) (OwnFrom.and (ownFrom_block (by omega)) (ownFrom_block (by omega))))
      ?_ ⟨⟨hIX, by omega⟩, hL, hD⟩).mono ?_
    · -- one round
      rintro m pre p V ⟨⟨hi, hVs⟩, hl, hk⟩ hp
      refine yieldAny (m := n - 1 - 1) ?_
      have hy := run_yield (P := Tryz.prog) (args := #[pickV p]) hl (by rw [hrc]; exact hps.symm)
      rw [hrc] at hy
      refine ⟨fn, _, assign, body, hy, roundIn_of_wpIn trivial (hassign _ pre p V _ (by omega) hi ?_)⟩
      clear hy
      intro a' V2 hk2 hi2 hax
      have hl2 : V2.heap[w.heap.size + 1]? = some (.loop (rc .ready none)) := (hk2.up _ (by omega) (by omega)).trans hl
      have hd2 : V2.heap[w.heap.size]? = some (.deferred (some [])) := (hk2.up _ (by omega) (by omega)).trans hk
      have hlt2 : w.heap.size + 1 < V2.heap.size := (Array.getElem?_eq_some_iff.1 hl2).1
      refine ⟨_, run_beginRound hl2 (by rw [hrc]), ?_⟩
      obtain ⟨V3, hV3⟩ : ∃ V3, V2.putObj (w.heap.size + 1) (.loop { rc .ready none with state := .busy }) = V3 := ⟨_, rfl⟩
      rw [hV3]
      have hl3 : V3.heap[w.heap.size + 1]? = some (.loop { rc .ready none with state := .busy }) := by rw [← hV3]; exact World.putObj_heap_same hlt2
      have hd3 : V3.heap[w.heap.size]? = some (.deferred (some [])) := by rw [← hV3]; exact (World.putObj_heap_other (by omega)).trans hd2
      have hs3 : V3.heap.size = V2.heap.size := by rw [← hV3]; simp
      have hi3 : I pre V3 := by rw [← hV3]; exact hI.putObj _ hi2 (by omega) hl2 rfl
      have hax3 : Ax p a' V3 := by rw [← hV3]; exact (hAx p a').putObj (s := ()) _ hax (by omega) hl2 rfl
      have k23 : KeepUp X.heap.size bs V2 V3 := by rw [← hV3]; exact ⟨by simp, fun k hk _ => World.putObj_heap_other (by omega), World.putObj_heap_other (by omega)⟩
      have k13 : KeepUp X.heap.size bs V V3 := (hk2.up_ (by omega)).trans k23
      refine wpIn_mono (hbody _ pre p a' V3 (by omega) hi3 hax3 hp) ?_
      have fin : ∀ (jump : Option Code) (V4 : World), KeepUp w.heap.size bs V3 V4 →
          (Instr.endRound (w.heap.size + 1) jump).run Tryz.prog V4 = .ok (.bool jump.isNone) (V4.putObj (w.heap.size + 1) (.loop (rc (if jump.isNone then .ready else .done) jump))) ∧
          V4.heap[w.heap.size + 1]? = some (.loop { rc .ready none with state := .busy }) ∧
          (V4.putObj (w.heap.size + 1) (.loop (rc (if jump.isNone then .ready else .done) jump))).heap[w.heap.size + 1]? = some (.loop (rc (if jump.isNone then .ready else .done) jump)) ∧
          (V4.putObj (w.heap.size + 1) (.loop (rc (if jump.isNone then .ready else .done) jump))).heap[w.heap.size]? = some (.deferred (some [])) ∧
          KeepUp X.heap.size bs V (V4.putObj (w.heap.size + 1) (.loop (rc (if jump.isNone then .ready else .done) jump))) := fun jump V4 hk4 => by
        have hl4 := (hk4.up _ (by omega) (by omega)).trans hl3
        have hd4 := (hk4.up _ (by omega) (by omega)).trans hd3
        have he := run_endRound (P := Tryz.prog) jump hl4
        rw [hrc] at he ⊢
        refine ⟨he, by rw [hrc] at hl4; exact hl4, World.putObj_heap_same (Array.getElem?_eq_some_iff.1 hl4).1, (World.putObj_heap_other (by omega)).trans hd4, ?_⟩
        exact (k13.trans (hk4.up_ (by omega))).trans ⟨by simp, fun k hk _ => World.putObj_heap_other (by omega), World.putObj_heap_other (by omega)⟩
      rintro e a3 V4 hq
      cases e with
      | normal =>
        obtain ⟨hk4, hi4⟩ := hq
        obtain ⟨hr, hl4, hl5, hd5, hk5⟩ := fin none V4 hk4
        exact ⟨_, _, hr, hk5, .inl ⟨rfl, ⟨hI.putObj _ hi4 (by omega) hl4 rfl, Nat.le_trans hVs hk5.size⟩, hl5, hd5⟩⟩
      | ret =>
        obtain ⟨hk4, hi4⟩ := hq
        obtain ⟨hr, hl4, hl5, hd5, hk5⟩ := fin (some .ret) V4 hk4
        exact ⟨_, _, hr, hk5, .inr ⟨rfl, hIx.putObj _ hi4 (by omega) hl4 rfl, hl5, hd5⟩⟩
      | exit _ => exact hq.elim
      | goto _ => exact hq.elim
      | panic _ => exact hq.elim
      | outgrown => exact hq.elim
    · -- behind the iterator
      rintro e V ⟨⟨v, rfl⟩, (⟨⟨hi, -⟩, hl, hk⟩ | ⟨pre, hp, hi, hl, hk⟩)⟩
      · exact ⟨none, _, by have := run_endLoop (P := Tryz.prog) hl (by rw [hrc]; simp); rw [hrc] at this; exact this, hdone _ _ (Nat.le_refl _) (hI.putObj _ hi (by omega) hl rfl) ((World.putObj_heap_other (by omega)).trans hk)⟩
      · exact ⟨some .ret, _, by have := run_endLoop (P := Tryz.prog) hl (by rw [hrc]; simp); rw [hrc] at this; exact this, hstop _ pre _ (Nat.le_refl _) hp (hIx.putObj _ hi (by omega) hl rfl) ((World.putObj_heap_other (by omega)).trans hk)⟩
end Go.Proofs.YtlflblngbneacabGreatDoor
