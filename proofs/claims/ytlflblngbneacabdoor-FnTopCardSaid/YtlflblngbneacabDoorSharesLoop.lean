/- A loop over what the program's shares returns, as an outermost loop and within a round of another: the caller's word on what it keeps. Condition: a number of coins. -/
import Derived.Test.YtlflblngbneacabDoorShares
namespace Go.Proofs.YtlflblngbneacabDoor
open Go.RowKit Go.Shelf

/-- Whatever lies from block B on, and block bs, lies as it lay. -/
structure KeepUp (B bs : Nat) (V V' : World) : Prop where
  size : V.heap.size ≤ V'.heap.size
  up : ∀ k, B ≤ k → k < V.heap.size → V'.heap[k]? = V.heap[k]?
  at_ : V'.heap[bs]? = V.heap[bs]?

theorem KeepUp.refl (B bs : Nat) (V : World) : KeepUp B bs V V := ⟨Nat.le_refl _, fun _ _ _ => rfl, rfl⟩
theorem KeepUp.trans {B bs : Nat} {X Y Z : World} (h : KeepUp B bs X Y) (k : KeepUp B bs Y Z) : KeepUp B bs X Z :=
  ⟨Nat.le_trans h.size k.size, fun i hB hi => (k.up i hB (Nat.lt_of_lt_of_le hi h.size)).trans (h.up i hB hi), k.at_.trans h.at_⟩
theorem KeepUp.of_below {B bs : Nat} {V V' : World} (h : Below V.heap.size V V') (hb : bs < V.heap.size) : KeepUp B bs V V' := ⟨h.size, fun k _ hk => h.block k hk, h.block bs hb⟩
theorem KeepUp.alloc {B bs : Nat} {V : World} (o : Obj) (hb : bs < V.heap.size) : KeepUp B bs V (V.alloc o) := .of_below ((Below.refl _ V).alloc (Nat.le_refl _) o) hb
theorem KeepUp.box {B bs : Nat} {V V' : World} (h : KeepUp B bs V V') {b : Nat} {t : TypeId} {v : Value} (hb : Boxed V b t v) (hB : B ≤ b) : Boxed V' b t v := (h.up b hB hb.lt).trans hb
theorem KeepUp.from {B bs B' : Nat} {V V' : World} (h : KeepUp B bs V V') (hB : B ≤ B') : KeepsFrom B' V V' :=
  ⟨h.size, fun k o hk ho _ => (h.up k (by omega) (Array.getElem?_eq_some_iff.1 ho).1).trans ho⟩
theorem KeepUp.same {B bs b : Nat} {V V' : World} (h : KeepUp B bs V V') (hB : B ≤ b) (hb : b < V.heap.size) : SameAt b V V' := h.up b hB hb
theorem ownFrom_keepUp {β : Type} {B bs B' : Nat} {V0 : World} (h1 : V0.heap.size ≤ B') (h2 : bs < V0.heap.size) : OwnFrom B' (fun (_ : β) W => KeepUp B bs V0 W) :=
  fun _ X Y row hs hg hr => ⟨Nat.le_trans hs.size hg.size, fun k hB hk => (hg.block k (Nat.lt_of_lt_of_le hk hs.size) (fun e => by have := (hr k e.symm).1; omega)).trans (hs.up k hB hk),
    (hg.block bs (Nat.lt_of_lt_of_le h2 hs.size) (fun e => by have := (hr bs e.symm).1; omega)).trans hs.at_⟩
theorem ownFrom_up {β : Type} {B B' : Nat} {I : β → World → Prop} (h : OwnFrom B I) (hB : B ≤ B') : OwnFrom B' I := fun s X Y row hs hg hr => h s X Y row hs hg fun r e => ⟨Nat.le_trans hB (hr r e).1, (hr r e).2⟩

/-- How a round's body may be left: on with the loop, or by a return. -/
def levelPost (B bs : Nat) (J Jx : List (Nat × Nat) → World → Prop) (xs : List (Nat × Nat)) (W : World) : Exit → Act → World → Prop
  | .normal, _, W' => KeepUp B bs W W' ∧ J xs W'
  | .ret, _, W' => KeepUp B bs W W' ∧ Jx xs W'
  | _, _, _ => False

section
variable {g : Operand} {ps : Array Tmp} {assign body : Code} {Q : Exit → Act → World → Prop} {a : Act} {w : World} {n c b B bs : Nat}

/-- The loop within a round of loop l₀. -/
theorem sharesLoopN {l₀ : Nat} {r₀ : Loop} (hn : 3 ≤ n) (hl₀ : w.heap[l₀]? = some (.loop r₀)) (hc : c ≤ 13) (hb : Boxed w b 3 (.int .i64 c)) (hBb : B ≤ b) (hg : a.eval g = .func (.func 176) #[] #[.pointer (some ⟨b, 0, none⟩)]) (hps : ps.size = 2)
    (hbs : bs < B) (J Jx : List (Nat × Nat) → World → Prop) (hJ : OwnFrom B J) (hJx : OwnFrom B Jx) (h0 : J [] w)
    (Ax : Nat × Nat → Act → World → Prop) (hAx : ∀ x a', OwnFrom w.heap.size (fun (_ : Unit) W => Ax x a' W))
    (hassign : ∀ (l : Nat) (pre : List (Nat × Nat)) (x : Nat × Nat) (W : World) (K : Act → World → Prop), KeepUp B bs w W → J pre W → (∀ a' W', KeepUp B bs W W' → J pre W' → Ax x a' W' → K a' W') →
      assign.wpIn ((Fence.wide.inRound l₀).inRound l) (n - 1 - 1) Tryd.prog (Exit.then K (fun _ _ _ => False)) { tmps := (ps.zip #[Value.int .i64 (cl x.1), .int .i64 (cl x.2)]).foldl (fun t (p, v) => t.setIfInBounds p v) a.tmps, defers := [] } W)
    (hbody : ∀ (l : Nat) (pre : List (Nat × Nat)) (x : Nat × Nat) (a' : Act) (W : World), (∃ r, W.heap[l]? = some (.loop r)) → KeepUp B bs w W → J pre W → Ax x a' W → body.wpIn ((Fence.wide.inRound l₀).inRound l) (n - 1 - 1) Tryd.prog (levelPost B bs J Jx (pre ++ [x]) W) a' W)
    (hdone : ∀ W, KeepUp B bs w W → J (pairsL c) W → Q .normal a W)
    (hstop : ∀ pre W, pre <+: pairsL c → KeepUp B bs w W → Jx pre W → Code.ret.wpIn (Fence.wide.inRound l₀) n Tryd.prog Q a W) :
    (Code.rangeFunc g ps assign body).wpIn (Fence.wide.inRound l₀) n Tryd.prog Q a w := by
  have hbw := hb.lt
  refine wpIn_rangeFunc_ownN (l₀ := l₀) (r₀ := r₀) rfl hl₀ (by omega) (gf := 176) (lb := #[.pointer (some ⟨b, 0, none⟩)]) hg trivial (enters_of Tryd.func176 (by kernel_rfl) rfl)
    ((shares_stops Fence.wide (n - 1) trivial rfl (by omega) b c hc w hb).inRound l₀) (fun h k => Eq.trans k h) (fun W l o o' hl _ _ _ => World.putObj_heap_other (by omega)) (Below.refl _ _) (fun _ => hps.symm)
    (fun pre W => J pre W ∧ KeepUp B bs w W) (fun c' pre W => (c' = .ret ∧ Jx pre W) ∧ KeepUp B bs w W)
    (OwnFrom.and (ownFrom_up hJ (by omega)) (ownFrom_keepUp (Nat.le_refl _) (by omega))) (fun c' => OwnFrom.and (OwnFrom.and (ownFrom_pure _ _) (ownFrom_up hJx (by omega))) (ownFrom_keepUp (Nat.le_refl _) (by omega)))
    ⟨h0, .refl _ _ _⟩ Ax hAx ?assign ?body ?done ?stop
  case assign =>
    rintro l pre x W K ⟨hj, hk⟩ hK
    exact hassign l pre x W K hk hj fun a' W' hkW hj' hax => hK a' W' (hkW.from (by omega)) (hkW.same hBb (Nat.lt_of_lt_of_le hbw hk.size)) ⟨hj', hk.trans hkW⟩ hax
  case body =>
    rintro l pre x a' W hl hr ⟨hj, hk⟩ hax _
    refine wpIn_mono (hbody l pre x a' W hr hk hj hax) fun e a3 W3 hp => ?_
    have hbW : b < W.heap.size := Nat.lt_of_lt_of_le hbw hk.size
    cases e with
    | normal => exact ⟨hp.1.from (by omega), hp.1.same hBb hbW, hp.2, hk.trans hp.1⟩
    | ret => exact ⟨hp.1.from (by omega), ⟨rfl, hp.2⟩, hk.trans hp.1⟩
    | exit _ => exact hp.elim
    | goto _ => exact hp.elim
    | panic _ => exact hp.elim
    | outgrown => exact hp.elim
  case done =>
    rintro xs W rfl ⟨hj, hk⟩
    exact hdone W hk hj
  case stop =>
    rintro c' pre W hp ⟨⟨rfl, hj⟩, hk⟩
    exact hstop pre W hp hk hj

/-- The loop as an outermost one. -/
theorem sharesLoopH (hn : 3 ≤ n) (hc : c ≤ 13) (hb : Boxed w b 3 (.int .i64 c)) (hBb : B ≤ b) (hg : a.eval g = .func (.func 176) #[] #[.pointer (some ⟨b, 0, none⟩)]) (hps : ps.size = 2)
    (hbs : bs < B) (J Jx : List (Nat × Nat) → World → Prop) (hJ : OwnFrom B J) (hJx : OwnFrom B Jx) (h0 : J [] w)
    (Ax : Nat × Nat → Act → World → Prop) (hAx : ∀ x a', OwnFrom w.heap.size (fun (_ : Unit) W => Ax x a' W))
    (hassign : ∀ (l : Nat) (pre : List (Nat × Nat)) (x : Nat × Nat) (W : World) (K : Act → World → Prop), KeepUp B bs w W → J pre W → (∀ a' W', KeepUp B bs W W' → J pre W' → Ax x a' W' → K a' W') →
      assign.wpIn (Fence.wide.inRound l) (n - 1 - 1) Tryd.prog (Exit.then K (fun _ _ _ => False)) { tmps := (ps.zip #[Value.int .i64 (cl x.1), .int .i64 (cl x.2)]).foldl (fun t (p, v) => t.setIfInBounds p v) a.tmps, defers := [] } W)
    (hbody : ∀ (l : Nat) (pre : List (Nat × Nat)) (x : Nat × Nat) (a' : Act) (W : World), (∃ r, W.heap[l]? = some (.loop r)) → KeepUp B bs w W → J pre W → Ax x a' W → body.wpIn (Fence.wide.inRound l) (n - 1 - 1) Tryd.prog (levelPost B bs J Jx (pre ++ [x]) W) a' W)
    (hdone : ∀ D W, w.heap.size ≤ D → KeepUp B bs w W → J (pairsL c) W → W.heap[D]? = some (.deferred (some [])) → Q .normal { a with defers := { target := .collected D, args := #[] } :: a.defers } W)
    (hstop : ∀ D pre W, w.heap.size ≤ D → pre <+: pairsL c → KeepUp B bs w W → Jx pre W → W.heap[D]? = some (.deferred (some [])) → Code.ret.wpIn Fence.wide n Tryd.prog Q { a with defers := { target := .collected D, args := #[] } :: a.defers } W) :
    (Code.rangeFunc g ps assign body).wpIn Fence.wide n Tryd.prog Q a w := by
  have hbw := hb.lt
  refine wpIn_rangeFunc_ownH rfl (by omega) (gf := 176) (lb := #[.pointer (some ⟨b, 0, none⟩)]) hg trivial (enters_of Tryd.func176 (by kernel_rfl) rfl)
    (shares_stops Fence.wide (n - 1) trivial rfl (by omega) b c hc w hb) (fun h k => Eq.trans k h) (fun W l o o' hl _ _ _ => World.putObj_heap_other (by omega)) (Below.refl _ _) (fun _ => hps.symm)
    (fun pre W => J pre W ∧ KeepUp B bs w W) (fun c' pre W => (c' = .ret ∧ Jx pre W) ∧ KeepUp B bs w W)
    (OwnFrom.and (ownFrom_up hJ (by omega)) (ownFrom_keepUp (Nat.le_refl _) (by omega))) (fun c' => OwnFrom.and (OwnFrom.and (ownFrom_pure _ _) (ownFrom_up hJx (by omega))) (ownFrom_keepUp (Nat.le_refl _) (by omega)))
    ⟨h0, .refl _ _ _⟩ Ax hAx ?assign ?body ?done ?stop
  case assign =>
    rintro l pre x W K ⟨hj, hk⟩ hK
    exact hassign l pre x W K hk hj fun a' W' hkW hj' hax => hK a' W' (hkW.from (by omega)) (hkW.same hBb (Nat.lt_of_lt_of_le hbw hk.size)) ⟨hj', hk.trans hkW⟩ hax
  case body =>
    rintro l pre x a' W hl hr ⟨hj, hk⟩ hax _
    refine wpIn_mono (hbody l pre x a' W hr hk hj hax) fun e a3 W3 hp => ?_
    have hbW : b < W.heap.size := Nat.lt_of_lt_of_le hbw hk.size
    cases e with
    | normal => exact ⟨hp.1.from (by omega), hp.1.same hBb hbW, hp.2, hk.trans hp.1⟩
    | ret => exact ⟨hp.1.from (by omega), ⟨rfl, hp.2⟩, hk.trans hp.1⟩
    | exit _ => exact hp.elim
    | goto _ => exact hp.elim
    | panic _ => exact hp.elim
    | outgrown => exact hp.elim
  case done =>
    rintro D xs W hD rfl ⟨hj, hk⟩ hK
    exact hdone D W hD hk hj hK
  case stop =>
    rintro D c' pre W hD hp ⟨⟨rfl, hj⟩, hk⟩ hK
    exact hstop D pre W hD hp hk hj hK
end
end Go.Proofs.YtlflblngbneacabDoor
