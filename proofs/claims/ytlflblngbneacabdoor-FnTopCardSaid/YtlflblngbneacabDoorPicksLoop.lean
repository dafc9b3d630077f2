/- A loop over what the program's picksOf returns: the caller's word. The iterator lays and turns blocks of its own between the rounds, so that the caller's invariant must bear the turn of whatever block is no cells and is younger than the loop. Conditions: a valid state; the body keeps what is younger than the loop. -/
import Derived.Test.YtlflblngbneacabDoorPicksOf
namespace Go.Proofs.YtlflblngbneacabDoor
open Go.RowKit Go.Shelf

/-- How a round's body may be left: on with the loop, or by a return. -/
def pickPost (B bs : Nat) (I Ix : List PD → World → Prop) (xs : List PD) (W : World) : Exit → Act → World → Prop
  | .normal, _, W' => KeepUp B bs W W' ∧ I xs W'
  | .ret, _, W' => KeepUp B bs W W' ∧ Ix xs W'
  | _, _, _ => False

theorem KeepUp.up_ {B B' bs : Nat} {V V' : World} (h : KeepUp B bs V V') (hB : B ≤ B') : KeepUp B' bs V V' := ⟨h.size, fun k hk hl => h.up k (by omega) hl, h.at_⟩
theorem ownFrom_block {β : Type} {B k : Nat} {o : Obj} (hk : k < B) : OwnFrom B (fun (_ : β) W => W.heap[k]? = some o) := fun _ X Y row hs hg hr =>
  (hg.block k (Array.getElem?_eq_some_iff.1 hs).1 (fun e => by have := (hr k e.symm).1; omega)).trans hs

set_option maxHeartbeats 1000000 in
theorem picksLoop {g : Operand} {ps : Array Tmp} {assign body : Code} {Q : Exit → Act → World → Prop} {a : Act} {w : World} {n bs nb nh nl ng : Nat} (hs : SIn ⟨nb, nh, nl, ng⟩) (hn : 23 ≤ n) (hS : StateAt w bs ⟨nb, nh, nl, ng⟩)
    (hg : a.eval g = .func (.func 168) #[] #[.pointer (some ⟨bs, 0, none⟩)]) (hps : ps.size = 1)
    (I Ix : List PD → World → Prop) (hI : OwnFrom w.heap.size I) (hIx : OwnFrom w.heap.size Ix) (h0 : I [] w) (Ax : PD → Act → World → Prop) (hAx : ∀ p a', OwnFrom w.heap.size (fun (_ : Unit) W => Ax p a' W))
    (hassign : ∀ (l : Nat) (pre : List PD) (p : PD) (W : World) (K : Act → World → Prop), w.heap.size ≤ W.heap.size → I pre W → (∀ a' W', KeepUp w.heap.size bs W W' → I pre W' → Ax p a' W' → K a' W') →
      assign.wpIn (Fence.wide.inRound l) (n - 1 - 1) Tryd.prog (Exit.then K (fun _ _ _ => False)) { tmps := (ps.zip #[pickV p]).foldl (fun t (p, v) => t.setIfInBounds p v) a.tmps, defers := [] } W)
    (hbody : ∀ (l : Nat) (pre : List PD) (p : PD) (a' : Act) (W : World), w.heap.size ≤ W.heap.size → I pre W → Ax p a' W → pickB ⟨nb, nh, nl, ng⟩ p = true → body.wpIn (Fence.wide.inRound l) (n - 1 - 1) Tryd.prog (pickPost w.heap.size bs I Ix (pre ++ [p]) W) a' W)
    (hdone : ∀ D W, w.heap.size ≤ D → I (picksN ⟨nb, nh, nl, ng⟩ nb nh nl ng) W → W.heap[D]? = some (.deferred (some [])) → Q .normal { a with defers := { target := .collected D, args := #[] } :: a.defers } W)
    (hstop : ∀ D pre W, w.heap.size ≤ D → pre <+: picksN ⟨nb, nh, nl, ng⟩ nb nh nl ng → Ix pre W → W.heap[D]? = some (.deferred (some [])) → Code.ret.wpIn Fence.wide n Tryd.prog Q { a with defers := { target := .collected D, args := #[] } :: a.defers } W) :
    (Code.rangeFunc g ps assign body).wpIn Fence.wide n Tryd.prog Q a w := by
  have hbs : bs < w.heap.size := hS.2.2.2.2
  refine wpIn_rangeFunc fun fn _ => ?_
  obtain ⟨rc, hrc⟩ : ∃ rc : LoopState → Option Code → Loop, rc = fun st pe => { state := st, pending := pe, fn, tmps := a.tmps, params := ps, assign, body, defers := w.heap.size } := ⟨_, rfl⟩
  obtain ⟨X, hX⟩ : ∃ X, (w.alloc (.deferred (some []))).alloc (.loop (rc .ready none)) = X := ⟨_, rfl⟩
  have hXs : X.heap.size = w.heap.size + 2 := by rw [← hX]; simp
  have hL : X.heap[w.heap.size + 1]? = some (.loop (rc .ready none)) := by
    rw [← hX]; have := World.alloc_heap_new (w.alloc (.deferred (some []))) (.loop (rc .ready none)); rwa [World.size_alloc] at this
  have hD : X.heap[w.heap.size]? = some (.deferred (some [])) := by
    rw [← hX]; exact (Below.heap_alloc _ _ _ (by simp)).trans (World.alloc_heap_new w _)
  have hIX : I [] X := by rw [← hX]; exact hI.alloc _ (hI.alloc _ h0)
  have hSX : StateAt X bs ⟨nb, nh, nl, ng⟩ := hS.below (by rw [← hX]; exact ((Below.refl _ w).alloc (Nat.le_refl _) _).alloc (by simp) _)
  refine ⟨w.heap.size + 1, [{ target := .collected w.heap.size, args := #[] }], X, { target := .fn (.func 168) #[.pointer (some ⟨bs, 0, none⟩)], args := #[.func (.yield (w.heap.size + 1)) #[] #[]] }, X, 168,
    #[.func (.yield (w.heap.size + 1)) #[] #[], .pointer (some ⟨bs, 0, none⟩)], X, ?_, ?_, fun _ _ => trivial, ?_, fun h => by simp [Fence.wide] at h, ?_⟩
  · rw [← hX, hrc]; exact run_enterLoop_outer _ _ _ _ _
  · simp only [resolve, hg]
    simp [go_sem]
  · simp [invoke, go_sem]
  · refine (picks1_in nb nh nl ng hs (n - 1) (by omega) (w.heap.size + 1) bs X hSX
      (fun pre V => (I pre V ∧ w.heap.size + 2 ≤ V.heap.size) ∧ (V.heap[w.heap.size + 1]? = some (.loop (rc .ready none)) ∧ V.heap[w.heap.size]? = some (.deferred (some []))))
      (fun pre V => Ix pre V ∧ (V.heap[w.heap.size + 1]? = some (.loop (rc .done (some .ret))) ∧ V.heap[w.heap.size]? = some (.deferred (some []))))
      (OwnFrom.and (OwnFrom.and (ownFrom_up hI (by omega)) (fun _ A B row hs hg _ => Nat.le_trans hs hg.size)) (OwnFrom.and (ownFrom_block (by omega)) (ownFrom_block (by omega))))
      (OwnFrom.and (ownFrom_up hIx (by omega)) (OwnFrom.and (ownFrom_block (by omega)) (ownFrom_block (by omega))))
      ?_ ⟨⟨hIX, by omega⟩, hL, hD⟩).mono ?_
    · -- one round
      rintro m pre p V ⟨⟨hi, hVs⟩, hl, hk⟩ hp
      refine yieldAny (m := n - 1 - 1) ?_
      have hy := run_yield (P := Tryd.prog) (args := #[pickV p]) hl (by rw [hrc]; exact hps.symm)
      rw [hrc] at hy
      refine ⟨fn, _, assign, body, hy, roundIn_of_wpIn trivial (hassign _ pre p V _ (by omega) hi ?_)⟩
      clear hy
      intro a' V2 hk2 hi2 hax
      have hl2 : V2.heap[w.heap.size + 1]? = some (.loop (rc .ready none)) := (hk2.up _ (by omega) (by omega)).trans hl
      have hd2 : V2.heap[w.heap.size]? = some (.deferred (some [])) := (hk2.up _ (by omega) (by omega)).trans hk
      have hlt2 : w.heap.size + 1 < V2.heap.size := (Array.getElem?_eq_some_iff.1 hl2).1
      refine ⟨_, run_beginRound hl2 (by rw [hrc]), ?_⟩
      obtain ⟨V3, hV3⟩ : ∃ V3, V2.putObj (w.heap.size + 1) (.loop { rc .ready none with state := .busy }) = V3 := ⟨_, rfl⟩
      rw [hV3]
      have hl3 : V3.heap[w.heap.size + 1]? = some (.loop { rc .ready none with state := .busy }) := by rw [← hV3]; exact World.putObj_heap_same hlt2
      have hd3 : V3.heap[w.heap.size]? = some (.deferred (some [])) := by rw [← hV3]; exact (World.putObj_heap_other (by omega)).trans hd2
      have hs3 : V3.heap.size = V2.heap.size := by rw [← hV3]; simp
      have hi3 : I pre V3 := by rw [← hV3]; exact hI.putObj _ hi2 (by omega) hl2 rfl
      have hax3 : Ax p a' V3 := by rw [← hV3]; exact (hAx p a').putObj (s := ()) _ hax (by omega) hl2 rfl
      have k23 : KeepUp X.heap.size bs V2 V3 := by rw [← hV3]; exact ⟨by simp, fun k hk _ => World.putObj_heap_other (by omega), World.putObj_heap_other (by omega)⟩
      have k13 : KeepUp X.heap.size bs V V3 := (hk2.up_ (by omega)).trans k23
      refine wpIn_mono (hbody _ pre p a' V3 (by omega) hi3 hax3 hp) ?_
      have fin : ∀ (jump : Option Code) (V4 : World), KeepUp w.heap.size bs V3 V4 →
          (Instr.endRound (w.heap.size + 1) jump).run Tryd.prog V4 = .ok (.bool jump.isNone) (V4.putObj (w.heap.size + 1) (.loop (rc (if jump.isNone then .ready else .done) jump))) ∧
          V4.heap[w.heap.size + 1]? = some (.loop { rc .ready none with state := .busy }) ∧
          (V4.putObj (w.heap.size + 1) (.loop (rc (if jump.isNone then .ready else .done) jump))).heap[w.heap.size + 1]? = some (.loop (rc (if jump.isNone then .ready else .done) jump)) ∧
          (V4.putObj (w.heap.size + 1) (.loop (rc (if jump.isNone then .ready else .done) jump))).heap[w.heap.size]? = some (.deferred (some [])) ∧
          KeepUp X.heap.size bs V (V4.putObj (w.heap.size + 1) (.loop (rc (if jump.isNone then .ready else .done) jump))) := fun jump V4 hk4 => by
        have hl4 := (hk4.up _ (by omega) (by omega)).trans hl3
        have hd4 := (hk4.up _ (by omega) (by omega)).trans hd3
        have he := run_endRound (P := Tryd.prog) jump hl4
        rw [hrc] at he ⊢
        refine ⟨he, by rw [hrc] at hl4; exact hl4, World.putObj_heap_same (Array.getElem?_eq_some_iff.1 hl4).1, (World.putObj_heap_other (by omega)).trans hd4, ?_⟩
        exact (k13.trans (hk4.up_ (by omega))).trans ⟨by simp, fun k hk _ => World.putObj_heap_other (by omega), World.putObj_heap_other (by omega)⟩
      rintro e a3 V4 hq
      cases e with
      | normal =>
        obtain ⟨hk4, hi4⟩ := hq
        obtain ⟨hr, hl4, hl5, hd5, hk5⟩ := fin none V4 hk4
        exact ⟨_, _, hr, hk5, .inl ⟨rfl, ⟨hI.putObj _ hi4 (by omega) hl4 rfl, Nat.le_trans hVs hk5.size⟩, hl5, hd5⟩⟩
      | ret =>
        obtain ⟨hk4, hi4⟩ := hq
        obtain ⟨hr, hl4, hl5, hd5, hk5⟩ := fin (some .ret) V4 hk4
        exact ⟨_, _, hr, hk5, .inr ⟨rfl, hIx.putObj _ hi4 (by omega) hl4 rfl, hl5, hd5⟩⟩
      | exit _ => exact hq.elim
      | goto _ => exact hq.elim
      | panic _ => exact hq.elim
      | outgrown => exact hq.elim
    · -- behind the iterator
      rintro e V ⟨⟨v, rfl⟩, (⟨⟨hi, -⟩, hl, hk⟩ | ⟨pre, hp, hi, hl, hk⟩)⟩
      · exact ⟨none, _, by have := run_endLoop (P := Tryd.prog) hl (by rw [hrc]; simp); rw [hrc] at this; exact this, hdone _ _ (Nat.le_refl _) (hI.putObj _ hi (by omega) hl rfl) ((World.putObj_heap_other (by omega)).trans hk)⟩
      · exact ⟨some .ret, _, by have := run_endLoop (P := Tryd.prog) hl (by rw [hrc]; simp); rw [hrc] at this; exact this, hstop _ pre _ (Nat.le_refl _) hp (hIx.putObj _ hi (by omega) hl rfl) ((World.putObj_heap_other (by omega)).trans hk)⟩
end Go.Proofs.YtlflblngbneacabDoor
