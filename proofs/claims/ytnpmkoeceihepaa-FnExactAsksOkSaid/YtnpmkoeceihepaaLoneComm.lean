/- Communication in one goroutine inside code with loops: Code.wp for frames of ordinary calls alone, in which a send into a buffer with room and a select of two receives are steps. No condition. -/
import Derived.Conc.LoneCalls
import Derived.Conc.LoneSelectN
import Derived.Test.YtnpmkoeceihepaaGBase
namespace Go.Proofs.Ytnpmkoeceihepaa
open Go.RowKit Go.Conc

/-- Code.wp, asked of frames of ordinary calls alone. -/
def WpN (P : Program) (c : Code) (Q : Exit → Act → World → Prop) (a : Act) (w : World) : Prop :=
  ∀ (b : Frame), b.kind ≠ .early → ∀ (k : List Item) (cs : List Frame), ∃ e a' w', Q e a' w' ∧ Arrives P (lone (b.at a (.code c :: k)) cs w) b k cs e a' w'
/-- The like for what is left of a region's operations. -/
def OpsN (P : Program) (ops : Array Oper) (Q : Exit → Act → World → Prop) (l : List Nat) (a : Act) (w : World) : Prop :=
  ∀ (b : Frame), b.kind ≠ .early → ∀ (k : List Item) (cs : List Frame), ∃ e a' w', Q e a' w' ∧ Arrives P (lone (b.at a (.inRegion ops l :: k)) cs w) b k cs e a' w'

section
variable {P : Program} {Q : Exit → Act → World → Prop} {a : Act} {w : World}
theorem wpn_of_wp {c : Code} (h : c.wp P Q a w) : WpN P c Q a w := fun b _ k cs => h b k cs
theorem opsN_of {ops : Array Oper} {l : List Nat} (h : wpOps P ops Q l a w) : OpsN P ops Q l a w := fun b _ k cs => wp_ops l a w h b k cs
theorem wpn_seq {x y : Code} (h : WpN P x (Exit.then (WpN P y Q) Q) a w) : WpN P (Code.seq x y) Q a w := by
  intro b hb k cs
  obtain ⟨e, a₁, w₁, hq, harr⟩ := h b hb (.code y :: k) cs
  cases e with
  | normal =>
    obtain ⟨e₂, a₂, w₂, hq₂, harr₂⟩ := hq b hb k cs
    exact ⟨e₂, a₂, w₂, hq₂, .of_steps (.head step_seq harr) harr₂⟩
  | exit id => exact ⟨_, a₁, w₁, hq, .of_steps (.one step_seq) (.pass (x := .code y) rfl (fun _ _ => .inl (by simp)) harr)⟩
  | goto l => exact ⟨_, a₁, w₁, hq, .of_steps (.one step_seq) (.pass (x := .code y) rfl (fun _ _ => .inl (by simp)) harr)⟩
  | ret => exact ⟨_, a₁, w₁, hq, .of_steps (.one step_seq) (.pass (x := .code y) rfl (fun _ _ => .inl (by simp)) harr)⟩
  | panic ch => exact ⟨_, a₁, w₁, hq, .of_steps (.one step_seq) (.pass (x := .code y) rfl (fun _ _ => .inl (by simp)) harr)⟩
  | outgrown => exact ⟨_, a₁, w₁, hq, .of_steps (.one step_seq) (.pass (x := .code y) rfl (fun _ _ => .inl (by simp)) harr)⟩
/-- An ordinary piece ahead of the rest. -/
theorem wpn_seq_wp {x y : Code} (h : x.wp P (Exit.then (WpN P y Q) Q) a w) : WpN P (Code.seq x y) Q a w := wpn_seq (wpn_of_wp h)
theorem wpn_cond {c : Operand} {x y : Code} {t : Bool} (hc : a.eval c = .bool t) (h : WpN P (if t then x else y) Q a w) : WpN P (Code.cond c x y) Q a w :=
  fun b hb k cs => let ⟨e, a', w', q, r⟩ := h b hb k cs; ⟨e, a', w', q, .of_steps (.one (step_cond hc)) r⟩
theorem wpn_block {id : Nat} {c : Code} (h : WpN P c (Exit.inBlock id Q) a w) : WpN P (Code.block id c) Q a w := by
  intro b hb k cs
  obtain ⟨e, a₁, w₁, hq, harr⟩ := h b hb (.inBlock id :: k) cs
  cases e with
  | normal => exact ⟨.normal, a₁, w₁, hq, .head step_block (Steps.trans harr (.one step_inBlock))⟩
  | exit id' =>
    by_cases hid : id' = id
    · simp only [Exit.inBlock, hid, if_true] at hq
      exact ⟨.normal, a₁, w₁, hq, .head step_block (harr k (by simp [exitTo, hid]))⟩
    · simp only [Exit.inBlock, hid, if_false] at hq
      refine ⟨.exit id', a₁, w₁, hq, fun k' hk => .head step_block (harr k' ?_)⟩
      have : (id == id') = false := by simp; exact fun h => hid h.symm
      simp [exitTo, this, hk]
  | goto l => exact ⟨_, a₁, w₁, hq, fun k' hk => .head step_block (harr k' (by simp [gotoIn, hk]))⟩
  | ret => exact ⟨_, a₁, w₁, hq, .of_steps (.one step_block) harr⟩
  | panic ch => exact ⟨_, a₁, w₁, hq, .of_steps (.one step_block) harr⟩
  | outgrown => exact ⟨_, a₁, w₁, hq, .of_steps (b := b) (k := k) (cs := cs) (e := .outgrown) (.one step_block) harr⟩
theorem wpn_loop {c : Code} (I : Act → World → Prop) (μ : Act → World → Nat) (h₀ : I a w)
    (round : ∀ a w, I a w → WpN P c (Exit.then (fun a' w' => I a' w' ∧ μ a' w' < μ a w) Q) a w) : WpN P (Code.loop c) Q a w := by
  intro b hb k cs
  have key : ∀ n a w, μ a w = n → I a w →
      ∃ e a' w', Q e a' w' ∧ Arrives P (lone (b.at a (.code c :: .inLoop c :: k)) cs w) b k cs e a' w' := by
    intro n
    induction n using Nat.strongRecOn with
    | _ n ih =>
      intro a w hn hI
      obtain ⟨e, a₁, w₁, hq, harr⟩ := round a w hI b hb (.inLoop c :: k) cs
      cases e with
      | normal =>
        obtain ⟨hI₁, hlt⟩ := hq
        obtain ⟨e₂, a₂, w₂, hq₂, harr₂⟩ := ih (μ a₁ w₁) (hn ▸ hlt) a₁ w₁ rfl hI₁
        exact ⟨e₂, a₂, w₂, hq₂, .of_steps (Steps.trans harr (.one step_inLoop)) harr₂⟩
      | exit id => exact ⟨_, a₁, w₁, hq, .pass (x := .inLoop c) rfl (fun _ _ => .inl (by simp)) harr⟩
      | goto l => exact ⟨_, a₁, w₁, hq, .pass (x := .inLoop c) rfl (fun _ _ => .inl (by simp)) harr⟩
      | ret => exact ⟨_, a₁, w₁, hq, .pass (x := .inLoop c) rfl (fun _ _ => .inl (by simp)) harr⟩
      | panic ch => exact ⟨_, a₁, w₁, hq, .pass (x := .inLoop c) rfl (fun _ _ => .inl (by simp)) harr⟩
      | outgrown => exact ⟨_, a₁, w₁, hq, .pass (x := .inLoop c) rfl (fun _ _ => .inl (by simp)) harr⟩
  obtain ⟨e, a', w', hq, harr⟩ := key _ a w rfl h₀
  exact ⟨e, a', w', hq, .of_steps (.one step_loop) harr⟩
theorem wpn_region {id : Nat} {ops : Array Oper} (h : OpsN P ops Q (List.range ops.size) a w) : WpN P (Code.region id ops false) Q a w :=
  fun b hb k cs => let ⟨e, a', w', q, r⟩ := h b hb k cs; ⟨e, a', w', q, .of_steps (.one step_region) r⟩
/-- An operation that yields a value. -/
theorem opsN_value {ops : Array Oper} {i : Nat} {rest : List Nat} {o : Oper} {v : Value} {w' : World} (ho : ops[i]? = some o) (hw : Region.wanted o (yielded ops a.tmps) = true)
    (hr : (execOp a.eval o).run P w = .ok (.value v) w') (h : OpsN P ops Q rest (a.put o.dst v) w') : OpsN P ops Q (i :: rest) a w := by
  intro b hb k cs
  obtain ⟨e, a', w'', hq, harr⟩ := h b hb k cs
  exact ⟨e, a', w'', hq, .of_steps (.one (step_solo_go rfl (stepG_value ho hw hb hr))) harr⟩
/-- A send into a buffer that has room. -/
theorem opsN_send {ops : Array Oper} {i : Nat} {rest : List Nat} {o : Oper} {c cap s r : Nat} {buf : Array Value} {v z' : Value} {w' : World} (ho : ops[i]? = some o) (hw : Region.wanted o (yielded ops a.tmps) = true)
    (hr : (execOp a.eval o).run P w = .ok (.comm #[scase c v z'] true .send) w') (hc : w'.heap[c]? = some (.chan cap buf false s r false)) (hroom : buf.size < cap)
    (h : OpsN P ops Q rest (a.put o.dst undef) (w'.setChan c cap (buf.push v) false (s + 1) r false)) : OpsN P ops Q (i :: rest) a w := by
  intro b hb k cs
  obtain ⟨e, a', w'', hq, harr⟩ := h b hb k cs
  have hs := step_lone_send_room (stepG_comm (main := true) (cs := cs) (k := k) (rest := rest) ho hw hb hr) hc hroom
  rw [Frame.finish_at, ho] at hs
  exact ⟨e, a', w'', hq, .of_steps (.one hs) harr⟩
end

/-- A select of two receives, both of which can proceed: the tape picks one. -/
theorem step_select_both {P : Program} {fr : Frame} {cs : List Frame} {w w₁ : World} {es : Array Event} {c c' cap cap' s s' r r' : Nat} {buf buf' : Array Value} {z z' : Value}
    (h : stepG P true (G fr cs) w = .comm (G fr cs) #[rcase c z, rcase c' z'] true .select w₁ es) (hc : w₁.heap[c]? = some (.chan cap buf false s r false)) (hc' : w₁.heap[c']? = some (.chan cap' buf' false s' r' false))
    (hs : 0 < buf.size) (hs' : 0 < buf'.size) :
    step P (solo (G fr cs) w) = .next (solo (G (fr.finish (.tuple #[goInt 0, .bool true, buf.getD 0 undef, z'])) cs) (w₁.drew.setChan c cap (buf.extract 1 buf.size) false s (r + 1) false)) ∨
    step P (solo (G fr cs) w) = .next (solo (G (fr.finish (.tuple #[goInt 1, .bool true, z, buf'.getD 0 undef])) cs) (w₁.drew.setChan c' cap' (buf'.extract 1 buf'.size) false s' (r' + 1) false)) := by
  have hp : partners (#[G fr cs].setIfInBounds 0 ph) c true = [] := partners_lone c true
  have hp' : partners (#[G fr cs].setIfInBounds 0 ph) c' true = [] := partners_lone c' true
  have w1 : ways w₁ (#[G fr cs].setIfInBounds 0 ph) (rcase c z) = [.buffer] := by simp [ways, rcase, hc, hs]
  have w2 : ways w₁ (#[G fr cs].setIfInBounds 0 ph) (rcase c' z') = [.buffer] := by simp [ways, rcase, hc', hs']
  have hr : ((#[rcase c z, rcase c' z'].zipIdx.toList.map fun (d, k) => (k, d, ways w₁ (#[G fr cs].setIfInBounds 0 ph) d)).filter fun (_, _, ws) => !ws.isEmpty) = [(0, rcase c z, [.buffer]), (1, rcase c' z', [.buffer])] := by
    generalize #[G fr cs].setIfInBounds 0 ph = gs0 at w1 w2 ⊢
    simp [List.zipIdx_cons, w1, w2]
  have hill : (#[rcase c z, rcase c' z'].any fun d => match d.chan with
      | .chan none => false
      | .chan (some r) => !(w₁.heap[r]? matches some (.chan ..))
      | _ => true) = false := by
    simp [rcase, hc, hc']
  have key : (∃ es', runT P (crowd #[G fr cs] w none) 0 = (.next (crowd #[G (fr.finish (.tuple #[goInt 0, .bool true, buf.getD 0 undef, z'])) cs] (w₁.drew.setChan c cap (buf.extract 1 buf.size) false s (r + 1) false) none), es')) ∨
      (∃ es', runT P (crowd #[G fr cs] w none) 0 = (.next (crowd #[G (fr.finish (.tuple #[goInt 1, .bool true, z, buf'.getD 0 undef])) cs] (w₁.drew.setChan c' cap' (buf'.extract 1 buf'.size) false s' (r' + 1) false) none), es')) := by
    rw [runT_crowd_comm (gs := #[G fr cs]) (i := 0) (g := G fr cs) rfl h]
    unfold communicate
    simp only [hr]
    rw [if_neg (by rw [Bool.not_eq_true]; exact hill)]
    have hfin : ∀ v, (G fr cs).finishComm P #[rcase c z, rcase c' z'] .select 0 v true = G (fr.finish (.tuple #[goInt 0, .bool true, v, z'])) cs := fun v => by
      simp [Goroutine.finishComm, commResult, rcase, List.zipIdx_cons, G]
    have hfin' : ∀ v, (G fr cs).finishComm P #[rcase c z, rcase c' z'] .select 1 v true = G (fr.finish (.tuple #[goInt 1, .bool true, z, v])) cs := fun v => by
      simp [Goroutine.finishComm, commResult, rcase, List.zipIdx_cons, G]
    have hcd : w₁.drew.heap[c]? = some (.chan cap buf false s r false) := hc
    have hcd' : w₁.drew.heap[c']? = some (.chan cap' buf' false s' r' false) := hc'
    have hq : partners #[ph] c true = [] := hp
    have hq' : partners #[ph] c' true = [] := hp'
    rcases Nat.mod_two_eq_zero_or_one (w₁.tape w₁.drawn (.select 2)) with ht | ht
    · left
      refine ⟨_, Prod.ext ?_ rfl⟩
      rw [← hfin]
      simp [choose, Sem.run, Question.forced, Question.cut, bind, Sem.bind, pure, ht, hcd, hq, World.setChan, crowd, show (rcase c z).chan = .chan (some c) from rfl, show (rcase c z).send = none from rfl]
    · right
      refine ⟨_, Prod.ext ?_ rfl⟩
      rw [← hfin']
      simp [choose, Sem.run, Question.forced, Question.cut, bind, Sem.bind, pure, ht, hcd', hq', World.setChan, crowd, show (rcase c' z').chan = .chan (some c') from rfl, show (rcase c' z').send = none from rfl]
  rw [step, stepT_solo rfl, solo_eq_crowd]
  rcases key with ⟨es', e⟩ | ⟨es', e⟩
  · left; rw [e]; rfl
  · right; rw [e]; rfl
end Go.Proofs.Ytnpmkoeceihepaa
