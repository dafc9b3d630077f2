/- The map of what a search has found out: its keys are goals (a state and a number of weighings), and each entry is right. Condition: the states are valid, the numbers at most 3. -/
import Derived.Test.YtfabcaodiohmaaaFrame
import Derived.Test.YtfabcaodiohmaaaSearchPlain
import Derived.DeepKeys4
import Derived.Maps.Keyed
import Derived.RangeFuncBox
namespace Go.Proofs.Ytfabcaodiohmaaa
open Go.RowKit Go.MapKept
open Go.ChangeMaps (setBlock)

def goalV (s : SD) (k : Nat) : Value := .agg #[.int .i64 s.b, .int .i64 s.h, .int .i64 s.l, .int .i64 s.g, .int .i64 k]
theorem goalV_inj {s s' : SD} {k k' : Nat} (e : goalV s k = goalV s' k') : s = s' ∧ k = k' := by
  obtain ⟨a, b, c, d⟩ := s
  obtain ⟨a', b', c', d'⟩ := s'
  simp only [goalV, Value.agg.injEq, Array.mk.injEq, List.cons.injEq, Value.int.injEq, true_and, and_true] at e
  obtain ⟨h0, h1, h2, h3, h4⟩ := e
  subst h0 h1 h2 h3
  exact ⟨rfl, by omega⟩
theorem goalLaid : laidOutB Try.prog = true := by kernel_rfl
theorem goalRow : (56 : TypeId) < Try.prog.types.size := of_decide_eq_true (by kernel_rfl)
theorem goalDeep : Try.prog.keyTypeAt (Try.prog.types.size + 1) 56 = true := by kernel_rfl
theorem goalAt3 : Try.prog.keyTypeAt 3 56 = true := by kernel_rfl
theorem goalLaw : WideMaps.KeyLaw Try.prog 56 := deep_law_laid goalLaid (m := 3) (by omega) goalRow goalAt3 (by rw [Try.underlying56])
theorem goalKeyed : Maps.Keyed Try.prog 56 := Maps.Keyed.of_law goalLaw
theorem goalCells : Try.prog.cellsOf 56 = 5 := by kernel_rfl
theorem goalFormed {a b c d e : Value} : (Value.agg #[a, b, c, d, e]).formed Try.prog 56 = true := by simp [Value.formed, Try.underlying56, goalCells]
theorem goalRead (n : Nat) {x0 x1 x2 x3 x4 : Int} (h0 : (Lit.int .i64 x0).wf = true) (h1 : (Lit.int .i64 x1).wf = true) (h2 : (Lit.int .i64 x2).wf = true) (h3 : (Lit.int .i64 x3).wf = true) (h4 : (Lit.int .i64 x4).wf = true) :
    Try.prog.keyLits (n + 3) 56 [.int .i64 x0, .int .i64 x1, .int .i64 x2, .int .i64 x3, .int .i64 x4] = some [.int .i64 x0, .int .i64 x1, .int .i64 x2, .int .i64 x3, .int .i64 x4] := by
  have c1 : Try.prog.cellsOf 25 = 4 := by kernel_rfl
  have c2 : Try.prog.cellsOf 3 = 1 := by kernel_rfl
  simp [Program.keyLits, Try.underlying56, Try.underlying25, Try.underlying3, goalCells, c1, c2, h0, h1, h2, h3, h4]
  rw [if_pos (by intro i hi; rcases i with _ | _ | _ | _ | i <;> first | (simp; done) | omega)]
  rfl
theorem goalTypes : ∃ n, Try.prog.types.size + 1 = n + 3 := ⟨Try.prog.types.size - 2, by have h : ((56 : Nat)) < Try.prog.types.size := goalRow; omega⟩
theorem keyOf_goal {s : SD} {k : Nat} (hs : SIn s) (hk : k ≤ 3) : ∃ l, Go.keyOf Try.prog 56 (goalV s k) = some l := by
  have wj : ∀ x : Int, 0 ≤ x ∧ x ≤ 13 → (Lit.int .i64 x).wf = true := fun x hx => by
    simp [Lit.wf, IntKind.min, IntKind.max, IntKind.signed, IntKind.bits]
    omega
  unfold SIn sumS at hs
  obtain ⟨n, hn⟩ := goalTypes
  have kr := goalRead n (wj s.b (by omega)) (wj s.h (by omega)) (wj s.l (by omega)) (wj s.g (by omega)) (wj (k : Int) (by omega))
  have kt : Try.prog.keyType 56 = true := goalDeep
  unfold Go.keyOf
  rw [Try.underlying56]
  simp only [goalV, kt, goalFormed, Bool.and_self, if_true, Value.cells, hn]
  rw [kr]
  exact ⟨_, rfl⟩

/-- An entry that is right. -/
def RightE (e : MapEntry) : Prop := ∃ s k, SIn s ∧ k ≤ 3 ∧ e.key = goalV s k ∧ e.val = .bool (canS k s)
/-- Block m is a map each entry of which is right. -/
def NoteAt (w : World) (m : Nat) : Prop := ∃ es clock, w.heap[m]? = some (.map es clock) ∧ ∀ e ∈ es.toList, RightE e
theorem NoteAt.lt {w : World} {m : Nat} (h : NoteAt w m) : m < w.heap.size := by
  obtain ⟨es, clock, hb, -⟩ := h
  exact (Array.getElem?_eq_some_iff.1 hb).1
theorem NoteAt.made (w : World) : NoteAt (w.alloc (.map #[] 0)) w.heap.size := ⟨#[], 0, (MapKept.heap_alloc w _).1, by simp⟩
theorem NoteAt.same {w w' : World} {m : Nat} (h : NoteAt w m) (e : w'.heap[m]? = w.heap[m]?) : NoteAt w' m := by
  obtain ⟨es, clock, hb, hr⟩ := h
  exact ⟨es, clock, e.trans hb, hr⟩
theorem NoteAt.below {w w' : World} {m : Nat} (h : NoteAt w m) (hb : Below w.heap.size w w') : NoteAt w' m := h.same (hb.block m h.lt)
theorem NoteAt.keys {es : Array MapEntry} (h : ∀ e ∈ es.toList, RightE e) : ∀ e ∈ es.toList, ∃ l, Go.keyOf Try.prog 56 e.key = some l := fun e he => by
  obtain ⟨s, k, hs, hk, h1, -⟩ := h e he
  rw [h1]
  exact keyOf_goal hs hk

/-- A goal is looked up: what is known of it is right. -/
theorem NoteAt.look {w : World} {m : Nat} (h : NoteAt w m) {s : SD} {k : Nat} (hs : SIn s) (hk : k ≤ 3) :
    (Instr.lookup 49 (.map (some m)) (goalV s k) true).run Try.prog w = .ok (.tuple #[.bool false, .bool false]) w ∨
    (Instr.lookup 49 (.map (some m)) (goalV s k) true).run Try.prog w = .ok (.tuple #[.bool (canS k s), .bool true]) w := by
  have ht := Try.underlying49
  have hz : (zeroValue 4).run Try.prog w = .ok (.bool false) w := by first | exact Try.zeroValue4 _ | simp [Try.zeroValue4]
  obtain ⟨es, clock, hb, hr⟩ := h
  obtain ⟨kl, hkey⟩ := keyOf_goal hs hk
  rcases goalKeyed.find w hkey es.toList (NoteAt.keys hr) with ⟨h1, -⟩ | ⟨j, e0, h1, h2, h3⟩
  · exact .inl (by simp [Instr.lookup, run_underlying ht, MapKept.run_getObj_map hb, goalKeyed.check w _ hkey, h1, hz, Result.andThen])
  · refine .inr ?_
    obtain ⟨s', k', -, -, e1, e2⟩ := hr e0 (List.mem_of_getElem? h2)
    obtain ⟨rfl, rfl⟩ := goalV_inj (h3.symm.trans e1)
    simp [Instr.lookup, run_underlying ht, MapKept.run_getObj_map hb, goalKeyed.check w _ hkey, h1, Result.andThen, e2]

/-- A goal is noted down: the map stays right, and nothing else turns. -/
theorem NoteAt.put {w : World} {m : Nat} (h : NoteAt w m) {s : SD} {k : Nat} (hs : SIn s) (hk : k ≤ 3) :
    ∃ w', (Instr.mapUpdate 49 (.map (some m)) (goalV s k) (.bool (canS k s))).run Try.prog w = .ok () w' ∧ NoteAt w' m ∧ Only (fun j => j = m) w w' := by
  have ht := Try.underlying49
  have hlt := h.lt
  obtain ⟨es, clock, hb, hr⟩ := h
  obtain ⟨kl, hkey⟩ := keyOf_goal hs hk
  have only : ∀ o, Only (fun j => j = m) w (setBlock w m o) := fun o =>
    ⟨rfl, rfl, rfl, by simp [setBlock], fun j _ hj => by simp [setBlock, Array.getElem?_setIfInBounds]; intro e; exact absurd e.symm hj⟩
  have at_ : ∀ o, (setBlock w m o).heap[m]? = some o := fun o => by simp [setBlock, hlt]
  have hnew : ∀ c : Nat, RightE ⟨goalV s k, .bool (canS k s), c⟩ := fun c => ⟨s, k, hs, hk, rfl, rfl⟩
  rcases goalKeyed.find w hkey es.toList (NoteAt.keys hr) with ⟨h1, -⟩ | ⟨j, e0, h1, h2, h3⟩
  · refine ⟨setBlock w m (.map (es.push ⟨goalV s k, .bool (canS k s), clock⟩) (clock + 1)), ?_, ⟨_, _, at_ _, ?_⟩, only _⟩
    · simp [Instr.mapUpdate, run_underlying ht, MapKept.run_getObj_map hb, goalKeyed.check w false hkey, h1, MapKept.run_setObj_map _ hb, Result.andThen, setBlock]
    · intro e he
      simp only [Array.toList_push, List.mem_append, List.mem_singleton] at he
      rcases he with he | rfl
      · exact hr e he
      · exact hnew _
  · have hj : es[j]? = some e0 := by simpa using h2
    refine ⟨setBlock w m (.map (es.modify j fun e => { e with key := goalV s k, val := .bool (canS k s) }) clock), ?_, ⟨_, _, at_ _, ?_⟩, only _⟩
    · simp [Instr.mapUpdate, run_underlying ht, MapKept.run_getObj_map hb, goalKeyed.check w false hkey, h1, hj, h3, goalKeyed.stays w hkey, MapKept.run_setObj_map _ hb, Result.andThen, setBlock]
    · intro e he
      obtain ⟨i, hi⟩ := List.mem_iff_getElem?.1 he
      rw [Array.getElem?_toList, Array.getElem?_modify] at hi
      split at hi
      · obtain ⟨e1, he1, rfl⟩ := Option.map_eq_some_iff.1 hi
        exact hnew _
      · exact hr e (List.mem_iff_getElem?.2 ⟨i, by simpa using hi⟩)

/-- The map is cleared: nothing but its block turns. -/
theorem NoteAt.wiped {w : World} {m : Nat} (h : NoteAt w m) (ty : TypeId) : ∃ w', (Builtin.clear_ #[49] ty #[.map (some m)]).run Try.prog w = .ok (.tuple #[]) w' ∧ Only (fun j => j = m) w w' := by
  have ht := Try.underlying49
  obtain ⟨es, clock, hb, -⟩ := h
  refine ⟨setBlock w m (.map #[] clock), ?_, ⟨rfl, rfl, rfl, by simp [setBlock], fun j _ hj => by simp [setBlock, Array.getElem?_setIfInBounds]; intro e; exact absurd e.symm hj⟩⟩
  simp [Builtin.clear_, run_underlying ht, MapKept.run_getObj_map hb, MapKept.run_setObj_map _ hb, Result.andThen, setBlock]
end Go.Proofs.Ytfabcaodiohmaaa
