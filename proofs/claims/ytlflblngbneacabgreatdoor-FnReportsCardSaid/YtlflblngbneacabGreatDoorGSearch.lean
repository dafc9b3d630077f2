/- Several texts in one file; each says what it proves and under which condition. No condition. -/
import Derived.Test.YtlflblngbneacabGreatDoorGBase
import Derived.Test.YtlflblngbneacabGreatDoorGStates
import Derived.DeepKeys4
import Derived.Maps.Keyed
import Derived.RangeFuncBox
import Derived.Test.YtlflblngbneacabGreatDoorGPick
import Derived.Deep.RegionHeld3
/- The map of what a search has found out: its keys are goals (a state and a number of weighings), and each entry is right. Condition: the states are valid, the numbers at most 3. -/
namespace Go.Proofs.YtlflblngbneacabGreatDoor
open Go.RowKit Go.MapKept
open Go.ChangeMaps (setBlock)

def goalV (s : SD) (k : Nat) : Value := .agg #[.int .i64 s.b, .int .i64 s.h, .int .i64 s.l, .int .i64 s.g, .int .i64 k]
theorem goalV_inj {s s' : SD} {k k' : Nat} (e : goalV s k = goalV s' k') : s = s' ∧ k = k' := by
  obtain ⟨a, b, c, d⟩ := s
  obtain ⟨a', b', c', d'⟩ := s'
  simp only [goalV, Value.agg.injEq, Array.mk.injEq, List.cons.injEq, Value.int.injEq, true_and, and_true] at e
  obtain ⟨h0, h1, h2, h3, h4⟩ := e
  subst h0 h1 h2 h3
  exact ⟨rfl, by omega⟩
theorem goalLaid : laidOutB Tryz.prog = true := by kernel_rfl
theorem goalRow : (169 : TypeId) < Tryz.prog.types.size := of_decide_eq_true (by kernel_rfl)
theorem goalDeep : Tryz.prog.keyTypeAt (Tryz.prog.types.size + 1) 169 = true := by kernel_rfl
theorem goalAt3 : Tryz.prog.keyTypeAt 3 169 = true := by kernel_rfl
theorem goalLaw : WideMaps.KeyLaw Tryz.prog 169 := deep_law_laid goalLaid (m := 3) (by omega) goalRow goalAt3 (by rw [Tryz.underlying169])
theorem goalKeyed : Maps.Keyed Tryz.prog 169 := Maps.Keyed.of_law goalLaw
theorem goalCells : Tryz.prog.cellsOf 169 = 5 := by kernel_rfl
theorem goalFormed {a b c d e : Value} : (Value.agg #[a, b, c, d, e]).formed Tryz.prog 169 = true := by simp [Value.formed, Tryz.underlying169, goalCells]
theorem goalRead (n : Nat) {x0 x1 x2 x3 x4 : Int} (h0 : (Lit.int .i64 x0).wf = true) (h1 : (Lit.int .i64 x1).wf = true) (h2 : (Lit.int .i64 x2).wf = true) (h3 : (Lit.int .i64 x3).wf = true) (h4 : (Lit.int .i64 x4).wf = true) :
    Tryz.prog.keyLits (n + 3) 169 [.int .i64 x0, .int .i64 x1, .int .i64 x2, .int .i64 x3, .int .i64 x4] = some [.int .i64 x0, .int .i64 x1, .int .i64 x2, .int .i64 x3, .int .i64 x4] := by
  have c1 : Tryz.prog.cellsOf 56 = 4 := by kernel_rfl
  have c2 : Tryz.prog.cellsOf 3 = 1 := by kernel_rfl
  simp [Program.keyLits, Tryz.underlying169, Tryz.underlying56, Tryz.underlying3, goalCells, c1, c2, h0, h1, h2, h3, h4]
  rw [if_pos (by intro i hi; rcases i with _ | _ | _ | _ | i <;> first | (simp; done) | omega)]
  rfl
theorem goalTypes : ∃ n, Tryz.prog.types.size + 1 = n + 3 := ⟨Tryz.prog.types.size - 2, by have h : ((169 : Nat)) < Tryz.prog.types.size := goalRow; omega⟩
theorem keyOf_goal {s : SD} {k : Nat} (hs : SIn s) (hk : k ≤ 3) : ∃ l, Go.keyOf Tryz.prog 169 (goalV s k) = some l := by
  have wj : ∀ x : Int, 0 ≤ x ∧ x ≤ 13 → (Lit.int .i64 x).wf = true := fun x hx => by
    simp [Lit.wf, IntKind.min, IntKind.max, IntKind.signed, IntKind.bits]
    omega
  unfold SIn sumS at hs
  obtain ⟨n, hn⟩ := goalTypes
  have kr := goalRead n (wj s.b (by omega)) (wj s.h (by omega)) (wj s.l (by omega)) (wj s.g (by omega)) (wj (k : Int) (by omega))
  have kt : Tryz.prog.keyType 169 = true := goalDeep
  unfold Go.keyOf
  rw [Tryz.underlying169]
  simp only [goalV, kt, goalFormed, Bool.and_self, if_true, Value.cells, hn]
  rw [kr]
  exact ⟨_, rfl⟩

/-- An entry that is right. -/
def RightE (e : MapEntry) : Prop := ∃ s k, SIn s ∧ k ≤ 3 ∧ e.key = goalV s k ∧ e.val = .bool (canS k s)
/-- Block m is a map each entry of which is right. -/
def NoteAt (w : World) (m : Nat) : Prop := ∃ es clock, w.heap[m]? = some (.map es clock) ∧ ∀ e ∈ es.toList, RightE e
theorem NoteAt.lt {w : World} {m : Nat} (h : NoteAt w m) : m < w.heap.size := by
  obtain ⟨es, clock, hb, -⟩ := h
  exact (Array.getElem?_eq_some_iff.1 hb).1
theorem NoteAt.made (w : World) : NoteAt (w.alloc (.map #[] 0)) w.heap.size := ⟨#[], 0, (MapKept.heap_alloc w _).1, by simp⟩
theorem NoteAt.same {w w' : World} {m : Nat} (h : NoteAt w m) (e : w'.heap[m]? = w.heap[m]?) : NoteAt w' m := by
  obtain ⟨es, clock, hb, hr⟩ := h
  exact ⟨es, clock, e.trans hb, hr⟩
theorem NoteAt.below {w w' : World} {m : Nat} (h : NoteAt w m) (hb : Below w.heap.size w w') : NoteAt w' m := h.same (hb.block m h.lt)
theorem NoteAt.keys {es : Array MapEntry} (h : ∀ e ∈ es.toList, RightE e) : ∀ e ∈ es.toList, ∃ l, Go.keyOf Tryz.prog 169 e.key = some l := fun e he => by
  obtain ⟨s, k, hs, hk, h1, -⟩ := h e he
  rw [h1]
  exact keyOf_goal hs hk

/-- A goal is looked up: what is known of it is right. -/
theorem NoteAt.look {w : World} {m : Nat} (h : NoteAt w m) {s : SD} {k : Nat} (hs : SIn s) (hk : k ≤ 3) :
    (Instr.lookup 162 (.map (some m)) (goalV s k) true).run Tryz.prog w = .ok (.tuple #[.bool false, .bool false]) w ∨
    (Instr.lookup 162 (.map (some m)) (goalV s k) true).run Tryz.prog w = .ok (.tuple #[.bool (canS k s), .bool true]) w := by
  have ht := Tryz.underlying162
  have hz : (zeroValue 4).run Tryz.prog w = .ok (.bool false) w := by first | exact Tryz.zeroValue4 _ | simp [Tryz.zeroValue4]
  obtain ⟨es, clock, hb, hr⟩ := h
  obtain ⟨kl, hkey⟩ := keyOf_goal hs hk
  rcases goalKeyed.find w hkey es.toList (NoteAt.keys hr) with ⟨h1, -⟩ | ⟨j, e0, h1, h2, h3⟩
  · exact .inl (by simp [Instr.lookup, run_underlying ht, MapKept.run_getObj_map hb, goalKeyed.check w _ hkey, h1, hz, Result.andThen])
  · refine .inr ?_
    obtain ⟨s', k', -, -, e1, e2⟩ := hr e0 (List.mem_of_getElem? h2)
    obtain ⟨rfl, rfl⟩ := goalV_inj (h3.symm.trans e1)
    simp [Instr.lookup, run_underlying ht, MapKept.run_getObj_map hb, goalKeyed.check w _ hkey, h1, Result.andThen, e2]

/-- A goal is noted down: the map stays right, and nothing else turns. -/
theorem NoteAt.put {w : World} {m : Nat} (h : NoteAt w m) {s : SD} {k : Nat} (hs : SIn s) (hk : k ≤ 3) :
    ∃ w', (Instr.mapUpdate 162 (.map (some m)) (goalV s k) (.bool (canS k s))).run Tryz.prog w = .ok () w' ∧ NoteAt w' m ∧ Only (fun j => j = m) w w' := by
  have ht := Tryz.underlying162
  have hlt := h.lt
  obtain ⟨es, clock, hb, hr⟩ := h
  obtain ⟨kl, hkey⟩ := keyOf_goal hs hk
  have only : ∀ o, Only (fun j => j = m) w (setBlock w m o) := fun o =>
    ⟨rfl, rfl, rfl, by simp [setBlock], fun j _ hj => by simp [setBlock, Array.getElem?_setIfInBounds]; intro e; exact absurd e.symm hj⟩
  have at_ : ∀ o, (setBlock w m o).heap[m]? = some o := fun o => by simp [setBlock, hlt]
  have hnew : ∀ c : Nat, RightE ⟨goalV s k, .bool (canS k s), c⟩ := fun c => ⟨s, k, hs, hk, rfl, rfl⟩
  rcases goalKeyed.find w hkey es.toList (NoteAt.keys hr) with ⟨h1, -⟩ | ⟨j, e0, h1, h2, h3⟩
  · refine ⟨setBlock w m (.map (es.push ⟨goalV s k, .bool (canS k s), clock⟩) (clock + 1)), ?_, ⟨_, _, at_ _, ?_⟩, only _⟩
    · simp [Instr.mapUpdate, run_underlying ht, MapKept.run_getObj_map hb, goalKeyed.check w false hkey, h1, MapKept.run_setObj_map _ hb, Result.andThen, setBlock]
    · intro e he
      simp only [Array.toList_push, List.mem_append, List.mem_singleton] at he
      rcases he with he | rfl
      · exact hr e he
      · exact hnew _
  · have hj : es[j]? = some e0 := by simpa using h2
    refine ⟨setBlock w m (.map (es.modify j fun e => { e with key := goalV s k, val := .bool (canS k s) }) clock), ?_, ⟨_, _, at_ _, ?_⟩, only _⟩
    · simp [Instr.mapUpdate, run_underlying ht, MapKept.run_getObj_map hb, goalKeyed.check w false hkey, h1, hj, h3, goalKeyed.stays w hkey, MapKept.run_setObj_map _ hb, Result.andThen, setBlock]
    · intro e he
      obtain ⟨i, hi⟩ := List.mem_iff_getElem?.1 he
      rw [Array.getElem?_toList, Array.getElem?_modify] at hi
      split at hi
      · obtain ⟨e1, he1, rfl⟩ := Option.map_eq_some_iff.1 hi
        exact hnew _
      · exact hr e (List.mem_iff_getElem?.2 ⟨i, by simpa using hi⟩)

/-- The map is cleared: nothing but its block turns. -/
theorem NoteAt.wiped {w : World} {m : Nat} (h : NoteAt w m) (ty : TypeId) : ∃ w', (Builtin.clear_ #[162] ty #[.map (some m)]).run Tryz.prog w = .ok (.tuple #[]) w' ∧ Only (fun j => j = m) w w' := by
  have ht := Tryz.underlying162
  obtain ⟨es, clock, hb, -⟩ := h
  refine ⟨setBlock w m (.map #[] clock), ?_, ⟨rfl, rfl, rfl, by simp [setBlock], fun j _ hj => by simp [setBlock, Array.getElem?_setIfInBounds]; intro e; exact absurd e.symm hj⟩⟩
  simp [Builtin.clear_, run_underlying ht, MapKept.run_getObj_map hb, MapKept.run_setObj_map _ hb, Result.andThen, setBlock]
end Go.Proofs.YtlflblngbneacabGreatDoor

/- The contracts of the program's mostCases, newNotebook, newSearch, lookUp, and of one step of canFind round the contract of firstPick. Conditions: a valid state, at most three weighings, a map each entry of which is right. -/
namespace Go.Proofs.YtlflblngbneacabGreatDoor
open Go.RowKit

set_option maxHeartbeats 1600000 in
theorem implMost (k : Nat) (hk : k ≤ 3) (w : World) : Calls Tryz.prog 155 #[.int .i64 k] w fun e w' => e = .returned (.int .i64 ((3 : Int) ^ k)) ∧ w = w' := by
  go_enter Tryz.func155, Tryz.ntmps155
  go_wp2
  go_loopw [3, 5] (fun nv iv wr => ∃ i : Nat, i ≤ k ∧ iv = .int .i64 i ∧ nv = .int .i64 ((3 : Int) ^ i) ∧ wr = w) (fun _ iv _ => k - (intOf iv).toNat)
  case atStart => exact ⟨0, Nat.zero_le _, rfl, rfl, rfl⟩
  case round =>
    obtain ⟨i, hik, rfl, rfl, rfl⟩ := hrel
    by_cases hlt : i < k
    · have i1 : (i : Int) < (k : Int) := by omega
      have hw : IntKind.i64.wrap ((3 : Int) ^ i * 3) = 3 ^ (i + 1) := by
        rw [← Int.pow_succ, IntKind.wrap_i64]
        rcases (show i = 0 ∨ i = 1 ∨ i = 2 by omega) with rfl | rfl | rfl <;> decide
      go_wp2
      go_roundw
      case rel => exact ⟨i + 1, by omega, by go_num, by first | rfl | trivial, by first | rfl | trivial⟩
      case measure => simp [intOf]; omega
    · obtain rfl : i = k := by omega
      go_wp2
      go_ret
      exact ⟨rfl, rfl⟩

def searchV (m : Nat) : Value := .agg #[.map (some m)]
/-- Block b holds the map of block m. -/
def MapBox (w : World) (b m : Nat) : Prop := w.cell? ⟨b, 0, none⟩ = some (.map (some m)) ∧ b < w.heap.size
theorem MapBox.below {w w' : World} {b m : Nat} (h : MapBox w b m) (hb : Below w.heap.size w w') : MapBox w' b m :=
  ⟨by rw [hb.cell (p := ⟨b, 0, none⟩) h.2]; exact h.1, Nat.lt_of_lt_of_le h.2 hb.size⟩
theorem MapBox.only {T : Nat → Prop} {w w' : World} {b m : Nat} (h : MapBox w b m) (ho : Only T w w') (hb : ¬ T b) : MapBox w' b m :=
  ⟨(World.cell?_of_block (a := ⟨b, 0, none⟩) (ho.block b h.2 hb)).trans h.1, Nat.lt_of_lt_of_le h.2 ho.size⟩
theorem MapBox.new (w : World) (t : TypeId) (m : Nat) : MapBox (w.alloc (.cells #[.map (some m)] t)) w.heap.size m := by refine ⟨?_, ?_⟩ <;> simp
theorem StateAt.only {T : Nat → Prop} {w w' : World} {b : Nat} {s : SD} (h : StateAt w b s) (ho : Only T w w') (hb : ¬ T b) : StateAt w' b s := by
  have e := ho.block b h.lt hb
  obtain ⟨e0, e1, e2, e3, hlt⟩ := h
  exact ⟨(World.cell?_of_block (a := ⟨b, 0, none⟩) e).trans e0, (World.cell?_of_block (a := ⟨b, 1, none⟩) e).trans e1, (World.cell?_of_block (a := ⟨b, 2, none⟩) e).trans e2, (World.cell?_of_block (a := ⟨b, 3, none⟩) e).trans e3, Nat.lt_of_lt_of_le hlt ho.size⟩
theorem PickAt.only {T : Nat → Prop} {w w' : World} {b : Nat} {p : PD} (h : PickAt w b p) (ho : Only T w w') (hb : ¬ T b) : PickAt w' b p := by
  have e := ho.block b h.lt hb
  obtain ⟨e0, e1, e2, e3, e4, e5, e6, e7, hlt⟩ := h
  exact ⟨(World.cell?_of_block (a := ⟨b, 0, none⟩) e).trans e0, (World.cell?_of_block (a := ⟨b, 1, none⟩) e).trans e1, (World.cell?_of_block (a := ⟨b, 2, none⟩) e).trans e2, (World.cell?_of_block (a := ⟨b, 3, none⟩) e).trans e3,
    (World.cell?_of_block (a := ⟨b, 4, none⟩) e).trans e4, (World.cell?_of_block (a := ⟨b, 5, none⟩) e).trans e5, (World.cell?_of_block (a := ⟨b, 6, none⟩) e).trans e6, (World.cell?_of_block (a := ⟨b, 7, none⟩) e).trans e7, Nat.lt_of_lt_of_le hlt ho.size⟩
/-- Block b holds the number x. -/
def NumBox (w : World) (b : Nat) (x : Int) : Prop := w.cell? ⟨b, 0, none⟩ = some (.int .i64 x) ∧ b < w.heap.size
theorem NumBox.below {w w' : World} {b : Nat} {x : Int} (h : NumBox w b x) (hb : Below w.heap.size w w') : NumBox w' b x :=
  ⟨by rw [hb.cell (p := ⟨b, 0, none⟩) h.2]; exact h.1, Nat.lt_of_lt_of_le h.2 hb.size⟩
theorem NumBox.only {T : Nat → Prop} {w w' : World} {b : Nat} {x : Int} (h : NumBox w b x) (ho : Only T w w') (hb : ¬ T b) : NumBox w' b x :=
  ⟨(World.cell?_of_block (a := ⟨b, 0, none⟩) (ho.block b h.2 hb)).trans h.1, Nat.lt_of_lt_of_le h.2 ho.size⟩
theorem NumBox.new (w : World) (t : TypeId) (x : Int) : NumBox (w.alloc (.cells #[.int .i64 x] t)) w.heap.size x := by refine ⟨?_, ?_⟩ <;> simp
/-- Block b holds a goal. -/
def GoalAt (w : World) (b : Nat) (s : SD) (k : Nat) : Prop :=
  w.cell? ⟨b, 0, none⟩ = some (.int .i64 s.b) ∧ w.cell? ⟨b, 1, none⟩ = some (.int .i64 s.h) ∧ w.cell? ⟨b, 2, none⟩ = some (.int .i64 s.l) ∧ w.cell? ⟨b, 3, none⟩ = some (.int .i64 s.g) ∧ w.cell? ⟨b, 4, none⟩ = some (.int .i64 k) ∧ b < w.heap.size
theorem GoalAt.only {T : Nat → Prop} {w w' : World} {b : Nat} {s : SD} {k : Nat} (h : GoalAt w b s k) (ho : Only T w w') (hb : ¬ T b) : GoalAt w' b s k := by
  have e := ho.block b h.2.2.2.2.2 hb
  obtain ⟨e0, e1, e2, e3, e4, hlt⟩ := h
  exact ⟨(World.cell?_of_block (a := ⟨b, 0, none⟩) e).trans e0, (World.cell?_of_block (a := ⟨b, 1, none⟩) e).trans e1, (World.cell?_of_block (a := ⟨b, 2, none⟩) e).trans e2, (World.cell?_of_block (a := ⟨b, 3, none⟩) e).trans e3, (World.cell?_of_block (a := ⟨b, 4, none⟩) e).trans e4, Nat.lt_of_lt_of_le hlt ho.size⟩
theorem GoalAt.new (w : World) (t : TypeId) (s : SD) (k : Nat) : GoalAt (w.alloc (.cells #[.int .i64 s.b, .int .i64 s.h, .int .i64 s.l, .int .i64 s.g, .int .i64 k] t)) w.heap.size s k := by refine ⟨?_, ?_, ?_, ?_, ?_, ?_⟩ <;> simp

/-- A variable of the call's own for a map. -/
def MapVar (w : World) (b : Nat) : Prop := w.cell? ⟨b, 0, none⟩ = some (.map none) ∧ w.frozen? ⟨b, 0, none⟩ = false ∧ b < w.heap.size
theorem MapVar.below {w w' : World} {b : Nat} (h : MapVar w b) (hb : Below w.heap.size w w') : MapVar w' b :=
  ⟨by rw [hb.cell (p := ⟨b, 0, none⟩) h.2.2]; exact h.1, by rw [hb.frozen (p := ⟨b, 0, none⟩) h.2.2]; exact h.2.1, Nat.lt_of_lt_of_le h.2.2 hb.size⟩
theorem Only.of_set (w : World) (b j : Nat) (v : Value) : Only (fun k => k = b) w (w.setCell ⟨b, j, none⟩ v) :=
  ⟨rfl, rfl, rfl, by simp only [setCell_size]; exact Nat.le_refl _, fun k _ hk => Below.heap_setCell _ _ _ k hk⟩

set_option maxHeartbeats 1600000 in
theorem implNewNotebook (w : World) : Calls Tryz.prog 154 #[] w fun e w' => ∃ m, e = .returned (.agg #[.map (some m)]) ∧ w.heap.size ≤ m ∧ NoteAt w' m ∧ Below w.heap.size w w' := by
  have hmm := @run_makeMap Tryz.prog
  have B0 := alloc_below w (.cells #[.map none] 164)
  have s0 : (w.alloc (.cells #[.map none] 164)).heap.size = w.heap.size + 1 := by simp
  go_enter Tryz.func154, Tryz.ntmps154
  go_wp2
  have hN := NoteAt.made (w.alloc (.cells #[.map (some (w.heap.size + 1))] 164))
  have sN : (w.alloc (.cells #[.map (some (w.heap.size + 1))] 164)).heap.size = w.heap.size + 1 := by simp
  rw [sN] at hN
  refine bodyPost_ret (v := .agg #[.map (some (w.heap.size + 1))]) (by simp [results, Tryz.results154, go_sem]) rfl ⟨_, rfl, by omega, hN, ((Below.refl _ w).alloc (Nat.le_refl _) _).alloc (by simp) _⟩

set_option maxHeartbeats 1600000 in
theorem implNewSearch (w : World) : Calls Tryz.prog 126 #[] w fun e w' => ∃ m, e = .returned (.agg #[.map (some m)]) ∧ w.heap.size ≤ m ∧ NoteAt w' m ∧ Below w.heap.size w w' := by
  have C := Lib.hid (fun W => implNewNotebook W)
  have B0 := Lib.hid (alloc_below w (.cells #[.map none] 166))
  have V0 : Hid (MapVar (w.alloc (.cells #[.map none] 166)) w.heap.size) := by refine ⟨?_, ?_, ?_⟩ <;> simp
  generalize hX : w.alloc (.cells #[.map none] 166) = X at B0 V0
  have hXs : w.heap.size < X.heap.size := V0.out.2.2
  go_enter Tryz.func126, Tryz.ntmps126
  go_wp2_with fail
  refine (C.out _).mono ?_
  rintro e w1 ⟨m, rfl, hm, hN, b1⟩
  have B1 := Lib.hid (below_up B0.out b1)
  have hne : m ≠ w.heap.size := by omega
  have hwm : w.heap.size ≤ m := by omega
  obtain ⟨v0, v1, -⟩ := V0.out.below b1
  have HN := Lib.hid hN
  clear hN b1 hm hX
  go_wp2
  have o : Only (fun j => j = w.heap.size) w1 (w1.setCell ⟨w.heap.size, 0, none⟩ (.map (some m))) := Only.of_set w1 _ _ _
  refine bodyPost_ret (v := .agg #[.map (some m)]) (by simp [results, Tryz.results126, go_sem, v0]) rfl ⟨_, rfl, hwm, HN.out.same (o.block m HN.out.lt hne), B1.out.setCell (Nat.le_refl _) _⟩
end Go.Proofs.YtlflblngbneacabGreatDoor

/- The contracts of the program's lookUp, of canFind round the contract of firstPick, and of leadsOn round the contract of canFind. Conditions: valid states, at most three weighings, a map each entry of which is right. -/
namespace Go.Proofs.YtlflblngbneacabGreatDoor
open Go.RowKit

/-- Only the map's block may have turned. -/
abbrev JustMap (m : Nat) (w w' : World) : Prop := Only (fun j => j = m) w w'
/-- canFind tells whether the case of a valid state can be found. -/
def CanC (k : Nat) : Prop := ∀ s, SIn s → ∀ m W, NoteAt W m → Calls Tryz.prog 128 #[searchV m, stateV s, .int .i64 k] W fun e W' => e = .returned (.bool (canS k s)) ∧ NoteAt W' m ∧ JustMap m W W'
/-- The first pick that leads on. -/
def firstK (k : Nat) (s : SD) : Option PD := firstP (canS (k - 1)) (3 ^ (k - 1)) s
def FirstC (k : Nat) : Prop := ∀ s, SIn s → ∀ m W, NoteAt W m → Calls Tryz.prog 158 #[searchV m, stateV s, .int .i64 k] W fun e W' => e = .returned (.tuple #[pickV ((firstK k s).getD zeroP), .bool (firstK k s).isSome]) ∧ NoteAt W' m ∧ JustMap m W W'

set_option maxRecDepth 100000 in
set_option maxHeartbeats 3200000 in
theorem implLookUp (m : Nat) (s : SD) (k : Nat) (hs : SIn s) (hk : k ≤ 3) (a b c : Value) (W : World) (hN : NoteAt W m)
    (HF : ∀ W1, NoteAt W1 m → Below W.heap.size W W1 → Calls Tryz.prog 157 #[a, b, c] W1 fun e W2 => e = .returned (.bool (canS k s)) ∧ NoteAt W2 m ∧ JustMap m W1 W2) :
    Calls Tryz.prog 156 #[.agg #[.map (some m)], goalV s k, .func (.func 157) #[] #[a, b, c]] W fun e W' => e = .returned (.bool (canS k s)) ∧ NoteAt W' m ∧ JustMap m W W' := by
  have HP : Hid (∀ w, NoteAt w m → ∃ w', (Instr.mapUpdate 162 (.map (some m)) (goalV s k) (.bool (canS k s))).run Tryz.prog w = .ok () w' ∧ NoteAt w' m ∧ JustMap m w w') := fun w h => h.put hs hk
  have hm := hN.lt
  have M0 := MapBox.new W 164 m
  have B0 := alloc_below W (.cells #[.map (some m)] 164)
  have s0 : (W.alloc (.cells #[.map (some m)] 164)).heap.size = W.heap.size + 1 := by simp
  generalize hX0 : W.alloc (.cells #[.map (some m)] 164) = X0 at M0 B0 s0
  have G0 := GoalAt.new X0 169 s k
  have B1 := alloc_below X0 (.cells #[.int .i64 s.b, .int .i64 s.h, .int .i64 s.l, .int .i64 s.g, .int .i64 k] 169)
  rw [s0] at G0
  generalize hX1 : X0.alloc (.cells #[.int .i64 s.b, .int .i64 s.h, .int .i64 s.l, .int .i64 s.g, .int .i64 k] 169) = X1 at G0 B1
  have M1 := Lib.hid (M0.below B1)
  have BX := Lib.hid (below_up B0 B1)
  have N1 := Lib.hid (hN.below BX.out)
  have G1 := Lib.hid G0
  have HC := Lib.hid (HF X1 N1.out BX.out)
  have look := N1.out.look hs hk
  have J1 : Hid (JustMap m W X1) := Only.fresh BX.out
  clear M0 B0 B1 G0 HF hs hk hN
  generalize canS k s = r at HP HC look ⊢
  unfold goalV at HP look ⊢
  obtain ⟨e0, e1, e2, e3, e4, -⟩ := G1.out
  obtain ⟨f0, -⟩ := M1.out
  rcases look with look | look
  · go_enter Tryz.func156, Tryz.ntmps156
    go_wp2_with fail
    refine (HC.out).mono ?_
    rintro e w2 ⟨rfl, hN2, hJ2⟩
    obtain ⟨w3, hput, hN3, hJ3⟩ := HP.out w2 hN2
    obtain ⟨g0, g1, g2, g3, g4, -⟩ := G1.out.only hJ2 (by omega)
    obtain ⟨h0, -⟩ := M1.out.only hJ2 (by omega)
    have HN := Lib.hid hN3
    have HJ := Lib.hid ((J1.out.trans hJ2).trans hJ3)
    clear hN2 hJ2 hN3 hJ3 look HC HP e0 e1 e2 e3 e4 f0 hX0 hX1 s0
    go_wp2
    go_ret
    exact ⟨rfl, HN.out, HJ.out⟩
  · clear HC HP
    go_enter Tryz.func156, Tryz.ntmps156
    go_wp2
    go_ret
    exact ⟨rfl, N1.out, J1.out⟩

set_option maxRecDepth 100000 in
set_option maxHeartbeats 3200000 in
theorem implFound (k : Nat) (s : SD) (hs : SIn s) (HF : FirstC k) (m b0 b1 b2 : Nat) (W : World) (hM : MapBox W b0 m) (hS : StateAt W b1 s) (hK : NumBox W b2 k) (hN : NoteAt W m) :
    Calls Tryz.prog 157 #[.pointer (some ⟨b0, 0, none⟩), .pointer (some ⟨b1, 0, none⟩), .pointer (some ⟨b2, 0, none⟩)] W fun e W' => e = .returned (.bool (firstK k s).isSome) ∧ NoteAt W' m ∧ JustMap m W W' := by
  have C := Lib.hid (HF s hs m W hN)
  generalize (firstK k s).isSome = ok at C ⊢
  generalize (firstK k s).getD zeroP = g at C
  unfold searchV stateV pickV at C
  obtain ⟨f0, -⟩ := hM
  obtain ⟨e0, e1, e2, e3, -⟩ := hS
  obtain ⟨g0, -⟩ := hK
  go_enter Tryz.func157, Tryz.ntmps157
  go_wp2_with fail
  refine (C.out).mono ?_
  rintro e w1 ⟨rfl, hN1, hJ1⟩
  have B2 := alloc_below w1 (.cells #[.int .i64 g.bl, .int .i64 g.br, .int .i64 g.hl, .int .i64 g.hr, .int .i64 g.ll, .int .i64 g.lr, .int .i64 g.gl, .int .i64 g.gr] 64)
  have HN := Lib.hid (hN1.below B2)
  have HJ : Hid (JustMap m W (w1.alloc (.cells #[.int .i64 g.bl, .int .i64 g.br, .int .i64 g.hl, .int .i64 g.hr, .int .i64 g.ll, .int .i64 g.lr, .int .i64 g.gl, .int .i64 g.gr] 64))) := hJ1.trans (Only.fresh B2)
  clear hN1 hJ1 B2 f0 e0 e1 e2 e3 g0 C hN
  go_wp2
  go_ret
  exact ⟨rfl, HN.out, HJ.out⟩
end Go.Proofs.YtlflblngbneacabGreatDoor

/- The contract of the program's canFind round the contract of firstPick, and of leadsOn round the contract of canFind. Conditions: valid states, at most three weighings, a map each entry of which is right. -/
namespace Go.Proofs.YtlflblngbneacabGreatDoor
open Go.RowKit

theorem MapBox.cells {w : World} {b m : Nat} (h : MapBox w b m) : w.cell? ⟨b, 0, none⟩ = some (.map (some m)) ∧ b < w.heap.size := h
theorem canS_ways (k : Nat) (s : SD) : (countS s ≤ 1 → canS k s = true) ∧ (¬ countS s ≤ 1 → (3 : Int) ^ k < countS s → canS k s = false) ∧ (¬ countS s ≤ 1 → ¬ (3 : Int) ^ k < countS s → 1 ≤ k ∧ canS k s = (firstK k s).isSome) := by
  cases k with
  | zero =>
    unfold canS
    refine ⟨fun h => decide_eq_true h, fun h _ => decide_eq_false h, fun h h2 => ?_⟩
    exact absurd (show (3 : Int) ^ 0 < countS s by simp; omega) h2
  | succ j =>
    unfold canS firstK
    refine ⟨fun h => by rw [decide_eq_true h]; rfl, fun h h2 => ?_, fun h h2 => ⟨by omega, ?_⟩⟩
    · rw [decide_eq_false h, decide_eq_false (by omega)]; rfl
    · rw [decide_eq_false h, decide_eq_true (by omega)]; simp

set_option maxRecDepth 100000 in
set_option maxHeartbeats 3200000 in
theorem implCan (k : Nat) (hk : k ≤ 3) (HF : 1 ≤ k → FirstC k) : CanC k := by
  intro s hs m W hN
  have CC := Lib.hid (fun W => implCountCases s W)
  have HCS : Hid (casesS s = countS s) := by unfold Hid casesS; rw [if_pos (stateB_iff.2 hs)]
  have CM := Lib.hid (fun W => implMost k hk W)
  have HR := Lib.hid (canS_ways k s)
  have CL : Hid (1 ≤ k → canS k s = (firstK k s).isSome → ∀ b0 b1 b2 W3, NoteAt W3 m → MapBox W3 b0 m → StateAt W3 b1 s → NumBox W3 b2 k →
      Calls Tryz.prog 156 #[.agg #[.map (some m)], goalV s k, .func (.func 157) #[] #[.pointer (some ⟨b0, 0, none⟩), .pointer (some ⟨b1, 0, none⟩), .pointer (some ⟨b2, 0, none⟩)]] W3 fun e W' => e = .returned (.bool (canS k s)) ∧ NoteAt W' m ∧ JustMap m W3 W') := by
    intro h1 h2 b0 b1 b2 W3 hN3 hM3 hS3 hK3
    refine implLookUp m s k hs hk _ _ _ W3 hN3 fun W1 hN1 hb => ?_
    rw [h2]
    exact implFound k s hs (HF h1) m b0 b1 b2 W1 (hM3.below hb) (hS3.below hb) (hK3.below hb) hN1
  have hm := hN.lt
  have M0 := MapBox.new W 166 m
  have B0 := alloc_below W (.cells #[.map (some m)] 166)
  have s0 : (W.alloc (.cells #[.map (some m)] 166)).heap.size = W.heap.size + 1 := by simp
  generalize hX0 : W.alloc (.cells #[.map (some m)] 166) = X0 at M0 B0 s0
  have P0 := StateAt.new X0 56 s
  have B1 := alloc_below X0 (.cells #[.int .i64 s.b, .int .i64 s.h, .int .i64 s.l, .int .i64 s.g] 56)
  have s1 : (X0.alloc (.cells #[.int .i64 s.b, .int .i64 s.h, .int .i64 s.l, .int .i64 s.g] 56)).heap.size = W.heap.size + 2 := by simp [s0]
  rw [s0] at P0
  generalize hX1 : X0.alloc (.cells #[.int .i64 s.b, .int .i64 s.h, .int .i64 s.l, .int .i64 s.g] 56) = X1 at P0 B1 s1
  have K0 := NumBox.new X1 3 k
  have B2 := alloc_below X1 (.cells #[.int .i64 k] 3)
  rw [s1] at K0
  generalize hX2 : X1.alloc (.cells #[.int .i64 k] 3) = X2 at K0 B2
  have M2 := Lib.hid ((M0.below B1).below B2)
  have P2 := Lib.hid (P0.below B2)
  have K2 := Lib.hid K0
  have BX := Lib.hid (below_up (below_up B0 B1) B2)
  have HN := Lib.hid hN
  clear M0 P0 K0 B0 B1 B2 HF hs hk hN
  generalize canS k s = r at HR CL ⊢
  generalize (firstK k s).isSome = ok at HR CL
  unfold searchV
  unfold stateV at CC ⊢
  unfold goalV at CL
  obtain ⟨e0, e1, e2, e3, -⟩ := P2.out
  go_enter Tryz.func128, Tryz.ntmps128
  go_wp2_with fail
  refine (CC.out _).mono ?_
  rintro e w1 ⟨rfl, b1⟩
  rw [HCS.out]
  have B1 := Lib.hid (below_up BX.out b1)
  have M1 := Lib.hid (M2.out.below b1)
  have P1 := Lib.hid (P2.out.below b1)
  have K1 := Lib.hid (K2.out.below b1)
  clear b1 e0 e1 e2 e3 M2 P2 K2 BX hX0 hX1 hX2 s0 s1 HCS
  generalize countS s = n at HR
  by_cases h1 : n ≤ 1
  · have HE : Hid (true = r) := (HR.out.1 h1).symm
    clear HR CL
    go_wp2
    go_ret
    exact ⟨ret_bool HE.out, HN.out.below B1.out, Only.fresh B1.out⟩
  · have HR2 := Lib.hid (HR.out.2.1 (by omega))
    have HR3 := Lib.hid (HR.out.2.2 (by omega))
    clear HR
    obtain ⟨k0, -⟩ := K1.out
    go_wp2_with fail
    refine (CM.out _).mono ?_
    rintro e w2 ⟨rfl, rfl⟩
    generalize (3 : Int) ^ k = q at HR2 HR3
    by_cases h2 : q < n
    · have HE : Hid (false = r) := (HR2.out h2).symm
      clear HR2 HR3 CL
      go_wp2
      go_ret
      exact ⟨ret_bool HE.out, HN.out.below B1.out, Only.fresh B1.out⟩
    · obtain ⟨hk1, he⟩ := HR3.out (by omega)
      have CL2 := Lib.hid (CL.out hk1 he _ _ _ w1 (HN.out.below B1.out) M1.out P1.out K1.out)
      clear HR2 HR3 CL hk1 he
      obtain ⟨m0, -⟩ := M1.out
      obtain ⟨e0, e1, e2, e3, -⟩ := P1.out
      go_wp2_with fail
      refine (CL2.out).mono ?_
      rintro e w3 ⟨rfl, hN3, hJ3⟩
      have HN3 := Lib.hid hN3
      have HJ3 : Hid (JustMap m W w3) := (Only.fresh B1.out).trans hJ3
      clear hN3 hJ3 CL2
      go_wp2
      go_ret
      exact ⟨rfl, HN3.out, HJ3.out⟩

/-- Whether one weighing fewer is enough after each outcome, in the program's order. -/
def leadsB (k : Nat) (s : SD) (p : PD) : Bool := ([-1, 0, 1] : List Int).all fun x => canS k (afterS s p x)
theorem leads_step {f : Int → Bool} {i : Nat} (h : i < 3) : (([-1, 0, 1] : List Int).drop i).all f = (f ((i : Int) - 1) && (([-1, 0, 1] : List Int).drop (i + 1)).all f) := by
  rcases i with _ | _ | _ | i
  · rfl
  · rfl
  · rfl
  · omega

set_option maxRecDepth 100000 in
set_option maxHeartbeats 6400000 in
theorem implLeads (j : Nat) (hj : j ≤ 2) (HC : CanC j) (K : Int) (hK : K = (j : Int) + 1) (s : SD) (p : PD) (hs : SIn s) (hp : PIn s p) (m : Nat) (W : World) (hN : NoteAt W m) :
    Calls Tryz.prog 195 #[searchV m, stateV s, pickV p, .int .i64 K] W fun e W' => e = .returned (.bool (leadsB j s p)) ∧ NoteAt W' m ∧ JustMap m W W' := by
  have CA : Hid (∀ x, -1 ≤ x ∧ x ≤ 1 → ∀ W, Calls Tryz.prog 194 #[stateV s, pickV p, .int .i64 x] W fun e w' => e = .returned (stateV (afterS s p x)) ∧ Below W.heap.size W w') := fun x hx W => implStateAfter s p x hx hs hp W
  have CF : Hid (∀ x W, NoteAt W m → Calls Tryz.prog 128 #[searchV m, stateV (afterS s p x), .int .i64 j] W fun e W' => e = .returned (.bool (canS j (afterS s p x))) ∧ NoteAt W' m ∧ JustMap m W W') := fun x W h => HC _ (after_in hs hp) m W h
  have hwj : IntKind.i64.wrap (K - 1) = (j : Int) := by rw [IntKind.wrap_i64]; omega
  have HX : Hid (leadsB j s p = (([-1, 0, 1] : List Int).drop 0).all (fun x => canS j (afterS s p x))) := rfl
  have hm := hN.lt
  have M0 := MapBox.new W 166 m
  have B0 := alloc_below W (.cells #[.map (some m)] 166)
  have s0 : (W.alloc (.cells #[.map (some m)] 166)).heap.size = W.heap.size + 1 := by simp
  generalize hX0 : W.alloc (.cells #[.map (some m)] 166) = X0 at M0 B0 s0
  have P0 := StateAt.new X0 56 s
  have B1 := alloc_below X0 (.cells #[.int .i64 s.b, .int .i64 s.h, .int .i64 s.l, .int .i64 s.g] 56)
  have s1 : (X0.alloc (.cells #[.int .i64 s.b, .int .i64 s.h, .int .i64 s.l, .int .i64 s.g] 56)).heap.size = W.heap.size + 2 := by simp [s0]
  rw [s0] at P0
  generalize hX1 : X0.alloc (.cells #[.int .i64 s.b, .int .i64 s.h, .int .i64 s.l, .int .i64 s.g] 56) = X1 at P0 B1 s1
  have Q0 := PickAt.new X1 64 p
  have B2 := alloc_below X1 (.cells #[.int .i64 p.bl, .int .i64 p.br, .int .i64 p.hl, .int .i64 p.hr, .int .i64 p.ll, .int .i64 p.lr, .int .i64 p.gl, .int .i64 p.gr] 64)
  rw [s1] at Q0
  generalize hX2 : X1.alloc (.cells #[.int .i64 p.bl, .int .i64 p.br, .int .i64 p.hl, .int .i64 p.hr, .int .i64 p.ll, .int .i64 p.lr, .int .i64 p.gl, .int .i64 p.gr] 64) = X2 at Q0 B2
  have M2 := Lib.hid ((M0.below B1).below B2)
  have P2 := Lib.hid (P0.below B2)
  have Q2 := Lib.hid Q0
  have BX := Lib.hid (below_up (below_up B0 B1) B2)
  have N2 := Lib.hid (hN.below BX.out)
  clear M0 P0 Q0 B0 B1 B2 hs hp hN HC hK
  generalize leadsB j s p = r at HX ⊢
  unfold searchV at CF ⊢
  unfold stateV at CA CF ⊢
  unfold pickV at CA ⊢
  go_enter Tryz.func195, Tryz.ntmps195
  go_wp2
  go_loopw [9] (fun v wr => ∃ i : Nat, i ≤ 3 ∧ v = .int .i64 ((i : Int) - 1) ∧ Hid (r = (([-1, 0, 1] : List Int).drop i).all (fun x => canS j (afterS s p x))) ∧ Hid (NoteAt wr m) ∧ Hid (JustMap m X2 wr)) (fun v _ => 3 - (intOf v + 1).toNat)
  case atStart => exact ⟨0, by omega, rfl, HX, N2, Only.refl _ _⟩
  case round =>
    clear HX
    obtain ⟨i, hi, rfl, HR, NR, JR⟩ := hrel
    by_cases hlt : i < 3
    · have HT := Lib.hid (leads_step (f := fun x => canS j (afterS s p x)) hlt)
      obtain ⟨x, hx⟩ : ∃ x : Int, (i : Int) - 1 = x := ⟨_, rfl⟩
      have x1 : x ≤ 1 := by omega
      have x2 : -1 ≤ x := by omega
      have hwx : IntKind.i64.wrap (x + 1) = ((i + 1 : Nat) : Int) - 1 := by rw [IntKind.wrap_i64]; omega
      rw [hx] at HT ⊢
      have HX := Lib.hid hx
      clear hx
      have CAx := Lib.hid (CA.out x ⟨x2, x1⟩)
      have CFx := Lib.hid (CF.out x)
      generalize afterS s p x = sx at CAx CFx HT
      have M3 := Lib.hid (M2.out.only JR.out (by omega))
      have P3 := Lib.hid (P2.out.only JR.out (by omega))
      have Q3 := Lib.hid (Q2.out.only JR.out (by omega))
      obtain ⟨m0, ml⟩ := M3.out
      obtain ⟨e0, e1, e2, e3, -⟩ := P3.out
      obtain ⟨q0, q1, q2, q3, q4, q5, q6, q7, -⟩ := Q3.out
      have D3 : Hid (Below wr.heap.size wr wr.drew) := (Below.refl _ _).drew
      go_upto_region 4 with fail
      go_region_held3 (fun w' => (w'.cell? ⟨W.heap.size, 0, none⟩ = some (.map (some m)) ∧ W.heap.size < w'.heap.size) ∧ (w'.cell? ⟨W.heap.size + 1, 0, none⟩ = some (.int .i64 s.b) ∧ w'.cell? ⟨W.heap.size + 1, 1, none⟩ = some (.int .i64 s.h) ∧ w'.cell? ⟨W.heap.size + 1, 2, none⟩ = some (.int .i64 s.l) ∧ w'.cell? ⟨W.heap.size + 1, 3, none⟩ = some (.int .i64 s.g) ∧ W.heap.size + 1 < w'.heap.size) ∧ (w'.cell? ⟨W.heap.size + 2, 0, none⟩ = some (.int .i64 p.bl) ∧ w'.cell? ⟨W.heap.size + 2, 1, none⟩ = some (.int .i64 p.br) ∧ w'.cell? ⟨W.heap.size + 2, 2, none⟩ = some (.int .i64 p.hl) ∧ w'.cell? ⟨W.heap.size + 2, 3, none⟩ = some (.int .i64 p.hr) ∧ w'.cell? ⟨W.heap.size + 2, 4, none⟩ = some (.int .i64 p.ll) ∧ w'.cell? ⟨W.heap.size + 2, 5, none⟩ = some (.int .i64 p.lr) ∧ w'.cell? ⟨W.heap.size + 2, 6, none⟩ = some (.int .i64 p.gl) ∧ w'.cell? ⟨W.heap.size + 2, 7, none⟩ = some (.int .i64 p.gr) ∧ W.heap.size + 2 < w'.heap.size))
        (first | with_reducible exact ⟨M5.out.cells, P5.out.cells, Q5.out.cells⟩ | with_reducible exact ⟨M4.out.cells, P4.out.cells, Q4.out.cells⟩ | with_reducible exact ⟨(M3.out.below D3.out).cells, P3.out.drewT.cells, Q3.out.drewT.cells⟩ | fail)
        (first
          | (go_at_call 194; refine (CAx.out _).mono ?_; rintro e w4 ⟨rfl, b4⟩; have D4 := Lib.hid (D3.out.trans b4); have M4 := Lib.hid (M3.out.below D4.out); have P4 := Lib.hid (P3.out.below D4.out); have Q4 := Lib.hid (Q3.out.below D4.out); have N4 := Lib.hid (NR.out.below D4.out); have J4 := Lib.hid (JR.out.trans (Only.fresh D4.out)); clear b4)
          | (go_at_call 128; refine (CFx.out _ N4.out).mono ?_; rintro e w5 ⟨rfl, hN5, hJ5⟩; have M5 := Lib.hid (M4.out.only hJ5 (by omega)); have P5 := Lib.hid (P4.out.only hJ5 (by omega)); have Q5 := Lib.hid (Q4.out.only hJ5 (by omega)); have N5 := Lib.hid hN5; have J5 := Lib.hid (J4.out.trans hJ5); clear hN5 hJ5)
          | fail)
      cases hcan : canS j sx with
      | true =>
        have HF : Hid (r = (([-1, 0, 1] : List Int).drop (i + 1)).all (fun x => canS j (afterS s p x))) := by unfold Hid; rw [HR.out, HT.out, hcan, Bool.true_and]
        clear HR HT hcan
        go_wp2
        go_roundw
        case rel => exact ⟨i + 1, by omega, by first | rfl | trivial | go_num, HF, N5, J5⟩
        case measure =>
          have hx := HX.out
          simp [intOf]; omega
      | false =>
        have HF : Hid (false = r) := by unfold Hid; rw [HR.out, HT.out, hcan]; rfl
        clear HR HT hcan
        go_wp2
        go_ret
        exact ⟨ret_bool HF.out, N5.out, (Only.fresh BX.out).trans J5.out⟩
    · have HF : Hid (true = r) := by unfold Hid; rw [HR.out, List.drop_of_length_le (by simp; omega)]; rfl
      obtain rfl : i = 3 := by omega
      clear HR
      go_wp2
      go_ret
      exact ⟨ret_bool HF.out, NR.out, (Only.fresh BX.out).trans JR.out⟩
end Go.Proofs.YtlflblngbneacabGreatDoor
