/- The map of what a contest has found out: its keys are positions (three numbers), and each entry is right. Condition: at most 24 numbers fit, at most 8 questions are left. -/
import Derived.Test.YtnpmkoeceihepaaGWei
import Derived.Test.YtnpmkoeceihepaaLiePlain
import Derived.DeepKeys4
import Derived.Maps.Keyed
import Derived.RangeFuncBox
namespace Go.Proofs.Ytnpmkoeceihepaa
open Go.RowKit Go.MapKept
open Go.ChangeMaps (setBlock)

def posV (a b q : Nat) : Value := .agg #[.int .i64 a, .int .i64 b, .int .i64 q]
theorem posV_inj {a b q a' b' q' : Nat} (e : posV a b q = posV a' b' q') : a = a' ∧ b = b' ∧ q = q' := by
  simp only [posV, Value.agg.injEq, Array.mk.injEq, List.cons.injEq, Value.int.injEq, true_and, and_true] at e
  omega
theorem posLaid : laidOutB Try.prog = true := by kernel_rfl
theorem posRow : (56 : TypeId) < Try.prog.types.size := of_decide_eq_true (by kernel_rfl)
theorem posDeep : Try.prog.keyTypeAt (Try.prog.types.size + 1) 56 = true := by kernel_rfl
theorem posAt3 : Try.prog.keyTypeAt 3 56 = true := by kernel_rfl
theorem posLaw : WideMaps.KeyLaw Try.prog 56 := deep_law_laid posLaid (m := 3) (by omega) posRow posAt3 (by rw [Try.underlying56])
theorem posKeyed : Maps.Keyed Try.prog 56 := Maps.Keyed.of_law posLaw
theorem posCells : Try.prog.cellsOf 56 = 3 := by kernel_rfl
theorem posFormed {a b c : Value} : (Value.agg #[a, b, c]).formed Try.prog 56 = true := by simp [Value.formed, Try.underlying56, posCells]
theorem posRead (n : Nat) {x0 x1 x2 : Int} (h0 : (Lit.int .i64 x0).wf = true) (h1 : (Lit.int .i64 x1).wf = true) (h2 : (Lit.int .i64 x2).wf = true) :
    Try.prog.keyLits (n + 3) 56 [.int .i64 x0, .int .i64 x1, .int .i64 x2] = some [.int .i64 x0, .int .i64 x1, .int .i64 x2] := by
  have c2 : Try.prog.cellsOf 3 = 1 := by kernel_rfl
  simp [Program.keyLits, Try.underlying56, Try.underlying3, posCells, c2, h0, h1, h2]
  try rw [if_pos (by intro i hi; rcases i with _ | _ | _ | i <;> first | (simp; done) | omega)]
  try rfl
theorem posTypes : ∃ n, Try.prog.types.size + 1 = n + 3 := ⟨Try.prog.types.size - 2, by have h : ((56 : Nat)) < Try.prog.types.size := posRow; omega⟩
/-- A position of a contest. -/
def PosIn (a b q : Nat) : Prop := a + b ≤ 24 ∧ q ≤ 8
theorem keyOf_pos {a b q : Nat} (h : PosIn a b q) : ∃ l, Go.keyOf Try.prog 56 (posV a b q) = some l := by
  have wj : ∀ x : Nat, x ≤ 24 → (Lit.int .i64 x).wf = true := fun x hx => by
    simp [Lit.wf, IntKind.min, IntKind.max, IntKind.signed, IntKind.bits]
    omega
  unfold PosIn at h
  obtain ⟨n, hn⟩ := posTypes
  have kr := posRead n (wj a (by omega)) (wj b (by omega)) (wj q (by omega))
  have kt : Try.prog.keyType 56 = true := posDeep
  unfold Go.keyOf
  rw [Try.underlying56]
  simp only [posV, kt, posFormed, Bool.and_self, if_true, Value.cells, hn]
  rw [kr]
  exact ⟨_, rfl⟩

/-- An entry that is right. -/
def RightP (e : MapEntry) : Prop := ∃ a b q, PosIn a b q ∧ e.key = posV a b q ∧ e.val = .bool (winB q a b)
/-- Block m is a map each entry of which is right. -/
def WinsAt (w : World) (m : Nat) : Prop := ∃ es clock, w.heap[m]? = some (.map es clock) ∧ ∀ e ∈ es.toList, RightP e
theorem WinsAt.lt {w : World} {m : Nat} (h : WinsAt w m) : m < w.heap.size := by
  obtain ⟨es, clock, hb, -⟩ := h
  exact (Array.getElem?_eq_some_iff.1 hb).1
theorem WinsAt.made (w : World) : WinsAt (w.alloc (.map #[] 0)) w.heap.size := ⟨#[], 0, (MapKept.heap_alloc w _).1, by simp⟩
theorem WinsAt.same {w w' : World} {m : Nat} (h : WinsAt w m) (e : w'.heap[m]? = w.heap[m]?) : WinsAt w' m := by
  obtain ⟨es, clock, hb, hr⟩ := h
  exact ⟨es, clock, e.trans hb, hr⟩
theorem WinsAt.below {w w' : World} {m : Nat} (h : WinsAt w m) (hb : Below w.heap.size w w') : WinsAt w' m := h.same (hb.block m h.lt)
theorem WinsAt.keys {es : Array MapEntry} (h : ∀ e ∈ es.toList, RightP e) : ∀ e ∈ es.toList, ∃ l, Go.keyOf Try.prog 56 e.key = some l := fun e he => by
  obtain ⟨a, b, q, hp, h1, -⟩ := h e he
  rw [h1]
  exact keyOf_pos hp

/-- A position is looked up: what is known of it is right. -/
theorem WinsAt.look {w : World} {m : Nat} (h : WinsAt w m) {a b q : Nat} (hp : PosIn a b q) :
    (Instr.lookup 49 (.map (some m)) (posV a b q) true).run Try.prog w = .ok (.tuple #[.bool false, .bool false]) w ∨
    (Instr.lookup 49 (.map (some m)) (posV a b q) true).run Try.prog w = .ok (.tuple #[.bool (winB q a b), .bool true]) w := by
  have ht := Try.underlying49
  have hz : (zeroValue 4).run Try.prog w = .ok (.bool false) w := by first | exact Try.zeroValue4 _ | simp [Try.zeroValue4]
  obtain ⟨es, clock, hb, hr⟩ := h
  obtain ⟨kl, hkey⟩ := keyOf_pos hp
  rcases posKeyed.find w hkey es.toList (WinsAt.keys hr) with ⟨h1, -⟩ | ⟨j, e0, h1, h2, h3⟩
  · exact .inl (by simp [Instr.lookup, run_underlying ht, MapKept.run_getObj_map hb, posKeyed.check w _ hkey, h1, hz, Result.andThen])
  · refine .inr ?_
    obtain ⟨a', b', q', -, e1, e2⟩ := hr e0 (List.mem_of_getElem? h2)
    obtain ⟨rfl, rfl, rfl⟩ := posV_inj (h3.symm.trans e1)
    simp [Instr.lookup, run_underlying ht, MapKept.run_getObj_map hb, posKeyed.check w _ hkey, h1, Result.andThen, e2]

/-- A position is noted down: the map stays right, and nothing else turns. -/
theorem WinsAt.put {w : World} {m : Nat} (h : WinsAt w m) {a b q : Nat} (hp : PosIn a b q) :
    ∃ w', (Instr.mapUpdate 49 (.map (some m)) (posV a b q) (.bool (winB q a b))).run Try.prog w = .ok () w' ∧ WinsAt w' m ∧ Only (fun j => j = m) w w' := by
  have ht := Try.underlying49
  have hlt := h.lt
  obtain ⟨es, clock, hb, hr⟩ := h
  obtain ⟨kl, hkey⟩ := keyOf_pos hp
  have only : ∀ o, Only (fun j => j = m) w (setBlock w m o) := fun o =>
    ⟨rfl, rfl, rfl, by simp [setBlock], fun j _ hj => by simp [setBlock, Array.getElem?_setIfInBounds]; intro e; exact absurd e.symm hj⟩
  have at_ : ∀ o, (setBlock w m o).heap[m]? = some o := fun o => by simp [setBlock, hlt]
  have hnew : ∀ c : Nat, RightP ⟨posV a b q, .bool (winB q a b), c⟩ := fun c => ⟨a, b, q, hp, rfl, rfl⟩
  rcases posKeyed.find w hkey es.toList (WinsAt.keys hr) with ⟨h1, -⟩ | ⟨j, e0, h1, h2, h3⟩
  · refine ⟨setBlock w m (.map (es.push ⟨posV a b q, .bool (winB q a b), clock⟩) (clock + 1)), ?_, ⟨_, _, at_ _, ?_⟩, only _⟩
    · simp [Instr.mapUpdate, run_underlying ht, MapKept.run_getObj_map hb, posKeyed.check w false hkey, h1, MapKept.run_setObj_map _ hb, Result.andThen, setBlock]
    · intro e he
      simp only [Array.toList_push, List.mem_append, List.mem_singleton] at he
      rcases he with he | rfl
      · exact hr e he
      · exact hnew _
  · have hj : es[j]? = some e0 := by simpa using h2
    refine ⟨setBlock w m (.map (es.modify j fun e => { e with key := posV a b q, val := .bool (winB q a b) }) clock), ?_, ⟨_, _, at_ _, ?_⟩, only _⟩
    · simp [Instr.mapUpdate, run_underlying ht, MapKept.run_getObj_map hb, posKeyed.check w false hkey, h1, hj, h3, posKeyed.stays w hkey, MapKept.run_setObj_map _ hb, Result.andThen, setBlock]
    · intro e he
      obtain ⟨i, hi⟩ := List.mem_iff_getElem?.1 he
      rw [Array.getElem?_toList, Array.getElem?_modify] at hi
      split at hi
      · obtain ⟨e1, he1, rfl⟩ := Option.map_eq_some_iff.1 hi
        exact hnew _
      · exact hr e (List.mem_iff_getElem?.2 ⟨i, by simpa using hi⟩)
/-- The map is cleared: nothing but its block turns. -/
theorem WinsAt.clear {w : World} {m : Nat} (h : WinsAt w m) : ∃ w', (∀ ty, (Builtin.clear_ #[49] ty #[.map (some m)]).run Try.prog w = .ok (.tuple #[]) w') ∧ Only (fun j => j = m) w w' := by
  have ht := Try.underlying49
  obtain ⟨es, clock, hb, -⟩ := h
  refine ⟨setBlock w m (.map #[] clock), fun ty => ?_, ⟨rfl, rfl, rfl, by simp [setBlock], fun j _ hj => by simp [setBlock, Array.getElem?_setIfInBounds]; intro e; exact absurd e.symm hj⟩⟩
  simp [Builtin.clear_, run_underlying ht, MapKept.run_getObj_map hb, MapKept.run_setObj_map _ hb, Result.andThen, setBlock]
/-- Block b holds the map of block m. -/
def MapIn (w : World) (b m : Nat) : Prop := w.cell? ⟨b, 0, none⟩ = some (.map (some m)) ∧ b < w.heap.size
theorem MapIn.below {w w' : World} {b m : Nat} (h : MapIn w b m) (hb : Below w.heap.size w w') : MapIn w' b m :=
  ⟨by rw [hb.cell (p := ⟨b, 0, none⟩) h.2]; exact h.1, Nat.lt_of_lt_of_le h.2 hb.size⟩
theorem MapIn.only {T : Nat → Prop} {w w' : World} {b m : Nat} (h : MapIn w b m) (ho : Only T w w') (hb : ¬ T b) : MapIn w' b m :=
  ⟨(World.cell?_of_block (a := ⟨b, 0, none⟩) (ho.block b h.2 hb)).trans h.1, Nat.lt_of_lt_of_le h.2 ho.size⟩
theorem MapIn.new (w : World) (t : TypeId) (m : Nat) : MapIn (w.alloc (.cells #[.map (some m)] t)) w.heap.size m := by refine ⟨?_, ?_⟩ <;> simp
theorem MapIn.cells {w : World} {b m : Nat} (h : MapIn w b m) : w.cell? ⟨b, 0, none⟩ = some (.map (some m)) ∧ b < w.heap.size := h
/-- Block b holds a position. -/
def PosAt (w : World) (b x y q : Nat) : Prop :=
  w.cell? ⟨b, 0, none⟩ = some (.int .i64 x) ∧ w.cell? ⟨b, 1, none⟩ = some (.int .i64 y) ∧ w.cell? ⟨b, 2, none⟩ = some (.int .i64 q) ∧ b < w.heap.size
theorem PosAt.only {T : Nat → Prop} {w w' : World} {b x y q : Nat} (h : PosAt w b x y q) (ho : Only T w w') (hb : ¬ T b) : PosAt w' b x y q := by
  have e := ho.block b h.2.2.2 hb
  obtain ⟨e0, e1, e2, hlt⟩ := h
  exact ⟨(World.cell?_of_block (a := ⟨b, 0, none⟩) e).trans e0, (World.cell?_of_block (a := ⟨b, 1, none⟩) e).trans e1, (World.cell?_of_block (a := ⟨b, 2, none⟩) e).trans e2, Nat.lt_of_lt_of_le hlt ho.size⟩
theorem PosAt.below {w w' : World} {b x y q : Nat} (h : PosAt w b x y q) (hb : Below w.heap.size w w') : PosAt w' b x y q := by
  have e := hb.block b h.2.2.2
  obtain ⟨e0, e1, e2, hlt⟩ := h
  exact ⟨(World.cell?_of_block (a := ⟨b, 0, none⟩) e).trans e0, (World.cell?_of_block (a := ⟨b, 1, none⟩) e).trans e1, (World.cell?_of_block (a := ⟨b, 2, none⟩) e).trans e2, Nat.lt_of_lt_of_le hlt hb.size⟩
theorem PosAt.new (w : World) (t : TypeId) (x y q : Nat) : PosAt (w.alloc (.cells #[.int .i64 x, .int .i64 y, .int .i64 q] t)) w.heap.size x y q := by refine ⟨?_, ?_, ?_, ?_⟩ <;> simp
/-- A variable of the call's own for a map. -/
def MapOwn (w : World) (b : Nat) : Prop := w.cell? ⟨b, 0, none⟩ = some (.map none) ∧ w.frozen? ⟨b, 0, none⟩ = false ∧ b < w.heap.size
theorem MapOwn.below {w w' : World} {b : Nat} (h : MapOwn w b) (hb : Below w.heap.size w w') : MapOwn w' b :=
  ⟨by rw [hb.cell (p := ⟨b, 0, none⟩) h.2.2]; exact h.1, by rw [hb.frozen (p := ⟨b, 0, none⟩) h.2.2]; exact h.2.1, Nat.lt_of_lt_of_le h.2.2 hb.size⟩
theorem only_set (w : World) (b j : Nat) (v : Value) : Only (fun k => k = b) w (w.setCell ⟨b, j, none⟩ v) :=
  ⟨rfl, rfl, rfl, by simp only [setCell_size]; exact Nat.le_refl _, fun k _ hk => Below.heap_setCell _ _ _ k hk⟩
/-- Only the map's block may have turned. -/
abbrev OnlyMap (m : Nat) (w w' : World) : Prop := Only (fun j => j = m) w w'

set_option maxHeartbeats 1600000 in
theorem implNewBook (w : World) : Calls Try.prog 55 #[] w fun e w' => ∃ m, e = .returned (.agg #[.map (some m)]) ∧ w.heap.size ≤ m ∧ WinsAt w' m ∧ Below w.heap.size w w' := by
  have hmm := @run_makeMap Try.prog
  have B0 := alloc_below w (.cells #[.map none] 51)
  have s0 : (w.alloc (.cells #[.map none] 51)).heap.size = w.heap.size + 1 := by simp
  go_enter Try.func55, Try.ntmps55
  go_wp2
  have hN := WinsAt.made (w.alloc (.cells #[.map (some (w.heap.size + 1))] 51))
  have sN : (w.alloc (.cells #[.map (some (w.heap.size + 1))] 51)).heap.size = w.heap.size + 1 := by simp
  rw [sN] at hN
  refine bodyPost_ret (v := .agg #[.map (some (w.heap.size + 1))]) (by simp [results, Try.results55, go_sem]) rfl ⟨_, rfl, by omega, hN, ((Below.refl _ w).alloc (Nat.le_refl _) _).alloc (by simp) _⟩

set_option maxHeartbeats 1600000 in
theorem implNewContest (w : World) : Calls Try.prog 44 #[] w fun e w' => ∃ m, e = .returned (.agg #[.map (some m)]) ∧ w.heap.size ≤ m ∧ WinsAt w' m ∧ Below w.heap.size w w' := by
  have C := Lib.hid (fun W => implNewBook W)
  have B0 := Lib.hid (alloc_below w (.cells #[.map none] 53))
  have V0 : Hid (MapOwn (w.alloc (.cells #[.map none] 53)) w.heap.size) := by refine ⟨?_, ?_, ?_⟩ <;> simp
  generalize hX : w.alloc (.cells #[.map none] 53) = X at B0 V0
  have hXs : w.heap.size < X.heap.size := V0.out.2.2
  go_enter Try.func44, Try.ntmps44
  go_wp2_with fail
  refine (C.out _).mono ?_
  rintro e w1 ⟨m, rfl, hm, hN, b1⟩
  have B1 := Lib.hid (below_up B0.out b1)
  have hne : m ≠ w.heap.size := by omega
  have hwm : w.heap.size ≤ m := by omega
  obtain ⟨v0, v1, -⟩ := V0.out.below b1
  have HN := Lib.hid hN
  clear hN b1 hm hX
  go_wp2
  have o : Only (fun j => j = w.heap.size) w1 (w1.setCell ⟨w.heap.size, 0, none⟩ (.map (some m))) := only_set w1 _ _ _
  refine bodyPost_ret (v := .agg #[.map (some m)]) (by simp [results, Try.results44, go_sem, v0]) rfl ⟨_, rfl, hwm, HN.out.same (o.block m HN.out.lt hne), B1.out.setCell (Nat.le_refl _) _⟩
end Go.Proofs.Ytnpmkoeceihepaa
