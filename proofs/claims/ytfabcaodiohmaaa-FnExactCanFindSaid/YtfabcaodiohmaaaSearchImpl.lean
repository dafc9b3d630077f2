/- The contracts of the program's mostCases, newNotebook, newSearch, lookUp, and of one step of canFind round the contract of firstPick. Conditions: a valid state, at most three weighings, a map each entry of which is right. -/
import Derived.Test.YtfabcaodiohmaaaNotes
import Derived.Test.YtfabcaodiohmaaaAfterImpl
namespace Go.Proofs.Ytfabcaodiohmaaa
open Go.RowKit

set_option maxHeartbeats 1600000 in
theorem implMost (k : Nat) (hk : k ≤ 3) (w : World) : Calls Try.prog 43 #[.int .i64 k] w fun e w' => e = .returned (.int .i64 ((3 : Int) ^ k)) ∧ w = w' := by
  go_enter Try.func43, Try.ntmps43
  go_wp2
  go_loopw [3, 5] (fun nv iv wr => ∃ i : Nat, i ≤ k ∧ iv = .int .i64 i ∧ nv = .int .i64 ((3 : Int) ^ i) ∧ wr = w) (fun _ iv _ => k - (intOf iv).toNat)
  case atStart => exact ⟨0, Nat.zero_le _, rfl, rfl, rfl⟩
  case round =>
    obtain ⟨i, hik, rfl, rfl, rfl⟩ := hrel
    by_cases hlt : i < k
    · have i1 : (i : Int) < (k : Int) := by omega
      have hw : IntKind.i64.wrap ((3 : Int) ^ i * 3) = 3 ^ (i + 1) := by
        rw [← Int.pow_succ, IntKind.wrap_i64]
        rcases (show i = 0 ∨ i = 1 ∨ i = 2 by omega) with rfl | rfl | rfl <;> decide
      go_wp2
      go_roundw
      case rel => exact ⟨i + 1, by omega, by go_num, by first | rfl | trivial, by first | rfl | trivial⟩
      case measure => simp [intOf]; omega
    · obtain rfl : i = k := by omega
      go_wp2
      go_ret
      exact ⟨rfl, rfl⟩

def searchV (m : Nat) : Value := .agg #[.map (some m)]
/-- Block b holds the map of block m. -/
def MapBox (w : World) (b m : Nat) : Prop := w.cell? ⟨b, 0, none⟩ = some (.map (some m)) ∧ b < w.heap.size
theorem MapBox.below {w w' : World} {b m : Nat} (h : MapBox w b m) (hb : Below w.heap.size w w') : MapBox w' b m :=
  ⟨by rw [hb.cell (p := ⟨b, 0, none⟩) h.2]; exact h.1, Nat.lt_of_lt_of_le h.2 hb.size⟩
theorem MapBox.only {T : Nat → Prop} {w w' : World} {b m : Nat} (h : MapBox w b m) (ho : Only T w w') (hb : ¬ T b) : MapBox w' b m :=
  ⟨(World.cell?_of_block (a := ⟨b, 0, none⟩) (ho.block b h.2 hb)).trans h.1, Nat.lt_of_lt_of_le h.2 ho.size⟩
theorem MapBox.new (w : World) (t : TypeId) (m : Nat) : MapBox (w.alloc (.cells #[.map (some m)] t)) w.heap.size m := by refine ⟨?_, ?_⟩ <;> simp
theorem StateAt.only {T : Nat → Prop} {w w' : World} {b : Nat} {s : SD} (h : StateAt w b s) (ho : Only T w w') (hb : ¬ T b) : StateAt w' b s := by
  have e := ho.block b h.lt hb
  obtain ⟨e0, e1, e2, e3, hlt⟩ := h
  exact ⟨(World.cell?_of_block (a := ⟨b, 0, none⟩) e).trans e0, (World.cell?_of_block (a := ⟨b, 1, none⟩) e).trans e1, (World.cell?_of_block (a := ⟨b, 2, none⟩) e).trans e2, (World.cell?_of_block (a := ⟨b, 3, none⟩) e).trans e3, Nat.lt_of_lt_of_le hlt ho.size⟩
theorem PickAt.only {T : Nat → Prop} {w w' : World} {b : Nat} {p : PD} (h : PickAt w b p) (ho : Only T w w') (hb : ¬ T b) : PickAt w' b p := by
  have e := ho.block b h.lt hb
  obtain ⟨e0, e1, e2, e3, e4, e5, e6, e7, hlt⟩ := h
  exact ⟨(World.cell?_of_block (a := ⟨b, 0, none⟩) e).trans e0, (World.cell?_of_block (a := ⟨b, 1, none⟩) e).trans e1, (World.cell?_of_block (a := ⟨b, 2, none⟩) e).trans e2, (World.cell?_of_block (a := ⟨b, 3, none⟩) e).trans e3,
    (World.cell?_of_block (a := ⟨b, 4, none⟩) e).trans e4, (World.cell?_of_block (a := ⟨b, 5, none⟩) e).trans e5, (World.cell?_of_block (a := ⟨b, 6, none⟩) e).trans e6, (World.cell?_of_block (a := ⟨b, 7, none⟩) e).trans e7, Nat.lt_of_lt_of_le hlt ho.size⟩
/-- Block b holds the number x. -/
def NumBox (w : World) (b : Nat) (x : Int) : Prop := w.cell? ⟨b, 0, none⟩ = some (.int .i64 x) ∧ b < w.heap.size
theorem NumBox.below {w w' : World} {b : Nat} {x : Int} (h : NumBox w b x) (hb : Below w.heap.size w w') : NumBox w' b x :=
  ⟨by rw [hb.cell (p := ⟨b, 0, none⟩) h.2]; exact h.1, Nat.lt_of_lt_of_le h.2 hb.size⟩
theorem NumBox.only {T : Nat → Prop} {w w' : World} {b : Nat} {x : Int} (h : NumBox w b x) (ho : Only T w w') (hb : ¬ T b) : NumBox w' b x :=
  ⟨(World.cell?_of_block (a := ⟨b, 0, none⟩) (ho.block b h.2 hb)).trans h.1, Nat.lt_of_lt_of_le h.2 ho.size⟩
theorem NumBox.new (w : World) (t : TypeId) (x : Int) : NumBox (w.alloc (.cells #[.int .i64 x] t)) w.heap.size x := by refine ⟨?_, ?_⟩ <;> simp
/-- Block b holds a goal. -/
def GoalAt (w : World) (b : Nat) (s : SD) (k : Nat) : Prop :=
  w.cell? ⟨b, 0, none⟩ = some (.int .i64 s.b) ∧ w.cell? ⟨b, 1, none⟩ = some (.int .i64 s.h) ∧ w.cell? ⟨b, 2, none⟩ = some (.int .i64 s.l) ∧ w.cell? ⟨b, 3, none⟩ = some (.int .i64 s.g) ∧ w.cell? ⟨b, 4, none⟩ = some (.int .i64 k) ∧ b < w.heap.size
theorem GoalAt.only {T : Nat → Prop} {w w' : World} {b : Nat} {s : SD} {k : Nat} (h : GoalAt w b s k) (ho : Only T w w') (hb : ¬ T b) : GoalAt w' b s k := by
  have e := ho.block b h.2.2.2.2.2 hb
  obtain ⟨e0, e1, e2, e3, e4, hlt⟩ := h
  exact ⟨(World.cell?_of_block (a := ⟨b, 0, none⟩) e).trans e0, (World.cell?_of_block (a := ⟨b, 1, none⟩) e).trans e1, (World.cell?_of_block (a := ⟨b, 2, none⟩) e).trans e2, (World.cell?_of_block (a := ⟨b, 3, none⟩) e).trans e3, (World.cell?_of_block (a := ⟨b, 4, none⟩) e).trans e4, Nat.lt_of_lt_of_le hlt ho.size⟩
theorem GoalAt.new (w : World) (t : TypeId) (s : SD) (k : Nat) : GoalAt (w.alloc (.cells #[.int .i64 s.b, .int .i64 s.h, .int .i64 s.l, .int .i64 s.g, .int .i64 k] t)) w.heap.size s k := by refine ⟨?_, ?_, ?_, ?_, ?_, ?_⟩ <;> simp

/-- A variable of the call's own for a map. -/
def MapVar (w : World) (b : Nat) : Prop := w.cell? ⟨b, 0, none⟩ = some (.map none) ∧ w.frozen? ⟨b, 0, none⟩ = false ∧ b < w.heap.size
theorem MapVar.below {w w' : World} {b : Nat} (h : MapVar w b) (hb : Below w.heap.size w w') : MapVar w' b :=
  ⟨by rw [hb.cell (p := ⟨b, 0, none⟩) h.2.2]; exact h.1, by rw [hb.frozen (p := ⟨b, 0, none⟩) h.2.2]; exact h.2.1, Nat.lt_of_lt_of_le h.2.2 hb.size⟩
theorem Only.of_set (w : World) (b j : Nat) (v : Value) : Only (fun k => k = b) w (w.setCell ⟨b, j, none⟩ v) :=
  ⟨rfl, rfl, rfl, by simp only [setCell_size]; exact Nat.le_refl _, fun k _ hk => Below.heap_setCell _ _ _ k hk⟩

set_option maxHeartbeats 1600000 in
theorem implNewNotebook (w : World) : Calls Try.prog 42 #[] w fun e w' => ∃ m, e = .returned (.agg #[.map (some m)]) ∧ w.heap.size ≤ m ∧ NoteAt w' m ∧ Below w.heap.size w w' := by
  have hmm := @run_makeMap Try.prog
  have B0 := alloc_below w (.cells #[.map none] 51)
  have s0 : (w.alloc (.cells #[.map none] 51)).heap.size = w.heap.size + 1 := by simp
  go_enter Try.func42, Try.ntmps42
  go_wp2
  have hN := NoteAt.made (w.alloc (.cells #[.map (some (w.heap.size + 1))] 51))
  have sN : (w.alloc (.cells #[.map (some (w.heap.size + 1))] 51)).heap.size = w.heap.size + 1 := by simp
  rw [sN] at hN
  refine bodyPost_ret (v := .agg #[.map (some (w.heap.size + 1))]) (by simp [results, Try.results42, go_sem]) rfl ⟨_, rfl, by omega, hN, ((Below.refl _ w).alloc (Nat.le_refl _) _).alloc (by simp) _⟩

set_option maxHeartbeats 1600000 in
theorem implNewSearch (w : World) : Calls Try.prog 36 #[] w fun e w' => ∃ m, e = .returned (.agg #[.map (some m)]) ∧ w.heap.size ≤ m ∧ NoteAt w' m ∧ Below w.heap.size w w' := by
  have C := Lib.hid (fun W => implNewNotebook W)
  have B0 := Lib.hid (alloc_below w (.cells #[.map none] 53))
  have V0 : Hid (MapVar (w.alloc (.cells #[.map none] 53)) w.heap.size) := by refine ⟨?_, ?_, ?_⟩ <;> simp
  generalize hX : w.alloc (.cells #[.map none] 53) = X at B0 V0
  have hXs : w.heap.size < X.heap.size := V0.out.2.2
  go_enter Try.func36, Try.ntmps36
  go_wp2_with fail
  refine (C.out _).mono ?_
  rintro e w1 ⟨m, rfl, hm, hN, b1⟩
  have B1 := Lib.hid (below_up B0.out b1)
  have hne : m ≠ w.heap.size := by omega
  have hwm : w.heap.size ≤ m := by omega
  obtain ⟨v0, v1, -⟩ := V0.out.below b1
  have HN := Lib.hid hN
  clear hN b1 hm hX
  go_wp2
  have o : Only (fun j => j = w.heap.size) w1 (w1.setCell ⟨w.heap.size, 0, none⟩ (.map (some m))) := Only.of_set w1 _ _ _
  refine bodyPost_ret (v := .agg #[.map (some m)]) (by simp [results, Try.results36, go_sem, v0]) rfl ⟨_, rfl, hwm, HN.out.same (o.block m HN.out.lt hne), B1.out.setCell (Nat.le_refl _) _⟩
end Go.Proofs.Ytfabcaodiohmaaa
