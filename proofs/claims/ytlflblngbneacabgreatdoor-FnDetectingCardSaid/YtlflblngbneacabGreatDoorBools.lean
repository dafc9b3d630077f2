/- Lists of truth values: the contracts of the law's own helpers on them, what stays of them, and how they come in. Conditions as with lists of integers: short enough, and the list is one of the call's own where it is written. -/
import Derived.Test.YtlflblngbneacabGreatDoorGBase
import Derived.Deep.Grids
namespace Go.Proofs.YtlflblngbneacabGreatDoor
open Go.RowKit

/-- The slice value v reads as the integers l in the world w. -/
def BoolsAt (w : World) (v : Value) (l : List Bool) : Prop :=
  ∃ a cap, v = .slice a l.length cap ∧ (l = [] ∨ ∃ b off, a = some ⟨b, off, none⟩ ∧ ∀ i (h : i < l.length), w.cell? ⟨b, off + i, none⟩ = some (.bool l[i]))

theorem BoolsAt.below {w w' : World} {v : Value} {l : List Bool} (h : BoolsAt w v l) (hb : Below w.heap.size w w') : BoolsAt w' v l := by
  obtain ⟨a, cap, rfl, h⟩ := h
  refine ⟨a, cap, rfl, ?_⟩
  rcases h with h | ⟨b, off, rfl, hc⟩
  · exact .inl h
  · refine .inr ⟨b, off, rfl, fun i hi => ?_⟩
    have hlt := World.block_lt_of_cell? w _ (hc i hi)
    rw [hb.cell (p := ⟨b, off + i, none⟩) hlt]
    exact hc i hi

theorem BoolsAt.of_owns {w : World} {B e : Nat} {v : Value} {l : List Bool} (h : w.ownsRow B e 1 v l.length (l.map Value.bool)) : BoolsAt w v l := by
  rcases h.2 with ⟨rfl, h0⟩ | ⟨g, cap, cur, rfl, hB, hh, hn, hc, hs, ht⟩
  · have : l = [] := List.eq_nil_of_length_eq_zero h0
    subst this
    exact ⟨none, 0, rfl, .inl rfl⟩
  · refine ⟨some ⟨g, 0, none⟩, cap, rfl, .inr ⟨g, 0, rfl, fun i hi => ?_⟩⟩
    have := h.cellAt i (by omega)
    rw [Nat.zero_add, this]
    simp [hi]

theorem BoolsAt.of_owns_n {w : World} {B e n : Nat} {v : Value} {l : List Bool} (h : w.ownsRow B e 1 v n (l.map Value.bool)) (hn : l.length = n) : BoolsAt w v l := by
  subst hn
  exact BoolsAt.of_owns h

/-- n marks from q on. -/
def bmarks (q : Int) (n : Nat) : List Bool := (List.range n).map fun (i : Nat) => ((q + (i : Int)) % 3 == 0)
theorem bmarks_length (q : Int) (n : Nat) : (bmarks q n).length = n := by simp [bmarks]
theorem bmarks_at (q : Int) (n i : Nat) (h : i < (bmarks q n).length) : (bmarks q n)[i] = ((q + (i : Int)) % 3 == 0) := by simp [bmarks]
theorem bmarks_succ (q : Int) (n : Nat) : bmarks q (n + 1) = bmarks q n ++ [((q + (n : Int)) % 3 == 0)] := by
  simp [bmarks, List.range_succ]

/-- k marks in front of what the list held. -/
def bmarked (q : Int) (l : List Bool) (k : Nat) : List Bool := bmarks q k ++ l.drop k
theorem bmarked_length (q : Int) (l : List Bool) (k : Nat) (h : k ≤ l.length) : (bmarked q l k).length = l.length := by
  simp [bmarked, bmarks_length]; omega
theorem bmarked_zero (q : Int) (l : List Bool) : bmarked q l 0 = l := by simp [bmarked, bmarks]
theorem bmarked_all (q : Int) (l : List Bool) : bmarked q l l.length = bmarks q l.length := by simp [bmarked]
theorem bmarked_set (q : Int) (l : List Bool) (k : Nat) (h : k < l.length) : (bmarked q l k).set k ((q + (k : Int)) % 3 == 0) = bmarked q l (k + 1) := by
  unfold bmarked
  rw [bmarks_succ, List.drop_eq_getElem_cons h, List.set_append_right _ _ (by rw [bmarks_length]; exact Nat.le_refl _), bmarks_length, Nat.sub_self, List.set_cons_zero, List.append_assoc]
  rfl

theorem BoolsAt.only {T : Nat → Prop} {w w' : World} {v : Value} {l : List Bool} (h : BoolsAt w v l) (ho : Only T w w') (hb : Blk (fun k => ¬ T k) v) : BoolsAt w' v l := by
  obtain ⟨a, cap, rfl, h⟩ := h
  refine ⟨a, cap, rfl, ?_⟩
  rcases h with h | ⟨b, off, rfl, hc⟩
  · exact .inl h
  · refine .inr ⟨b, off, rfl, fun i hi => ?_⟩
    have hlt : b < w.heap.size := World.block_lt_of_cell? w _ (hc i hi)
    rw [World.cell?_of_block (w := w) (a := ⟨b, off + i, none⟩) (ho.block b hlt (hb b rfl))]
    exact hc i hi

theorem infoBoolA : (Tryz.prog.info? 4).map (fun i => (i.zero, i.size, i.bytes)) = some (some (.bool false), 1, 1) := by kernel_rfl

/-- The first k of a list, zeros behind. -/
def bcopied (l : List Bool) (n k : Nat) : List Bool := l.take k ++ List.replicate (n - k) false
theorem bcopied_length {l : List Bool} {n k : Nat} (h : l.length = n) (hk : k ≤ n) : (bcopied l n k).length = n := by simp [bcopied]; omega
theorem bcopied_set {l : List Bool} {n k : Nat} (h : l.length = n) (hk : k < n) : (bcopied l n k).set k (l[k]'(by omega)) = bcopied l n (k + 1) := by
  unfold bcopied
  have h1 : (l.take k).length = k := by simp; omega
  rw [List.set_append_right _ _ (by omega), h1, Nat.sub_self, show n - k = (n - (k + 1)) + 1 by omega, List.replicate_succ, List.set_cons_zero, List.take_succ_eq_append_getElem (by omega), List.append_assoc]
  rfl
theorem bcopied_all {l : List Bool} {n : Nat} (h : l.length = n) : bcopied l n n = l := by
  simp [bcopied, List.take_of_length_le (Nat.le_of_eq h)]

/-- A list of the call's own, from block B on. -/
def OwnB (w : World) (B : Nat) (v : Value) (l : List Bool) : Prop := w.ownsRow B 4 1 v l.length (l.map Value.bool)
theorem OwnB.reads {w : World} {B : Nat} {v : Value} {l : List Bool} (h : OwnB w B v l) : BoolsAt w v l := BoolsAt.of_owns h
theorem BoolsAt.form {w : World} {v : Value} {l : List Bool} (h : BoolsAt w v l) : ∃ a n c, v = .slice a n c := by
  obtain ⟨a, c, rfl, -⟩ := h
  exact ⟨a, _, c, rfl⟩
theorem OwnB.form {w : World} {B : Nat} {v : Value} {l : List Bool} (h : OwnB w B v l) : ∃ a n c, v = .slice a n c := h.reads.form
theorem OwnB.only {T : Nat → Prop} {w w' : World} {B : Nat} {v : Value} {l : List Bool} (h : OwnB w B v l) (ho : Only T w w') (hb : Blk (fun k => ¬ T k) v) : OwnB w' B v l := owns_only h ho hb
theorem OwnB.blk {w : World} {B : Nat} {v : Value} {l : List Bool} (h : OwnB w B v l) : Blk (fun k => B ≤ k ∧ k < w.heap.size) v := owns_blk h
theorem OwnB.lower {w : World} {B B' : Nat} {v : Value} {l : List Bool} (h : OwnB w B v l) (hB : B' ≤ B) : OwnB w B' v l :=
  ⟨h.1, h.2.imp id fun ⟨g, cap, cur, h1, h2, h3⟩ => ⟨g, cap, cur, h1, Nat.le_trans hB h2, h3⟩⟩
theorem OwnB.below {w w' : World} {B : Nat} {v : Value} {l : List Bool} (h : OwnB w B v l) (hb : Below w.heap.size w w') : OwnB w' B v l := owns_below h hb

/-- What the walk is told of a slice of truth values that came in. -/
def CameBools (w : World) (v : Value) (l : List Bool) : Prop := BoolsAt w v l ∧ l.length ≤ maxLen
theorem cameBools {H : Type} {enc : TypeId × Value → H} {P : Program} {w : World} {base : Nat} {held : Bool} {t e : TypeId} {fuel : Nat} {u : Value} {x : DataW H × List MemPlace} (ht : P.underlying t = some (.slice e)) (he : P.underlying e = some .bool) (hc : P.cellsOf e = 1)
    (h : DataW.trod enc P w base (fun _ => true) held fuel t [u] = some x) : ∃ l, CameBools w u l := by
  rcases Go.Deep.open_bools ht he hc h with ⟨hcs, _⟩ | ⟨a, len, cap, B, hcs, _, hl, hm, _, hcell⟩
  · simp at hcs
    subst hcs
    exact ⟨[], ⟨none, 0, rfl, .inl rfl⟩, by unfold maxLen; simp⟩
  · simp at hcs
    subst hcs
    refine ⟨(List.range len).map B, ⟨some a, cap, by simp, ?_⟩, by simp; omega⟩
    by_cases h0 : len = 0
    · subst h0
      exact .inl rfl
    · obtain ⟨b, o, spot⟩ := a
      have hc0 := hcell 0 (by omega)
      have hspot : spot = none := by simpa [Addr.add] using World.cell?_spot hc0
      subst hspot
      refine .inr ⟨b, o, rfl, fun i hi => ?_⟩
      have hi2 : i < len := by simpa using hi
      have := hcell i (by omega)
      rw [Addr.add_lit] at this
      rw [this]
      simp
end Go.Proofs.YtlflblngbneacabGreatDoor
