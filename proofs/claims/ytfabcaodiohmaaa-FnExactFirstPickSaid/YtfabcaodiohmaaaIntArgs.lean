/- The contracts of the law's own helpers on lists of integers that came in: their size, and their copy into a list of the call's own. Condition: the slice that came in reads as integers. -/
import Derived.Test.YtfabcaodiohmaaaFrame
import Derived.ChangeSlices
import Derived.WalkKit
namespace Go.Proofs.Ytfabcaodiohmaaa
open Go.RowKit

/-- What is left of a size behind n elements. -/
def szL (n : Nat) (left : Int) : Int := if left - n < 0 then -1 else left - n

theorem infoIntA : (Try.prog.info? 3).map (fun i => (i.zero, i.size, i.bytes)) = some (some (.int .i64 0), 1, 8) := by kernel_rfl

/-- The first k of a list, zeros behind. -/
def icopied (l : List Int) (n k : Nat) : List Int := l.take k ++ List.replicate (n - k) 0
theorem icopied_length {l : List Int} {n k : Nat} (h : l.length = n) (hk : k ≤ n) : (icopied l n k).length = n := by simp [icopied]; omega
theorem icopied_set {l : List Int} {n k : Nat} (h : l.length = n) (hk : k < n) : (icopied l n k).set k (l[k]'(by omega)) = icopied l n (k + 1) := by
  unfold icopied
  have h1 : (l.take k).length = k := by simp; omega
  rw [List.set_append_right _ _ (by omega), h1, Nat.sub_self, show n - k = (n - (k + 1)) + 1 by omega, List.replicate_succ, List.set_cons_zero, List.take_succ_eq_append_getElem (by omega), List.append_assoc]
  rfl
theorem icopied_all {l : List Int} {n : Nat} (h : l.length = n) : icopied l n n = l := by
  simp [icopied, List.take_of_length_le (Nat.le_of_eq h)]

/-- A list of the call's own, from block B on. -/
def Own (w : World) (B : Nat) (v : Value) (l : List Int) : Prop := w.ownsRow B 3 1 v l.length (l.map (Value.int .i64))
theorem Own.reads {w : World} {B : Nat} {v : Value} {l : List Int} (h : Own w B v l) : IntsAt w v l := IntsAt.of_owns h
theorem IntsAt.form {w : World} {v : Value} {l : List Int} (h : IntsAt w v l) : ∃ a n c, v = .slice a n c := by
  obtain ⟨a, c, rfl, -⟩ := h
  exact ⟨a, _, c, rfl⟩
theorem Own.form {w : World} {B : Nat} {v : Value} {l : List Int} (h : Own w B v l) : ∃ a n c, v = .slice a n c := h.reads.form
theorem Own.only {T : Nat → Prop} {w w' : World} {B : Nat} {v : Value} {l : List Int} (h : Own w B v l) (ho : Only T w w') (hb : Blk (fun k => ¬ T k) v) : Own w' B v l := owns_only h ho hb
theorem Own.blk {w : World} {B : Nat} {v : Value} {l : List Int} (h : Own w B v l) : Blk (fun k => B ≤ k ∧ k < w.heap.size) v := owns_blk h
theorem Own.lower {w : World} {B B' : Nat} {v : Value} {l : List Int} (h : Own w B v l) (hB : B' ≤ B) : Own w B' v l :=
  ⟨h.1, h.2.imp id fun ⟨g, cap, cur, h1, h2, h3⟩ => ⟨g, cap, cur, h1, Nat.le_trans hB h2, h3⟩⟩
theorem Own.below {w w' : World} {B : Nat} {v : Value} {l : List Int} (h : Own w B v l) (hb : Below w.heap.size w w') : Own w' B v l := owns_below h hb

/-- The slice value lies somewhere. -/
def Solid (v : Value) : Prop := ∃ g n c, v = .slice (some ⟨g, 0, none⟩) n c

/-- What the walk is told of a slice of integers that came in. -/
def CameInts (w : World) (v : Value) (l : List Int) : Prop := IntsAt w v l ∧ l.length ≤ maxLen ∧ ∀ x ∈ l, (Lit.int .i64 x).wf = true

theorem cameInts {H : Type} {enc : TypeId × Value → H} {P : Program} {w : World} {base : Nat} {spare : Nat → Bool} {held : Bool} {t e : TypeId} {fuel : Nat} {u : Value} {x : DataW H × List MemPlace} (ht : P.underlying t = some (.slice e)) (he : P.underlying e = some (.int .i64)) (hc : P.cellsOf e = 1)
    (hsp : ∀ b, spare b = true) (h : DataW.trod enc P w base spare held fuel t [u] = some x) : ∃ l, CameInts w u l := by
  rcases Go.ChangeShapes.open_ints ht he hc h with ⟨hcs, _⟩ | ⟨a, len, cap, zs, hcs, _, hl, hm, hz, _, hcell, hwz⟩
  · simp at hcs
    subst hcs
    exact ⟨[], ⟨none, 0, rfl, .inl rfl⟩, by unfold maxLen; simp, by simp⟩
  · simp at hcs
    subst hcs
    rw [hsp, if_pos rfl] at hz
    have hlen : (zs.take len).length = len := by simp; omega
    refine ⟨zs.take len, ⟨some a, cap, by rw [hlen], ?_⟩, by omega, fun y hy => hwz y (List.mem_of_mem_take hy)⟩
    by_cases h0 : len = 0
    · exact .inl (List.eq_nil_of_length_eq_zero (by omega))
    · obtain ⟨b, o, spot⟩ := a
      have hc0 := hcell 0 (by omega)
      have hspot : spot = none := by simpa [Addr.add] using World.cell?_spot hc0
      subst hspot
      refine .inr ⟨b, o, rfl, fun i hi => ?_⟩
      have := hcell i (by omega)
      rw [Addr.add_lit] at this
      rw [this, List.getElem_take]
      simp [List.getD_eq_getElem?_getD, List.getElem?_eq_getElem (show i < zs.length by omega)]
end Go.Proofs.Ytfabcaodiohmaaa
