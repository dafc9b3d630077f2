/- What the walk is told of a list of weighings that came in: it reads as weighings, and its numbers fit Go's int. No condition. -/
import Derived.Test.YtbkhmlkicafheaaWds
import Derived.Deep.Slices
import Derived.ChangeSame
namespace Go.Proofs.Ytbkhmlkicafheaa
open Go.RowKit Go.ChangeShapes Go.Deep

theorem listW_of {A : Type} (Q : Nat → A → Prop) : ∀ n, (∀ i, i < n → ∃ d, Q i d) → ∃ P : List A, P.length = n ∧ ∀ i (h : i < P.length), Q i P[i]
  | 0, _ => ⟨[], rfl, fun i h => by simp at h⟩
  | n + 1, h => by
    obtain ⟨P, hn, hP⟩ := listW_of Q n fun i hi => h i (by omega)
    obtain ⟨d, hd⟩ := h n (by omega)
    refine ⟨P ++ [d], by simp [hn], fun i hi => ?_⟩
    by_cases e : i < P.length
    · rw [List.getElem_append_left e]; exact hP i e
    · obtain rfl : i = n := by simp at hi; omega
      rw [List.getElem_append_right (by omega)]
      simpa [hn] using hd

/-- A number that fits Go's int. -/
def wfW (x : Int) : Prop := (Lit.int .i64 x).wf = true
theorem rangeW {n : Int} (h : (Lit.int .i64 n).wf = true) : -9223372036854775808 ≤ n ∧ n ≤ 9223372036854775807 := by
  simpa [Lit.wf, IntKind.min, IntKind.max, IntKind.signed, IntKind.bits] using h
/-- What the walk is told of a slice of weighings that came in. -/
def CameWds (w : World) (v : Value) (D : List WD) : Prop :=
  WdsAt w v D ∧ D.length ≤ maxLen ∧ ∀ d ∈ D, (d.L.length ≤ maxLen ∧ ∀ x ∈ d.L, wfW x) ∧ (d.R.length ≤ maxLen ∧ ∀ x ∈ d.R, wfW x)

theorem cameWds {H : Type} {enc : TypeId × Value → H} {P : Program} {w : World} {base : Nat} {spare : Nat → Bool} {held : Bool} {t e ts ti : TypeId} {g0 g1 : Field} {fuel : Nat} {u : Value} {x : DataW H × List MemPlace}
    (ht : P.underlying t = some (.slice e)) (hw : P.underlying e = some (.struct #[g0, g1])) (hs : P.underlying ts = some (.slice ti)) (hi : P.underlying ti = some (.int .i64))
    (ce : P.cellsOf e = 2) (cs : P.cellsOf ts = 1) (ci : P.cellsOf ti = 1) (l0 : g0.type = ts ∧ g0.offset = 0) (l1 : g1.type = ts ∧ g1.offset = 1)
    (hsp : ∀ b, spare b = true) (h : DataW.trod enc P w base spare held fuel t [u] = some x) : ∃ L, CameWds w u L := by
  rcases open_slice ht h with ⟨hcs, _⟩ | ⟨a, len, cap, m, n, D, Pl, hcs, hb, hl, hm, hmm, hx, hel⟩
  · simp at hcs
    subst hcs
    exact ⟨[], ⟨none, 0, rfl, Nat.le_refl _, fun i hi => by simp at hi⟩, by unfold maxLen; simp, by simp⟩
  · simp at hcs
    subst hcs
    rw [hsp, if_pos rfl] at hmm
    have one : ∀ i, i < len → ∃ d : WD, (∃ b off vl vr, some a = some (⟨b, off, none⟩ : Addr) ∧ PairAt w b (off + i * 2) vl vr ∧ IntsAt w vl d.L ∧ IntsAt w vr d.R) ∧ ((d.L.length ≤ maxLen ∧ ∀ x ∈ d.L, wfW x) ∧ (d.R.length ≤ maxLen ∧ ∀ x ∈ d.R, wfW x)) := by
      intro i hil
      obtain ⟨cs', hc, ht'⟩ := hel i (by omega)
      rw [ce] at hc
      obtain ⟨_, hcl, hat⟩ := World.cells?_some hc
      match cs', hcl with
      | [c0, c1], _ =>
        obtain ⟨ys, n'', _, _, _, hlen2, hg⟩ := DataW.trod_struct hw ht'
        have j0 := hg 0 g0 rfl
        have j1 := hg 1 g1 rfl
        rw [l0.1, l0.2, cs] at j0
        rw [l1.1, l1.2, cs] at j1
        match ys, hlen2 with
        | [y0, y1], _ =>
          simp only [List.drop, List.take, List.getElem?_cons_zero, List.getElem?_cons_succ] at j0 j1
          obtain ⟨L, hL⟩ := cameInts hs hi ci hsp j0
          obtain ⟨R, hR⟩ := cameInts hs hi ci hsp j1
          have a0 := hat 0 (by omega)
          have a1 := hat 1 (by omega)
          obtain ⟨b, o, spot⟩ := a
          have hspot : spot = none := by
            obtain ⟨z0, hz, _⟩ := hel 0 (by omega)
            rw [ce] at hz
            obtain ⟨_, hz1, hz2⟩ := World.cells?_some hz
            have hz3 := hz2 0 (by omega)
            rw [List.getElem?_eq_getElem (by omega)] at hz3
            simpa [Addr.add] using World.cell?_spot hz3
          subst hspot
          rw [Addr.add_lit, Addr.add_lit] at a0 a1
          simp only [List.getElem?_cons_zero, List.getElem?_cons_succ] at a0 a1
          exact ⟨⟨L, R⟩, ⟨b, o, c0, c1, rfl, ⟨a0, a1, World.block_lt_of_cell? w _ a0⟩, hL.1, hR.1⟩, ⟨hL.2.1, hL.2.2⟩, ⟨hR.2.1, hR.2.2⟩⟩
    obtain ⟨L, hn, hL⟩ := listW_of _ len one
    refine ⟨L, ⟨some a, cap, by rw [hn], by omega, fun i hi => (hL i hi).1⟩, by omega, fun d hd => ?_⟩
    obtain ⟨i, hi, rfl⟩ := List.mem_iff_getElem.1 hd
    exact (hL i hi).2

theorem CameWds.reads {w : World} {v : Value} {D : List WD} (h : CameWds w v D) : WdsAt w v D := h.1
theorem CameWds.lens {w : World} {v : Value} {D : List WD} (h : CameWds w v D) : LenW D := fun d hd => ⟨(h.2.2 d hd).1.1, (h.2.2 d hd).2.1⟩
end Go.Proofs.Ytbkhmlkicafheaa
