/- What the walk is told of a plan that came in: it reads as nodes, and its numbers fit Go's int. No condition. -/
import Derived.Test.YtipbjioghicmlaaNodes
import Derived.Deep.Slices
import Derived.ChangeSame
namespace Go.Proofs.Ytipbjioghicmlaa
open Go.RowKit Go.ChangeShapes Go.Deep

theorem list_of {A : Type} (Q : Nat → A → Prop) : ∀ n, (∀ i, i < n → ∃ d, Q i d) → ∃ P : List A, P.length = n ∧ ∀ i (h : i < P.length), Q i P[i]
  | 0, _ => ⟨[], rfl, fun i h => by simp at h⟩
  | n + 1, h => by
    obtain ⟨P, hn, hP⟩ := list_of Q n fun i hi => h i (by omega)
    obtain ⟨d, hd⟩ := h n (by omega)
    refine ⟨P ++ [d], by simp [hn], fun i hi => ?_⟩
    by_cases e : i < P.length
    · rw [List.getElem_append_left e]; exact hP i e
    · obtain rfl : i = n := by simp at hi; omega
      rw [List.getElem_append_right (by omega)]
      simpa [hn] using hd

/-- A number that fits Go's int. -/
def wfI (x : Int) : Prop := (Lit.int .i64 x).wf = true
/-- What the walk is told of a slice of nodes that came in. -/
def CameNodes (w : World) (v : Value) (P : List ND) : Prop :=
  NodesAt w v P ∧ P.length ≤ maxLen ∧ ∀ d ∈ P, (d.L.length ≤ maxLen ∧ ∀ x ∈ d.L, wfI x) ∧ (d.R.length ≤ maxLen ∧ ∀ x ∈ d.R, wfI x) ∧ wfI d.a ∧ wfI d.b ∧ wfI d.c

theorem cameNodes {H : Type} {enc : TypeId × Value → H} {P : Program} {w : World} {base : Nat} {spare : Nat → Bool} {held : Bool} {t e tw ts ti : TypeId} {f0 f1 f2 f3 g0 g1 : Field} {fuel : Nat} {u : Value} {x : DataW H × List MemPlace}
    (ht : P.underlying t = some (.slice e)) (he : P.underlying e = some (.struct #[f0, f1, f2, f3])) (hw : P.underlying tw = some (.struct #[g0, g1])) (hs : P.underlying ts = some (.slice ti)) (hi : P.underlying ti = some (.int .i64))
    (ce : P.cellsOf e = 5) (cw : P.cellsOf tw = 2) (cs : P.cellsOf ts = 1) (ci : P.cellsOf ti = 1)
    (k0 : f0.type = tw ∧ f0.offset = 0) (k1 : f1.type = ti ∧ f1.offset = 2) (k2 : f2.type = ti ∧ f2.offset = 3) (k3 : f3.type = ti ∧ f3.offset = 4) (l0 : g0.type = ts ∧ g0.offset = 0) (l1 : g1.type = ts ∧ g1.offset = 1)
    (hsp : ∀ b, spare b = true) (h : DataW.trod enc P w base spare held fuel t [u] = some x) : ∃ L, CameNodes w u L := by
  rcases open_slice ht h with ⟨hcs, _⟩ | ⟨a, len, cap, m, n, D, Pl, hcs, hb, hl, hm, hmm, hx, hel⟩
  · simp at hcs
    subst hcs
    exact ⟨[], ⟨none, 0, rfl, fun i hi => by simp at hi⟩, by unfold maxLen; simp, by simp⟩
  · simp at hcs
    subst hcs
    rw [hsp, if_pos rfl] at hmm
    have one : ∀ i, i < len → ∃ d : ND, (∃ b off vl vr, some a = some (⟨b, off, none⟩ : Addr) ∧ FiveAt w b (off + i * 5) vl vr d ∧ IntsAt w vl d.L ∧ IntsAt w vr d.R) ∧ ((d.L.length ≤ maxLen ∧ ∀ x ∈ d.L, wfI x) ∧ (d.R.length ≤ maxLen ∧ ∀ x ∈ d.R, wfI x) ∧ wfI d.a ∧ wfI d.b ∧ wfI d.c) := by
      intro i hil
      obtain ⟨cs', hc, ht'⟩ := hel i (by omega)
      rw [ce] at hc
      obtain ⟨_, hcl, hat⟩ := World.cells?_some hc
      match cs', hcl with
      | [c0, c1, c2, c3, c4], _ =>
        obtain ⟨xs, n', _, _, _, hlen, hf⟩ := DataW.trod_struct he ht'
        have h0 := hf 0 f0 rfl
        have h1 := hf 1 f1 rfl
        have h2 := hf 2 f2 rfl
        have h3 := hf 3 f3 rfl
        rw [k0.1, k0.2, cw] at h0
        rw [k1.1, k1.2, ci] at h1
        rw [k2.1, k2.2, ci] at h2
        rw [k3.1, k3.2, ci] at h3
        match xs, hlen with
        | [x0, x1, x2, x3], _ =>
          simp only [List.drop, List.take, List.getElem?_cons_zero, List.getElem?_cons_succ] at h0 h1 h2 h3
          obtain ⟨p, e1, _, w1⟩ := DataW.trod_int hi h1
          obtain ⟨q, e2, _, w2⟩ := DataW.trod_int hi h2
          obtain ⟨r, e3, _, w3⟩ := DataW.trod_int hi h3
          obtain rfl : c2 = _ := by simpa using e1
          obtain rfl : c3 = _ := by simpa using e2
          obtain rfl : c4 = _ := by simpa using e3
          obtain ⟨ys, n'', _, _, _, hlen2, hg⟩ := DataW.trod_struct hw h0
          have j0 := hg 0 g0 rfl
          have j1 := hg 1 g1 rfl
          rw [l0.1, l0.2, cs] at j0
          rw [l1.1, l1.2, cs] at j1
          match ys, hlen2 with
          | [y0, y1], _ =>
            simp only [List.drop, List.take, List.getElem?_cons_zero, List.getElem?_cons_succ] at j0 j1
            obtain ⟨L, hL⟩ := cameInts hs hi ci hsp j0
            obtain ⟨R, hR⟩ := cameInts hs hi ci hsp j1
            have a0 := hat 0 (by omega)
            have a1 := hat 1 (by omega)
            have a2 := hat 2 (by omega)
            have a3 := hat 3 (by omega)
            have a4 := hat 4 (by omega)
            obtain ⟨b, o, spot⟩ := a
            have hspot : spot = none := by
              obtain ⟨z0, hz, _⟩ := hel 0 (by omega)
              rw [ce] at hz
              obtain ⟨_, hz1, hz2⟩ := World.cells?_some hz
              have hz3 := hz2 0 (by omega)
              rw [List.getElem?_eq_getElem (by omega)] at hz3
              simpa [Addr.add] using World.cell?_spot hz3
            subst hspot
            rw [Addr.add_lit, Addr.add_lit] at a0 a1 a2 a3 a4
            simp only [List.getElem?_cons_zero, List.getElem?_cons_succ] at a0 a1 a2 a3 a4
            exact ⟨⟨L, R, p, q, r⟩, ⟨b, o, c0, c1, rfl, ⟨a0, a1, a2, a3, a4, World.block_lt_of_cell? w _ a0⟩, hL.1, hR.1⟩, ⟨hL.2.1, hL.2.2⟩, ⟨hR.2.1, hR.2.2⟩, w1, w2, w3⟩
    obtain ⟨L, hn, hL⟩ := list_of _ len one
    refine ⟨L, ⟨some a, cap, by rw [hn], fun i hi => (hL i hi).1⟩, by omega, fun d hd => ?_⟩
    obtain ⟨i, hi, rfl⟩ := List.mem_iff_getElem.1 hd
    exact (hL i hi).2

theorem CameNodes.reads {w : World} {v : Value} {P : List ND} (h : CameNodes w v P) : NodesAt w v P := h.1
theorem CameNodes.lens {w : World} {v : Value} {P : List ND} (h : CameNodes w v P) : LenOk P := fun d hd => ⟨(h.2.2 d hd).1.1, (h.2.2 d hd).2.1.1⟩
end Go.Proofs.Ytipbjioghicmlaa
