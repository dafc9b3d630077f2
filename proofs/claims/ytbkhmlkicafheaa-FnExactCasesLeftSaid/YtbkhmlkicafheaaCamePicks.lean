/- What the walk is told of a list of picks that came in: it reads as picks, and its numbers fit Go's int; the walks of the exact laws of PlayAgainst and CasesLeft. No condition. -/
import Derived.Test.YtbkhmlkicafheaaCasesLeft
import Derived.Deep.Slices
import Derived.ChangeSame
namespace Go.Proofs.Ytbkhmlkicafheaa
open Go.RowKit Go.ChangeShapes Go.Deep

theorem listP_of {A : Type} (Q : Nat → A → Prop) : ∀ n, (∀ i, i < n → ∃ d, Q i d) → ∃ P : List A, P.length = n ∧ ∀ i (h : i < P.length), Q i P[i]
  | 0, _ => ⟨[], rfl, fun i h => by simp at h⟩
  | n + 1, h => by
    obtain ⟨P, hn, hP⟩ := listP_of Q n fun i hi => h i (by omega)
    obtain ⟨d, hd⟩ := h n (by omega)
    refine ⟨P ++ [d], by simp [hn], fun i hi => ?_⟩
    by_cases e : i < P.length
    · rw [List.getElem_append_left e]; exact hP i e
    · obtain rfl : i = n := by simp at hi; omega
      rw [List.getElem_append_right (by omega)]
      simpa [hn] using hd

/-- What the walk is told of a slice of picks that came in. -/
def CamePicks (w : World) (v : Value) (P : List PD) : Prop := PicksAt w v P ∧ P.length ≤ maxLen ∧ ∀ p ∈ P, ∀ y ∈ p.list, I64 y

theorem camePicks {H : Type} {enc : TypeId × Value → H} {P : Program} {w : World} {base : Nat} {spare : Nat → Bool} {held : Bool} {t e ti : TypeId} {g0 g1 g2 g3 g4 g5 g6 g7 : Field} {fuel : Nat} {u : Value} {x : DataW H × List MemPlace}
    (ht : P.underlying t = some (.slice e)) (hw : P.underlying e = some (.struct #[g0, g1, g2, g3, g4, g5, g6, g7])) (hi : P.underlying ti = some (.int .i64))
    (ce : P.cellsOf e = 8) (ci : P.cellsOf ti = 1) (l0 : g0.type = ti ∧ g0.offset = 0) (l1 : g1.type = ti ∧ g1.offset = 1) (l2 : g2.type = ti ∧ g2.offset = 2) (l3 : g3.type = ti ∧ g3.offset = 3)
    (l4 : g4.type = ti ∧ g4.offset = 4) (l5 : g5.type = ti ∧ g5.offset = 5) (l6 : g6.type = ti ∧ g6.offset = 6) (l7 : g7.type = ti ∧ g7.offset = 7)
    (hsp : ∀ b, spare b = true) (h : DataW.trod enc P w base spare held fuel t [u] = some x) : ∃ L, CamePicks w u L := by
  rcases open_slice ht h with ⟨hcs, _⟩ | ⟨a, len, cap, m, n, D, Pl, hcs, hb, hl, hm, hmm, hx, hel⟩
  · simp at hcs
    subst hcs
    exact ⟨[], ⟨none, 0, rfl, fun i hi => by simp at hi⟩, by unfold maxLen; simp, by simp⟩
  · simp at hcs
    subst hcs
    rw [hsp, if_pos rfl] at hmm
    have one : ∀ i, i < len → ∃ d : PD, (∃ b off, some a = some (⟨b, off, none⟩ : Addr) ∧ EightAt w b (off + i * 8) d) ∧ ∀ y ∈ d.list, I64 y := by
      intro i hil
      obtain ⟨cs', hc, ht'⟩ := hel i (by omega)
      rw [ce] at hc
      obtain ⟨_, hcl, hat⟩ := World.cells?_some hc
      match cs', hcl with
      | [c0, c1, c2, c3, c4, c5, c6, c7], _ =>
        obtain ⟨ys, n'', _, _, _, hlen2, hg⟩ := DataW.trod_struct hw ht'
        have j0 := hg 0 g0 rfl
        have j1 := hg 1 g1 rfl
        have j2 := hg 2 g2 rfl
        have j3 := hg 3 g3 rfl
        have j4 := hg 4 g4 rfl
        have j5 := hg 5 g5 rfl
        have j6 := hg 6 g6 rfl
        have j7 := hg 7 g7 rfl
        rw [l0.1, l0.2, ci] at j0
        rw [l1.1, l1.2, ci] at j1
        rw [l2.1, l2.2, ci] at j2
        rw [l3.1, l3.2, ci] at j3
        rw [l4.1, l4.2, ci] at j4
        rw [l5.1, l5.2, ci] at j5
        rw [l6.1, l6.2, ci] at j6
        rw [l7.1, l7.2, ci] at j7
        match ys, hlen2 with
        | [y0, y1, y2, y3, y4, y5, y6, y7], _ =>
          simp only [List.drop, List.take, List.getElem?_cons_zero, List.getElem?_cons_succ] at j0 j1 j2 j3 j4 j5 j6 j7
          obtain ⟨x0, e0, -, k0⟩ := DataW.trod_int hi j0
          obtain ⟨x1, e1, -, k1⟩ := DataW.trod_int hi j1
          obtain ⟨x2, e2, -, k2⟩ := DataW.trod_int hi j2
          obtain ⟨x3, e3, -, k3⟩ := DataW.trod_int hi j3
          obtain ⟨x4, e4, -, k4⟩ := DataW.trod_int hi j4
          obtain ⟨x5, e5, -, k5⟩ := DataW.trod_int hi j5
          obtain ⟨x6, e6, -, k6⟩ := DataW.trod_int hi j6
          obtain ⟨x7, e7, -, k7⟩ := DataW.trod_int hi j7
          obtain rfl : c0 = _ := by simpa using e0
          obtain rfl : c1 = _ := by simpa using e1
          obtain rfl : c2 = _ := by simpa using e2
          obtain rfl : c3 = _ := by simpa using e3
          obtain rfl : c4 = _ := by simpa using e4
          obtain rfl : c5 = _ := by simpa using e5
          obtain rfl : c6 = _ := by simpa using e6
          obtain rfl : c7 = _ := by simpa using e7
          have a0 := hat 0 (by omega)
          have a1 := hat 1 (by omega)
          have a2 := hat 2 (by omega)
          have a3 := hat 3 (by omega)
          have a4 := hat 4 (by omega)
          have a5 := hat 5 (by omega)
          have a6 := hat 6 (by omega)
          have a7 := hat 7 (by omega)
          obtain ⟨b, o, spot⟩ := a
          have hspot : spot = none := by
            obtain ⟨z0, hz, _⟩ := hel 0 (by omega)
            rw [ce] at hz
            obtain ⟨_, hz1, hz2⟩ := World.cells?_some hz
            have hz3 := hz2 0 (by omega)
            rw [List.getElem?_eq_getElem (by omega)] at hz3
            simpa [Addr.add] using World.cell?_spot hz3
          subst hspot
          rw [Addr.add_lit, Addr.add_lit] at a0 a1 a2 a3 a4 a5 a6 a7
          simp only [List.getElem?_cons_zero, List.getElem?_cons_succ] at a0 a1 a2 a3 a4 a5 a6 a7
          refine ⟨⟨x0, x1, x2, x3, x4, x5, x6, x7⟩, ⟨b, o, rfl, a0, a1, a2, a3, a4, a5, a6, a7, World.block_lt_of_cell? w _ a0⟩, ?_⟩
          intro y hy
          simp only [PD.list, List.mem_cons, List.not_mem_nil, or_false] at hy
          rcases hy with rfl | rfl | rfl | rfl | rfl | rfl | rfl | rfl
          all_goals exact i64_of (by assumption)
    obtain ⟨L, hn, hL⟩ := listP_of _ len one
    refine ⟨L, ⟨some a, cap, by rw [hn], fun i hi => (hL i hi).1⟩, by omega, fun d hd => ?_⟩
    obtain ⟨i, hi, rfl⟩ := List.mem_iff_getElem.1 hd
    exact (hL i hi).2

theorem walkFnExactPlayAgainst (W : World) (b : Int) (_ : (Lit.int .i64 b).wf = true) (h : Int) (_ : (Lit.int .i64 h).wf = true) (l : Int) (_ : (Lit.int .i64 l).wf = true) (g : Int) (_ : (Lit.int .i64 g).wf = true) (v : Value) (P : List PD) (c : CamePicks W v P) :
    Calls Try.prog 6 #[.agg #[.int .i64 b, .int .i64 h, .int .i64 l, .int .i64 g], v] W fun e w' => e = .returned (.bool true) ∧ Below W.heap.size W w' :=
  lawPlayAgainst ⟨b, h, l, g⟩ W v P c.1 c.2.1 (fun W v hv => implPlay _ v P W hv c.2.2)
theorem walkFnExactCasesLeft (W : World) (b : Int) (_ : (Lit.int .i64 b).wf = true) (h : Int) (_ : (Lit.int .i64 h).wf = true) (l : Int) (_ : (Lit.int .i64 l).wf = true) (g : Int) (_ : (Lit.int .i64 g).wf = true) (v : Value) (P : List PD) (c : CamePicks W v P) :
    Calls Try.prog 7 #[.agg #[.int .i64 b, .int .i64 h, .int .i64 l, .int .i64 g], v] W fun e w' => e = .returned (.bool true) ∧ Below W.heap.size W w' :=
  lawCasesLeft ⟨b, h, l, g⟩ W v P c.1 c.2.1 (implCasesLeft _ P c.2.2)
end Go.Proofs.Ytbkhmlkicafheaa
