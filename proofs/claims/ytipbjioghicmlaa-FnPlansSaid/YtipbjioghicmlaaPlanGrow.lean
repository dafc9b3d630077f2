/- Plain facts on plans: a valid plan stays valid where a missing link is turned to a new node at its end. No condition. -/
import Derived.Test.YtipbjioghicmlaaPlanPlain
namespace Go.Proofs.Ytipbjioghicmlaa
open Go.RowKit

theorem nodesB_of {n : Nat} {m : Int} : ∀ {P : List ND} {i : Nat}, (∀ k (h : k < P.length), nodeB n m (i + k) P[k] = true) → nodesB n m i P = true
  | [], _, _ => rfl
  | d :: r, i, h => by
    simp only [nodesB, Bool.and_eq_true]
    refine ⟨h 0 (Nat.zero_lt_succ _), nodesB_of fun k hk => ?_⟩
    have := h (k + 1) (by simpa using hk)
    simpa [Nat.add_assoc, Nat.add_comm 1 k] using this
theorem planB_iff {P : List ND} {m : Int} : planB P m = true ↔ (P.length ≤ 60 ∧ 1 ≤ m ∧ m ≤ 13) ∧ (∀ k (h : k < P.length), nodeB P.length m k P[k] = true) ∧ ∀ j : Nat, 0 < j → j < P.length → (linksOf P).count (j : Int) = 1 := by
  constructor
  · intro h
    refine ⟨plan_size h, plan_node h, fun j h0 h1 => ?_⟩
    simp only [planB, Bool.and_eq_true, List.all_eq_true] at h
    have := h.2.2 j (by simpa using h1)
    simp only [Bool.or_eq_true, beq_iff_eq] at this
    omega
  · rintro ⟨⟨h1, h2, h3⟩, h4, h5⟩
    simp only [planB, Bool.and_eq_true, List.all_eq_true, decide_eq_true_eq]
    refine ⟨⟨h1, h2, h3⟩, nodesB_of (by simpa using h4), fun j hj => ?_⟩
    simp only [Bool.or_eq_true, beq_iff_eq]
    rcases Nat.eq_zero_or_pos j with e | e
    · exact .inl e
    · exact .inr (h5 j e (by simpa using hj))
theorem count_set (x : Int) (d' : ND) : ∀ (P : List ND) (k : Nat) (h : k < P.length), (linksOf (P.set k d')).count x + [P[k].a, P[k].b, P[k].c].count x = (linksOf P).count x + [d'.a, d'.b, d'.c].count x
  | d :: r, 0, _ => by
    simp only [List.set_cons_zero, linksOf, List.flatMap_cons, List.count_append, List.getElem_cons_zero]
    omega
  | d :: r, k + 1, h => by
    have ih := count_set x d' r k (by simpa using h)
    simp only [linksOf] at ih
    simp only [List.set_cons_succ, linksOf, List.flatMap_cons, List.count_append, List.getElem_cons_succ]
    omega
theorem links_lt {P : List ND} {m : Int} (hv : planB P m = true) : (linksOf P).count (P.length : Int) = 0 := by
  rw [List.count_eq_zero]
  intro hm
  unfold linksOf at hm
  rw [List.mem_flatMap] at hm
  obtain ⟨d, hd, hx⟩ := hm
  obtain ⟨k, hk, rfl⟩ := List.mem_iff_getElem.1 hd
  have hn := plan_node hv k hk
  simp only [nodeB, Bool.and_eq_true] at hn
  have h1 := link_in hn.2.1
  have h2 := link_in hn.2.2.1
  have h3 := link_in hn.2.2.2
  simp only [List.mem_cons, List.not_mem_nil, or_false] at hx
  omega
theorem link_up {n i : Nat} {k : Int} (h : linkB n i k = true) : linkB (n + 1) i k = true := by
  rcases link_in h with rfl | ⟨h1, h2⟩
  · rfl
  · unfold linkB
    rw [decide_eq_true h1, decide_eq_true (show k < ((n + 1 : Nat) : Int) by omega)]; simp
theorem link_new {n i : Nat} (h : i < n) : linkB (n + 1) i (n : Int) = true := by
  unfold linkB
  rw [decide_eq_true (show (i : Int) < (n : Int) by omega), decide_eq_true (show (n : Int) < ((n + 1 : Nat) : Int) by omega)]; simp
theorem link_neg {n i : Nat} {k : Int} (h : linkB n i k = true) (hk : k < 0) : k = -1 := by
  rcases link_in h with e | ⟨h1, _⟩
  · exact e
  · omega
/-- A node with one missing link turned to node n. -/
def Turned (d d' : ND) (n : Nat) : Prop :=
  d'.L = d.L ∧ d'.R = d.R ∧ ((d.a < 0 ∧ d'.a = (n : Int) ∧ d'.b = d.b ∧ d'.c = d.c) ∨ (d.b < 0 ∧ d'.a = d.a ∧ d'.b = (n : Int) ∧ d'.c = d.c) ∨ (d.c < 0 ∧ d'.a = d.a ∧ d'.b = d.b ∧ d'.c = (n : Int)))
theorem plan_grow {P : List ND} {m : Int} {k : Nat} (hv : planB P m = true) (hk : k < P.length) (h60 : P.length < 60) {d' : ND} (ht : Turned P[k] d' P.length) {L R : List Int} (hw : weighB L R m = true) :
    planB (P.set k d' ++ [⟨L, R, -1, -1, -1⟩]) m = true := by
  have hv' := planB_iff.1 hv
  obtain ⟨⟨h1, h2, h3⟩, h4, h5⟩ := hv'
  have hlen : (P.set k d' ++ [⟨L, R, -1, -1, -1⟩] : List ND).length = P.length + 1 := by simp
  obtain ⟨tL, tR, tc⟩ := ht
  have hnk := h4 k hk
  simp only [nodeB, Bool.and_eq_true] at hnk
  have hc : ∀ j : Nat, [d'.a, d'.b, d'.c].count (j : Int) = [P[k].a, P[k].b, P[k].c].count (j : Int) + (if j = P.length then 1 else 0) := by
    intro j
    have key : ∀ x y : Int, ([x].count y) = if x = y then 1 else 0 := fun x y => by
      rw [List.count_singleton]; by_cases e : x = y <;> simp [e]
    have tri : ∀ x y z w : Int, [x, y, z].count w = (if x = w then 1 else 0) + (if y = w then 1 else 0) + (if z = w then 1 else 0) := fun x y z w => by
      have : [x, y, z] = [x] ++ [y] ++ [z] := rfl
      rw [this, List.count_append, List.count_append, key, key, key]
    rw [tri, tri]
    rcases tc with ⟨n0, e1, e2, e3⟩ | ⟨n0, e1, e2, e3⟩ | ⟨n0, e1, e2, e3⟩
    · have := link_neg hnk.2.1 n0
      rw [e1, e2, e3, this]
      split <;> split <;> split <;> split <;> split <;> omega
    · have := link_neg hnk.2.2.1 n0
      rw [e1, e2, e3, this]
      split <;> split <;> split <;> split <;> split <;> omega
    · have := link_neg hnk.2.2.2 n0
      rw [e1, e2, e3, this]
      split <;> split <;> split <;> split <;> split <;> omega
  refine planB_iff.2 ⟨⟨by rw [hlen]; omega, h2, h3⟩, fun i hi => ?_, fun j j0 j1 => ?_⟩
  · rw [hlen] at hi ⊢
    by_cases e : i < P.length
    · rw [List.getElem_append_left (by simpa using e), List.getElem_set]
      have hni := h4 i e
      simp only [nodeB, Bool.and_eq_true] at hni
      by_cases ek : k = i
      · subst ek
        rw [if_pos rfl]
        simp only [nodeB, Bool.and_eq_true]
        rw [tL, tR]
        refine ⟨hnk.1, ?_⟩
        rcases tc with ⟨_, e1, e2, e3⟩ | ⟨_, e1, e2, e3⟩ | ⟨_, e1, e2, e3⟩
        · rw [e1, e2, e3]; exact ⟨link_new hk, link_up hnk.2.2.1, link_up hnk.2.2.2⟩
        · rw [e1, e2, e3]; exact ⟨link_up hnk.2.1, link_new hk, link_up hnk.2.2.2⟩
        · rw [e1, e2, e3]; exact ⟨link_up hnk.2.1, link_up hnk.2.2.1, link_new hk⟩
      · rw [if_neg ek]
        simp only [nodeB, Bool.and_eq_true]
        exact ⟨hni.1, link_up hni.2.1, link_up hni.2.2.1, link_up hni.2.2.2⟩
    · obtain rfl : i = P.length := by omega
      rw [List.getElem_append_right (by simp)]
      simp [nodeB, linkB, hw]
  · rw [hlen] at j1
    have hs := count_set (j : Int) d' P k hk
    have hl : (linksOf (P.set k d' ++ [⟨L, R, -1, -1, -1⟩])).count (j : Int) = (linksOf (P.set k d')).count (j : Int) := by
      unfold linksOf
      rw [List.flatMap_append, List.count_append]
      simp
    rw [hl]
    have hcj := hc j
    by_cases e : j = P.length
    · rw [if_pos e] at hcj
      have := links_lt hv
      rw [← e] at this
      omega
    · rw [if_neg e] at hcj
      have := h5 j j0 (by omega)
      omega
end Go.Proofs.Ytipbjioghicmlaa
