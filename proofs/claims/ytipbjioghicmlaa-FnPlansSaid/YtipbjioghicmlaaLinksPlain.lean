/- Plain facts on the links of a plan, read one behind another. No condition. -/
import Derived.Test.YtipbjioghicmlaaPlanGrow
namespace Go.Proofs.Ytipbjioghicmlaa
open Go.RowKit

theorem links_at {P : List ND} {k j : Nat} (hk : k < P.length) (hj : j < 3) : (linksOf P)[3 * k + j]? = some ([P[k].a, P[k].b, P[k].c][j]) := by
  induction P generalizing k with
  | nil => simp at hk
  | cons d r ih =>
    have e : linksOf (d :: r) = [d.a, d.b, d.c] ++ linksOf r := rfl
    rw [e]
    cases k with
    | zero =>
      rw [List.getElem?_append_left (by simp; omega)]
      match j, hj with
      | 0, _ => rfl
      | 1, _ => rfl
      | 2, _ => rfl
    | succ k =>
      rw [List.getElem?_append_right (by simp; omega)]
      have h := ih (k := k) (by simpa using hk)
      have e2 : 3 * (k + 1) + j - [d.a, d.b, d.c].length = 3 * k + j := by simp; omega
      rw [e2, h]
      simp
theorem links_length (P : List ND) : (linksOf P).length = 3 * P.length := by
  induction P with
  | nil => rfl
  | cons d r ih => simp [linksOf] at ih ⊢; omega

/-- Each link leads to a later node or ends the plan, and each node but the first follows exactly one other. -/
def LinkP (P : List ND) : Prop :=
  (∀ q (h : q < (linksOf P).length), linkB P.length (q / 3) (linksOf P)[q] = true) ∧ ∀ j : Nat, 0 < j → j < P.length → (linksOf P).count (j : Int) = 1
/-- The first p links lead to later nodes or end the plan, and none of them twice to one node. -/
def LinkInv (P : List ND) (p : Nat) : Prop :=
  (∀ q (h : q < (linksOf P).length), q < p → linkB P.length (q / 3) (linksOf P)[q] = true) ∧ ∀ y : Nat, ((linksOf P).take p).count (y : Int) ≤ 1

theorem inv_start (P : List ND) : LinkInv P 0 := ⟨fun _ _ h => by omega, fun _ => by simp⟩
theorem take_next {X : List Int} {p : Nat} {x : Int} (h : X[p]? = some x) : X.take (p + 1) = X.take p ++ [x] := by
  obtain ⟨hp, e⟩ := List.getElem?_eq_some_iff.1 h
  rw [List.take_succ_eq_append_getElem hp, e]
theorem inv_next {P : List ND} {p : Nat} {x : Int} (h : LinkInv P p) (hx : (linksOf P)[p]? = some x) (hl : linkB P.length (p / 3) x = true) (hn : ∀ y : Nat, x = (y : Int) → x ∉ (linksOf P).take p) : LinkInv P (p + 1) := by
  obtain ⟨hp, e⟩ := List.getElem?_eq_some_iff.1 hx
  refine ⟨fun q hq hlt => ?_, fun y => ?_⟩
  · by_cases eq : q = p
    · subst eq; rw [e]; exact hl
    · exact h.1 q hq (by omega)
  · rw [take_next hx, List.count_append, List.count_singleton]
    have h1 := h.2 y
    by_cases exy : x = (y : Int)
    · have h2 := hn y exy
      rw [exy] at h2
      rw [List.count_eq_zero.2 h2]
      split <;> omega
    · have : (x == (y : Int)) = false := beq_eq_false_iff_ne.2 exy
      rw [this]
      simpa using h1
theorem inv_none {P : List ND} {p : Nat} (h : LinkInv P p) (hx : (linksOf P)[p]? = some (-1)) : LinkInv P (p + 1) :=
  inv_next h hx rfl fun y e => by omega
theorem bad_link {P : List ND} {k j : Nat} {x : Int} (hj : j < 3) (hx : (linksOf P)[3 * k + j]? = some x) (hl : linkB P.length k x = false) : ¬ LinkP P := fun h => by
  obtain ⟨hp, e⟩ := List.getElem?_eq_some_iff.1 hx
  have h1 := h.1 _ hp
  rw [e, show (3 * k + j) / 3 = k by omega, hl] at h1
  cases h1
theorem bad_twice {P : List ND} {p : Nat} {y : Nat} (hx : (linksOf P)[p]? = some (y : Int)) (y0 : 0 < y) (y1 : y < P.length) (hm : (y : Int) ∈ (linksOf P).take p) : ¬ LinkP P := fun h => by
  have h1 := h.2 y y0 y1
  obtain ⟨hp, e⟩ := List.getElem?_eq_some_iff.1 hx
  have h2 : (linksOf P).count (y : Int) = ((linksOf P).take p).count (y : Int) + ((linksOf P).drop p).count (y : Int) := by
    rw [← List.count_append, List.take_append_drop]
  have h3 := List.count_pos_iff.2 hm
  have h4 : 0 < ((linksOf P).drop p).count (y : Int) := by
    rw [List.count_pos_iff, List.drop_eq_getElem_cons hp, e]
    simp
  omega
theorem bad_early {P : List ND} {k : Nat} (k0 : 0 < k) (k1 : k < P.length) (hm : (k : Int) ∉ (linksOf P).take (3 * k)) : ¬ LinkP P := fun h => by
  have h1 := h.2 k k0 k1
  have h2 : (k : Int) ∈ linksOf P := List.count_pos_iff.1 (by omega)
  obtain ⟨q, hq, e⟩ := List.mem_iff_getElem.1 h2
  have h3 := link_in (h.1 q hq)
  rw [e] at h3
  refine hm ?_
  rw [List.mem_iff_getElem]
  have hlt : q < 3 * k := by omega
  exact ⟨q, by simp; omega, by rw [List.getElem_take]; exact e⟩
theorem good_end {P : List ND} (h : LinkInv P (3 * P.length)) (hc : ∀ i : Nat, 0 < i → i < P.length → (i : Int) ∈ (linksOf P).take (3 * i)) : LinkP P := by
  refine ⟨fun q hq => h.1 q hq (by rw [links_length] at hq; exact hq), fun j j0 j1 => ?_⟩
  have h1 := h.2 j
  rw [List.take_of_length_le (by rw [links_length]; omega)] at h1
  have h2 := List.count_pos_iff.2 (List.mem_of_mem_take (hc j j0 j1))
  omega
theorem link_case (P : List ND) : ∃ r : Bool, (r = true ↔ LinkP P) := by
  by_cases h : LinkP P
  · exact ⟨true, by simp [h]⟩
  · exact ⟨false, by simp [h]⟩
/-- A plan is valid if its sizes, its weighings and its links are. -/
theorem plan_split {P : List ND} {r : Bool} (hr : r = true ↔ LinkP P) (m : Int) :
    planB P m = ((decide (P.length ≤ 60) && (decide (1 ≤ m) && decide (m ≤ 13))) && ((P.all fun d => weighB d.L d.R m) && r)) := by
  rw [Bool.eq_iff_iff, planB_iff]
  simp only [Bool.and_eq_true, decide_eq_true_eq, List.all_eq_true]
  rw [hr]
  have key : ∀ k (hk : k < P.length), nodeB P.length m k P[k] = true ↔ weighB P[k].L P[k].R m = true ∧ ∀ j (h : j < 3), linkB P.length k ([P[k].a, P[k].b, P[k].c][j]) = true := fun k hk => by
    simp only [nodeB, Bool.and_eq_true]
    constructor
    · rintro ⟨h1, h2, h3, h4⟩
      refine ⟨h1, fun j hj => ?_⟩
      match j, hj with
      | 0, _ => exact h2
      | 1, _ => exact h3
      | 2, _ => exact h4
    · rintro ⟨h1, h2⟩
      exact ⟨h1, h2 0 (by omega), h2 1 (by omega), h2 2 (by omega)⟩
  constructor
  · rintro ⟨h1, h2, h3⟩
    refine ⟨⟨h1.1, h1.2.1, h1.2.2⟩, fun d hd => ?_, fun q hq => ?_, h3⟩
    · obtain ⟨k, hk, rfl⟩ := List.mem_iff_getElem.1 hd
      exact ((key k hk).1 (h2 k hk)).1
    · rw [links_length] at hq
      have hk : q / 3 < P.length := by omega
      have hj : q % 3 < 3 := by omega
      have h4 := ((key _ hk).1 (h2 _ hk)).2 _ hj
      have h5 := links_at hk hj
      rw [show 3 * (q / 3) + q % 3 = q by omega] at h5
      obtain ⟨_, e⟩ := List.getElem?_eq_some_iff.1 h5
      rw [e]
      exact h4
  · rintro ⟨h1, h2, h3, h4⟩
    refine ⟨⟨h1.1, h1.2.1, h1.2.2⟩, fun k hk => (key k hk).2 ⟨h2 _ (List.getElem_mem hk), fun j hj => ?_⟩, h4⟩
    obtain ⟨hq, e⟩ := List.getElem?_eq_some_iff.1 (links_at hk hj)
    have h5 := h3 _ hq
    rw [e, show (3 * k + j) / 3 = k by omega] at h5
    exact h5

/-- Whether each number below n is in a list. -/
def entRow (n : Nat) (ks : List Int) : List Bool := (List.range n).map fun (j : Nat) => decide ((j : Int) ∈ ks)
theorem entRow_length (n : Nat) (ks : List Int) : (entRow n ks).length = n := by simp [entRow]
theorem entRow_at {n : Nat} {ks : List Int} {j : Nat} (h : j < (entRow n ks).length) : (entRow n ks)[j] = decide ((j : Int) ∈ ks) := by simp [entRow]
theorem entRow_none (n : Nat) (ks : List Int) : entRow n (ks ++ [-1]) = entRow n ks := by
  unfold entRow
  refine List.map_congr_left fun j _ => ?_
  congr 1
  refine propext ⟨fun h => ?_, fun h => by simp [h]⟩
  rw [List.mem_append] at h
  rcases h with h | h
  · exact h
  · rw [List.mem_singleton] at h; omega
theorem entRow_add (n : Nat) (ks : List Int) (k : Nat) : (entRow n ks).set k true = entRow n (ks ++ [(k : Int)]) := by
  apply List.ext_getElem
  · simp [entRow_length]
  · intro j h1 h2
    rw [List.getElem_set, entRow_at, entRow_at]
    by_cases e : k = j
    · subst e; simp
    · rw [if_neg e]
      congr 1
      refine propext ⟨fun h => by simp [h], fun h => ?_⟩
      rw [List.mem_append] at h
      rcases h with h | h
      · exact h
      · rw [List.mem_singleton] at h; omega
theorem entRow_start (n : Nat) : entRow n [] = List.replicate n false := by
  apply List.ext_getElem
  · simp [entRow_length]
  · intro j h1 h2
    rw [entRow_at]; simp
end Go.Proofs.Ytipbjioghicmlaa
