/- Plain facts on outcomes: a light coin has the opposite outcome of a heavy one, exchanged sides the opposite one too, and over all heavy coins the outcomes add up to nothing. Condition: the weighing is valid. -/
import Derived.Test.YthgdobnegepgoaaOutSpec
namespace Go.Proofs.Ythgdobnegepgoaa
open Go.RowKit

theorem side_up {l : List Int} {n m : Int} (h : sideB l n = true) (hm : n ≤ m) : sideB l m = true := by
  unfold sideB ascB at h ⊢
  simp only [Bool.and_eq_true, decide_eq_true_eq, List.all_eq_true] at h ⊢
  exact ⟨⟨h.1.1, fun x hx => ⟨(h.1.2 x hx).1, by have := (h.1.2 x hx).2; omega⟩⟩, h.2⟩
theorem apart_mem {L R : List Int} : apartB L R = true ↔ ∀ x ∈ L, x ∉ R := by
  unfold apartB
  simp [List.all_eq_true, hasI]
theorem weigh_parts {L R : List Int} {n : Int} (h : weighB L R n = true) : 1 ≤ n ∧ n ≤ 13 ∧ sideB L n = true ∧ sideB R n = true ∧ L.length = R.length ∧ ∀ x ∈ L, x ∉ R := by
  unfold weighB at h
  simp only [Bool.and_eq_true, decide_eq_true_eq] at h
  obtain ⟨⟨⟨⟨⟨h1, h2⟩, h3⟩, h4⟩, h5⟩, h6⟩ := h
  exact ⟨h1, h2, h3, h4, h5, apart_mem.1 h6⟩
theorem weigh_of {L R : List Int} {n : Int} (h1 : 1 ≤ n) (h2 : n ≤ 13) (h3 : sideB L n = true) (h4 : sideB R n = true) (h5 : L.length = R.length) (h6 : ∀ x ∈ L, x ∉ R) : weighB L R n = true := by
  unfold weighB
  simp only [Bool.and_eq_true, decide_eq_true_eq]
  exact ⟨⟨⟨⟨⟨h1, h2⟩, h3⟩, h4⟩, h5⟩, apart_mem.2 h6⟩
theorem weigh_13 {L R : List Int} {n : Int} (h : weighB L R n = true) : weighB L R 13 = true := by
  obtain ⟨h1, h2, h3, h4, h5, h6⟩ := weigh_parts h
  exact weigh_of (by omega) (by omega) (side_up h3 h2) (side_up h4 h2) h5 h6
theorem weigh_turn {L R : List Int} {n : Int} (h : weighB L R n = true) : weighB R L n = true := by
  obtain ⟨h1, h2, h3, h4, h5, h6⟩ := weigh_parts h
  exact weigh_of h1 h2 h4 h3 h5.symm fun x hx hl => h6 x hl hx

/-- The outcome for a heavy coin. -/
def sgI (L R : List Int) (c : Int) : Int := if hasI L c = true then 1 else if hasI R c = true then -1 else 0

theorem out_heavy {L R : List Int} {n c : Int} (h : weighB L R n = true) (c1 : 1 ≤ c) (c2 : c ≤ 13) : outI L R c = sgI L R c := by
  have hi : inB c = true := by unfold inB; simp; omega
  have hc : coinI c = c := by unfold coinI; rw [if_pos hi, if_neg (by omega)]
  unfold outI outcI sgI
  have hn : ¬ c < 0 := by omega
  rw [weigh_13 h, hi, hc, Bool.and_true, if_pos rfl]
  simp only [if_neg hn]
theorem out_light {L R : List Int} {n c : Int} (h : weighB L R n = true) (c1 : 1 ≤ c) (c2 : c ≤ 13) : outI L R (-c) = -sgI L R c := by
  have hi : inB (-c) = true := by unfold inB; simp; omega
  have hc : coinI (-c) = c := by unfold coinI; rw [if_pos hi, if_pos (by omega)]; omega
  unfold outI outcI sgI
  have hp : -c < 0 := by omega
  rw [weigh_13 h, hi, hc, Bool.and_true, if_pos rfl]
  simp only [if_pos hp]
  split
  · rfl
  · split <;> rfl
theorem out_turn {L R : List Int} {n c : Int} (h : weighB L R n = true) (c1 : 1 ≤ c) (c2 : c ≤ 13) : outI R L c = -sgI L R c := by
  rw [out_heavy (weigh_turn h) c1 c2]
  have h6 := (weigh_parts h).2.2.2.2.2
  unfold sgI
  cases hl : hasI L c with
  | true =>
    have : hasI R c = false := by
      cases hr : hasI R c with
      | false => rfl
      | true => exact absurd (hasI_mem.1 hr) (h6 c (hasI_mem.1 hl))
    rw [this]; rfl
  | false => cases hasI R c <;> rfl
theorem out_none {L R : List Int} {n : Int} (h : weighB L R n = true) : outI L R 0 = 0 := by
  obtain ⟨_, _, h3, h4, _, _⟩ := weigh_parts h
  have no : ∀ l, sideB l n = true → hasI l 0 = false := fun l hl => by
    cases hh : hasI l 0 with
    | false => rfl
    | true =>
      unfold sideB ascB at hl
      simp only [Bool.and_eq_true, decide_eq_true_eq, List.all_eq_true] at hl
      have := hl.1.2 0 (hasI_mem.1 hh)
      omega
  unfold outI outcI
  rw [weigh_13 h]
  show (if (true && inB 0) = true then (if hasI L 0 = true then _ else if hasI R 0 = true then _ else 0) else 0) = 0
  rw [no L h3, no R h4]
  rfl

/-- How many elements are at most k. -/
def cnt (l : List Int) (k : Int) : Int := ((l.filter fun x => decide (x ≤ k)).length : Int)
theorem cnt_step {k : Int} : ∀ {l : List Int}, l.Pairwise (· < ·) → cnt l (k + 1) = cnt l k + (if hasI l (k + 1) = true then 1 else 0)
  | [], _ => rfl
  | a :: r, h => by
    rw [List.pairwise_cons] at h
    have ih := cnt_step (k := k) h.2
    unfold cnt at ih ⊢
    rw [List.filter_cons, List.filter_cons]
    by_cases h1 : a ≤ k
    · have e : hasI (a :: r) (k + 1) = hasI r (k + 1) := by
        have : ¬ k + 1 = a := by omega
        simp [hasI, this]
      rw [if_pos (by simp; omega), if_pos (by simpa using h1), e]
      simp only [List.length_cons]
      omega
    · by_cases h2 : a = k + 1
      · have hr : hasI r (k + 1) = false := by
          cases hh : hasI r (k + 1) with
          | false => rfl
          | true => have := h.1 _ (hasI_mem.1 hh); omega
        have e : hasI (a :: r) (k + 1) = true := hasI_mem.2 (by simp [h2])
        rw [if_pos (by simp; omega), if_neg (by simpa using h1), e, if_pos rfl]
        rw [hr, if_neg (by decide)] at ih
        simp only [List.length_cons]
        omega
      · have hr : hasI r (k + 1) = false := by
          cases hh : hasI r (k + 1) with
          | false => rfl
          | true => have := h.1 _ (hasI_mem.1 hh); omega
        have e : hasI (a :: r) (k + 1) = false := by
          cases hh : hasI (a :: r) (k + 1) with
          | false => rfl
          | true =>
            have := hasI_mem.1 hh
            simp only [List.mem_cons] at this
            rcases this with h3 | h3
            · exact absurd h3.symm h2
            · rw [hasI_mem.2 h3] at hr; cases hr
        rw [if_neg (by simp; omega), if_neg (by simpa using h1), e]
        rw [hr] at ih
        exact ih
theorem cnt_zero {l : List Int} (h : ∀ x ∈ l, 1 ≤ x) : cnt l 0 = 0 := by
  unfold cnt
  rw [List.filter_eq_nil_iff.2 (fun x hx => by have := h x hx; simp; omega)]
  rfl
theorem cnt_all {l : List Int} {n : Int} (h : ∀ x ∈ l, x ≤ n) : cnt l n = l.length := by
  unfold cnt
  rw [List.filter_eq_self.2 (fun x hx => by have := h x hx; simpa using this)]

theorem side_pair {l : List Int} {n : Int} (h : sideB l n = true) : l.Pairwise (· < ·) ∧ ∀ x ∈ l, 1 ≤ x ∧ x ≤ n := by
  unfold sideB ascB at h
  simp only [Bool.and_eq_true, decide_eq_true_eq, List.all_eq_true] at h
  exact h.1

theorem sum_step {L R : List Int} {n k : Int} (h : weighB L R n = true) : cnt L (k + 1) - cnt R (k + 1) = cnt L k - cnt R k + sgI L R (k + 1) := by
  obtain ⟨_, _, h3, h4, _, h6⟩ := weigh_parts h
  rw [cnt_step (side_pair h3).1, cnt_step (side_pair h4).1]
  unfold sgI
  cases hl : hasI L (k + 1) with
  | true =>
    have : hasI R (k + 1) = false := by
      cases hr : hasI R (k + 1) with
      | false => rfl
      | true => exact absurd (hasI_mem.1 hr) (h6 _ (hasI_mem.1 hl))
    rw [this]
    simp
    omega
  | false =>
    cases hasI R (k + 1) <;> simp <;> omega
theorem sum_end {L R : List Int} {n : Int} (h : weighB L R n = true) : cnt L n - cnt R n = 0 := by
  obtain ⟨_, _, h3, h4, h5, _⟩ := weigh_parts h
  rw [cnt_all fun x hx => ((side_pair h3).2 x hx).2, cnt_all fun x hx => ((side_pair h4).2 x hx).2, h5]
  omega
theorem sum_zero {L R : List Int} {n : Int} (h : weighB L R n = true) : cnt L 0 - cnt R 0 = 0 := by
  obtain ⟨_, _, h3, h4, _, _⟩ := weigh_parts h
  rw [cnt_zero fun x hx => ((side_pair h3).2 x hx).1, cnt_zero fun x hx => ((side_pair h4).2 x hx).1]
  rfl
theorem sg_has {L R : List Int} {c : Int} : (sgI L R c == 0) = !(hasI L c || hasI R c) := by
  unfold sgI
  cases hasI L c <;> cases hasI R c <;> rfl
theorem sg_range (L R : List Int) (c : Int) : -1 ≤ sgI L R c ∧ sgI L R c ≤ 1 := by
  unfold sgI
  split
  · omega
  · split <;> omega

theorem asc_len : ∀ (l : List Int) (lo n : Int), l.Pairwise (· < ·) → (∀ x ∈ l, lo ≤ x ∧ x ≤ n) → l = [] ∨ (l.length : Int) ≤ n - lo + 1
  | [], _, _, _, _ => .inl rfl
  | a :: r, lo, n, hp, h => by
    have ha := h a (by simp)
    rw [List.pairwise_cons] at hp
    right
    rcases asc_len r (a + 1) n hp.2 (fun x hx => ⟨by have := hp.1 x hx; omega, (h x (List.mem_cons_of_mem _ hx)).2⟩) with rfl | h2
    · simp; omega
    · simp; omega
theorem side_len {l : List Int} {n : Int} (h : sideB l n = true) : (l.length : Int) ≤ n ∨ l = [] := by
  unfold sideB ascB at h
  simp only [Bool.and_eq_true, decide_eq_true_eq, List.all_eq_true] at h
  rcases asc_len l 1 n h.1.1 h.1.2 with h1 | h1
  · exact .inr h1
  · exact .inl (by omega)
theorem weigh_len {L R : List Int} {n : Int} (h : weighB L R n = true) : L.length ≤ 13 ∧ R.length ≤ 13 := by
  obtain ⟨_, h2, h3, h4, _, _⟩ := weigh_parts h
  constructor
  · rcases side_len h3 with h | rfl
    · omega
    · simp
  · rcases side_len h4 with h | rfl
    · omega
    · simp
theorem cnt_range (l : List Int) (k : Int) : 0 ≤ cnt l k ∧ cnt l k ≤ l.length := by
  unfold cnt
  have := List.length_filter_le (fun x => decide (x ≤ k)) l
  omega
theorem sum_range {L R : List Int} {n : Int} (h : weighB L R n = true) (k : Int) : -13 ≤ cnt L k - cnt R k ∧ cnt L k - cnt R k ≤ 13 := by
  obtain ⟨h1, h2⟩ := weigh_len h
  have := cnt_range L k
  have := cnt_range R k
  omega
theorem sg_val {L R : List Int} {c : Int} {x y : Bool} (h1 : hasI L c = x) (h2 : hasI R c = y) : sgI L R c = if x = true then 1 else if y = true then -1 else 0 := by
  unfold sgI; rw [h1, h2]
end Go.Proofs.Ythgdobnegepgoaa
