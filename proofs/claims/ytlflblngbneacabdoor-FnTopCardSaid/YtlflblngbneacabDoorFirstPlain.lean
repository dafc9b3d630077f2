/- The program's search for a pick finds what the model's finds, plainly. Condition: a valid state. -/
import Derived.Test.YtlflblngbneacabDoorFirstImpl
namespace Go.Proofs.YtlflblngbneacabDoor

theorem findSome_flatMap {α β γ : Type} (f : α → List β) (g : β → Option γ) : ∀ l : List α, (l.flatMap f).findSome? g = l.findSome? (fun a => (f a).findSome? g)
  | [] => rfl
  | a :: l => by rw [List.flatMap_cons, List.findSome?_append, findSome_flatMap f g l, List.findSome?_cons]; cases (f a).findSome? g <;> rfl
theorem find_flatMap {α β : Type} (f : α → List β) (p : β → Bool) : ∀ l : List α, (l.flatMap f).find? p = l.findSome? (fun a => (f a).find? p)
  | [] => rfl
  | a :: l => by rw [List.flatMap_cons, List.find?_append, find_flatMap f p l, List.findSome?_cons]; cases (f a).find? p <;> rfl
theorem findSome_map {α β γ : Type} (f : α → β) (g : β → Option γ) : ∀ l : List α, (l.map f).findSome? g = l.findSome? (fun a => g (f a))
  | [] => rfl
  | a :: l => by rw [List.map_cons, List.findSome?_cons, findSome_map f g l, List.findSome?_cons]
theorem findSome_congr {α β : Type} {f g : α → Option β} : ∀ {l : List α}, (∀ a ∈ l, f a = g a) → l.findSome? f = l.findSome? g
  | [], _ => rfl
  | a :: l, h => by rw [List.findSome?_cons, List.findSome?_cons, h a (by simp), findSome_congr (l := l) fun b hb => h b (by simp [hb])]
theorem findSome_none {α β : Type} {f : α → Option β} : ∀ {l : List α}, (∀ a ∈ l, f a = none) → l.findSome? f = none
  | [], _ => rfl
  | a :: l, h => by rw [List.findSome?_cons, h a (by simp)]; exact findSome_none fun b hb => h b (by simp [hb])
theorem findSome_range {β : Type} {f : Nat → Option β} {k : Nat} {v : β} (hk : f k = some v) (hlt : ∀ i, i < k → f i = none) : ∀ n, k < n → (List.range n).findSome? f = some v
  | 0, h => absurd h (by omega)
  | n + 1, h => by
    rw [List.range_succ, List.findSome?_append]
    by_cases e : k = n
    · subst e
      rw [findSome_none (l := List.range k) fun a ha => hlt a (List.mem_range.1 ha)]
      simp [hk]
    · rw [findSome_range hk hlt n (by omega)]; rfl
theorem firstFrom_range {α : Type} (f : Nat → Option α) : ∀ n i, firstFrom f n i = (List.range' i n).findSome? f
  | 0, _ => rfl
  | n + 1, i => by
    unfold firstFrom
    rw [firstFrom_range f n (i + 1), List.range'_succ, List.findSome?_cons]
    cases f i <;> rfl
theorem firstFrom_zero {α : Type} (f : Nat → Option α) (n : Nat) : firstFrom f n 0 = (List.range n).findSome? f := by rw [firstFrom_range, List.range_eq_range']
theorem pairs_find {α : Type} (c : Nat) (F : Nat × Nat → Option α) : (pairsL c).findSome? F = (List.range (c + 1)).findSome? fun a => (List.range (c - a + 1)).findSome? fun b => F (a, b) := by
  unfold pairsL rowsL
  rw [findSome_flatMap]
  exact findSome_congr fun a _ => by rw [rowL, findSome_map]
theorem first_pairs {α : Type} (c : Nat) (F : Nat → Nat → Option α) : firstFrom (fun a => firstFrom (fun b => F a b) (c + 1 - a) 0) (c + 1) 0 = (pairsL c).findSome? fun x => F x.1 x.2 := by
  rw [firstFrom_zero, pairs_find]
  refine findSome_congr fun a ha => ?_
  rw [firstFrom_zero, show c + 1 - a = c - a + 1 by have := List.mem_range.1 ha; omega]

/-- The first pair that makes both sides equal is the least. -/
theorem pairs_even {α : Type} (c L R : Nat) (G : Nat × Nat → α) : (pairsL c).findSome? (fun x => if L + x.1 = R + x.2 then some (G x) else none) =
    if L < R then (if R - L ≤ c then some (G (R - L, 0)) else none) else (if L - R ≤ c then some (G (0, L - R)) else none) := by
  rw [pairs_find]
  by_cases h : L < R
  · rw [if_pos h]
    by_cases hc : R - L ≤ c
    · rw [if_pos hc]
      refine findSome_range (k := R - L) ?_ ?_ _ (by omega)
      · refine findSome_range (k := 0) ?_ (fun i hi => by omega) _ (by omega)
        rw [if_pos (by simp only []; omega)]
      · intro a ha
        refine findSome_none fun b hb => ?_
        rw [if_neg (by simp only []; omega)]
    · rw [if_neg hc]
      refine findSome_none fun a ha => findSome_none fun b hb => ?_
      have := List.mem_range.1 ha
      rw [if_neg (by simp only []; omega)]
  · rw [if_neg h]
    by_cases hc : L - R ≤ c
    · rw [if_pos hc]
      refine findSome_range (k := 0) ?_ (fun i hi => by omega) _ (by omega)
      refine findSome_range (k := L - R) ?_ ?_ _ (by omega)
      · rw [if_pos (by simp only []; omega)]
      · intro b hb
        rw [if_neg (by simp only []; omega)]
    · rw [if_neg hc]
      refine findSome_none fun a ha => findSome_none fun b hb => ?_
      have := List.mem_range.1 ha
      have := List.mem_range.1 hb
      rw [if_neg (by simp only []; omega)]

section
variable {nb nh nl ng : Nat}

theorem pickB_mk (hs : SIn ⟨nb, nh, nl, ng⟩) {x1 x2 x3 : Nat × Nat} (h1 : x1.1 + x1.2 ≤ nb) (h2 : x2.1 + x2.2 ≤ nh) (h3 : x3.1 + x3.2 ≤ nl) (x4 : Nat × Nat) (h4 : x4.1 + x4.2 ≤ ng) :
    pickB ⟨nb, nh, nl, ng⟩ (mkP x1 x2 x3 x4) = (decide (x1.1 + x2.1 + x3.1 + x4.1 = x1.2 + x2.2 + x3.2 + x4.2) && decide (1 ≤ x1.1 + x2.1 + x3.1 + x4.1)) := by
  have hb := stateB_iff.2 hs
  unfold SIn sumS at hs
  simp only [] at hs
  rw [pickB_fits, hb]
  unfold mkP leftP rightP
  simp only [cl_of (show x1.1 ≤ 13 by omega), cl_of (show x1.2 ≤ 13 by omega), cl_of (show x2.1 ≤ 13 by omega), cl_of (show x2.2 ≤ 13 by omega), cl_of (show x3.1 ≤ 13 by omega), cl_of (show x3.2 ≤ 13 by omega), cl_of (show x4.1 ≤ 13 by omega), cl_of (show x4.2 ≤ 13 by omega)]
  rw [fitsB_iff.2 ⟨by omega, by omega, by omega⟩, fitsB_iff.2 ⟨by omega, by omega, by omega⟩, fitsB_iff.2 ⟨by omega, by omega, by omega⟩, fitsB_iff.2 ⟨by omega, by omega, by omega⟩]
  simp only [Bool.true_and]
  congr 1
  · rw [decide_eq_decide]; omega
  · rw [decide_eq_decide]; omega

/-- The pick without good coins. -/
def bare (x1 x2 x3 : Nat × Nat) : PD := ⟨x1.1, x1.2, x2.1, x2.2, x3.1, x3.2, 0, 0⟩
theorem after_mk (hs : SIn ⟨nb, nh, nl, ng⟩) {x1 x2 x3 : Nat × Nat} (h1 : x1.1 + x1.2 ≤ nb) (h2 : x2.1 + x2.2 ≤ nh) (h3 : x3.1 + x3.2 ≤ nl) (x4 : Nat × Nat) (x : Int) : afterS ⟨nb, nh, nl, ng⟩ (mkP x1 x2 x3 x4) x = afterS ⟨nb, nh, nl, ng⟩ (bare x1 x2 x3) x := by
  unfold SIn sumS at hs
  simp only [] at hs
  unfold mkP bare afterS goodS
  simp only [cl_of (show x1.1 ≤ 13 by omega), cl_of (show x1.2 ≤ 13 by omega), cl_of (show x2.1 ≤ 13 by omega), cl_of (show x2.2 ≤ 13 by omega), cl_of (show x3.1 ≤ 13 by omega), cl_of (show x3.2 ≤ 13 by omega)]
theorem leads_fit (j : Nat) (p : PD) : leadsB j ⟨nb, nh, nl, ng⟩ p = fitB (canS j) (3 ^ j) ⟨nb, nh, nl, ng⟩ (goodsP p) := by
  have hc : ∀ t : SD, canS j t = true → decide (countS t ≤ 3 ^ j) = true := fun t ht => by
    refine decide_eq_true ?_
    rcases Int.lt_or_le (3 ^ j) (countS t) with h | h
    · have h1 : (1 : Int) ≤ 3 ^ j := Int.le_of_lt_add_one (by have := Int.pow_pos (n := 3) (m := j) (by omega); omega)
      rw [(canS_ways j t).2.1 (by omega) h] at ht
      cases ht
    · exact h
  unfold leadsB fitB
  simp only [after_goods, List.all_cons, List.all_nil, Bool.and_true]
  cases ha : canS j (afterS ⟨nb, nh, nl, ng⟩ p (-1)) <;> cases hb : canS j (afterS ⟨nb, nh, nl, ng⟩ p 0) <;> cases hd : canS j (afterS ⟨nb, nh, nl, ng⟩ p 1) <;> simp
  exact ⟨by simpa using hc _ hb, by simpa using hc _ hd, by simpa using hc _ ha⟩
theorem same_bare {x1 x2 x3 : Nat × Nat} : sameS (afterS ⟨nb, nh, nl, ng⟩ (bare x1 x2 x3) 0) ⟨nb, nh, nl, ng⟩ = decide (x1.1 + x1.2 + x2.1 + x2.2 + x3.1 + x3.2 = 0) := by
  unfold sameS afterS goodS bare
  rw [decide_eq_decide]
  simp only [show ¬ ((0 : Int) = 1) by decide, show ¬ ((0 : Int) = -1) by decide, if_false]
  constructor
  · rintro ⟨a, b, c, d⟩; omega
  · intro h; refine ⟨?_, ?_, ?_, ?_⟩ <;> omega

/-- The innermost loop of the program finds what the model's completed pick is. -/
theorem find_goods (hs : SIn ⟨nb, nh, nl, ng⟩) {x1 x2 x3 : Nat × Nat} (h1 : x1.1 + x1.2 ≤ nb) (h2 : x2.1 + x2.2 ≤ nh) (h3 : x3.1 + x3.2 ≤ nl) (j : Nat) : (pairsL ng).findSome? (fun x4 => (pk4 ⟨nb, nh, nl, ng⟩ x1 x2 x3 x4).find? (takeB j ⟨nb, nh, nl, ng⟩)) = tryP (canS j) (3 ^ j) ⟨nb, nh, nl, ng⟩ (bare x1 x2 x3) := by
  have htk : ∀ x4, takeB j ⟨nb, nh, nl, ng⟩ (mkP x1 x2 x3 x4) = (!(decide (x1.1 + x1.2 + x2.1 + x2.2 + x3.1 + x3.2 = 0)) && leadsB j ⟨nb, nh, nl, ng⟩ (bare x1 x2 x3)) := fun x4 => by
    unfold takeB
    rw [after_mk hs h1 h2 h3, same_bare]
    unfold leadsB
    simp only [after_mk hs h1 h2 h3]
  have hF : ∀ x4 ∈ pairsL ng, (pk4 ⟨nb, nh, nl, ng⟩ x1 x2 x3 x4).find? (takeB j ⟨nb, nh, nl, ng⟩) =
      if (decide (x1.1 + x2.1 + x3.1 + x4.1 = x1.2 + x2.2 + x3.2 + x4.2) && decide (1 ≤ x1.1 + x2.1 + x3.1 + x4.1)) = true then (if (!(decide (x1.1 + x1.2 + x2.1 + x2.2 + x3.1 + x3.2 = 0)) && leadsB j ⟨nb, nh, nl, ng⟩ (bare x1 x2 x3)) = true then some (mkP x1 x2 x3 x4) else none) else none := fun x4 hx => by
    unfold pk4
    rw [pickB_mk hs h1 h2 h3 x4 (mem_pairs.1 hx)]
    split
    · rw [List.find?_cons, htk]
      cases (!(decide (x1.1 + x1.2 + x2.1 + x2.2 + x3.1 + x3.2 = 0)) && leadsB j ⟨nb, nh, nl, ng⟩ (bare x1 x2 x3)) <;> rfl
    · rfl
  rw [findSome_congr hF]
  unfold tryP
  rw [← leads_fit]
  cases hl : leadsB j ⟨nb, nh, nl, ng⟩ (bare x1 x2 x3) with
  | false =>
    simp only [Bool.and_false, Bool.false_eq_true, if_false]
    exact findSome_none fun x4 _ => by split <;> rfl
  | true =>
    simp only [Bool.and_true]
    by_cases hz : x1.1 + x1.2 + x2.1 + x2.2 + x3.1 + x3.2 = 0
    · have hg : goodsB ⟨nb, nh, nl, ng⟩ (bare x1 x2 x3) = false := by
        unfold goodsB
        rw [decide_eq_false (p := 0 < leftP (bare x1 x2 x3) + rightP (bare x1 x2 x3)) (by unfold leftP rightP bare; simp only []; omega), Bool.and_false]
      rw [hg]
      simp only [hz, decide_true, Bool.not_true, Bool.false_eq_true, if_false]
      exact findSome_none fun x4 _ => by split <;> rfl
    · have hE : ∀ x4 ∈ pairsL ng, (if (decide (x1.1 + x2.1 + x3.1 + x4.1 = x1.2 + x2.2 + x3.2 + x4.2) && decide (1 ≤ x1.1 + x2.1 + x3.1 + x4.1)) = true then (if (!(decide (x1.1 + x1.2 + x2.1 + x2.2 + x3.1 + x3.2 = 0))) = true then some (mkP x1 x2 x3 x4) else none) else none) =
          if (x1.1 + x2.1 + x3.1) + x4.1 = (x1.2 + x2.2 + x3.2) + x4.2 then some (mkP x1 x2 x3 x4) else none := fun x4 _ => by
        rw [decide_eq_false hz]
        by_cases he : x1.1 + x2.1 + x3.1 + x4.1 = x1.2 + x2.2 + x3.2 + x4.2
        · rw [decide_eq_true he, decide_eq_true (p := 1 ≤ x1.1 + x2.1 + x3.1 + x4.1) (by omega), if_pos he]; rfl
        · rw [decide_eq_false he, if_neg he]; rfl
      rw [findSome_congr hE, pairs_even]
      unfold SIn sumS at hs
      simp only [] at hs
      have hgd : ∀ g : Int × Int, (bare x1 x2 x3).gl = 0 := fun _ => rfl
      by_cases hlr : x1.1 + x2.1 + x3.1 < x1.2 + x2.2 + x3.2
      · have hlp : leftP (bare x1 x2 x3) < rightP (bare x1 x2 x3) := by unfold leftP rightP bare; simp only []; omega
        rw [if_pos hlr]
        by_cases hc : x1.2 + x2.2 + x3.2 - (x1.1 + x2.1 + x3.1) ≤ ng
        · have hgb : goodsB ⟨nb, nh, nl, ng⟩ (bare x1 x2 x3) = true := by
            unfold goodsB goodsP
            rw [if_pos hlp]
            unfold leftP rightP bare
            simp only [Bool.and_eq_true, decide_eq_true_eq]
            omega
          rw [if_pos hc, hgb, if_pos rfl]
          unfold goodsP
          rw [if_pos hlp]
          unfold mkP leftP rightP bare
          simp only [cl_of (show x1.1 ≤ 13 by omega), cl_of (show x1.2 ≤ 13 by omega), cl_of (show x2.1 ≤ 13 by omega), cl_of (show x2.2 ≤ 13 by omega), cl_of (show x3.1 ≤ 13 by omega), cl_of (show x3.2 ≤ 13 by omega), cl_of (show x1.2 + x2.2 + x3.2 - (x1.1 + x2.1 + x3.1) ≤ 13 by omega), cl_of (show 0 ≤ 13 by omega)]
          congr 2
          omega
        · have hgb : goodsB ⟨nb, nh, nl, ng⟩ (bare x1 x2 x3) = false := by
            unfold goodsB goodsP
            rw [if_pos hlp]
            unfold leftP rightP bare
            rw [decide_eq_false (by simp only []; omega)]; rfl
          rw [if_neg hc, hgb]; rfl
      · have hlp : ¬ leftP (bare x1 x2 x3) < rightP (bare x1 x2 x3) := by unfold leftP rightP bare; simp only []; omega
        rw [if_neg hlr]
        by_cases hc : x1.1 + x2.1 + x3.1 - (x1.2 + x2.2 + x3.2) ≤ ng
        · have hgb : goodsB ⟨nb, nh, nl, ng⟩ (bare x1 x2 x3) = true := by
            unfold goodsB goodsP
            rw [if_neg hlp]
            unfold leftP rightP bare
            simp only [Bool.and_eq_true, decide_eq_true_eq]
            omega
          rw [if_pos hc, hgb, if_pos rfl]
          unfold goodsP
          rw [if_neg hlp]
          unfold mkP leftP rightP bare
          simp only [cl_of (show x1.1 ≤ 13 by omega), cl_of (show x1.2 ≤ 13 by omega), cl_of (show x2.1 ≤ 13 by omega), cl_of (show x2.2 ≤ 13 by omega), cl_of (show x3.1 ≤ 13 by omega), cl_of (show x3.2 ≤ 13 by omega), cl_of (show x1.1 + x2.1 + x3.1 - (x1.2 + x2.2 + x3.2) ≤ 13 by omega), cl_of (show 0 ≤ 13 by omega)]
          congr 2
          omega
        · have hgb : goodsB ⟨nb, nh, nl, ng⟩ (bare x1 x2 x3) = false := by
            unfold goodsB goodsP
            rw [if_neg hlp]
            unfold leftP rightP bare
            rw [decide_eq_false (by simp only []; omega)]; rfl
          rw [if_neg hc, hgb]; rfl

/-- The two searches find the same pick. -/
theorem find_first (hs : SIn ⟨nb, nh, nl, ng⟩) (j : Nat) : findP j ⟨nb, nh, nl, ng⟩ nb nh nl ng = firstP (canS j) (3 ^ j) ⟨nb, nh, nl, ng⟩ := by
  have e : firstP (canS j) (3 ^ j) ⟨nb, nh, nl, ng⟩ = (pairsL nb).findSome? fun x1 => (pairsL nh).findSome? fun x2 => (pairsL nl).findSome? fun x3 => tryP (canS j) (3 ^ j) ⟨nb, nh, nl, ng⟩ (bare x1 x2 x3) := by
    unfold firstP lightsP
    simp only [Int.toNat_natCast]
    rw [first_pairs nb (fun a b => firstFrom (fun c => firstFrom (fun d => firstFrom (fun a_1 => firstFrom (fun b_1 => tryP (canS j) (3 ^ j) ⟨nb, nh, nl, ng⟩ ⟨a, b, c, d, a_1, b_1, 0, 0⟩) (nl + 1 - a_1) 0) (nl + 1) 0) (nh + 1 - c) 0) (nh + 1) 0)]
    refine findSome_congr fun x1 _ => ?_
    rw [first_pairs nh (fun c d => firstFrom (fun a_1 => firstFrom (fun b_1 => tryP (canS j) (3 ^ j) ⟨nb, nh, nl, ng⟩ ⟨x1.1, x1.2, c, d, a_1, b_1, 0, 0⟩) (nl + 1 - a_1) 0) (nl + 1) 0)]
    refine findSome_congr fun x2 _ => ?_
    rw [first_pairs nl (fun a_1 b_1 => tryP (canS j) (3 ^ j) ⟨nb, nh, nl, ng⟩ ⟨x1.1, x1.2, x2.1, x2.2, a_1, b_1, 0, 0⟩)]
    rfl
  rw [e]
  unfold findP picksN
  rw [find_flatMap]
  refine findSome_congr fun x1 hx1 => ?_
  unfold pk1
  rw [find_flatMap]
  refine findSome_congr fun x2 hx2 => ?_
  unfold pk2
  rw [find_flatMap]
  refine findSome_congr fun x3 hx3 => ?_
  unfold pk3
  rw [find_flatMap]
  exact find_goods hs (mem_pairs.1 hx1) (mem_pairs.1 hx2) (mem_pairs.1 hx3) j
end
end Go.Proofs.YtlflblngbneacabDoor
