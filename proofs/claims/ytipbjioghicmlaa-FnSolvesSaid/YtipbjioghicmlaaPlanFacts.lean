/- Plain facts on plans: what tells all cases apart finds the coin and is deep enough; the worst case is one of the greatest cost; a plan grows by a node. No condition. -/
import Derived.Test.YtipbjioghicmlaaPlanVals
namespace Go.Proofs.Ytipbjioghicmlaa
open Go.RowKit

/-! ### pairs -/
theorem rowB_mono {f g : Int → Int → Bool} (h : ∀ x y, g x y = true → f x y = true) {x : Int} {l : List Int} (hr : rowB f x l = true) : rowB g x l = true := by
  unfold rowB at hr ⊢
  rw [List.all_eq_true] at hr ⊢
  intro y hy
  have := hr y hy
  cases hg : g x y with
  | false => rfl
  | true => rw [h x y hg] at this; cases this
theorem pairsF_mono {f g : Int → Int → Bool} (h : ∀ x y, g x y = true → f x y = true) : ∀ (l pre : List Int), pairsF f pre l = true → pairsF g pre l = true
  | [], _, _ => rfl
  | x :: r, pre, hp => by
    simp only [pairsF, Bool.and_eq_true] at hp ⊢
    exact ⟨rowB_mono h hp.1, pairsF_mono h r _ hp.2⟩
theorem solves_finds {P : List ND} {n : Int} {h l z : Bool} (hs : solvesB P n h l z = true) : findsB P n h l z = true := by
  unfold solvesB at hs
  unfold findsB
  rw [Bool.and_eq_true] at hs ⊢
  refine ⟨hs.1, pairsF_mono (fun x y e => ?_) _ _ hs.2⟩
  unfold coinF at e
  rw [Bool.and_eq_true] at e
  exact e.2
theorem pairsF_snoc (f : Int → Int → Bool) : ∀ (l pre : List Int) (x : Int), pairsF f pre (l ++ [x]) = (pairsF f pre l && rowB f x (pre ++ l))
  | [], pre, x => by simp [pairsF]
  | y :: r, pre, x => by
    rw [List.cons_append, pairsF, pairsF, pairsF_snoc f r (pre ++ [y]) x, Bool.and_assoc]
    simp
theorem pairsF_pair {f : Int → Int → Bool} : ∀ {l pre : List Int}, pairsF f pre l = true → l.Pairwise (fun x y => f y x = false) ∧ ∀ x ∈ pre, ∀ y ∈ l, f y x = false
  | [], _, _ => ⟨List.Pairwise.nil, fun _ _ _ h => by cases h⟩
  | a :: r, pre, h => by
    simp only [pairsF, Bool.and_eq_true] at h
    obtain ⟨h1, h2⟩ := pairsF_pair h.2
    have h3 : ∀ x ∈ pre, f a x = false := fun x hx => by
      have := List.all_eq_true.1 h.1 x hx
      simpa using this
    refine ⟨List.Pairwise.cons (fun y hy => h2 a (by simp) y hy) h1, fun x hx y hy => ?_⟩
    rw [List.mem_cons] at hy
    rcases hy with rfl | hy
    · exact h3 x hx
    · exact h2 x (by simp [hx]) y hy

/-! ### no more cases than leaves -/
theorem nodup_le {A : Type} [BEq A] [LawfulBEq A] : ∀ {l m : List A}, l.Nodup → (∀ x ∈ l, x ∈ m) → l.length ≤ m.length
  | [], _, _, _ => Nat.zero_le _
  | x :: r, m, hn, hs => by
    rw [List.nodup_cons] at hn
    have hx := hs x (by simp)
    have h := nodup_le (m := m.erase x) hn.2 fun y hy => by
      have hne : y ≠ x := fun e => hn.1 (e ▸ hy)
      exact (List.mem_erase_of_ne hne).2 (hs y (by simp [hy]))
    rw [List.length_erase_of_mem hx] at h
    have : 0 < m.length := List.length_pos_of_mem hx
    simp
    omega
/-- The lists of outcomes from node at on, at most f long. -/
def leafsF (P : List ND) : Nat → Int → List (List Int)
  | 0, _ => [[]]
  | f + 1, k => if k < 0 then [[]] else match P[k.toNat]? with
    | none => [[]]
    | some d => ((leafsF P f d.a).map (fun s => -1 :: s) ++ (leafsF P f d.b).map (fun s => 0 :: s)) ++ (leafsF P f d.c).map (fun s => 1 :: s)
theorem outcI_three (L R : List Int) (c : Int) : outcI L R c = -1 ∨ outcI L R c = 0 ∨ outcI L R c = 1 := by
  have := outcI_range L R c
  omega
theorem follow_leaf (P : List ND) (c : Int) : ∀ (f : Nat) (k : Int), followF P c f k ∈ leafsF P f k
  | 0, _ => by simp [followF, leafsF]
  | f + 1, k => by
    by_cases hk : k < 0
    · simp [followF, leafsF, hk]
    · cases hq : P[k.toNat]? with
      | none => simp only [followF, leafsF, if_neg hk, hq]; simp
      | some d =>
        have h := follow_leaf P c f (nextI d (outcI d.L d.R c))
        simp only [followF, leafsF, if_neg hk, hq, List.mem_append, List.mem_map]
        rcases outcI_three d.L d.R c with e | e | e <;> rw [e] at h ⊢
        · exact .inl (.inl ⟨_, h, rfl⟩)
        · exact .inl (.inr ⟨_, h, rfl⟩)
        · exact .inr ⟨_, h, rfl⟩
theorem leafs_len (P : List ND) : ∀ (f : Nat) (k : Int), (leafsF P f k).length ≤ 3 ^ (depthF P f k).toNat
  | 0, _ => by simp [leafsF, depthF]
  | f + 1, k => by
    by_cases hk : k < 0
    · simp [leafsF, depthF, hk]
    · cases hq : P[k.toNat]? with
      | none => simp only [depthF, leafsF, if_neg hk, hq]; simp
      | some d =>
        have h1 := leafs_len P f d.a
        have h2 := leafs_len P f d.b
        have h3 := leafs_len P f d.c
        have r1 := depthF_range P f d.a
        have r2 := depthF_range P f d.b
        have r3 := depthF_range P f d.c
        simp only [depthF, leafsF, if_neg hk, hq]
        obtain ⟨D, hD⟩ : ∃ D : Nat, (max (max (depthF P f d.a) (depthF P f d.b)) (depthF P f d.c)) = (D : Int) := ⟨(max (max (depthF P f d.a) (depthF P f d.b)) (depthF P f d.c)).toNat, by omega⟩
        have p1 : 3 ^ (depthF P f d.a).toNat ≤ 3 ^ D := Nat.pow_le_pow_right (by decide) (by omega)
        have p2 : 3 ^ (depthF P f d.b).toNat ≤ 3 ^ D := Nat.pow_le_pow_right (by decide) (by omega)
        have p3 : 3 ^ (depthF P f d.c).toNat ≤ 3 ^ D := Nat.pow_le_pow_right (by decide) (by omega)
        rw [hD, show (1 + (D : Int)).toNat = D + 1 by omega, Nat.pow_succ]
        simp only [List.length_append, List.length_map]
        omega
theorem solves_deep {P : List ND} {n : Int} {h l z : Bool} (hs : solvesB P n h l z = true) : (casesL n h l z).length ≤ 3 ^ (depthI P).toNat := by
  unfold solvesB at hs
  rw [Bool.and_eq_true] at hs
  have hp := (pairsF_pair hs.2).1
  have hn : ((casesL n h l z).map (followL P)).Nodup := by
    unfold List.Nodup
    rw [List.pairwise_map]
    refine hp.imp fun {x y} e e' => ?_
    have : sameF P y x = true := decide_eq_true e'.symm
    rw [this] at e
    cases e
  have h1 := nodup_le (m := leafsF P P.length 0) hn fun s hs => by
    rw [List.mem_map] at hs
    obtain ⟨c, _, rfl⟩ := hs
    exact follow_leaf P c P.length 0
  rw [List.length_map] at h1
  exact Nat.le_trans h1 (leafs_len P P.length 0)

/-! ### the worst case -/
theorem worstF_spec (f : Int → Int) : ∀ (l : List Int) (q s : Int), (worstF f l q s = s ∧ ∀ x ∈ l, f x ≤ q) ∨ (worstF f l q s ∈ l ∧ q < f (worstF f l q s) ∧ ∀ x ∈ l, f x ≤ f (worstF f l q s))
  | [], _, _ => .inl ⟨rfl, fun _ h => by cases h⟩
  | c :: r, q, s => by
    unfold worstF
    by_cases h : q < f c
    · rw [if_pos h]
      rcases worstF_spec f r (f c) c with ⟨e, h1⟩ | ⟨h1, h2, h3⟩
      · rw [e]
        refine .inr ⟨by simp, h, fun x hx => ?_⟩
        rw [List.mem_cons] at hx
        rcases hx with rfl | hx
        · omega
        · exact h1 x hx
      · refine .inr ⟨by simp [h1], by omega, fun x hx => ?_⟩
        rw [List.mem_cons] at hx
        rcases hx with rfl | hx
        · omega
        · exact h3 x hx
    · rw [if_neg h]
      rcases worstF_spec f r q s with ⟨e, h1⟩ | ⟨h1, h2, h3⟩
      · rw [e]
        refine .inl ⟨rfl, fun x hx => ?_⟩
        rw [List.mem_cons] at hx
        rcases hx with rfl | hx
        · omega
        · exact h1 x hx
      · refine .inr ⟨by simp [h1], h2, fun x hx => ?_⟩
        rw [List.mem_cons] at hx
        rcases hx with rfl | hx
        · omega
        · exact h3 x hx

/-! ### the cases of a valid problem -/
theorem cases_near {n : Int} {h l z : Bool} {c : Int} (hc : c ∈ casesL n h l z) : caseB n h l z c = true ∧ -13 ≤ c ∧ c ≤ 13 := by
  unfold casesL casesIn at hc
  rw [List.mem_filter] at hc
  have := seg_mem hc.1
  exact ⟨hc.2, by omega⟩
theorem cases_coins {n : Int} {h l z : Bool} {c : Int} (hc : c ∈ casesL n h l z) : -n ≤ c ∧ c ≤ n := by
  have h1 := (cases_near hc).1
  unfold caseB at h1
  rw [Bool.and_eq_true] at h1
  have hb := probB_bounds h1.1
  have h2 := h1.2
  split at h2
  · simp only [Bool.and_eq_true, decide_eq_true_eq] at h2; omega
  · split at h2
    · simp only [Bool.and_eq_true, decide_eq_true_eq] at h2; omega
    · omega
theorem cases_some {n : Int} {h l z : Bool} (hp : probB n h l = true) : casesL n h l z ≠ [] := by
  have hb := probB_bounds hp
  have hx : ∃ c, c ∈ casesL n h l z := by
    unfold casesL casesIn seg
    simp only [probB, Bool.and_eq_true, Bool.or_eq_true] at hp
    rcases hp.2 with e | e
    · refine ⟨1, List.mem_filter.2 ⟨List.mem_map.2 ⟨14, by simp, rfl⟩, ?_⟩⟩
      unfold caseB probB
      simp [e, hb.1, hb.2]
    · refine ⟨-1, List.mem_filter.2 ⟨List.mem_map.2 ⟨12, by simp, rfl⟩, ?_⟩⟩
      unfold caseB probB
      simp [e, hb.1, hb.2]
  obtain ⟨c, hc⟩ := hx
  intro e
  rw [e] at hc
  cases hc
end Go.Proofs.Ytipbjioghicmlaa
