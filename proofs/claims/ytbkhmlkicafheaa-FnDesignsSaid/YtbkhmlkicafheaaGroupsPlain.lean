/- Plain facts on lists of cases that are put together by their signs: how they grow, how many there are, which cases stand at which signs. No condition. -/
import Derived.Test.YtbkhmlkicafheaaCountSpec
namespace Go.Proofs.Ytbkhmlkicafheaa
open Go.RowKit

/-- Case c is put to the signs s. -/
def addG (s : List Int) (c : Int) : List (List Int × List Int) → List (List Int × List Int)
  | [] => [(s, [c])]
  | g :: r => if g.1 = s then (g.1, g.2 ++ [c]) :: r else g :: addG s c r
/-- All cases of l by their signs f, put to G one after the other. -/
def groupsF (f : Int → List Int) (G : List (List Int × List Int)) (l : List Int) : List (List Int × List Int) := l.foldl (fun G c => addG (f c) c G) G
theorem groupsF_take {f : Int → List Int} {l : List Int} {k : Nat} (h : k < l.length) : groupsF f [] (l.take (k + 1)) = addG (f l[k]) l[k] (groupsF f [] (l.take k)) := by
  unfold groupsF
  rw [List.take_succ_eq_append_getElem h, List.foldl_append]
  rfl
theorem addG_new {s : List Int} {c : Int} : ∀ {G : List (List Int × List Int)}, (∀ g ∈ G, g.1 ≠ s) → addG s c G = G ++ [(s, [c])]
  | [], _ => rfl
  | g :: r, h => by
    unfold addG
    rw [if_neg (h g (by simp)), addG_new (fun x hx => h x (by simp [hx]))]
    rfl
theorem addG_at {s : List Int} {c : Int} : ∀ {G : List (List Int × List Int)} {j : Nat} (hj : j < G.length), G[j].1 = s → (∀ i (hi : i < G.length), i ≠ j → G[i].1 ≠ s) → addG s c G = G.set j (s, G[j].2 ++ [c])
  | [], _, hj, _, _ => by simp at hj
  | g :: r, 0, _, h, _ => by
    have h' : g.1 = s := h
    unfold addG
    rw [if_pos h', h']
    rfl
  | g :: r, j + 1, hj, h, hn => by
    unfold addG
    rw [if_neg (show ¬ g.1 = s from hn 0 (by simp) (by omega)), addG_at (by simpa using hj) (by simpa using h) (fun i hi hij => by
      have := hn (i + 1) (by simpa using hi) (by omega)
      simpa using this)]
    rfl
theorem addG_keys (s : List Int) (c : Int) : ∀ (G : List (List Int × List Int)), (addG s c G).map Prod.fst = if (G.map Prod.fst).any (fun x => decide (x = s)) = true then G.map Prod.fst else G.map Prod.fst ++ [s]
  | [] => rfl
  | g :: r => by
    unfold addG
    by_cases h : g.1 = s
    · simp [h]
    · rw [if_neg h]
      have ih := addG_keys s c r
      simp only [List.map_cons, List.any_cons, decide_eq_false h, Bool.false_or, ih]
      split <;> rfl
theorem groupsF_keys (f : Int → List Int) : ∀ (l : List Int) (G : List (List Int × List Int)), (groupsF f G l).map Prod.fst = seenL f (G.map Prod.fst) l
  | [], G => rfl
  | c :: r, G => by
    show (groupsF f (addG (f c) c G) r).map Prod.fst = _
    rw [groupsF_keys f r, addG_keys]
    rfl
theorem groupsF_len (f : Int → List Int) (l : List Int) : (groupsF f [] l).length = (seenL f [] l).length := by
  rw [← List.length_map (f := Prod.fst), groupsF_keys]
  rfl

/-- The cases at the signs s. -/
def getG (s : List Int) : List (List Int × List Int) → List Int
  | [] => []
  | g :: r => if g.1 = s then g.2 else getG s r
theorem getG_add (s s' : List Int) (c : Int) : ∀ (G : List (List Int × List Int)), getG s' (addG s c G) = if s = s' then getG s' G ++ [c] else getG s' G
  | [] => by
    unfold addG getG getG
    by_cases h : s = s' <;> simp [h]
  | g :: r => by
    unfold addG
    by_cases h : g.1 = s
    · rw [if_pos h]
      unfold getG
      by_cases h' : s = s'
      · subst h'; rw [h]; simp
      · rw [h]; simp [h']
    · rw [if_neg h]
      unfold getG
      rw [getG_add s s' c r]
      by_cases h' : s = s'
      · subst h'; simp [h]
      · simp [h']
theorem getG_groups (f : Int → List Int) (s : List Int) : ∀ (l : List Int) (G : List (List Int × List Int)), getG s (groupsF f G l) = getG s G ++ l.filter (fun c => decide (f c = s))
  | [], G => by simp [groupsF]
  | c :: r, G => by
    show getG s (groupsF f (addG (f c) c G) r) = _
    rw [getG_groups f s r, getG_add]
    by_cases h : f c = s <;> simp [h]
theorem getG_none {s : List Int} : ∀ {G : List (List Int × List Int)}, (∀ g ∈ G, g.1 ≠ s) → getG s G = []
  | [], _ => rfl
  | g :: r, h => by
    unfold getG
    rw [if_neg (h g (by simp))]
    exact getG_none fun x hx => h x (by simp [hx])
theorem getG_at {s : List Int} : ∀ {G : List (List Int × List Int)} {j : Nat} (hj : j < G.length), G[j].1 = s → (∀ i (hi : i < G.length), i ≠ j → G[i].1 ≠ s) → getG s G = G[j].2
  | [], _, hj, _, _ => by simp at hj
  | g :: r, 0, _, h, _ => by
    unfold getG
    rw [if_pos (show g.1 = s from h)]
    rfl
  | g :: r, j + 1, hj, h, hn => by
    unfold getG
    rw [if_neg (show ¬ g.1 = s from hn 0 (by simp) (by omega)), getG_at (by simpa using hj) (by simpa using h) (fun i hi hij => by
      have := hn (i + 1) (by simpa using hi) (by omega)
      simpa using this)]
    rfl

/-- How many cases there are in all. -/
def sumG (G : List (List Int × List Int)) : Nat := (G.map fun g => g.2.length).sum
theorem addG_sum (s : List Int) (c : Int) : ∀ (G : List (List Int × List Int)), sumG (addG s c G) = sumG G + 1
  | [] => rfl
  | g :: r => by
    unfold addG
    split
    · simp [sumG]; omega
    · have ih := addG_sum s c r
      simp only [sumG, List.map_cons, List.sum_cons] at ih ⊢
      omega
theorem addG_pos (s : List Int) (c : Int) : ∀ (G : List (List Int × List Int)), (∀ g ∈ G, 1 ≤ g.2.length) → ∀ g ∈ addG s c G, 1 ≤ g.2.length
  | [], _, g, hg => by
    simp [addG] at hg
    subst hg
    simp
  | x :: r, h, g, hg => by
    unfold addG at hg
    split at hg
    · rcases List.mem_cons.1 hg with rfl | hg
      · simp
      · exact h g (by simp [hg])
    · rcases List.mem_cons.1 hg with rfl | hg
      · exact h _ (by simp)
      · exact addG_pos s c r (fun y hy => h y (by simp [hy])) g hg
theorem groupsF_sum (f : Int → List Int) : ∀ (l : List Int) (G : List (List Int × List Int)), sumG (groupsF f G l) = sumG G + l.length
  | [], G => rfl
  | c :: r, G => by
    show sumG (groupsF f (addG (f c) c G) r) = _
    rw [groupsF_sum f r, addG_sum]
    simp; omega
theorem groupsF_pos (f : Int → List Int) : ∀ (l : List Int) (G : List (List Int × List Int)), (∀ g ∈ G, 1 ≤ g.2.length) → ∀ g ∈ groupsF f G l, 1 ≤ g.2.length
  | [], _, h => h
  | c :: r, G, h => groupsF_pos f r (addG (f c) c G) (addG_pos _ _ G h)
/-- Each group is of one just if there are as many groups as cases. -/
theorem ones_iff : ∀ {G : List (List Int × List Int)}, (∀ g ∈ G, 1 ≤ g.2.length) → (G.length ≤ sumG G ∧ ((G.filter fun g => decide (g.2.length ≠ 1)).length = 0 ↔ G.length = sumG G))
  | [], _ => by simp [sumG]
  | g :: r, h => by
    obtain ⟨h1, h2⟩ := ones_iff (G := r) (fun x hx => h x (by simp [hx]))
    have hg := h g (by simp)
    simp only [sumG, List.map_cons, List.sum_cons, List.length_cons] at h1 h2 ⊢
    refine ⟨by omega, ?_⟩
    by_cases e : g.2.length = 1
    · rw [List.filter_cons_of_neg (by simp [e]), h2]
      omega
    · rw [List.filter_cons_of_pos (by simp [e])]
      simp only [List.length_cons]
      constructor
      · intro h'; omega
      · intro h'; omega
/-- Keys: what the program keeps signs by. -/
theorem addG_all (p : List Int → Prop) (s : List Int) (c : Int) (hs : p s) : ∀ (G : List (List Int × List Int)), (∀ g ∈ G, p g.1) → ∀ g ∈ addG s c G, p g.1
  | [], _, g, hg => by
    simp [addG] at hg
    subst hg
    exact hs
  | x :: r, h, g, hg => by
    unfold addG at hg
    split at hg
    · rcases List.mem_cons.1 hg with rfl | hg
      · exact h x (by simp)
      · exact h g (by simp [hg])
    · rcases List.mem_cons.1 hg with rfl | hg
      · exact h _ (by simp)
      · exact addG_all p s c hs r (fun y hy => h y (by simp [hy])) g hg
end Go.Proofs.Ytbkhmlkicafheaa
