/- Plain facts on plans: what a valid plan is, the outcomes in a case, the depth. No condition. -/
import Derived.Test.YthgdobnegepgoaaOutSpec
namespace Go.Proofs.Ythgdobnegepgoaa
open Go.RowKit

/-- A node of a plan: the sides of its weighing, and the nodes that follow after the outcomes -1, 0 and 1. -/
structure ND where
  L : List Int
  R : List Int
  a : Int
  b : Int
  c : Int

/-- The node that follows after an outcome. -/
def nextI (d : ND) (x : Int) : Int := if x = -1 then d.a else if x = 0 then d.b else d.c
/-- Whether node i of n may be followed by node k. -/
def linkB (n i : Nat) (k : Int) : Bool := k == -1 || (decide ((i : Int) < k) && decide (k < (n : Int)))
/-- Whether node i of n is valid for m coins. -/
def nodeB (n : Nat) (m : Int) (i : Nat) (d : ND) : Bool := weighB d.L d.R m && (linkB n i d.a && (linkB n i d.b && linkB n i d.c))
/-- The nodes that follow others. -/
def linksOf (P : List ND) : List Int := P.flatMap fun d => [d.a, d.b, d.c]
/-- Whether each node from i on is valid. -/
def nodesB (n : Nat) (m : Int) : Nat → List ND → Bool
  | _, [] => true
  | i, d :: r => nodeB n m i d && nodesB n m (i + 1) r
/-- Whether a plan is valid for m coins. -/
def planB (P : List ND) (m : Int) : Bool :=
  (decide (P.length ≤ 60) && (decide (1 ≤ m) && decide (m ≤ 13))) && (nodesB P.length m 0 P && (List.range P.length).all fun j => j == 0 || (linksOf P).count (j : Int) == 1)

theorem nodesB_at {n : Nat} {m : Int} : ∀ {P : List ND} {i : Nat}, nodesB n m i P = true → ∀ k (h : k < P.length), nodeB n m (i + k) P[k] = true
  | [], _, _, k, h => by simp at h
  | d :: r, i, hh, k, h => by
    simp only [nodesB, Bool.and_eq_true] at hh
    cases k with
    | zero => exact hh.1
    | succ k =>
      have := nodesB_at hh.2 k (by simpa using h)
      simpa [Nat.add_assoc, Nat.add_comm 1 k] using this
theorem plan_node {P : List ND} {m : Int} (h : planB P m = true) (k : Nat) (hk : k < P.length) : nodeB P.length m k P[k] = true := by
  simp only [planB, Bool.and_eq_true] at h
  simpa using nodesB_at h.2.1 k hk
theorem plan_size {P : List ND} {m : Int} (h : planB P m = true) : P.length ≤ 60 ∧ 1 ≤ m ∧ m ≤ 13 := by
  simp only [planB, Bool.and_eq_true, decide_eq_true_eq] at h
  exact ⟨h.1.1, h.1.2.1, h.1.2.2⟩
theorem link_in {n i : Nat} {k : Int} (h : linkB n i k = true) : k = -1 ∨ (i : Int) < k ∧ k < (n : Int) := by
  simpa [linkB] using h
theorem next_in {P : List ND} {m : Int} (h : planB P m = true) (k : Nat) (hk : k < P.length) (x : Int) : nextI P[k] x = -1 ∨ (k : Int) < nextI P[k] x ∧ nextI P[k] x < (P.length : Int) := by
  have hn := plan_node h k hk
  simp only [nodeB, Bool.and_eq_true] at hn
  unfold nextI
  split
  · exact link_in hn.2.1
  · split
    · exact link_in hn.2.2.1
    · exact link_in hn.2.2.2

/-! ### the outcomes in a case -/
/-- The outcomes from node at on, at most f of them. -/
def followF (P : List ND) (c : Int) : Nat → Int → List Int
  | 0, _ => []
  | f + 1, at' => if at' < 0 then [] else match P[at'.toNat]? with
    | none => []
    | some d => outcI d.L d.R c :: followF P c f (nextI d (outcI d.L d.R c))
/-- The outcomes of a plan in a case. -/
def followL (P : List ND) (c : Int) : List Int := followF P c P.length 0

theorem followF_end (P : List ND) (c : Int) (f : Nat) (k : Int) (h : k < 0) : followF P c f k = [] := by
  cases f with
  | zero => rfl
  | succ f => simp [followF, h]
theorem followF_step (P : List ND) (c : Int) (f k : Nat) (h : k < P.length) : followF P c (f + 1) (k : Int) = outcI P[k].L P[k].R c :: followF P c f (nextI P[k] (outcI P[k].L P[k].R c)) := by
  have h1 : ¬ (k : Int) < 0 := by omega
  rw [followF, if_neg h1]
  simp [h]
/-- Enough is enough. -/
theorem followF_more {P : List ND} {m : Int} (h : planB P m = true) (c : Int) : ∀ (f g : Nat) (k : Int), (k = -1 ∨ 0 ≤ k ∧ k < (P.length : Int)) → P.length ≤ k.toNat + f → P.length ≤ k.toNat + g → followF P c f k = followF P c g k
  | f, g, k, hk, hf, hg => by
    rcases hk with rfl | ⟨h0, h1⟩
    · rw [followF_end _ _ _ _ (by decide), followF_end _ _ _ _ (by decide)]
    · obtain ⟨j, rfl⟩ : ∃ j : Nat, k = (j : Int) := ⟨k.toNat, by omega⟩
      have hj : j < P.length := by omega
      cases f with
      | zero => simp at hf; omega
      | succ f =>
        cases g with
        | zero => simp at hg; omega
        | succ g =>
          rw [followF_step P c f j hj, followF_step P c g j hj]
          rcases next_in h j hj (outcI P[j].L P[j].R c) with e | ⟨e1, e2⟩
          · rw [e, followF_end _ _ _ _ (by decide), followF_end _ _ _ _ (by decide)]
          · rw [followF_more h c f g _ (.inr ⟨by omega, e2⟩) (by simp at hf; omega) (by simp at hg; omega)]

/-! ### the depth -/
/-- The depth from node at on, at most f. -/
def depthF (P : List ND) : Nat → Int → Int
  | 0, _ => 0
  | f + 1, at' => if at' < 0 then 0 else match P[at'.toNat]? with
    | none => 0
    | some d => 1 + max (max (depthF P f d.a) (depthF P f d.b)) (depthF P f d.c)
/-- The depth of a plan. -/
def depthI (P : List ND) : Int := depthF P P.length 0
theorem depthF_end (P : List ND) (f : Nat) (k : Int) (h : k < 0) : depthF P f k = 0 := by
  cases f with
  | zero => rfl
  | succ f => simp [depthF, h]
theorem depthF_step (P : List ND) (f k : Nat) (h : k < P.length) : depthF P (f + 1) (k : Int) = 1 + max (max (depthF P f P[k].a) (depthF P f P[k].b)) (depthF P f P[k].c) := by
  have h1 : ¬ (k : Int) < 0 := by omega
  rw [depthF, if_neg h1]
  simp [h]
theorem depthF_range (P : List ND) : ∀ (f : Nat) (k : Int), 0 ≤ depthF P f k ∧ depthF P f k ≤ (f : Int)
  | 0, _ => by simp [depthF]
  | f + 1, k => by
    unfold depthF
    split
    · omega
    · split
      · omega
      · rename_i d _
        have h1 := depthF_range P f d.a
        have h2 := depthF_range P f d.b
        have h3 := depthF_range P f d.c
        omega
theorem followF_depth (P : List ND) (c : Int) : ∀ (f : Nat) (k : Int), ((followF P c f k).length : Int) ≤ depthF P f k
  | 0, _ => by simp [followF, depthF]
  | f + 1, k => by
    unfold followF depthF
    split
    · simp
    · split
      · simp
      · rename_i d _
        have h := followF_depth P c f (nextI d (outcI d.L d.R c))
        have hx : nextI d (outcI d.L d.R c) = d.a ∨ nextI d (outcI d.L d.R c) = d.b ∨ nextI d (outcI d.L d.R c) = d.c := by
          unfold nextI
          split
          · exact .inl rfl
          · split
            · exact .inr (.inl rfl)
            · exact .inr (.inr rfl)
        simp only [List.length_cons]
        rcases hx with e | e | e <;> rw [e] at h ⊢ <;> omega
theorem depthF_more {P : List ND} {m : Int} (h : planB P m = true) : ∀ (f g : Nat) (k : Int), (k = -1 ∨ 0 ≤ k ∧ k < (P.length : Int)) → P.length ≤ k.toNat + f → P.length ≤ k.toNat + g → depthF P f k = depthF P g k
  | f, g, k, hk, hf, hg => by
    rcases hk with rfl | ⟨h0, h1⟩
    · rw [depthF_end _ _ _ (by decide), depthF_end _ _ _ (by decide)]
    · obtain ⟨j, rfl⟩ : ∃ j : Nat, k = (j : Int) := ⟨k.toNat, by omega⟩
      have hj : j < P.length := by omega
      cases f with
      | zero => simp at hf; omega
      | succ f =>
        cases g with
        | zero => simp at hg; omega
        | succ g =>
          have key : ∀ i : Int, linkB P.length j i = true → depthF P f i = depthF P g i := fun i hi => by
            rcases link_in hi with rfl | ⟨e1, e2⟩
            · rw [depthF_end _ _ _ (by decide), depthF_end _ _ _ (by decide)]
            · exact depthF_more h f g _ (.inr ⟨by omega, e2⟩) (by simp at hf; omega) (by simp at hg; omega)
          have hn := plan_node h j hj
          simp only [nodeB, Bool.and_eq_true] at hn
          rw [depthF_step P f j hj, depthF_step P g j hj, key _ hn.2.1, key _ hn.2.2.1, key _ hn.2.2.2]
end Go.Proofs.Ythgdobnegepgoaa
