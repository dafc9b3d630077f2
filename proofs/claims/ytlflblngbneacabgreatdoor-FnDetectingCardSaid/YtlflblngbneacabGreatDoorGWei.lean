/- Several texts in one file; each says what it proves and under which condition. No condition. -/
import Derived.Test.YtlflblngbneacabGreatDoorGBase
import Derived.Deep.RegionLaw
import Derived.Deep.RegionHeld3
/- The contracts of the law's own helpers on weighings: their size, their copy, comparing one with its like, writing marks and finding them. Conditions: the sides read as integers; where they are written they are lists of the call's own, in different blocks. -/
namespace Go.Proofs.YtlflblngbneacabGreatDoor
open Go.RowKit

/-- Two cells lie in block b. -/
def TwoAt (w : World) (b : Nat) (x y : Value) : Prop := w.cell? ⟨b, 0, none⟩ = some x ∧ w.cell? ⟨b, 1, none⟩ = some y ∧ b < w.heap.size
theorem TwoAt.belowN {w w' : World} {b B : Nat} {x y : Value} (hp : TwoAt w b x y) (hb : Below B w w') (hlt : b < B) : TwoAt w' b x y := by
  obtain ⟨e0, e1, hlt0⟩ := hp
  refine ⟨?_, ?_, Nat.lt_of_lt_of_le hlt0 hb.size⟩
  · rw [hb.cell (p := ⟨b, 0, none⟩) hlt]; exact e0
  · rw [hb.cell (p := ⟨b, 1, none⟩) hlt]; exact e1
theorem TwoAt.below {w w' : World} {b : Nat} {x y : Value} (hp : TwoAt w b x y) (hb : Below w.heap.size w w') : TwoAt w' b x y := hp.belowN hb hp.2.2
theorem TwoAt.new (w : World) (ty : TypeId) (x y : Value) : TwoAt (w.alloc (.cells #[x, y] ty)) w.heap.size x y := by
  refine ⟨?_, ?_, ?_⟩ <;> simp
theorem TwoAt.only {T : Nat → Prop} {w w' : World} {b : Nat} {x y : Value} (hp : TwoAt w b x y) (ho : Only T w w') (hb : ¬ T b) : TwoAt w' b x y := by
  obtain ⟨e0, e1, hlt⟩ := hp
  refine ⟨?_, ?_, Nat.lt_of_lt_of_le hlt ho.size⟩
  · rw [World.cell?_of_block (w := w) (a := ⟨b, 0, none⟩) (ho.block b hlt hb)]; exact e0
  · rw [World.cell?_of_block (w := w) (a := ⟨b, 1, none⟩) (ho.block b hlt hb)]; exact e1

/-- Two cells that may be written lie in block b. -/
def VarAt (w : World) (b : Nat) (x y : Value) : Prop := TwoAt w b x y ∧ w.frozen? ⟨b, 0, none⟩ = false ∧ w.frozen? ⟨b, 1, none⟩ = false
theorem VarAt.belowN {w w' : World} {b B : Nat} {x y : Value} (hp : VarAt w b x y) (hb : Below B w w') (hlt : b < B) : VarAt w' b x y := by
  refine ⟨hp.1.belowN hb hlt, ?_, ?_⟩
  · rw [hb.frozen (p := ⟨b, 0, none⟩) hlt]; exact hp.2.1
  · rw [hb.frozen (p := ⟨b, 1, none⟩) hlt]; exact hp.2.2
theorem VarAt.below {w w' : World} {b : Nat} {x y : Value} (hp : VarAt w b x y) (hb : Below w.heap.size w w') : VarAt w' b x y := hp.belowN hb hp.1.2.2
theorem VarAt.new (w : World) (ty : TypeId) (x y : Value) : VarAt (w.alloc (.cells #[x, y] ty)) w.heap.size x y := by
  refine ⟨TwoAt.new w ty x y, ?_, ?_⟩ <;> simp
theorem VarAt.set0 {w : World} {b : Nat} {x y : Value} (hp : VarAt w b x y) (u : Value) : VarAt (w.setCell ⟨b, 0, none⟩ u) b u y := by
  obtain ⟨⟨e0, e1, h⟩, f0, f1⟩ := hp
  refine ⟨⟨World.cell?_setCell_same (w := w) (a := ⟨b, 0, none⟩) (v := u) e0, ?_, by simpa [World.setCell] using h⟩, by simpa using f0, by simpa using f1⟩
  rw [World.cell?_setCell_other (w := w) (a := ⟨b, 0, none⟩) (b := ⟨b, 1, none⟩) (v := u) (by simp)]; exact e1
theorem VarAt.set1 {w : World} {b : Nat} {x y : Value} (hp : VarAt w b x y) (u : Value) : VarAt (w.setCell ⟨b, 1, none⟩ u) b x u := by
  obtain ⟨⟨e0, e1, h⟩, f0, f1⟩ := hp
  refine ⟨⟨?_, World.cell?_setCell_same (w := w) (a := ⟨b, 1, none⟩) (v := u) e1, by simpa [World.setCell] using h⟩, by simpa using f0, by simpa using f1⟩
  rw [World.cell?_setCell_other (w := w) (a := ⟨b, 1, none⟩) (b := ⟨b, 0, none⟩) (v := u) (by simp)]; exact e0
theorem VarAt.far {w : World} {b c : Nat} {x y : Value} (hp : VarAt w b x y) (o : Nat) (u : Value) (hc : c ≠ b) : VarAt (w.setCell ⟨c, o, none⟩ u) b x y := by
  obtain ⟨⟨e0, e1, h⟩, f0, f1⟩ := hp
  refine ⟨⟨?_, ?_, by simpa [World.setCell] using h⟩, by simpa using f0, by simpa using f1⟩
  · rw [World.cell?_setCell_other (w := w) (a := ⟨c, o, none⟩) (b := ⟨b, 0, none⟩) (v := u) (fun e => hc (congrArg Addr.block e))]; exact e0
  · rw [World.cell?_setCell_other (w := w) (a := ⟨c, o, none⟩) (b := ⟨b, 1, none⟩) (v := u) (fun e => hc (congrArg Addr.block e))]; exact e1
theorem TwoAt.far {w : World} {b c : Nat} {x y : Value} (hp : TwoAt w b x y) (o : Nat) (u : Value) (hc : c ≠ b) : TwoAt (w.setCell ⟨c, o, none⟩ u) b x y := by
  obtain ⟨e0, e1, h⟩ := hp
  refine ⟨?_, ?_, by simpa [World.setCell] using h⟩
  · rw [World.cell?_setCell_other (w := w) (a := ⟨c, o, none⟩) (b := ⟨b, 0, none⟩) (v := u) (fun e => hc (congrArg Addr.block e))]; exact e0
  · rw [World.cell?_setCell_other (w := w) (a := ⟨c, o, none⟩) (b := ⟨b, 1, none⟩) (v := u) (fun e => hc (congrArg Addr.block e))]; exact e1
theorem setCell_size (w : World) (a : Addr) (u : Value) : (w.setCell a u).heap.size = w.heap.size := by simp [World.setCell]
theorem Own.setCell {w : World} {B : Nat} {v : Value} {l : List Int} (h : Own w B v l) {c o : Nat} (hc : c < B) (u : Value) : Own (w.setCell ⟨c, o, none⟩ u) B v l := ownsRow_setCell_below h hc u

theorem alloc_below (w : World) (o : Obj) : Below w.heap.size w (w.alloc o) := (Below.refl _ _).alloc (Nat.le_refl _) _
theorem below_on {B : Nat} {W X w1 : World} (h : Below B W X) (hB : B ≤ X.heap.size) (hb : Below X.heap.size X w1) : Below B W w1 := h.trans (hb.mono hB)
theorem below_up {W X w1 : World} (h : Below W.heap.size W X) (hb : Below X.heap.size X w1) : Below W.heap.size W w1 := h.trans (hb.mono h.size)

/-- What the size of a weighing says. -/
def SzOk (L R : List Int) (left r : Int) : Prop := r < 0 ∨ 0 ≤ r ∧ r ≤ left ∧ (L.length : Int) + (R.length : Int) ≤ left

/-- What the size of a weighing is, unless it is negative. -/
def SzEq (L R : List Int) (left r : Int) : Prop := r < 0 ∨ 0 ≤ r ∧ r + (L.length : Int) + (R.length : Int) = left

/-- A weighing of the call's own: both sides own their blocks, from block B on; the blocks are different ones. -/
def OwnW (w : World) (B : Nat) (v : Value) (L R : List Int) : Prop := ∃ vl vr, v = .agg #[vl, vr] ∧ Own w B vl L ∧ Own w B vr R ∧ Sep vl vr ∧ Solid vl ∧ Solid vr

/-- The blocks of a weighing's two sides. -/
def Sides (vl vr : Value) (k : Nat) : Prop := vl.ownBlock = some k ∨ vr.ownBlock = some k

end Go.Proofs.YtlflblngbneacabGreatDoor

/- The contracts of the model's functions on weighings: a number in a list, a valid side, a valid weighing, an outcome. Conditions: the sides read as integers and are short enough to be counted. -/
namespace Go.Proofs.YtlflblngbneacabGreatDoor
open Go.RowKit

/-- Whether a number is in a list. -/
def hasI (l : List Int) (x : Int) : Bool := l.contains x
theorem hasI_mem {l : List Int} {x : Int} : hasI l x = true ↔ x ∈ l := by simp [hasI]
theorem hasI_yes {l : List Int} {k : Nat} {x : Int} (h : k < l.length) (e : l[k] = x) : hasI l x = true := by
  rw [hasI_mem, ← e]
  exact List.getElem_mem h
theorem hasI_step {l : List Int} {k : Nat} {x : Int} (h : k < l.length) (h0 : hasI (l.take k) x = false) (e : ¬ l[k] = x) : hasI (l.take (k + 1)) x = false := by
  unfold hasI at h0 ⊢
  rw [List.take_succ_eq_append_getElem h]
  simp only [List.contains_eq_mem, decide_eq_false_iff_not, List.mem_append, List.mem_singleton] at h0 ⊢
  rintro (h1 | h1)
  · exact h0 h1
  · exact e h1.symm
theorem hasI_end {l : List Int} {k : Nat} {x : Int} (h : l.length ≤ k) (h0 : hasI (l.take k) x = false) : hasI l x = false := by
  rwa [List.take_of_length_le h] at h0

/-! ### a side -/
/-- Whether a list is ascending and holds numbers from 1 to n. -/
def ascB (l : List Int) (n : Int) : Bool := decide (l.Pairwise (· < ·)) && l.all (fun x => decide (1 ≤ x) && decide (x ≤ n))
/-- Whether a list is a valid side. -/
def sideB (l : List Int) (n : Int) : Bool := ascB l n && decide (0 < l.length)

theorem up_snoc (m : List Int) (y x : Int) : ((m ++ [y]) ++ [x]).Pairwise (· < ·) ↔ (m ++ [y]).Pairwise (· < ·) ∧ y < x := by
  rw [List.pairwise_append (l₁ := m ++ [y])]
  constructor
  · rintro ⟨h1, _, h3⟩
    exact ⟨h1, h3 y (by simp) x (by simp)⟩
  · rintro ⟨h1, h2⟩
    refine ⟨h1, by simp, fun a ha b hb => ?_⟩
    simp only [List.mem_singleton] at hb
    subst hb
    simp only [List.mem_append, List.mem_singleton] at ha
    rcases ha with ha | rfl
    · have := (List.pairwise_append.1 h1).2.2 a ha y (by simp)
      omega
    · exact h2

theorem asc_zero (l : List Int) (n : Int) : ascB (l.take 0) n = true := by simp [ascB]
theorem asc_first {l : List Int} {n : Int} (h : 0 < l.length) : ascB (l.take 1) n = (decide (1 ≤ l[0]) && decide (l[0] ≤ n)) := by
  cases l with
  | nil => simp at h
  | cons a r => simp [ascB]
theorem asc_next {l : List Int} {n : Int} {m : Nat} (h : m + 1 < l.length) (h0 : ascB (l.take (m + 1)) n = true) : ascB (l.take (m + 1 + 1)) n = ((decide (1 ≤ l[m + 1]) && decide (l[m + 1] ≤ n)) && decide (l[m] < l[m + 1])) := by
  have e1 : l.take (m + 1) = l.take m ++ [l[m]] := by rw [List.take_succ_eq_append_getElem (by omega)]
  have e2 : l.take (m + 1 + 1) = (l.take m ++ [l[m]]) ++ [l[m + 1]] := by rw [List.take_succ_eq_append_getElem h, e1]
  rw [Bool.eq_iff_iff]
  unfold ascB at h0 ⊢
  rw [e1] at h0
  rw [e2]
  simp only [Bool.and_eq_true, decide_eq_true_eq, up_snoc, List.all_append, List.all_cons, List.all_nil, Bool.and_true] at h0 ⊢
  constructor
  · rintro ⟨⟨_, h2⟩, _, h3⟩
    exact ⟨h3, h2⟩
  · rintro ⟨h3, h2⟩
    exact ⟨⟨h0.1, h2⟩, h0.2, h3⟩
theorem asc_bad {l : List Int} {n : Int} {k : Nat} (h : ascB (l.take k) n = false) : sideB l n = false := by
  cases hs : sideB l n with
  | false => rfl
  | true =>
    unfold sideB ascB at hs
    simp only [Bool.and_eq_true, decide_eq_true_eq, List.all_eq_true] at hs
    have : ascB (l.take k) n = true := by
      unfold ascB
      simp only [Bool.and_eq_true, decide_eq_true_eq, List.all_eq_true]
      exact ⟨hs.1.1.sublist (List.take_sublist _ _), fun x hx => hs.1.2 x (List.mem_of_mem_take hx)⟩
    rw [this] at h
    cases h
theorem asc_end {l : List Int} {n : Int} {k : Nat} (h : l.length ≤ k) (h0 : ascB (l.take k) n = true) : sideB l n = decide (0 < l.length) := by
  rw [List.take_of_length_le h] at h0
  unfold sideB
  rw [h0, Bool.true_and]

/-! ### a weighing -/
/-- Whether no number of the first list is in the second. -/
def apartB (L R : List Int) : Bool := L.all fun x => !hasI R x
/-- Whether the sides are those of a valid weighing of n coins. -/
def weighB (L R : List Int) (n : Int) : Bool := ((((decide (1 ≤ n) && decide (n ≤ 13)) && sideB L n) && sideB R n) && decide (L.length = R.length)) && apartB L R

theorem apart_bad {L R : List Int} {k : Nat} (h : k < L.length) (e : hasI R L[k] = true) : apartB L R = false := by
  unfold apartB
  rw [List.all_eq_false]
  exact ⟨L[k], List.getElem_mem h, by simp [e]⟩
theorem apart_step {L R : List Int} {k : Nat} (h : k < L.length) (h0 : apartB (L.take k) R = true) (e : hasI R L[k] = false) : apartB (L.take (k + 1)) R = true := by
  unfold apartB at h0 ⊢
  rw [List.take_succ_eq_append_getElem h, List.all_append, h0]
  simp [e]
theorem apart_end {L R : List Int} {k : Nat} (h : L.length ≤ k) (h0 : apartB (L.take k) R = true) : apartB L R = true := by
  rwa [List.take_of_length_le h] at h0

end Go.Proofs.YtlflblngbneacabGreatDoor

/- The contracts of the model's outcome of a weighing. Conditions: the sides read as integers and are short enough to be counted; a case that fits Go's int. -/
namespace Go.Proofs.YtlflblngbneacabGreatDoor
open Go.RowKit

/-- The outcome of a valid weighing. -/
def outcI (L R : List Int) (c : Int) : Int :=
  if hasI L (coinI c) = true then (if c < 0 then -1 else 1) else if hasI R (coinI c) = true then (if c < 0 then 1 else -1) else 0
/-- The outcome of a weighing. -/
def outI (L R : List Int) (c : Int) : Int := if (weighB L R 13 && inB c) = true then outcI L R c else 0

theorem quiet_of {P : Program} {f : FuncId} {args : Array Value} {w : World} {n : Nat} {v : Value}
    (h : Calls P f args (w.drewN n) fun e w' => e = .returned v ∧ w.drewN n = w') : Calls P f args (w.drewN n) fun e w'' => e = .returned v ∧ ∃ m, w'' = w.drewN m :=
  Calls.quiet_of_same (h.mono fun _ _ hh => ⟨hh.1, hh.2.symm⟩)
theorem IntsAt.drewN {w : World} {v : Value} {l : List Int} (h : IntsAt w v l) (n : Nat) : IntsAt (w.drewN n) v l := h.below (below_drewN (Below.refl _ _) n)

end Go.Proofs.YtlflblngbneacabGreatDoor

/- Plain facts on plans: what a valid plan is, the outcomes in a case, the depth. No condition. -/
namespace Go.Proofs.YtlflblngbneacabGreatDoor
open Go.RowKit

/-- A node of a plan: the sides of its weighing, and the nodes that follow after the outcomes -1, 0 and 1. -/
structure ND where
  L : List Int
  R : List Int
  a : Int
  b : Int
  c : Int

/-- The node that follows after an outcome. -/
def nextI (d : ND) (x : Int) : Int := if x = -1 then d.a else if x = 0 then d.b else d.c
/-- Whether node i of n may be followed by node k. -/
def linkB (n i : Nat) (k : Int) : Bool := k == -1 || (decide ((i : Int) < k) && decide (k < (n : Int)))
/-- Whether node i of n is valid for m coins. -/
def nodeB (n : Nat) (m : Int) (i : Nat) (d : ND) : Bool := weighB d.L d.R m && (linkB n i d.a && (linkB n i d.b && linkB n i d.c))
/-- The nodes that follow others. -/
def linksOf (P : List ND) : List Int := P.flatMap fun d => [d.a, d.b, d.c]
/-- Whether each node from i on is valid. -/
def nodesB (n : Nat) (m : Int) : Nat → List ND → Bool
  | _, [] => true
  | i, d :: r => nodeB n m i d && nodesB n m (i + 1) r
/-- Whether a plan is valid for m coins. -/
def planB (P : List ND) (m : Int) : Bool :=
  (decide (P.length ≤ 60) && (decide (1 ≤ m) && decide (m ≤ 13))) && (nodesB P.length m 0 P && (List.range P.length).all fun j => j == 0 || (linksOf P).count (j : Int) == 1)

theorem nodesB_at {n : Nat} {m : Int} : ∀ {P : List ND} {i : Nat}, nodesB n m i P = true → ∀ k (h : k < P.length), nodeB n m (i + k) P[k] = true
  | [], _, _, k, h => by simp at h
  | d :: r, i, hh, k, h => by
    simp only [nodesB, Bool.and_eq_true] at hh
    cases k with
    | zero => exact hh.1
    | succ k =>
      have := nodesB_at hh.2 k (by simpa using h)
      simpa [Nat.add_assoc, Nat.add_comm 1 k] using this
theorem plan_node {P : List ND} {m : Int} (h : planB P m = true) (k : Nat) (hk : k < P.length) : nodeB P.length m k P[k] = true := by
  simp only [planB, Bool.and_eq_true] at h
  simpa using nodesB_at h.2.1 k hk
theorem plan_size {P : List ND} {m : Int} (h : planB P m = true) : P.length ≤ 60 ∧ 1 ≤ m ∧ m ≤ 13 := by
  simp only [planB, Bool.and_eq_true, decide_eq_true_eq] at h
  exact ⟨h.1.1, h.1.2.1, h.1.2.2⟩
theorem link_in {n i : Nat} {k : Int} (h : linkB n i k = true) : k = -1 ∨ (i : Int) < k ∧ k < (n : Int) := by
  simpa [linkB] using h
theorem next_in {P : List ND} {m : Int} (h : planB P m = true) (k : Nat) (hk : k < P.length) (x : Int) : nextI P[k] x = -1 ∨ (k : Int) < nextI P[k] x ∧ nextI P[k] x < (P.length : Int) := by
  have hn := plan_node h k hk
  simp only [nodeB, Bool.and_eq_true] at hn
  unfold nextI
  split
  · exact link_in hn.2.1
  · split
    · exact link_in hn.2.2.1
    · exact link_in hn.2.2.2

/-! ### the outcomes in a case -/
/-- The outcomes from node at on, at most f of them. -/
def followF (P : List ND) (c : Int) : Nat → Int → List Int
  | 0, _ => []
  | f + 1, at' => if at' < 0 then [] else match P[at'.toNat]? with
    | none => []
    | some d => outcI d.L d.R c :: followF P c f (nextI d (outcI d.L d.R c))
/-- The outcomes of a plan in a case. -/
def followL (P : List ND) (c : Int) : List Int := followF P c P.length 0

theorem followF_end (P : List ND) (c : Int) (f : Nat) (k : Int) (h : k < 0) : followF P c f k = [] := by
  cases f with
  | zero => rfl
  | succ f => simp [followF, h]
theorem followF_step (P : List ND) (c : Int) (f k : Nat) (h : k < P.length) : followF P c (f + 1) (k : Int) = outcI P[k].L P[k].R c :: followF P c f (nextI P[k] (outcI P[k].L P[k].R c)) := by
  have h1 : ¬ (k : Int) < 0 := by omega
  rw [followF, if_neg h1]
  simp [h]
/-- Enough is enough. -/
theorem followF_more {P : List ND} {m : Int} (h : planB P m = true) (c : Int) : ∀ (f g : Nat) (k : Int), (k = -1 ∨ 0 ≤ k ∧ k < (P.length : Int)) → P.length ≤ k.toNat + f → P.length ≤ k.toNat + g → followF P c f k = followF P c g k
  | f, g, k, hk, hf, hg => by
    rcases hk with rfl | ⟨h0, h1⟩
    · rw [followF_end _ _ _ _ (by decide), followF_end _ _ _ _ (by decide)]
    · obtain ⟨j, rfl⟩ : ∃ j : Nat, k = (j : Int) := ⟨k.toNat, by omega⟩
      have hj : j < P.length := by omega
      cases f with
      | zero => simp at hf; omega
      | succ f =>
        cases g with
        | zero => simp at hg; omega
        | succ g =>
          rw [followF_step P c f j hj, followF_step P c g j hj]
          rcases next_in h j hj (outcI P[j].L P[j].R c) with e | ⟨e1, e2⟩
          · rw [e, followF_end _ _ _ _ (by decide), followF_end _ _ _ _ (by decide)]
          · rw [followF_more h c f g _ (.inr ⟨by omega, e2⟩) (by simp at hf; omega) (by simp at hg; omega)]

/-! ### the depth -/
/-- The depth from node at on, at most f. -/
def depthF (P : List ND) : Nat → Int → Int
  | 0, _ => 0
  | f + 1, at' => if at' < 0 then 0 else match P[at'.toNat]? with
    | none => 0
    | some d => 1 + max (max (depthF P f d.a) (depthF P f d.b)) (depthF P f d.c)
/-- The depth of a plan. -/
def depthI (P : List ND) : Int := depthF P P.length 0
theorem depthF_end (P : List ND) (f : Nat) (k : Int) (h : k < 0) : depthF P f k = 0 := by
  cases f with
  | zero => rfl
  | succ f => simp [depthF, h]
theorem depthF_step (P : List ND) (f k : Nat) (h : k < P.length) : depthF P (f + 1) (k : Int) = 1 + max (max (depthF P f P[k].a) (depthF P f P[k].b)) (depthF P f P[k].c) := by
  have h1 : ¬ (k : Int) < 0 := by omega
  rw [depthF, if_neg h1]
  simp [h]
theorem depthF_range (P : List ND) : ∀ (f : Nat) (k : Int), 0 ≤ depthF P f k ∧ depthF P f k ≤ (f : Int)
  | 0, _ => by simp [depthF]
  | f + 1, k => by
    unfold depthF
    split
    · omega
    · split
      · omega
      · rename_i d _
        have h1 := depthF_range P f d.a
        have h2 := depthF_range P f d.b
        have h3 := depthF_range P f d.c
        omega
theorem followF_depth (P : List ND) (c : Int) : ∀ (f : Nat) (k : Int), ((followF P c f k).length : Int) ≤ depthF P f k
  | 0, _ => by simp [followF, depthF]
  | f + 1, k => by
    unfold followF depthF
    split
    · simp
    · split
      · simp
      · rename_i d _
        have h := followF_depth P c f (nextI d (outcI d.L d.R c))
        have hx : nextI d (outcI d.L d.R c) = d.a ∨ nextI d (outcI d.L d.R c) = d.b ∨ nextI d (outcI d.L d.R c) = d.c := by
          unfold nextI
          split
          · exact .inl rfl
          · split
            · exact .inr (.inl rfl)
            · exact .inr (.inr rfl)
        simp only [List.length_cons]
        rcases hx with e | e | e <;> rw [e] at h ⊢ <;> omega
theorem depthF_more {P : List ND} {m : Int} (h : planB P m = true) : ∀ (f g : Nat) (k : Int), (k = -1 ∨ 0 ≤ k ∧ k < (P.length : Int)) → P.length ≤ k.toNat + f → P.length ≤ k.toNat + g → depthF P f k = depthF P g k
  | f, g, k, hk, hf, hg => by
    rcases hk with rfl | ⟨h0, h1⟩
    · rw [depthF_end _ _ _ (by decide), depthF_end _ _ _ (by decide)]
    · obtain ⟨j, rfl⟩ : ∃ j : Nat, k = (j : Int) := ⟨k.toNat, by omega⟩
      have hj : j < P.length := by omega
      cases f with
      | zero => simp at hf; omega
      | succ f =>
        cases g with
        | zero => simp at hg; omega
        | succ g =>
          have key : ∀ i : Int, linkB P.length j i = true → depthF P f i = depthF P g i := fun i hi => by
            rcases link_in hi with rfl | ⟨e1, e2⟩
            · rw [depthF_end _ _ _ (by decide), depthF_end _ _ _ (by decide)]
            · exact depthF_more h f g _ (.inr ⟨by omega, e2⟩) (by simp at hf; omega) (by simp at hg; omega)
          have hn := plan_node h j hj
          simp only [nodeB, Bool.and_eq_true] at hn
          rw [depthF_step P f j hj, depthF_step P g j hj, key _ hn.2.1, key _ hn.2.2.1, key _ hn.2.2.2]
end Go.Proofs.YtlflblngbneacabGreatDoor

/- The contracts of the law's own helpers on one node of a plan: its size, its copy, and that it equals itself. Conditions: the sides read as integers and are short enough to be counted. -/
namespace Go.Proofs.YtlflblngbneacabGreatDoor
open Go.RowKit

/-- A node as a value. -/
def nodeV (vl vr : Value) (d : ND) : Value := .agg #[vl, vr, .int .i64 d.a, .int .i64 d.b, .int .i64 d.c]
/-- A node's five cells lie in block b from place o on. -/
def FiveAt (w : World) (b o : Nat) (vl vr : Value) (d : ND) : Prop :=
  w.cell? ⟨b, o, none⟩ = some vl ∧ w.cell? ⟨b, o + 1, none⟩ = some vr ∧ w.cell? ⟨b, o + 2, none⟩ = some (.int .i64 d.a) ∧ w.cell? ⟨b, o + 3, none⟩ = some (.int .i64 d.b) ∧ w.cell? ⟨b, o + 4, none⟩ = some (.int .i64 d.c) ∧ b < w.heap.size
theorem FiveAt.belowN {w w' : World} {b o B : Nat} {x y : Value} {d : ND} (h : FiveAt w b o x y d) (hb : Below B w w') (hlt : b < B) : FiveAt w' b o x y d := by
  obtain ⟨e0, e1, e2, e3, e4, h0⟩ := h
  refine ⟨?_, ?_, ?_, ?_, ?_, Nat.lt_of_lt_of_le h0 hb.size⟩
  · rw [hb.cell (p := ⟨b, o, none⟩) hlt]; exact e0
  · rw [hb.cell (p := ⟨b, o + 1, none⟩) hlt]; exact e1
  · rw [hb.cell (p := ⟨b, o + 2, none⟩) hlt]; exact e2
  · rw [hb.cell (p := ⟨b, o + 3, none⟩) hlt]; exact e3
  · rw [hb.cell (p := ⟨b, o + 4, none⟩) hlt]; exact e4
theorem FiveAt.below {w w' : World} {b o : Nat} {x y : Value} {d : ND} (h : FiveAt w b o x y d) (hb : Below w.heap.size w w') : FiveAt w' b o x y d := h.belowN hb h.2.2.2.2.2
theorem FiveAt.only {T : Nat → Prop} {w w' : World} {b o : Nat} {x y : Value} {d : ND} (h : FiveAt w b o x y d) (ho : Only T w w') (hb : ¬ T b) : FiveAt w' b o x y d := by
  obtain ⟨e0, e1, e2, e3, e4, h0⟩ := h
  have k := ho.block b h0 hb
  refine ⟨?_, ?_, ?_, ?_, ?_, Nat.lt_of_lt_of_le h0 ho.size⟩
  · rw [World.cell?_of_block (w := w) (a := ⟨b, o, none⟩) k]; exact e0
  · rw [World.cell?_of_block (w := w) (a := ⟨b, o + 1, none⟩) k]; exact e1
  · rw [World.cell?_of_block (w := w) (a := ⟨b, o + 2, none⟩) k]; exact e2
  · rw [World.cell?_of_block (w := w) (a := ⟨b, o + 3, none⟩) k]; exact e3
  · rw [World.cell?_of_block (w := w) (a := ⟨b, o + 4, none⟩) k]; exact e4
theorem FiveAt.new (w : World) (ty : TypeId) (x y : Value) (d : ND) : FiveAt (w.alloc (.cells #[x, y, .int .i64 d.a, .int .i64 d.b, .int .i64 d.c] ty)) w.heap.size 0 x y d := by
  refine ⟨?_, ?_, ?_, ?_, ?_, ?_⟩ <;> simp

/-- A node's five cells lie in block b. -/
def Five (w : World) (b : Nat) (x y : Value) (p q r : Int) : Prop :=
  w.cell? ⟨b, 0, none⟩ = some x ∧ w.cell? ⟨b, 1, none⟩ = some y ∧ w.cell? ⟨b, 2, none⟩ = some (.int .i64 p) ∧ w.cell? ⟨b, 3, none⟩ = some (.int .i64 q) ∧ w.cell? ⟨b, 4, none⟩ = some (.int .i64 r) ∧ b < w.heap.size
theorem FiveAt.zero {w : World} {b : Nat} {x y : Value} {d : ND} (h : FiveAt w b 0 x y d) : Five w b x y d.a d.b d.c := h
theorem Five.below {w w' : World} {b : Nat} {x y : Value} {p q r : Int} (h : Five w b x y p q r) (hb : Below w.heap.size w w') : Five w' b x y p q r := FiveAt.below (d := ⟨[], [], p, q, r⟩) (o := 0) h hb
theorem Five.new (w : World) (ty : TypeId) (x y : Value) (p q r : Int) : Five (w.alloc (.cells #[x, y, .int .i64 p, .int .i64 q, .int .i64 r] ty)) w.heap.size x y p q r := FiveAt.new w ty x y ⟨[], [], p, q, r⟩
/-- A variable that holds a node lies in block b; its cells may be written. -/
def FiveVar (w : World) (b : Nat) (x y : Value) (p q r : Int) : Prop :=
  Five w b x y p q r ∧ w.frozen? ⟨b, 0, none⟩ = false ∧ w.frozen? ⟨b, 1, none⟩ = false ∧ w.frozen? ⟨b, 2, none⟩ = false ∧ w.frozen? ⟨b, 3, none⟩ = false ∧ w.frozen? ⟨b, 4, none⟩ = false
theorem FiveVar.new (w : World) (ty : TypeId) (x y : Value) (p q r : Int) : FiveVar (w.alloc (.cells #[x, y, .int .i64 p, .int .i64 q, .int .i64 r] ty)) w.heap.size x y p q r := by
  refine ⟨Five.new w ty x y p q r, ?_, ?_, ?_, ?_, ?_⟩ <;> simp
theorem FiveVar.below {w w' : World} {b : Nat} {x y : Value} {p q r : Int} (h : FiveVar w b x y p q r) (hb : Below w.heap.size w w') : FiveVar w' b x y p q r := by
  have hlt := h.1.2.2.2.2.2
  refine ⟨h.1.below hb, ?_, ?_, ?_, ?_, ?_⟩
  · rw [hb.frozen (p := ⟨b, 0, none⟩) hlt]; exact h.2.1
  · rw [hb.frozen (p := ⟨b, 1, none⟩) hlt]; exact h.2.2.1
  · rw [hb.frozen (p := ⟨b, 2, none⟩) hlt]; exact h.2.2.2.1
  · rw [hb.frozen (p := ⟨b, 3, none⟩) hlt]; exact h.2.2.2.2.1
  · rw [hb.frozen (p := ⟨b, 4, none⟩) hlt]; exact h.2.2.2.2.2

/-- The first n cells of block b are given by f, and may be written. -/
def Cells (w : World) (b n : Nat) (f : Nat → Value) : Prop := b < w.heap.size ∧ ∀ o, o < n → w.cell? ⟨b, o, none⟩ = some (f o) ∧ w.frozen? ⟨b, o, none⟩ = false
theorem Cells.set {w : World} {b n : Nat} {f : Nat → Value} (h : Cells w b n f) (i : Nat) (hi : i < n) (u : Value) : Cells (w.setCell ⟨b, i, none⟩ u) b n (fun o => if o = i then u else f o) := by
  refine ⟨by simpa [World.setCell] using h.1, fun o ho => ⟨?_, by simpa using (h.2 o ho).2⟩⟩
  by_cases e : o = i
  · subst e
    simp only [if_pos]
    exact World.cell?_setCell_same (w := w) (a := ⟨b, o, none⟩) (v := u) (h.2 o ho).1
  · simp only [if_neg e]
    rw [World.cell?_setCell_other (w := w) (a := ⟨b, i, none⟩) (b := ⟨b, o, none⟩) (v := u) (fun e' => e (congrArg Addr.off e').symm)]
    exact (h.2 o ho).1
theorem Cells.far {w : World} {b n c : Nat} {f : Nat → Value} (h : Cells w b n f) (hc : c ≠ b) (i : Nat) (u : Value) : Cells (w.setCell ⟨c, i, none⟩ u) b n f :=
  ⟨by simpa [World.setCell] using h.1, fun o ho => ⟨by rw [World.cell?_setCell_other (w := w) (a := ⟨c, i, none⟩) (b := ⟨b, o, none⟩) (v := u) (fun e => hc (congrArg Addr.block e))]; exact (h.2 o ho).1, by simpa using (h.2 o ho).2⟩⟩
theorem FiveVar.cells {w : World} {b : Nat} {x y : Value} {p q r : Int} (h : FiveVar w b x y p q r) : ∃ f, Cells w b 5 f :=
  ⟨fun o => if o = 0 then x else if o = 1 then y else if o = 2 then .int .i64 p else if o = 3 then .int .i64 q else .int .i64 r, h.1.2.2.2.2.2, fun o ho => match o, ho with
    | 0, _ => ⟨h.1.1, h.2.1⟩
    | 1, _ => ⟨h.1.2.1, h.2.2.1⟩
    | 2, _ => ⟨h.1.2.2.1, h.2.2.2.1⟩
    | 3, _ => ⟨h.1.2.2.2.1, h.2.2.2.2.1⟩
    | 4, _ => ⟨h.1.2.2.2.2.1, h.2.2.2.2.2⟩⟩
/-- Five cells written one behind another. -/
def set5 (w : World) (b : Nat) (x y : Value) (p q r : Int) : World :=
  ((((w.setCell ⟨b, 0, none⟩ x).setCell ⟨b, 1, none⟩ y).setCell ⟨b, 2, none⟩ (.int .i64 p)).setCell ⟨b, 3, none⟩ (.int .i64 q)).setCell ⟨b, 4, none⟩ (.int .i64 r)
theorem Cells.set5 {w : World} {b : Nat} {f : Nat → Value} (h : Cells w b 5 f) (x y : Value) (p q r : Int) : Five (set5 w b x y p q r) b x y p q r := by
  have k := ((((h.set 0 (by omega) x).set 1 (by omega) y).set 2 (by omega) (.int .i64 p)).set 3 (by omega) (.int .i64 q)).set 4 (by omega) (.int .i64 r)
  exact ⟨(k.2 0 (by omega)).1, (k.2 1 (by omega)).1, (k.2 2 (by omega)).1, (k.2 3 (by omega)).1, (k.2 4 (by omega)).1, k.1⟩
theorem Cells.far5 {w : World} {b n c : Nat} {f : Nat → Value} (h : Cells w b n f) (hc : c ≠ b) (x y : Value) (p q r : Int) : Cells (Go.Proofs.YtlflblngbneacabGreatDoor.set5 w c x y p q r) b n f := ((((h.far hc 0 x).far hc 1 y).far hc 2 _).far hc 3 _).far hc 4 _
theorem Own.set5 {w : World} {B : Nat} {v : Value} {l : List Int} (h : Own w B v l) {c : Nat} (hc : c < B) (x y : Value) (p q r : Int) : Own (Go.Proofs.YtlflblngbneacabGreatDoor.set5 w c x y p q r) B v l := ((((h.setCell hc x).setCell hc y).setCell hc _).setCell hc _).setCell hc _
theorem below_set5 {w W : World} {B : Nat} (h : Below B W w) {c : Nat} (hc : B ≤ c) (x y : Value) (p q r : Int) : Below B W (set5 w c x y p q r) :=
  ((((h.setCell (p := ⟨c, 0, none⟩) hc x).setCell (p := ⟨c, 1, none⟩) hc y).setCell (p := ⟨c, 2, none⟩) hc _).setCell (p := ⟨c, 3, none⟩) hc _).setCell (p := ⟨c, 4, none⟩) hc _

end Go.Proofs.YtlflblngbneacabGreatDoor

/- Three lists of the call's own, in different blocks: one of them grows, the others stay. And a list parted by a function's values. No condition. -/
namespace Go.Proofs.YtlflblngbneacabGreatDoor
open Go.RowKit

/-- Three lists of the call's own, from block B on. -/
structure Three (W : World) (B : Nat) (v1 v2 v3 : Value) (a b c : List Int) : Prop where
  o1 : Own W B v1 a
  o2 : Own W B v2 b
  o3 : Own W B v3 c
  s12 : Sep v1 v2
  s13 : Sep v1 v3
  s23 : Sep v2 v3
theorem Three.swap12 {W : World} {B : Nat} {v1 v2 v3 : Value} {a b c : List Int} (h : Three W B v1 v2 v3 a b c) : Three W B v2 v1 v3 b a c := ⟨h.o2, h.o1, h.o3, h.s12.symm, h.s23, h.s13⟩
theorem Three.swap13 {W : World} {B : Nat} {v1 v2 v3 : Value} {a b c : List Int} (h : Three W B v1 v2 v3 a b c) : Three W B v3 v2 v1 c b a := ⟨h.o3, h.o2, h.o1, h.s23.symm, h.s13.symm, h.s12.symm⟩
theorem Three.below {W W' : World} {B : Nat} {v1 v2 v3 : Value} {a b c : List Int} (h : Three W B v1 v2 v3 a b c) (hb : Below W.heap.size W W') : Three W' B v1 v2 v3 a b c :=
  ⟨h.o1.below hb, h.o2.below hb, h.o3.below hb, h.s12, h.s13, h.s23⟩
theorem Three.lower {W : World} {B B' : Nat} {v1 v2 v3 : Value} {a b c : List Int} (h : Three W B v1 v2 v3 a b c) (hB : B' ≤ B) : Three W B' v1 v2 v3 a b c :=
  ⟨h.o1.lower hB, h.o2.lower hB, h.o3.lower hB, h.s12, h.s13, h.s23⟩

theorem Three.push {W X W2 : World} {B : Nat} {v1 v2 v3 v' : Value} {a b c : List Int} {x : Int} (h : Three W B v1 v2 v3 a b c) (hX : Below W.heap.size W X)
    (hown : W2.ownsRow B 3 1 v' (a.length + 1) (a.map (Value.int .i64) ++ [.int .i64 x])) (hg : X.grownBy W2 v1.ownBlock) (hat : v'.ownBlock = v1.ownBlock ∨ v'.ownBlock = some X.heap.size) : Three W2 B v' v2 v3 (a ++ [x]) b c := by
  have T := Only.of_grown hg
  have k2 : Blk (· < X.heap.size) v2 := fun k hk => Nat.lt_of_lt_of_le (h.o2.blk k hk).2 hX.size
  have k3 : Blk (· < X.heap.size) v3 := fun k hk => Nat.lt_of_lt_of_le (h.o3.blk k hk).2 hX.size
  have sep : ∀ u, Sep v1 u → Blk (· < X.heap.size) u → Sep v' u := fun u hs hb k h1 h2 => by
    rcases hat with e | e
    · exact hs k (e ▸ h1) h2
    · rw [e] at h1
      have := hb k h2
      have : X.heap.size = k := by simpa using h1
      omega
  refine ⟨?_, (h.o2.below hX).only T fun k hk e => h.s12 k e hk, (h.o3.below hX).only T fun k hk e => h.s13 k e hk, sep _ h.s12 k2, sep _ h.s13 k3, h.s23⟩
  unfold Own
  simpa using hown

theorem Own.lit (X : World) (B : Nat) (hB : B ≤ X.heap.size) : Own (X.alloc (.cells #[] 3)) B (.slice (some ⟨X.heap.size, 0, none⟩) 0 0) [] :=
  World.ownsRow_lit (base := B) (e := 3) (size := 1) X #[] 0 hB (by unfold maxLen; omega) rfl
theorem Own.nil (X : World) (B : Nat) : Own X B (.slice none 0 0) [] := World.ownsRow_nil _ _ _ _
theorem three_start (X : World) (B s : Nat) (hs : X.heap.size = s) (hB : B ≤ s) :
    Three (((X.alloc (.cells #[] 3)).alloc (.cells #[] 3)).alloc (.cells #[] 3)) B (.slice (some ⟨s, 0, none⟩) 0 0) (.slice (some ⟨s + 1, 0, none⟩) 0 0) (.slice (some ⟨s + 1 + 1, 0, none⟩) 0 0) [] [] [] := by
  subst hs
  refine ⟨((Own.lit X B hB).below (alloc_below _ _)).below (alloc_below _ _), ?_, ?_, ?_, ?_, ?_⟩
  · have := (Own.lit (X.alloc (.cells #[] 3)) B (by simp; omega)).below (alloc_below _ (.cells #[] 3))
    simpa using this
  · have := Own.lit ((X.alloc (.cells #[] 3)).alloc (.cells #[] 3)) B (by simp; omega)
    simpa using this
  all_goals
    intro k hk hk'
    simp [Value.ownBlock] at hk hk'
    omega
theorem three_nil (X : World) (B : Nat) : Three X B (.slice none 0 0) (.slice none 0 0) (.slice none 0 0) [] [] [] :=
  ⟨Own.nil _ _, Own.nil _ _, Own.nil _ _, Sep.nil _, Sep.nil _, Sep.nil _⟩

/-! ### a list parted by a function's values -/
def lessL (f : Int → Int) (l : List Int) : List Int := l.filter fun c => f c == -1
def evenL (f : Int → Int) (l : List Int) : List Int := l.filter fun c => f c == 0
def moreL (f : Int → Int) (l : List Int) : List Int := l.filter fun c => !(f c == -1) && !(f c == 0)

theorem filter_take_yes {p : Int → Bool} {l : List Int} {k : Nat} (h : k < l.length) (hp : p l[k] = true) : (l.take (k + 1)).filter p = (l.take k).filter p ++ [l[k]] := by
  rw [List.take_succ_eq_append_getElem h, List.filter_append]; simp [hp]
theorem filter_take_no {p : Int → Bool} {l : List Int} {k : Nat} (h : k < l.length) (hp : p l[k] = false) : (l.take (k + 1)).filter p = (l.take k).filter p := by
  rw [List.take_succ_eq_append_getElem h, List.filter_append]; simp [hp]
theorem filter_take_len (p : Int → Bool) (l : List Int) (k : Nat) : ((l.take k).filter p).length ≤ l.length :=
  Nat.le_trans (List.length_filter_le _ _) (by simp; omega)
theorem part_len (f : Int → Int) (l : List Int) : (lessL f l).length ≤ l.length ∧ (evenL f l).length ≤ l.length ∧ (moreL f l).length ≤ l.length :=
  ⟨List.length_filter_le _ _, List.length_filter_le _ _, List.length_filter_le _ _⟩
end Go.Proofs.YtlflblngbneacabGreatDoor

/- The contract of the model's TurnWeighing: a weighing of the call's own, with the sides exchanged. Conditions: the sides read as integers, lie somewhere, and are short enough to be counted. -/
namespace Go.Proofs.YtlflblngbneacabGreatDoor
open Go.RowKit

/-- append to a list of the call's own, as one step of a region that draws. -/
theorem step_append_own {P : Program} {ops : Array Oper} {o : Oper} {a : Act} {w : World} {K : Act → World → Prop} {Q : Exit → Act → World → Prop} {E : Prop}
    (hg : o.guard = none) (s x : Operand) (t : TypeId) (hop : o.op = Op.call { callee := Callee.builtin Builtin.append, args := #[s, x], argTypes := #[t, t] })
    (base : Nat) (e : TypeId) (i : TypeInfo) (z : Value) (size bytes : Nat) (h1 : P.underlying t = some (.slice e)) (h2 : P.info? e = some i) (h3 : i.zero = some z) (h4 : i.size = size) (h5 : i.bytes = bytes) (h6 : z.cells.size = size) (h7 : 0 < size)
    (v : Value) (n : Nat) (xs : List Value) (hs : a.eval s = v) (hown : w.ownsRow base e size v n xs)
    (ad : Addr) (m c : Nat) (news : List Value) (hx : a.eval x = .slice (some ad) m c) (hn : news.length = m * size) (hc : ∀ j u, news[j]? = some u → w.cell? (ad.add j) = some u) (h1c : ∀ u ∈ news, u.oneCell' = true)
    (b1 : n + m ≤ maxLen) (b2 : (n + m) * bytes ≤ 140737488355328) (hbase : base ≤ w.heap.size) (hv : v ≠ .slice none 0 0)
    (hK : ∀ v' w', w'.ownsRow base e size v' (n + m) (xs ++ news) → w.grownBy w' v.ownBlock → (v'.ownBlock = v.ownBlock ∨ v'.ownBlock = some w.heap.size) → Solid v' → K (a.put o.dst v') w') :
    if Region.wanted o (yielded ops a.tmps) = true then Oper.wp P o a w K Q else E := by
  have hw : Region.wanted o (yielded ops a.tmps) = true := by simp [Region.wanted, hg]
  rw [if_pos hw]
  obtain ⟨v', w', hrun, r1, r2, r3, r4⟩ := run_append_own_at (P := P) w base t o.type e i z size bytes h1 h2 h3 h4 h5 h6 h7 v n xs hown ad m c news hn hc h1c b1 b2 hbase
  unfold Oper.wp
  simp [execOp, hop, resolve, invoke, builtin, hs, hx, hrun, Result.andThen]
  refine hK v' w' r1 r2 r4 ?_
  rcases r1.2 with ⟨h0, _⟩ | ⟨g, cap, cur, h0, _⟩
  · exact absurd (r3.1 h0).1 hv
  · exact ⟨_, _, _, h0⟩

theorem VarAt.grown {X w1 : World} {row : Option Nat} {b : Nat} {x y : Value} (hp : VarAt X b x y) (hg : X.grownBy w1 row) (hne : row ≠ some b) : VarAt w1 b x y := by
  have T := Only.of_grown hg
  refine ⟨hp.1.only T hne, ?_, ?_⟩
  · rw [World.frozen?_of_block (w := X) (a := ⟨b, 0, none⟩) (hg.block b hp.1.2.2 (Ne.symm hne))]; exact hp.2.1
  · rw [World.frozen?_of_block (w := X) (a := ⟨b, 1, none⟩) (hg.block b hp.1.2.2 (Ne.symm hne))]; exact hp.2.2
theorem VarAt.drew {X : World} {b : Nat} {x y : Value} (hp : VarAt X b x y) : VarAt X.drew b x y := hp.below ((Below.refl _ _).drew)
theorem VarAt.alloc {X : World} {b : Nat} {x y : Value} (hp : VarAt X b x y) (o : Obj) : VarAt (X.alloc o) b x y := hp.below (alloc_below _ _)
theorem TwoAt.drew {X : World} {b : Nat} {x y : Value} (hp : TwoAt X b x y) : TwoAt X.drew b x y := hp.below ((Below.refl _ _).drew)
theorem TwoAt.alloc {X : World} {b : Nat} {x y : Value} (hp : TwoAt X b x y) (o : Obj) : TwoAt (X.alloc o) b x y := hp.below (alloc_below _ _)
theorem IntsAt.drew {w : World} {v : Value} {l : List Int} (h : IntsAt w v l) : IntsAt w.drew v l := h.below ((Below.refl _ _).drew)
theorem IntsAt.alloc {w : World} {v : Value} {l : List Int} (h : IntsAt w v l) (o : Obj) : IntsAt (w.alloc o) v l := h.below (alloc_below _ _)
theorem Own.alloc {w : World} {B : Nat} {v : Value} {l : List Int} (h : Own w B v l) (o : Obj) : Own (w.alloc o) B v l := h.below (alloc_below _ _)

/-- What the region keeps: the argument's cells, the result's variable, the two lists that came in, all below block B. -/
structure Kept (w0 W : World) (h b2 bv B : Nat) (vl vr : Value) (L R : List Int) : Prop where
  bel : Below h w0 W
  two : TwoAt W b2 vl vr
  var : VarAt W bv (.slice none 0 0) (.slice none 0 0)
  left : IntsAt W vl L
  right : IntsAt W vr R
  bl : Blk (· < B) vl
  br : Blk (· < B) vr
  hb : h ≤ B ∧ b2 < B ∧ bv < B
  size : B ≤ W.heap.size
theorem Kept.drew {w0 W : World} {h b2 bv B : Nat} {vl vr : Value} {L R : List Int} (k : Kept w0 W h b2 bv B vl vr L R) : Kept w0 W.drew h b2 bv B vl vr L R := ⟨k.bel.drew, k.two.drew, k.var.drew, k.left.drew, k.right.drew, k.bl, k.br, k.hb, k.size⟩
theorem Kept.alloc {w0 W : World} {h b2 bv B : Nat} {vl vr : Value} {L R : List Int} (k : Kept w0 W h b2 bv B vl vr L R) (o : Obj) : Kept w0 (W.alloc o) h b2 bv B vl vr L R := ⟨k.bel.alloc (by have := k.size; have := k.hb; omega) _, k.two.alloc o, k.var.alloc o, k.left.alloc o, k.right.alloc o, k.bl, k.br, k.hb, by have := k.size; simp; omega⟩
theorem Kept.grown {w0 W W' : World} {h b2 bv B : Nat} {vl vr : Value} {L R : List Int} (k : Kept w0 W h b2 bv B vl vr L R) {row : Option Nat} (hg : W.grownBy W' row) (hr : ∀ j, row = some j → B ≤ j) : Kept w0 W' h b2 bv B vl vr L R := by
  have T := Only.of_grown hg
  have hb := k.hb
  exact ⟨k.bel.grown hg (by have := k.size; omega) fun j hj => by have := hr j hj; omega, k.two.only T fun e => by have := hr _ e; omega, k.var.grown hg fun e => by have := hr _ e; omega, k.left.only T fun j hj e => by have := hr j e; have := k.bl j hj; omega, k.right.only T fun j hj e => by have := hr j e; have := k.br j hj; omega, k.bl, k.br, k.hb, Nat.le_trans k.size hg.size⟩

/-- An empty list in a block of its own. -/
def Bare (W : World) (g : Nat) : Prop := W.heap[g]? = some (.cells #[] 3 (0, 0))
theorem Bare.new (W : World) : Bare (W.alloc (.cells #[] 3)) W.heap.size := by
  unfold Bare World.alloc
  simp
theorem Bare.at (W : World) (g : Nat) (h : W.heap.size = g) : Bare (W.alloc (.cells #[] 3)) g := by subst h; exact Bare.new W
theorem Bare.alloc {W : World} {g : Nat} (h : Bare W g) (o : Obj) : Bare (W.alloc o) g := by
  unfold Bare at h ⊢
  have hlt : g < W.heap.size := by
    rcases Nat.lt_or_ge g W.heap.size with h' | h'
    · exact h'
    · rw [Array.getElem?_eq_none h'] at h; cases h
  rw [(alloc_below W o).block g hlt]
  exact h
theorem Bare.grown {W W' : World} {g : Nat} (h : Bare W g) {row : Option Nat} (hg : W.grownBy W' row) (hne : row ≠ some g) : Bare W' g := by
  unfold Bare at h ⊢
  have hlt : g < W.heap.size := by
    rcases Nat.lt_or_ge g W.heap.size with h' | h'
    · exact h'
    · rw [Array.getElem?_eq_none h'] at h; cases h
  rw [hg.block g hlt (Ne.symm hne)]
  exact h
theorem Bare.own {W : World} {g B : Nat} (h : Bare W g) (hB : B ≤ g) : W.ownsRow B 3 1 (.slice (some ⟨g, 0, none⟩) 0 0) 0 [] :=
  ⟨rfl, .inr ⟨g, 0, #[], rfl, hB, h, Nat.le_refl _, by unfold maxLen; omega, rfl, rfl⟩⟩
theorem ints_cells {W : World} {g c : Nat} {l : List Int} (h : IntsAt W (.slice (some ⟨g, 0, none⟩) l.length c) l) : ∀ j u, (l.map (Value.int .i64))[j]? = some u → W.cell? ((⟨g, 0, none⟩ : Addr).add j) = some u := by
  intro j u hj
  obtain ⟨a, cap, hv, hh⟩ := h
  cases hv
  rw [List.getElem?_map] at hj
  rcases hh with rfl | ⟨b, o, ha, hc⟩
  · simp at hj
  · cases ha
    have hlt : j < l.length := by
      rcases Nat.lt_or_ge j l.length with h' | h'
      · exact h'
      · rw [List.getElem?_eq_none h'] at hj; simp at hj
    rw [List.getElem?_eq_getElem hlt] at hj
    simp at hj
    subst hj
    rw [Addr.add_lit]
    exact hc j hlt
theorem ints_one (l : List Int) : ∀ u ∈ l.map (Value.int .i64), u.oneCell' = true := by
  intro u hu
  rw [List.mem_map] at hu
  obtain ⟨x, _, rfl⟩ := hu
  rfl

theorem addFact {A G : Prop} (a : A) (k : A → G) : G := k a

end Go.Proofs.YtlflblngbneacabGreatDoor

/- Plain facts on outcomes: a light coin has the opposite outcome of a heavy one, exchanged sides the opposite one too, and over all heavy coins the outcomes add up to nothing. Condition: the weighing is valid. -/
namespace Go.Proofs.YtlflblngbneacabGreatDoor
open Go.RowKit

theorem side_up {l : List Int} {n m : Int} (h : sideB l n = true) (hm : n ≤ m) : sideB l m = true := by
  unfold sideB ascB at h ⊢
  simp only [Bool.and_eq_true, decide_eq_true_eq, List.all_eq_true] at h ⊢
  exact ⟨⟨h.1.1, fun x hx => ⟨(h.1.2 x hx).1, by have := (h.1.2 x hx).2; omega⟩⟩, h.2⟩
theorem apart_mem {L R : List Int} : apartB L R = true ↔ ∀ x ∈ L, x ∉ R := by
  unfold apartB
  simp [List.all_eq_true, hasI]
theorem weigh_parts {L R : List Int} {n : Int} (h : weighB L R n = true) : 1 ≤ n ∧ n ≤ 13 ∧ sideB L n = true ∧ sideB R n = true ∧ L.length = R.length ∧ ∀ x ∈ L, x ∉ R := by
  unfold weighB at h
  simp only [Bool.and_eq_true, decide_eq_true_eq] at h
  obtain ⟨⟨⟨⟨⟨h1, h2⟩, h3⟩, h4⟩, h5⟩, h6⟩ := h
  exact ⟨h1, h2, h3, h4, h5, apart_mem.1 h6⟩
theorem weigh_of {L R : List Int} {n : Int} (h1 : 1 ≤ n) (h2 : n ≤ 13) (h3 : sideB L n = true) (h4 : sideB R n = true) (h5 : L.length = R.length) (h6 : ∀ x ∈ L, x ∉ R) : weighB L R n = true := by
  unfold weighB
  simp only [Bool.and_eq_true, decide_eq_true_eq]
  exact ⟨⟨⟨⟨⟨h1, h2⟩, h3⟩, h4⟩, h5⟩, apart_mem.2 h6⟩
theorem weigh_13 {L R : List Int} {n : Int} (h : weighB L R n = true) : weighB L R 13 = true := by
  obtain ⟨h1, h2, h3, h4, h5, h6⟩ := weigh_parts h
  exact weigh_of (by omega) (by omega) (side_up h3 h2) (side_up h4 h2) h5 h6
theorem weigh_turn {L R : List Int} {n : Int} (h : weighB L R n = true) : weighB R L n = true := by
  obtain ⟨h1, h2, h3, h4, h5, h6⟩ := weigh_parts h
  exact weigh_of h1 h2 h4 h3 h5.symm fun x hx hl => h6 x hl hx

/-- The outcome for a heavy coin. -/
def sgI (L R : List Int) (c : Int) : Int := if hasI L c = true then 1 else if hasI R c = true then -1 else 0

theorem out_heavy {L R : List Int} {n c : Int} (h : weighB L R n = true) (c1 : 1 ≤ c) (c2 : c ≤ 13) : outI L R c = sgI L R c := by
  have hi : inB c = true := by unfold inB; simp; omega
  have hc : coinI c = c := by unfold coinI; rw [if_pos hi, if_neg (by omega)]
  unfold outI outcI sgI
  have hn : ¬ c < 0 := by omega
  rw [weigh_13 h, hi, hc, Bool.and_true, if_pos rfl]
  simp only [if_neg hn]
theorem out_light {L R : List Int} {n c : Int} (h : weighB L R n = true) (c1 : 1 ≤ c) (c2 : c ≤ 13) : outI L R (-c) = -sgI L R c := by
  have hi : inB (-c) = true := by unfold inB; simp; omega
  have hc : coinI (-c) = c := by unfold coinI; rw [if_pos hi, if_pos (by omega)]; omega
  unfold outI outcI sgI
  have hp : -c < 0 := by omega
  rw [weigh_13 h, hi, hc, Bool.and_true, if_pos rfl]
  simp only [if_pos hp]
  split
  · rfl
  · split <;> rfl
theorem out_turn {L R : List Int} {n c : Int} (h : weighB L R n = true) (c1 : 1 ≤ c) (c2 : c ≤ 13) : outI R L c = -sgI L R c := by
  rw [out_heavy (weigh_turn h) c1 c2]
  have h6 := (weigh_parts h).2.2.2.2.2
  unfold sgI
  cases hl : hasI L c with
  | true =>
    have : hasI R c = false := by
      cases hr : hasI R c with
      | false => rfl
      | true => exact absurd (hasI_mem.1 hr) (h6 c (hasI_mem.1 hl))
    rw [this]; rfl
  | false => cases hasI R c <;> rfl
theorem out_none {L R : List Int} {n : Int} (h : weighB L R n = true) : outI L R 0 = 0 := by
  obtain ⟨_, _, h3, h4, _, _⟩ := weigh_parts h
  have no : ∀ l, sideB l n = true → hasI l 0 = false := fun l hl => by
    cases hh : hasI l 0 with
    | false => rfl
    | true =>
      unfold sideB ascB at hl
      simp only [Bool.and_eq_true, decide_eq_true_eq, List.all_eq_true] at hl
      have := hl.1.2 0 (hasI_mem.1 hh)
      omega
  unfold outI outcI
  rw [weigh_13 h]
  show (if (true && inB 0) = true then (if hasI L 0 = true then _ else if hasI R 0 = true then _ else 0) else 0) = 0
  rw [no L h3, no R h4]
  rfl

/-- How many elements are at most k. -/
def cnt (l : List Int) (k : Int) : Int := ((l.filter fun x => decide (x ≤ k)).length : Int)
theorem cnt_step {k : Int} : ∀ {l : List Int}, l.Pairwise (· < ·) → cnt l (k + 1) = cnt l k + (if hasI l (k + 1) = true then 1 else 0)
  | [], _ => rfl
  | a :: r, h => by
    rw [List.pairwise_cons] at h
    have ih := cnt_step (k := k) h.2
    unfold cnt at ih ⊢
    rw [List.filter_cons, List.filter_cons]
    by_cases h1 : a ≤ k
    · have e : hasI (a :: r) (k + 1) = hasI r (k + 1) := by
        have : ¬ k + 1 = a := by omega
        simp [hasI, this]
      rw [if_pos (by simp; omega), if_pos (by simpa using h1), e]
      simp only [List.length_cons]
      omega
    · by_cases h2 : a = k + 1
      · have hr : hasI r (k + 1) = false := by
          cases hh : hasI r (k + 1) with
          | false => rfl
          | true => have := h.1 _ (hasI_mem.1 hh); omega
        have e : hasI (a :: r) (k + 1) = true := hasI_mem.2 (by simp [h2])
        rw [if_pos (by simp; omega), if_neg (by simpa using h1), e, if_pos rfl]
        rw [hr, if_neg (by decide)] at ih
        simp only [List.length_cons]
        omega
      · have hr : hasI r (k + 1) = false := by
          cases hh : hasI r (k + 1) with
          | false => rfl
          | true => have := h.1 _ (hasI_mem.1 hh); omega
        have e : hasI (a :: r) (k + 1) = false := by
          cases hh : hasI (a :: r) (k + 1) with
          | false => rfl
          | true =>
            have := hasI_mem.1 hh
            simp only [List.mem_cons] at this
            rcases this with h3 | h3
            · exact absurd h3.symm h2
            · rw [hasI_mem.2 h3] at hr; cases hr
        rw [if_neg (by simp; omega), if_neg (by simpa using h1), e]
        rw [hr] at ih
        exact ih
theorem cnt_zero {l : List Int} (h : ∀ x ∈ l, 1 ≤ x) : cnt l 0 = 0 := by
  unfold cnt
  rw [List.filter_eq_nil_iff.2 (fun x hx => by have := h x hx; simp; omega)]
  rfl
theorem cnt_all {l : List Int} {n : Int} (h : ∀ x ∈ l, x ≤ n) : cnt l n = l.length := by
  unfold cnt
  rw [List.filter_eq_self.2 (fun x hx => by have := h x hx; simpa using this)]

theorem side_pair {l : List Int} {n : Int} (h : sideB l n = true) : l.Pairwise (· < ·) ∧ ∀ x ∈ l, 1 ≤ x ∧ x ≤ n := by
  unfold sideB ascB at h
  simp only [Bool.and_eq_true, decide_eq_true_eq, List.all_eq_true] at h
  exact h.1

theorem sum_step {L R : List Int} {n k : Int} (h : weighB L R n = true) : cnt L (k + 1) - cnt R (k + 1) = cnt L k - cnt R k + sgI L R (k + 1) := by
  obtain ⟨_, _, h3, h4, _, h6⟩ := weigh_parts h
  rw [cnt_step (side_pair h3).1, cnt_step (side_pair h4).1]
  unfold sgI
  cases hl : hasI L (k + 1) with
  | true =>
    have : hasI R (k + 1) = false := by
      cases hr : hasI R (k + 1) with
      | false => rfl
      | true => exact absurd (hasI_mem.1 hr) (h6 _ (hasI_mem.1 hl))
    rw [this]
    simp
    omega
  | false =>
    cases hasI R (k + 1) <;> simp <;> omega
theorem sum_end {L R : List Int} {n : Int} (h : weighB L R n = true) : cnt L n - cnt R n = 0 := by
  obtain ⟨_, _, h3, h4, h5, _⟩ := weigh_parts h
  rw [cnt_all fun x hx => ((side_pair h3).2 x hx).2, cnt_all fun x hx => ((side_pair h4).2 x hx).2, h5]
  omega
theorem sum_zero {L R : List Int} {n : Int} (h : weighB L R n = true) : cnt L 0 - cnt R 0 = 0 := by
  obtain ⟨_, _, h3, h4, _, _⟩ := weigh_parts h
  rw [cnt_zero fun x hx => ((side_pair h3).2 x hx).1, cnt_zero fun x hx => ((side_pair h4).2 x hx).1]
  rfl
theorem sg_has {L R : List Int} {c : Int} : (sgI L R c == 0) = !(hasI L c || hasI R c) := by
  unfold sgI
  cases hasI L c <;> cases hasI R c <;> rfl
theorem sg_range (L R : List Int) (c : Int) : -1 ≤ sgI L R c ∧ sgI L R c ≤ 1 := by
  unfold sgI
  split
  · omega
  · split <;> omega

theorem asc_len : ∀ (l : List Int) (lo n : Int), l.Pairwise (· < ·) → (∀ x ∈ l, lo ≤ x ∧ x ≤ n) → l = [] ∨ (l.length : Int) ≤ n - lo + 1
  | [], _, _, _, _ => .inl rfl
  | a :: r, lo, n, hp, h => by
    have ha := h a (by simp)
    rw [List.pairwise_cons] at hp
    right
    rcases asc_len r (a + 1) n hp.2 (fun x hx => ⟨by have := hp.1 x hx; omega, (h x (List.mem_cons_of_mem _ hx)).2⟩) with rfl | h2
    · simp; omega
    · simp; omega
theorem side_len {l : List Int} {n : Int} (h : sideB l n = true) : (l.length : Int) ≤ n ∨ l = [] := by
  unfold sideB ascB at h
  simp only [Bool.and_eq_true, decide_eq_true_eq, List.all_eq_true] at h
  rcases asc_len l 1 n h.1.1 h.1.2 with h1 | h1
  · exact .inr h1
  · exact .inl (by omega)
theorem weigh_len {L R : List Int} {n : Int} (h : weighB L R n = true) : L.length ≤ 13 ∧ R.length ≤ 13 := by
  obtain ⟨_, h2, h3, h4, _, _⟩ := weigh_parts h
  constructor
  · rcases side_len h3 with h | rfl
    · omega
    · simp
  · rcases side_len h4 with h | rfl
    · omega
    · simp
theorem cnt_range (l : List Int) (k : Int) : 0 ≤ cnt l k ∧ cnt l k ≤ l.length := by
  unfold cnt
  have := List.length_filter_le (fun x => decide (x ≤ k)) l
  omega
theorem sum_range {L R : List Int} {n : Int} (h : weighB L R n = true) (k : Int) : -13 ≤ cnt L k - cnt R k ∧ cnt L k - cnt R k ≤ 13 := by
  obtain ⟨h1, h2⟩ := weigh_len h
  have := cnt_range L k
  have := cnt_range R k
  omega
theorem sg_val {L R : List Int} {c : Int} {x y : Bool} (h1 : hasI L c = x) (h2 : hasI R c = y) : sgI L R c = if x = true then 1 else if y = true then -1 else 0 := by
  unfold sgI; rw [h1, h2]
end Go.Proofs.YtlflblngbneacabGreatDoor
