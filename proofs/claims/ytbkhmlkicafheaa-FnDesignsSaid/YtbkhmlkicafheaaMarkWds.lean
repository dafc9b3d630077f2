/- The contracts of the law's own marks on a list of weighings, and of the look whether they are held. Conditions: the list is one of the call's own, and short enough to be counted. -/
import Derived.Test.YtbkhmlkicafheaaToWds
namespace Go.Proofs.Ytbkhmlkicafheaa
open Go.RowKit

/-- The list of n weighings in block g is the call's own, each with blocks behind those of the ones before, below hi. -/
structure WdsQ (w : World) (g n hi : Nat) (f : Nat → Value) (D : List WD) : Prop where
  cells : CellsW w g (n * 2) f
  wd : ∀ i (h : i < D.length), WdOwn w g f i D[i]
  up : ∀ i i', i < i' → i' < D.length → ∀ b b', SdW f i b → SdW f i' b' → b < b'
  lt : ∀ i, i < D.length → ∀ b, SdW f i b → b < hi
/-- A list of weighings of the call's own, its blocks from lo up to hi. -/
def OwnWdsQ (w : World) (lo hi : Nat) (v : Value) (D : List WD) : Prop := ∃ g f, v = .slice (some ⟨g, 0, none⟩) D.length D.length ∧ lo ≤ g ∧ g < hi ∧ WdsQ w g D.length hi f D
theorem OwnWds.all {w : World} {lo : Nat} {v : Value} {D : List WD} (h : OwnWds w lo v D) : OwnWdsQ w lo w.heap.size v D := by
  obtain ⟨g, f, e, hg, h⟩ := h
  exact ⟨g, f, e, hg, h.cells.1, ⟨h.cells, fun i hi => h.wd i hi hi, fun i i' h1 h2 => h.up i i' h1 h2, fun i hi _ hb => ((h.wd i hi hi).blk hb).2⟩⟩
theorem WdsQ.below {w w' : World} {g n hi : Nat} {f : Nat → Value} {D : List WD} (h : WdsQ w g n hi f D) (hb : Below w.heap.size w w') : WdsQ w' g n hi f D :=
  ⟨h.cells.below hb, fun i hi => (h.wd i hi).below hb, h.up, h.lt⟩
theorem OwnWdsQ.below {w w' : World} {lo hi : Nat} {v : Value} {D : List WD} (h : OwnWdsQ w lo hi v D) (hb : Below w.heap.size w w') : OwnWdsQ w' lo hi v D := by
  obtain ⟨g, f, e, hg, h1, h2⟩ := h
  exact ⟨g, f, e, hg, h1, h2.below hb⟩
theorem WdOwn.only {T : Nat → Prop} {w w' : World} {g i : Nat} {f : Nat → Value} {d : WD} (h : WdOwn w g f i d) (ho : Only T w w') (hT : ∀ b, SdW f i b → ¬ T b) : WdOwn w' g f i d :=
  ⟨h.left.only ho fun k hk => hT k (.inl hk), h.right.only ho fun k hk => hT k (.inr hk), h.sep⟩
theorem WdsQ.only {T : Nat → Prop} {w w' : World} {g n hi lo : Nat} {f : Nat → Value} {D : List WD} (h : WdsQ w g n hi f D) (ho : Only T w w') (hlo : lo ≤ g) (hg : g < hi) (hT : ∀ k, T k → k < lo ∨ hi ≤ k) : WdsQ w' g n hi f D :=
  ⟨h.cells.only ho fun e => by have := hT _ e; omega, fun i hi' => (h.wd i hi').only ho fun b hb ht => by
    have h1 := ((h.wd i hi').blk hb).1
    have h2 := h.lt i hi' b hb
    have := hT _ ht
    omega, h.up, h.lt⟩
theorem OwnWdsQ.only {T : Nat → Prop} {w w' : World} {lo hi : Nat} {v : Value} {D : List WD} (h : OwnWdsQ w lo hi v D) (ho : Only T w w') (hT : ∀ k, T k → k < lo ∨ hi ≤ k) : OwnWdsQ w' lo hi v D := by
  obtain ⟨g, f, e, hg, h1, h2⟩ := h
  exact ⟨g, f, e, hg, h1, h2.only ho hg h1 hT⟩
theorem OwnWdsQ.reads {w : World} {lo hi : Nat} {v : Value} {D : List WD} (h : OwnWdsQ w lo hi v D) : WdsAt w v D := by
  obtain ⟨g, f, rfl, hg, _, hk⟩ := h
  exact OwnWds.reads (lo := lo) ⟨g, f, rfl, hg, ⟨hk.cells, fun i hi _ => hk.wd i hi, fun i j h1 h2 => hk.up i j h1 h2⟩⟩
theorem OwnWdsQ.form {w : World} {lo hi : Nat} {v : Value} {D : List WD} (h : OwnWdsQ w lo hi v D) : ∃ g n c, v = .slice (some ⟨g, 0, none⟩) n c := by
  obtain ⟨g, f, e, _⟩ := h
  exact ⟨g, _, _, e⟩
theorem WdsQ.step {w w2 : World} {g n hi j : Nat} {f : Nat → Value} {D : List WD} (h : WdsQ w g n hi f D) (hj : j < D.length) (ho : Only (SdW f j) w w2) {d : WD} (h1 : Own w2 (g + 1) (f (j * 2)) d.L) (h2 : Own w2 (g + 1) (f (j * 2 + 1)) d.R) :
    WdsQ w2 g n hi f (D.set j d) := by
  have hg : ¬ SdW f j g := fun e => by
    have := ((h.wd j hj).blk e).1
    omega
  refine ⟨h.cells.only ho hg, fun i hi' => ?_, fun i i' a b => h.up i i' a (by simpa using b), fun i a => h.lt i (by simpa using a)⟩
  have hi2 : i < D.length := by simpa using hi'
  rw [List.getElem_set]
  by_cases e : j = i
  · subst e
    rw [if_pos rfl]
    exact ⟨h1, h2, (h.wd j hj).sep⟩
  · rw [if_neg e]
    refine (h.wd i hi2).only ho fun b hb hb' => ?_
    rcases Nat.lt_or_gt_of_ne e with e' | e'
    · have := h.up j i e' hi2 b b hb' hb; omega
    · have := h.up i j e' hj b b hb hb'; omega

/-- The marks of a list of weighings from q on. -/
def marksD : Int → List WD → List WD
  | _, [] => []
  | q, d :: r => ⟨imarks q d.L.length, imarks (q + d.L.length) d.R.length⟩ :: marksD (q + d.L.length + d.R.length) r
theorem marksD_len : ∀ (D : List WD) (q : Int), (marksD q D).length = D.length
  | [], _ => rfl
  | d :: r, q => by simp [marksD, marksD_len r]
theorem marksD_app : ∀ (D E : List WD) (q : Int), marksD q (D ++ E) = marksD q D ++ marksD (q + (sumW D : Int)) E
  | [], E, q => by simp [marksD, sumW]
  | d :: r, E, q => by
    have := marksD_app r E (q + d.L.length + d.R.length)
    simp only [List.cons_append, marksD, this, sumW]
    congr 3
    omega
theorem marksD_sum : ∀ (D : List WD) (q : Int), sumW (marksD q D) = sumW D
  | [], _ => rfl
  | d :: r, q => by simp [marksD, sumW, imarks_length, marksD_sum r]
/-- The first j weighings are marked. -/
def markedD (D : List WD) (j : Nat) : List WD := marksD 1 (D.take j) ++ D.drop j
theorem markedD_len (D : List WD) (j : Nat) (hj : j ≤ D.length) : (markedD D j).length = D.length := by
  unfold markedD
  rw [List.length_append, marksD_len]
  simp; omega
theorem markedD_at {D : List WD} {j : Nat} (h : j < D.length) : (markedD D j)[j]? = some D[j] := by
  unfold markedD
  rw [List.getElem?_append_right (by rw [marksD_len]; simp; omega), marksD_len, List.length_take, Nat.min_eq_left (by omega), Nat.sub_self, List.drop_eq_getElem_cons h]
  rfl
theorem markedD_step {D : List WD} {j : Nat} (h : j < D.length) : (markedD D j).set j ⟨imarks (1 + (sumW (D.take j) : Int)) D[j].L.length, imarks (1 + (sumW (D.take j) : Int) + D[j].L.length) D[j].R.length⟩ = markedD D (j + 1) := by
  unfold markedD
  have hlen : (marksD 1 (D.take j)).length = j := by rw [marksD_len]; simp; omega
  rw [List.set_append_right _ _ (by omega), hlen, Nat.sub_self, List.drop_eq_getElem_cons h, List.set_cons_zero, List.take_succ_eq_append_getElem h, marksD_app, List.append_assoc]
  rfl
theorem markedD_end (D : List WD) : markedD D D.length = marksD 1 D := by
  unfold markedD
  simp

end Go.Proofs.Ytbkhmlkicafheaa
