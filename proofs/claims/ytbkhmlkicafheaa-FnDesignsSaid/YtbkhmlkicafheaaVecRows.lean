/- A row of lists of the call's own that grow one at a time; the columns of the vectors of the coins. No condition. -/
import Derived.Test.YtbkhmlkicafheaaVecsImpl
import Derived.Test.YtbkhmlkicafheaaVectorSpec
import Derived.Test.YtbkhmlkicafheaaGroups
namespace Go.Proofs.Ytbkhmlkicafheaa
open Go.RowKit

/-- The first m cells of block g hold lists of the call's own from block B on, no two of them in one block. -/
structure RowW (w : World) (B g m : Nat) (f : Nat → Value) (E : Nat → List Int) : Prop where
  cells : CellsW w g m f
  up : g < B
  own : ∀ o, o < m → Own w B (f o) (E o)
  sep : ∀ o o', o < m → o' < m → o ≠ o' → Sep (f o) (f o')
theorem RowW.below {w w' : World} {B g m : Nat} {f : Nat → Value} {E : Nat → List Int} (h : RowW w B g m f E) (hb : Below w.heap.size w w') : RowW w' B g m f E :=
  ⟨h.cells.below hb, h.up, fun o ho => (h.own o ho).below hb, h.sep⟩
theorem RowW.congr {w : World} {B g m : Nat} {f : Nat → Value} {E E' : Nat → List Int} (h : RowW w B g m f E) (he : ∀ o, o < m → E o = E' o) : RowW w B g m f E' :=
  ⟨h.cells, h.up, fun o ho => he o ho ▸ h.own o ho, h.sep⟩
theorem RowW.push {W X W2 : World} {B g m o : Nat} {f : Nat → Value} {E : Nat → List Int} {v' : Value} {x : Int} (h : RowW W B g m f E) (ho : o < m) (hX : Below W.heap.size W X)
    (hown : Own W2 B v' (E o ++ [x])) (hg : X.grownBy W2 (f o).ownBlock) (hat : v'.ownBlock = (f o).ownBlock ∨ v'.ownBlock = some X.heap.size) :
    RowW (W2.setCell ⟨g, o, none⟩ v') B g m (fun z => if z = o then v' else f z) (fun z => if z = o then E o ++ [x] else E z) := by
  have T := Only.of_grown hg
  have hgo : ¬ ((f o).ownBlock = some g) := fun e => by
    have := ((h.own o ho).blk g e).1
    have := h.up
    omega
  have sepN : ∀ z, z < m → z ≠ o → Sep v' (f z) := fun z hz hzo b h1 h2 => by
    rcases hat with e | e
    · exact h.sep o z ho hz (fun e' => hzo e'.symm) b (e ▸ h1) h2
    · rw [e] at h1
      have h3 := ((h.own z hz).blk b h2).2
      have h4 := hX.size
      have h5 : X.heap.size = b := by simpa using h1
      omega
  refine ⟨((h.cells.below hX).only T hgo).set o ho v', h.up, fun z hz => ?_, fun z z' hz hz' hne => ?_⟩
  · by_cases e : z = o
    · subst e
      simp only [if_pos]
      exact hown.setCell h.up v'
    · simp only [if_neg e]
      exact (((h.own z hz).below hX).only T (fun b h1 h2 => h.sep o z ho hz (fun e' => e e'.symm) b h2 h1)).setCell h.up v'
  · by_cases e : z = o
    · subst e
      have e' : ¬ z' = z := fun e' => hne e'.symm
      simp only [if_pos, if_neg e']
      exact sepN z' hz' e'
    · by_cases e' : z' = o
      · subst e'
        simp only [if_pos, if_neg e]
        exact (sepN z hz e).symm
      · simp only [if_neg e, if_neg e']
        exact h.sep z z' hz hz' hne
theorem RowW.list {w : World} {B g n lo : Nat} {f : Nat → Value} {E : Nat → List Int} {D : List WD} (h : RowW w B g (n * 2) f E) (hlo : lo ≤ g) (hD : D.length = n) (hE : ∀ i (hi : i < D.length), E (i * 2) = D[i].L ∧ E (i * 2 + 1) = D[i].R) :
    WdsR w lo (.slice (some ⟨g, 0, none⟩) n n) f D := by
  have hup := h.up
  refine ⟨⟨some ⟨g, 0, none⟩, n, by rw [hD], by omega, fun i hi => ⟨g, rfl, hlo, h.cells.1, (h.cells.2 _ (by omega)).1, (h.cells.2 _ (by omega)).1⟩⟩, fun i hi => ?_, fun i j hi hj hij b h1 h2 => ?_, fun i hi b hb e => ?_⟩
  · obtain ⟨e1, e2⟩ := hE i hi
    exact ⟨e1 ▸ (h.own _ (by omega)).lower (by omega), e2 ▸ (h.own _ (by omega)).lower (by omega), h.sep _ _ (by omega) (by omega) (by omega)⟩
  · rcases h1 with h1 | h1 <;> rcases h2 with h2 | h2
    · exact h.sep _ _ (by omega) (by omega) (by omega) b h1 h2
    · exact h.sep _ _ (by omega) (by omega) (by omega) b h1 h2
    · exact h.sep _ _ (by omega) (by omega) (by omega) b h1 h2
    · exact h.sep _ _ (by omega) (by omega) (by omega) b h1 h2
  · have hgb : g = b := by simpa [Value.ownBlock] using e
    rcases hb with hb | hb
    · have := ((h.own _ (by omega)).blk b hb).1
      omega
    · have := ((h.own _ (by omega)).blk b hb).1
      omega
theorem made_nil {n o : Nat} (ho : o < n * 2) : (madeCells (Value.agg #[.slice none 0 0, .slice none 0 0]).cells (n * 2)).toList[o]? = some (.slice none 0 0) := by
  rcases Nat.mod_two_eq_zero_or_one o with e | e <;> simp [madeCells, Value.cells, ho, e]
theorem RowW.made {w : World} {lo B g n : Nat} (hB : g < B) (h : w.ownsRow lo 74 2 (.slice (some ⟨g, 0, none⟩) n n) n (madeCells (Value.agg #[.slice none 0 0, .slice none 0 0]).cells (n * 2)).toList) : RowW w B g (n * 2) (fun _ => .slice none 0 0) (fun _ => []) :=
  ⟨⟨(h.lt g rfl).2, fun o ho => ⟨by rw [h.cellAt o ho]; exact made_nil ho, h.frozenAt o⟩⟩, hB, fun _ _ => Own.nil _ _, fun _ _ _ _ _ => Sep.nil _⟩

/-! ### the columns -/
/-- The list in cell o after the first m vectors of V. -/
def colE (V : List (List Int)) (m o : Nat) : List Int := colC V (o / 2) (if o % 2 = 0 then 0 else 2) m
/-- .. and after the first i numbers of the next one. -/
def colM (V : List (List Int)) (m i o : Nat) : List Int := if o / 2 < i then colE V (m + 1) o else colE V m o
theorem colE_zero (V : List (List Int)) (o : Nat) : colE V 0 o = [] := rfl
theorem colM_zero (V : List (List Int)) (m o : Nat) : colM V m 0 o = colE V m o := by unfold colM; rw [if_neg (by omega)]
theorem colM_full {V : List (List Int)} {m k o : Nat} (h : o < k * 2) : colM V m k o = colE V (m + 1) o := by unfold colM; rw [if_pos (by omega)]
theorem colE_step {V : List (List Int)} {m o : Nat} {x : List Int} (hx : V[m]? = some x) : colE V (m + 1) o = colE V m o ++ (if x[o / 2]? = some (if o % 2 = 0 then 0 else 2) then [((m : Int) + 1)] else []) := by
  unfold colE
  rw [colC, hx]
  rfl
theorem colM_none {V : List (List Int)} {m i o : Nat} {x : List Int} (hx : V[m]? = some x) (h0 : x[i]? ≠ some 0) (h2 : x[i]? ≠ some 2) : colM V m i o = colM V m (i + 1) o := by
  unfold colM
  by_cases e : o / 2 < i
  · rw [if_pos e, if_pos (by omega)]
  · rw [if_neg e]
    by_cases e' : o / 2 < i + 1
    · have e2 : o / 2 = i := by omega
      rw [if_pos e', colE_step hx, e2]
      by_cases e3 : o % 2 = 0
      · rw [if_pos e3, if_neg h0, List.append_nil]
      · rw [if_neg e3, if_neg h2, List.append_nil]
    · rw [if_neg e']
theorem colM_at {V : List (List Int)} {m i c o : Nat} {x : List Int} (hx : V[m]? = some x) (hc : c = 0 ∨ c = 1) (hv : x[i]? = some (if c = 0 then 0 else 2)) :
    (if o = i * 2 + c then colM V m i (i * 2 + c) ++ [((m : Int) + 1)] else colM V m i o) = colM V m (i + 1) o := by
  have hne : (if c = 0 then (0 : Int) else 2) ≠ (if c = 0 then 2 else 0) := by rcases hc with rfl | rfl <;> decide
  by_cases e : o = i * 2 + c
  · rw [if_pos e]
    subst e
    have d1 : (i * 2 + c) / 2 = i := by omega
    have d2 : (i * 2 + c) % 2 = c := by omega
    unfold colM
    rw [if_neg (by omega), if_pos (by omega), colE_step hx, d1, d2, hv, if_pos rfl]
  · rw [if_neg e]
    unfold colM
    by_cases e1 : o / 2 < i
    · rw [if_pos e1, if_pos (by omega)]
    · rw [if_neg e1]
      by_cases e2 : o / 2 < i + 1
      · rw [if_pos e2, colE_step hx]
        have e3 : o / 2 = i := by omega
        rw [e3, hv]
        have e4 : (if o % 2 = 0 then (0 : Int) else 2) = (if c = 0 then 2 else 0) := by
          rcases hc with rfl | rfl
          · rw [if_neg (by omega), if_pos rfl]
          · rw [if_pos (by omega), if_neg (by omega)]
        rw [e4, if_neg (by intro h; exact hne (Option.some.inj h)), List.append_nil]
      · rw [if_neg e2]
theorem colE_len (V : List (List Int)) (m o : Nat) : (colE V m o).length ≤ m := colC_len _ _ _ _
theorem colM_len (V : List (List Int)) (m i o : Nat) : (colM V m i o).length ≤ m + 1 := by
  unfold colM
  split
  · exact colE_len _ _ _
  · have := colE_len V m o; omega

/-! ### the vectors of the coins -/
theorem step_coin : ∀ k, k = 2 ∨ k = 3 → ∀ x ∈ allV k, stepB x = coinV k x := by
  rintro k (rfl | rfl) <;> decide
theorem filter_get {A : List (List Int)} {p : List Int → Bool} {j : Nat} (h : j < A.length) (hp : p A[j] = true) : (A.filter p)[((A.take j).filter p).length]? = some A[j] := by
  have e : A = A.take j ++ A[j] :: A.drop (j + 1) := by rw [← List.drop_eq_getElem_cons h, List.take_append_drop]
  have e2 : A.filter p = (A.take j).filter p ++ A[j] :: (A.drop (j + 1)).filter p := by
    conv => lhs; rw [e]
    rw [List.filter_append, List.filter_cons, if_pos hp]
  rw [e2, List.getElem?_append_right (Nat.le_refl _), Nat.sub_self]
  rfl
theorem filter_next {A : List (List Int)} {p : List Int → Bool} {j : Nat} (h : j < A.length) : ((A.take (j + 1)).filter p).length = ((A.take j).filter p).length + (if p A[j] = true then 1 else 0) := by
  rw [filter_take h, List.length_append]
  split <;> rfl
theorem vecD_cols (k : Nat) (hk : k = 2 ∨ k = 3) : (vecD k).length = k ∧ ((vecsL k).length : Int) = vecN k ∧ ∀ i (hi : i < (vecD k).length), colE (vecsL k) (vecsL k).length (i * 2) = (vecD k)[i].L ∧ colE (vecsL k) (vecsL k).length (i * 2 + 1) = (vecD k)[i].R := by
  rcases hk with rfl | rfl
  · refine ⟨rfl, rfl, fun i hi => ?_⟩
    rcases i with _ | _ | i
    · exact ⟨rfl, rfl⟩
    · exact ⟨rfl, rfl⟩
    · have : i + 1 + 1 < 2 := hi
      omega
  · refine ⟨rfl, rfl, fun i hi => ?_⟩
    rcases i with _ | _ | _ | i
    · exact ⟨rfl, rfl⟩
    · exact ⟨rfl, rfl⟩
    · exact ⟨rfl, rfl⟩
    · have : i + 1 + 1 + 1 < 3 := hi
      omega
end Go.Proofs.Ytbkhmlkicafheaa
