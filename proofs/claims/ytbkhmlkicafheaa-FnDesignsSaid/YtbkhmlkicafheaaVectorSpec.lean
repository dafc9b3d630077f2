/- The contract of the model's VectorDesign: it returns the fixed designs for every argument. No condition. -/
import Derived.Test.YtbkhmlkicafheaaWdsRow
import Derived.Test.YtbkhmlkicafheaaVectors
import Derived.Test.YtbkhmlkicafheaaVectorLaw
namespace Go.Proofs.Ytbkhmlkicafheaa
open Go.RowKit

/-- The numbers, from 1 on, of the first m vectors whose n-th number is c. -/
def colC (V : List (List Int)) (n : Nat) (c : Int) : Nat → List Int
  | 0 => []
  | j + 1 => colC V n c j ++ (if (V[j]?.bind (·[n]?)) = some c then [((j : Int) + 1)] else [])
theorem colC_len (V : List (List Int)) (n : Nat) (c : Int) : ∀ m, (colC V n c m).length ≤ m
  | 0 => by simp [colC]
  | j + 1 => by
    have := colC_len V n c j
    unfold colC
    split <;> simp <;> omega
theorem cols_two : (List.range 2).map (fun n => (⟨colC (vecsL 2) n 0 3, colC (vecsL 2) n 2 3⟩ : WD)) = vecD 2 := by rfl
theorem cols_three : (List.range 3).map (fun n => (⟨colC (vecsL 3) n 0 12, colC (vecsL 3) n 2 12⟩ : WD)) = vecD 3 := by rfl
theorem vecs_len_two : (vecsL 2).length = 3 := by rfl
theorem vecs_len_three : (vecsL 3).length = 12 := by rfl

/-- The weighings of the first i numbers. -/
def colsL (V : List (List Int)) (m i : Nat) : List WD := (List.range i).map fun n => ⟨colC V n 0 m, colC V n 2 m⟩
theorem colsL_succ (V : List (List Int)) (m i : Nat) : colsL V m (i + 1) = colsL V m i ++ [⟨colC V i 0 m, colC V i 2 m⟩] := by
  unfold colsL; rw [List.range_succ, List.map_append]; rfl
theorem colsL_len (V : List (List Int)) (m i : Nat) : (colsL V m i).length = i := by simp [colsL]
/-- The weighing under way: its variable and its two lists. -/
structure Filling (w W : World) (b : Nat) (vl vr : Value) (L R : List Int) : Prop where
  var : VarAt W b vl vr
  ol : Own W (b + 1) vl L
  or_ : Own W (b + 1) vr R
  sep : Sep vl vr
  bel : Below w.heap.size w W
  lt : w.heap.size ≤ b
theorem Filling.left {w W X W2 : World} {b : Nat} {vl vr v' : Value} {L R : List Int} {x : Int} (d : Filling w W b vl vr L R) (hX : Below W.heap.size W X)
    (hown : W2.ownsRow (b + 1) 3 1 v' (L.length + 1) (L.map (Value.int .i64) ++ [.int .i64 x])) (hg : X.grownBy W2 vl.ownBlock) (hat : v'.ownBlock = vl.ownBlock ∨ v'.ownBlock = some X.heap.size) :
    Filling w (W2.setCell ⟨b, 0, none⟩ v') b v' vr (L ++ [x]) R := by
  have hlt := d.lt
  have xs := hX.size
  have dv := d.var.1.2.2
  have ws := d.bel.size
  have TX : Only (fun k => vl.ownBlock = some k) W W2 := (Only.fresh hX).trans (Only.of_grown hg)
  have own' : Own W2 (b + 1) v' (L ++ [x]) := by unfold Own; simpa using hown
  have bl : ∀ k, vl.ownBlock = some k → b + 1 ≤ k := fun k hk => (d.ol.blk k hk).1
  have var2 : VarAt W2 b vl vr := (d.var.below hX).grown hg fun e => by have := bl _ e; omega
  have or2 : Own W2 (b + 1) vr R := d.or_.only TX fun k hk e => d.sep k e hk
  refine ⟨var2.set0 _, own'.setCell (by omega) _, or2.setCell (by omega) _, ?_, ?_, hlt⟩
  · intro k h1 h2
    rcases hat with e | e
    · exact d.sep k (e ▸ h1) h2
    · rw [e] at h1
      have := (d.or_.blk k h2).2
      simp at h1
      omega
  · exact Below.setCell (d.bel.trans (TX.below (B := w.heap.size) (by omega) fun k hk => by have := bl k hk; omega)) hlt _
theorem Filling.right {w W X W2 : World} {b : Nat} {vl vr v' : Value} {L R : List Int} {x : Int} (d : Filling w W b vl vr L R) (hX : Below W.heap.size W X)
    (hown : W2.ownsRow (b + 1) 3 1 v' (R.length + 1) (R.map (Value.int .i64) ++ [.int .i64 x])) (hg : X.grownBy W2 vr.ownBlock) (hat : v'.ownBlock = vr.ownBlock ∨ v'.ownBlock = some X.heap.size) :
    Filling w (W2.setCell ⟨b, 1, none⟩ v') b vl v' L (R ++ [x]) := by
  have hlt := d.lt
  have xs := hX.size
  have dv := d.var.1.2.2
  have ws := d.bel.size
  have TX : Only (fun k => vr.ownBlock = some k) W W2 := (Only.fresh hX).trans (Only.of_grown hg)
  have own' : Own W2 (b + 1) v' (R ++ [x]) := by unfold Own; simpa using hown
  have bl : ∀ k, vr.ownBlock = some k → b + 1 ≤ k := fun k hk => (d.or_.blk k hk).1
  have var2 : VarAt W2 b vl vr := (d.var.below hX).grown hg fun e => by have := bl _ e; omega
  have ol2 : Own W2 (b + 1) vl L := d.ol.only TX fun k hk e => d.sep k hk e
  refine ⟨var2.set1 _, ol2.setCell (by omega) _, own'.setCell (by omega) _, ?_, ?_, hlt⟩
  · intro k h1 h2
    rcases hat with e | e
    · exact d.sep k h1 (e ▸ h2)
    · rw [e] at h2
      have := (d.ol.blk k h1).2
      simp at h2
      omega
  · exact Below.setCell (d.bel.trans (TX.below (B := w.heap.size) (by omega) fun k hk => by have := bl k hk; omega)) hlt _

end Go.Proofs.Ytbkhmlkicafheaa
