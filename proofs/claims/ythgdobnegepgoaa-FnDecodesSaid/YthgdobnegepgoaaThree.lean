/- Three lists of the call's own, in different blocks: one of them grows, the others stay. And a list parted by a function's values. No condition. -/
import Derived.Test.YthgdobnegepgoaaWeigh
namespace Go.Proofs.Ythgdobnegepgoaa
open Go.RowKit

/-- Three lists of the call's own, from block B on. -/
structure Three (W : World) (B : Nat) (v1 v2 v3 : Value) (a b c : List Int) : Prop where
  o1 : Own W B v1 a
  o2 : Own W B v2 b
  o3 : Own W B v3 c
  s12 : Sep v1 v2
  s13 : Sep v1 v3
  s23 : Sep v2 v3
theorem Three.swap12 {W : World} {B : Nat} {v1 v2 v3 : Value} {a b c : List Int} (h : Three W B v1 v2 v3 a b c) : Three W B v2 v1 v3 b a c := ⟨h.o2, h.o1, h.o3, h.s12.symm, h.s23, h.s13⟩
theorem Three.swap13 {W : World} {B : Nat} {v1 v2 v3 : Value} {a b c : List Int} (h : Three W B v1 v2 v3 a b c) : Three W B v3 v2 v1 c b a := ⟨h.o3, h.o2, h.o1, h.s23.symm, h.s13.symm, h.s12.symm⟩
theorem Three.below {W W' : World} {B : Nat} {v1 v2 v3 : Value} {a b c : List Int} (h : Three W B v1 v2 v3 a b c) (hb : Below W.heap.size W W') : Three W' B v1 v2 v3 a b c :=
  ⟨h.o1.below hb, h.o2.below hb, h.o3.below hb, h.s12, h.s13, h.s23⟩
theorem Three.lower {W : World} {B B' : Nat} {v1 v2 v3 : Value} {a b c : List Int} (h : Three W B v1 v2 v3 a b c) (hB : B' ≤ B) : Three W B' v1 v2 v3 a b c :=
  ⟨h.o1.lower hB, h.o2.lower hB, h.o3.lower hB, h.s12, h.s13, h.s23⟩

theorem Three.push {W X W2 : World} {B : Nat} {v1 v2 v3 v' : Value} {a b c : List Int} {x : Int} (h : Three W B v1 v2 v3 a b c) (hX : Below W.heap.size W X)
    (hown : W2.ownsRow B 3 1 v' (a.length + 1) (a.map (Value.int .i64) ++ [.int .i64 x])) (hg : X.grownBy W2 v1.ownBlock) (hat : v'.ownBlock = v1.ownBlock ∨ v'.ownBlock = some X.heap.size) : Three W2 B v' v2 v3 (a ++ [x]) b c := by
  have T := Only.of_grown hg
  have k2 : Blk (· < X.heap.size) v2 := fun k hk => Nat.lt_of_lt_of_le (h.o2.blk k hk).2 hX.size
  have k3 : Blk (· < X.heap.size) v3 := fun k hk => Nat.lt_of_lt_of_le (h.o3.blk k hk).2 hX.size
  have sep : ∀ u, Sep v1 u → Blk (· < X.heap.size) u → Sep v' u := fun u hs hb k h1 h2 => by
    rcases hat with e | e
    · exact hs k (e ▸ h1) h2
    · rw [e] at h1
      have := hb k h2
      have : X.heap.size = k := by simpa using h1
      omega
  refine ⟨?_, (h.o2.below hX).only T fun k hk e => h.s12 k e hk, (h.o3.below hX).only T fun k hk e => h.s13 k e hk, sep _ h.s12 k2, sep _ h.s13 k3, h.s23⟩
  unfold Own
  simpa using hown

theorem Own.lit (X : World) (B : Nat) (hB : B ≤ X.heap.size) : Own (X.alloc (.cells #[] 3)) B (.slice (some ⟨X.heap.size, 0, none⟩) 0 0) [] :=
  World.ownsRow_lit (base := B) (e := 3) (size := 1) X #[] 0 hB (by unfold maxLen; omega) rfl
theorem Own.nil (X : World) (B : Nat) : Own X B (.slice none 0 0) [] := World.ownsRow_nil _ _ _ _
theorem three_start (X : World) (B s : Nat) (hs : X.heap.size = s) (hB : B ≤ s) :
    Three (((X.alloc (.cells #[] 3)).alloc (.cells #[] 3)).alloc (.cells #[] 3)) B (.slice (some ⟨s, 0, none⟩) 0 0) (.slice (some ⟨s + 1, 0, none⟩) 0 0) (.slice (some ⟨s + 1 + 1, 0, none⟩) 0 0) [] [] [] := by
  subst hs
  refine ⟨((Own.lit X B hB).below (alloc_below _ _)).below (alloc_below _ _), ?_, ?_, ?_, ?_, ?_⟩
  · have := (Own.lit (X.alloc (.cells #[] 3)) B (by simp; omega)).below (alloc_below _ (.cells #[] 3))
    simpa using this
  · have := Own.lit ((X.alloc (.cells #[] 3)).alloc (.cells #[] 3)) B (by simp; omega)
    simpa using this
  all_goals
    intro k hk hk'
    simp [Value.ownBlock] at hk hk'
    omega
theorem three_nil (X : World) (B : Nat) : Three X B (.slice none 0 0) (.slice none 0 0) (.slice none 0 0) [] [] [] :=
  ⟨Own.nil _ _, Own.nil _ _, Own.nil _ _, Sep.nil _, Sep.nil _, Sep.nil _⟩

/-! ### a list parted by a function's values -/
def lessL (f : Int → Int) (l : List Int) : List Int := l.filter fun c => f c == -1
def evenL (f : Int → Int) (l : List Int) : List Int := l.filter fun c => f c == 0
def moreL (f : Int → Int) (l : List Int) : List Int := l.filter fun c => !(f c == -1) && !(f c == 0)

theorem filter_take_yes {p : Int → Bool} {l : List Int} {k : Nat} (h : k < l.length) (hp : p l[k] = true) : (l.take (k + 1)).filter p = (l.take k).filter p ++ [l[k]] := by
  rw [List.take_succ_eq_append_getElem h, List.filter_append]; simp [hp]
theorem filter_take_no {p : Int → Bool} {l : List Int} {k : Nat} (h : k < l.length) (hp : p l[k] = false) : (l.take (k + 1)).filter p = (l.take k).filter p := by
  rw [List.take_succ_eq_append_getElem h, List.filter_append]; simp [hp]
theorem filter_take_len (p : Int → Bool) (l : List Int) (k : Nat) : ((l.take k).filter p).length ≤ l.length :=
  Nat.le_trans (List.length_filter_le _ _) (by simp; omega)
theorem part_len (f : Int → Int) (l : List Int) : (lessL f l).length ≤ l.length ∧ (evenL f l).length ≤ l.length ∧ (moreL f l).length ≤ l.length :=
  ⟨List.length_filter_le _ _, List.length_filter_le _ _, List.length_filter_le _ _⟩
end Go.Proofs.Ythgdobnegepgoaa
