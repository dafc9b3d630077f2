/- Several texts in one file; each says what it proves and under which condition. No condition. -/
import Derived.Test.YtlflblngbneacabGreatDoorGPool
import Derived.Test.YtlflblngbneacabGreatDoorPoolsSpec
/- Disjunct and separable pools, plainly. No condition. -/
namespace Go.Proofs.YtlflblngbneacabGreatDoor
open Go.RowKit

/-- All of so many numbers from one on. -/
def allFrom (f : Nat → Bool) : Nat → Nat → Bool
  | 0, _ => true
  | m + 1, a => f a && allFrom f m (a + 1)
/-- The first of so many numbers from one on that has something. -/
def seekF {α : Type} (f : Nat → Option α) : Nat → Nat → Option α
  | 0, _ => none
  | m + 1, a => (f a).or (seekF f m (a + 1))
theorem allFrom_step (f : Nat → Bool) {N a : Nat} (h : a < N) : allFrom f (N - a) a = (f a && allFrom f (N - (a + 1)) (a + 1)) := by
  rw [show N - a = (N - (a + 1)) + 1 by omega]
  rfl
theorem allFrom_end (f : Nat → Bool) {m : Nat} (a : Nat) (h : m = 0) : allFrom f m a = true := by subst h; rfl
theorem seekF_step {α : Type} (f : Nat → Option α) {N a : Nat} (h : a < N) : seekF f (N - a) a = (f a).or (seekF f (N - (a + 1)) (a + 1)) := by
  rw [show N - a = (N - (a + 1)) + 1 by omega]
  rfl
theorem seekF_end {α : Type} (f : Nat → Option α) {m : Nat} (a : Nat) (h : m = 0) : seekF f m a = none := by subst h; rfl

/-- Whether a pool holds the item and none of the set. -/
def freeB (P : List Int) (item set : Int) : Bool := P.any fun p => andI p item != 0 && andI p set == 0
def disAt (P : List Int) (d : Int) (k s : Nat) : Bool := !((andI s (2 ^ k) == 0 && decide (cntI s ≤ d)) && !freeB P (2 ^ k) s)
def okD (n : Int) (P : List Int) (d : Int) : Bool := poolsB n P && (decide (1 ≤ d) && decide (d ≤ 3))
def disR (n : Int) (P : List Int) (d : Int) : Bool := okD n P d && allFrom (fun k => allFrom (disAt P d k) (2 ^ n.toNat) 0) n.toNat 0
def sameAt (P : List Int) (d : Int) (a b : Nat) : Option (Int × Int) := if (decide (cntI b ≤ d) && (resL P a == resL P b)) = true then some ((a : Int), (b : Int)) else none
def weakA (P : List Int) (d : Int) (N a : Nat) : Option (Int × Int) := if cntI a ≤ d then seekF (sameAt P d a) (N - (a + 1)) (a + 1) else none
/-- Two sets that the pools do not tell apart. -/
def weakO (n : Int) (P : List Int) (d : Int) : Option (Int × Int) := if okD n P d = true then seekF (weakA P d (2 ^ n.toNat)) (2 ^ n.toNat) 0 else none
def weakL : Option (Int × Int) → List Int
  | none => []
  | some (a, b) => [a, b]
def sepR (n : Int) (P : List Int) (d : Int) : Bool := okD n P d && !(weakO n P d).isSome
theorem weakL_len : ∀ o, (weakL o).length ≤ 2
  | none => by decide
  | some (_, _) => Nat.le_refl _
theorem and_top {x y : Int} (h0 : 0 ≤ x) (h1 : x ≤ 1023) (g0 : 0 ≤ y) (g1 : y ≤ 1023) : 0 ≤ andI x y ∧ andI x y ≤ 1023 := by
  have := and_in h0 h1 g0 g1
  omega
end Go.Proofs.YtlflblngbneacabGreatDoor

/- The contracts of the model's TestPools, ConsistentSets, SurelyGood and SurelyBad. Conditions: the slices read as integers and as truth values, and are short enough to be counted. -/
namespace Go.Proofs.YtlflblngbneacabGreatDoor
open Go.RowKit

/-- What a function that tests pools gives back. -/
def TestsR (n : Int) (P : List Int) (bad : Int) (w : World) (e : Ending) (w' : World) : Prop :=
  ∃ u, e = .returned (.tuple #[u, .bool (testsB n P bad)]) ∧ OwnB w' w.heap.size u (testR n P bad) ∧ Below w.heap.size w w'
theorem OwnB.nil (X : World) (B : Nat) : OwnB X B (.slice none 0 0) [] := World.ownsRow_nil _ _ _ _
theorem TestsR.no {n : Int} {P : List Int} {bad : Int} {w w' : World} (h : testsB n P bad = false) (hb : Below w.heap.size w w') : TestsR n P bad w (.returned (.tuple #[.slice none 0 0, .bool false])) w' := by
  refine ⟨_, by rw [h], ?_, hb⟩
  unfold testR
  rw [h]
  exact OwnB.nil _ _
theorem TestsR.yes {n : Int} {P : List Int} {bad : Int} {w w' : World} {u : Value} (h : testsB n P bad = true) (ho : OwnB w' w.heap.size u (resL P bad)) (hb : Below w.heap.size w w') : TestsR n P bad w (.returned (.tuple #[u, .bool true])) w' := by
  refine ⟨u, by rw [h], ?_, hb⟩
  unfold testR
  rwa [h]

theorem beq_len {A B : List Bool} (h : A.length ≠ B.length) : (A == B) = false := by
  rw [beq_eq_false_iff_ne]
  exact fun e => h (by rw [e])
/-- The sets among the first k. -/
def consK (P : List Int) (R : List Bool) (most : Int) (k : Nat) : List Int :=
  ((List.range k).map fun (j : Nat) => (j : Int)).filter fun b => decide (cntI b ≤ most) && (resL P b == R)
theorem consK_succ (P : List Int) (R : List Bool) (most : Int) (k : Nat) : consK P R most (k + 1) = if (decide (cntI k ≤ most) && (resL P k == R)) = true then consK P R most k ++ [(k : Int)] else consK P R most k := by
  unfold consK
  rw [List.range_succ, List.map_append, List.filter_append]
  simp only [List.map_cons, List.map_nil, List.filter_cons, List.filter_nil]
  split <;> simp
theorem consK_len (P : List Int) (R : List Bool) (most : Int) (k : Nat) : (consK P R most k).length ≤ k := by
  unfold consK
  refine Nat.le_trans (List.length_filter_le _ _) ?_
  simp
def ListsI2 (L : List Int) (w : World) (e : Ending) (w' : World) : Prop := ∃ v, e = .returned v ∧ Own w' w.heap.size v L ∧ Below w.heap.size w w'

theorem getD_at {α : Type} {l : List α} {k : Nat} (d : α) (h : k < l.length) : l.getD k d = l[k] := by
  rw [List.getD_eq_getElem?_getD, List.getElem?_eq_getElem h]
  rfl
end Go.Proofs.YtlflblngbneacabGreatDoor

/- The contracts of the model's IsDisjunct, Weakness and IsSeparable. Condition: the slice reads as integers. -/
namespace Go.Proofs.YtlflblngbneacabGreatDoor
open Go.RowKit

theorem pow_small {k : Nat} (h : k ≤ 10) : IntKind.i64.wrap (2 ^ k) = 2 ^ k ∧ (1 : Int) ≤ 2 ^ k ∧ (2 : Int) ^ k ≤ 1024 := by
  have := two_pow_in k h
  refine ⟨?_, this⟩
  rw [IntKind.wrap_i64]
  omega

theorem Own.lit2 (X : World) (B : Nat) (a b : Int) (hB : B ≤ X.heap.size) : Own (X.alloc (.cells #[.int .i64 a, .int .i64 b] 3)) B (.slice (some ⟨X.heap.size, 0, none⟩) 2 2) [a, b] :=
  World.ownsRow_lit (base := B) (e := 3) (size := 1) X #[.int .i64 a, .int .i64 b] 2 hB (by unfold maxLen; omega) rfl
/-- What a function that looks for two sets gives back. -/
def Weaks (o : Option (Int × Int)) (w : World) (e : Ending) (w' : World) : Prop :=
  ∃ u, e = .returned (.tuple #[u, .bool o.isSome]) ∧ Own w' w.heap.size u (weakL o) ∧ Below w.heap.size w w'
theorem Weaks.no {o : Option (Int × Int)} {w w' : World} (h : o = none) (hb : Below w.heap.size w w') : Weaks o w (.returned (.tuple #[.slice none 0 0, .bool false])) w' := by
  subst h
  exact ⟨_, rfl, Own.nil _ _, hb⟩
theorem Weaks.yes {o : Option (Int × Int)} {w w' : World} {a b : Int} {u : Value} (h : o = some (a, b)) (ho : Own w' w.heap.size u [a, b]) (hb : Below w.heap.size w w') : Weaks o w (.returned (.tuple #[u, .bool true])) w' := by
  subst h
  exact ⟨_, rfl, ho, hb⟩

end Go.Proofs.YtlflblngbneacabGreatDoor
