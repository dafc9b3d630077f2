/- Several texts in one file; each says what it proves and under which condition. No condition. -/
import Derived.Test.YtlflblngbneacabGreatDoorGSum
import Derived.Test.YtlflblngbneacabGreatDoorGSep
import Derived.Test.YtlflblngbneacabGreatDoorGWei
/- The search for the first list of detecting pools, plainly. No condition. -/
namespace Go.Proofs.YtlflblngbneacabGreatDoor
open Go.RowKit

/-- The first list of so many pools more, in ascending order, that detects all sets. -/
def searchS (n : Int) : Nat → List Nat → Option (List Nat)
  | 0, Q => if detF (natL Q) (2 ^ n.toNat) = true then some Q else none
  | l + 1, Q => seekF (fun p => searchS n l (Q ++ [p])) (2 ^ n.toNat - fromN Q) (fromN Q)
theorem seekF_some {α : Type} {f : Nat → Option α} : ∀ {m a : Nat} {x : α}, seekF f m a = some x → ∃ p, a ≤ p ∧ p < a + m ∧ f p = some x
  | 0, _, _, h => by cases h
  | m + 1, a, x, h => by
    unfold seekF at h
    cases hf : f a with
    | some y =>
      rw [hf] at h
      exact ⟨a, Nat.le_refl _, by omega, hf.trans h⟩
    | none =>
      rw [hf, Option.none_or] at h
      obtain ⟨p, h1, h2, h3⟩ := seekF_some h
      exact ⟨p, by omega, by omega, h3⟩
theorem searchS_len {n : Int} : ∀ {l : Nat} {Q L : List Nat}, searchS n l Q = some L → L.length = Q.length + l
  | 0, Q, L, h => by
    unfold searchS at h
    split at h
    · cases h; rfl
    · cases h
  | l + 1, Q, L, h => by
    obtain ⟨p, -, -, h3⟩ := seekF_some (f := fun p => searchS n l (Q ++ [p])) h
    have := searchS_len h3
    simp at this
    omega
/-- The first list of the fewest pools that detect all sets of n items. -/
def tabS (n : Nat) : List Nat := if n ≤ 1 then [1] else if n ≤ 2 then [1, 2] else if n ≤ 3 then [1, 2, 4] else [3, 5, 14]
theorem tab_none : ∀ n : Nat, n ≤ 3 → ∀ k : Nat, k < (tabS (n + 1)).length → searchS ((n + 1 : Nat) : Int) k [] = none := by decide +kernel
theorem tab_some : ∀ n : Nat, n ≤ 3 → searchS ((n + 1 : Nat) : Int) (tabS (n + 1)).length [] = some (tabS (n + 1)) := by decide +kernel
def firstB (n : Int) : Bool := decide (1 ≤ n) && decide (n ≤ 4)
def firstL (n : Int) : List Int := if firstB n = true then natL (tabS n.toNat) else []
def fewS (n : Int) : Int := if firstB n = true then ((tabS n.toNat).length : Int) else -1
theorem tab_len : ∀ n : Nat, n ≤ 3 → (tabS (n + 1)).length ≤ n + 1 := by decide
theorem tab_is {m : Nat} (h1 : 1 ≤ m) (h4 : m ≤ 4) : (∀ k : Nat, k < (tabS m).length → searchS (m : Int) k [] = none) ∧ searchS (m : Int) (tabS m).length [] = some (tabS m) ∧ (tabS m).length ≤ m := by
  obtain ⟨q, rfl⟩ : ∃ q, m = q + 1 := ⟨m - 1, by omega⟩
  exact ⟨tab_none q (by omega), tab_some q (by omega), tab_len q (by omega)⟩
theorem firstL_len (n : Int) : (firstL n).length ≤ 4 := by
  unfold firstL
  split
  · rename_i h
    unfold firstB at h
    simp only [Bool.and_eq_true, decide_eq_true_eq] at h
    have := (tab_is (m := n.toNat) (by omega) (by omega)).2.2
    rw [natL_len]
    omega
  · simp
end Go.Proofs.YtlflblngbneacabGreatDoor

/- The contracts of the model's search for detecting pools, FirstDetecting and FewestSums. No condition. -/
namespace Go.Proofs.YtlflblngbneacabGreatDoor
open Go.RowKit

theorem ownJoinS {w : World} {B i : Nat} {v : Value} (x : List Int) (y : Int) (hi : x.length = i) (h : w.ownsRow B 3 1 v (0 + i + 1) (([] ++ x.map (Value.int .i64)) ++ [.int .i64 y])) : Own w B v (x ++ [y]) := by
  unfold Own
  rw [List.length_append, List.map_append, hi]
  simpa using h
/-- What the search gives back. -/
def FoundS (o : Option (List Nat)) (B : Nat) (w : World) (e : Ending) (w' : World) : Prop :=
  ∃ u, e = .returned (.tuple #[u, .bool o.isSome]) ∧ (∀ L, o = some L → Own w' B u (natL L)) ∧ (∃ a m c, u = .slice a m c) ∧ Below w.heap.size w w'
theorem FoundS.no {B : Nat} {w w' : World} {a : Option Addr} {m c : Nat} (hb : Below w.heap.size w w') : FoundS none B w (.returned (.tuple #[.slice a m c, .bool false])) w' :=
  ⟨_, rfl, fun L h => (by cases h), ⟨_, _, _, rfl⟩, hb⟩
theorem FoundS.yes {B : Nat} {w w' : World} {a : Option Addr} {m c : Nat} {L : List Nat} (ho : Own w' B (.slice a m c) (natL L)) (hb : Below w.heap.size w w') : FoundS (some L) B w (.returned (.tuple #[.slice a m c, .bool true])) w' :=
  ⟨_, rfl, fun L' h => (by cases h; exact ho), ⟨_, _, _, rfl⟩, hb⟩
theorem pow_smallS {k : Nat} (h : k ≤ 10) : IntKind.i64.wrap (2 ^ k) = 2 ^ k ∧ (1 : Int) ≤ 2 ^ k ∧ (2 : Int) ^ k ≤ 1024 := by
  have := two_pow_in k h
  refine ⟨?_, this⟩
  rw [IntKind.wrap_i64]
  omega
theorem natL_pools {n : Int} {Q : List Nat} (n1 : 1 ≤ n) (n10 : n ≤ 10) (hl : Q.length ≤ 12) (hq : ∀ q ∈ Q, q < 2 ^ n.toNat) : poolsB n (natL Q) = true := by
  unfold poolsB itemsB
  rw [decide_eq_true n1, decide_eq_true n10, natL_len, decide_eq_true hl, Bool.and_self, Bool.true_and, Bool.true_and, List.all_eq_true]
  intro p hp
  unfold natL at hp
  rw [List.mem_map] at hp
  obtain ⟨q, h1, rfl⟩ := hp
  have h2 := hq q h1
  have hc : (2 : Int) ^ n.toNat = ((2 ^ n.toNat : Nat) : Int) := by push_cast; rfl
  unfold poolB topI
  rw [decide_eq_true (by omega), decide_eq_true (by omega)]
  rfl
theorem addr_some {w : World} {B : Nat} {v : Value} {l : List Int} (h : Own w B v l) (hl : 0 < l.length) : ∃ ad m c, v = .slice (some ad) m c := by
  rcases h.2 with ⟨_, h0⟩ | ⟨g, cap, cur, rfl, _⟩
  · omega
  · exact ⟨_, _, _, rfl⟩

end Go.Proofs.YtlflblngbneacabGreatDoor

/- The walks of the exact laws of SumPools, IsDetecting, DecodeSums, SumsTell, FirstDetecting and FewestSums round the contracts of the program's functions: each returns true for every argument. Condition: the slices that came in read as integers. -/
namespace Go.Proofs.YtlflblngbneacabGreatDoor
open Go.RowKit

/-- The contracts of the program's functions. -/
def SumPoolsIs (f : FuncId) (n : Int) (P : List Int) (b : Int) : Prop := ∀ W vP, IntsAt W vP P → Calls Tryz.prog f #[.int .i64 n, vP, .int .i64 b] W (GivesS (sumO n P b) (testsB n P b) W)
def IsDetectingIs (f : FuncId) (n : Int) (P : List Int) : Prop := ∀ W vP, IntsAt W vP P → Calls Tryz.prog f #[.int .i64 n, vP] W fun e w' => e = .returned (.bool (detB n P)) ∧ Below W.heap.size W w'
def DecodeSumsIs (f : FuncId) (n : Int) (P : List Int) (S : List Int) : Prop := ∀ W vP vS, IntsAt W vP P → IntsAt W vS S → Calls Tryz.prog f #[.int .i64 n, vP, vS] W (ListsS (decS n P S) W)
def SumsTellIs (f : FuncId) (n : Int) (P : List Int) : Prop := ∀ W vP, IntsAt W vP P → Calls Tryz.prog f #[.int .i64 n, vP] W fun e w' => e = .returned (.int .i64 (tellI n P)) ∧ Below W.heap.size W w'
def FirstDetectingIs (f : FuncId) (n : Int) : Prop := ∀ W, Calls Tryz.prog f #[.int .i64 n] W (GivesS (firstL n) (firstB n) W)
def FewestSumsIs (f : FuncId) (n : Int) : Prop := ∀ W, Calls Tryz.prog f #[.int .i64 n] W fun e w' => e = .returned (.int .i64 (fewS n)) ∧ Below W.heap.size W w'

end Go.Proofs.YtlflblngbneacabGreatDoor

/- The contract of the model's ExtendDetecting. Condition: the slice reads as integers. -/
namespace Go.Proofs.YtlflblngbneacabGreatDoor
open Go.RowKit

theorem det_none {N : Nat} (h : 2 ≤ N) : detF [] N = false := by
  obtain ⟨M, rfl⟩ : ∃ M, N = M + 2 := ⟨N - 2, by omega⟩
  unfold detF allFrom allFrom
  simp [allFrom, detAt, sumL]
theorem det_some {n : Int} {P : List Int} (h : detB n P = true) : 0 < P.length := by
  obtain ⟨⟨n1, n10⟩, -, -⟩ := pools_in (detB_in h)
  cases P with
  | nil =>
    unfold detB at h
    rw [det_none (by
      have h1 : 2 ^ 1 ≤ 2 ^ n.toNat := Nat.pow_le_pow_right (by decide) (by omega)
      exact h1), Bool.and_false] at h
    cases h
  | cons x t => simp
theorem ext_cells {w0 W : World} {b o k c : Nat} {P : List Int} (h : IntsAt w0 (.slice (some ⟨b, o, none⟩) k c) P) (hb : Below w0.heap.size w0 W) : ∀ j u, (P.map (Value.int .i64))[j]? = some u → W.cell? ((⟨b, o, none⟩ : Addr).add j) = some u := by
  intro j u hj
  obtain ⟨a, cap, hv, hh⟩ := h.below hb
  cases hv
  rw [List.getElem?_map] at hj
  rcases hh with rfl | ⟨b', o', ha, hc⟩
  · simp at hj
  · cases ha
    have hlt : j < P.length := by
      rcases Nat.lt_or_ge j P.length with h' | h'
      · exact h'
      · rw [List.getElem?_eq_none h'] at hj; simp at hj
    rw [List.getElem?_eq_getElem hlt] at hj
    simp at hj
    subst hj
    rw [Addr.add_lit]
    exact hc j hlt
theorem ownJoin2 {w : World} {B i : Nat} {v : Value} (x : List Int) (y : Int) (hi : x.length = i) (h : w.ownsRow B 3 1 v (i + 1) (x.map (Value.int .i64) ++ [.int .i64 y])) : Own w B v (x ++ [y]) := by
  unfold Own
  rw [List.length_append, List.map_append, hi]
  simpa using h
theorem own_ne {W : World} {B k : Nat} {v : Value} {xs : List Value} (h : W.ownsRow B 3 1 v k xs) (hk : 0 < k) : v ≠ .slice none 0 0 := by
  rintro rfl
  rcases h.2 with ⟨-, h0⟩ | ⟨g, cap, cur, h0, -⟩
  · omega
  · cases h0
theorem Bare.drew {W : World} {g : Nat} (h : Bare W g) : Bare W.drew g := h
theorem cell_drew {W : World} {q : Nat} {v : Value} (h : W.cell? ⟨q, 0, none⟩ = some v) : W.drew.cell? ⟨q, 0, none⟩ = some v := h
theorem cell_grown {W w1 : World} {row : Option Nat} {q : Nat} {v : Value} (hg : W.grownBy w1 row) (hc : W.cell? ⟨q, 0, none⟩ = some v) (hne : row ≠ some q) : w1.cell? ⟨q, 0, none⟩ = some v := by
  have hlt := World.block_lt_of_cell? W _ hc
  unfold World.cell? at hc ⊢
  rw [hg.block q hlt (Ne.symm hne)]
  exact hc
theorem cell_at_alloc (W : World) (t : TypeId) (v : Value) {q : Nat} (h : W.heap.size = q) : (W.alloc (.cells #[v] t)).cell? ⟨q, 0, none⟩ = some v := by
  subst h
  unfold World.alloc World.cell?
  simp
theorem cell_old_alloc {W : World} {q : Nat} {v : Value} (hc : W.cell? ⟨q, 0, none⟩ = some v) (x : Obj) : (W.alloc x).cell? ⟨q, 0, none⟩ = some v := by
  have hlt := World.block_lt_of_cell? W _ hc
  unfold World.cell? at hc ⊢
  rw [(alloc_below W x).block q hlt]
  exact hc
theorem one_cells {W : World} {q : Nat} {v : Value} (hc : W.cell? ⟨q, 0, none⟩ = some v) : ∀ j u, [v][j]? = some u → W.cell? ((⟨q, 0, none⟩ : Addr).add j) = some u := by
  intro j u hj
  cases j with
  | zero =>
    simp at hj
    subst hj
    rw [Addr.add_lit]
    exact hc
  | succ j => simp at hj

end Go.Proofs.YtlflblngbneacabGreatDoor

/- The walks of the exact laws of ExtendDetecting round the contracts of the program's functions: each returns true for every argument. Condition: the slices that came in read as integers. -/
namespace Go.Proofs.YtlflblngbneacabGreatDoor
open Go.RowKit

/-- The contracts of the program's functions. -/
def ExtendDetectingIs (f : FuncId) (n : Int) (P : List Int) : Prop := ∀ W vP, IntsAt W vP P → Calls Tryz.prog f #[.int .i64 n, vP] W (GivesS (extL n P) (extB n P) W)

end Go.Proofs.YtlflblngbneacabGreatDoor
