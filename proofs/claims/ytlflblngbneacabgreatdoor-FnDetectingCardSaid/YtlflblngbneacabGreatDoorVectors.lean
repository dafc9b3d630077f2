/- The contract of the model's list of the vectors of coins. Condition: two or three numbers a vector. -/
import Derived.Test.YtlflblngbneacabGreatDoorCountSpec
import Derived.Test.YtlflblngbneacabGreatDoorGWei
import Derived.Deep.QuietTactic
import Derived.BigQuiet
namespace Go.Proofs.YtlflblngbneacabGreatDoor
open Go.RowKit

/-- A slice value of integers that lies somewhere. -/
def SrcAt (w : World) (v : Value) (l : List Int) : Prop := IntsAt w v l ∧ ∃ k n c, v = .slice (some k) n c
theorem SrcAt.below {w w' : World} {v : Value} {l : List Int} (h : SrcAt w v l) (hb : Below w.heap.size w w') : SrcAt w' v l := ⟨h.1.below hb, h.2⟩
theorem SrcAt.src {w : World} {v : Value} {l : List Int} (h : SrcAt w v l) : ∃ ad c, v = .slice (some ad) l.length c ∧ ∀ j u, (l.map (Value.int .i64))[j]? = some u → w.cell? (ad.add j) = some u := by
  obtain ⟨⟨a, cap, rfl, h⟩, k, n, c, e⟩ := h
  cases e
  refine ⟨k, cap, rfl, fun j u hj => ?_⟩
  rcases h with rfl | ⟨b, o, e, hc⟩
  · simp at hj
  · cases e
    obtain ⟨h1, h2⟩ := List.getElem?_eq_some_iff.1 hj
    rw [List.length_map] at h1
    rw [List.getElem_map] at h2
    rw [← h2, Addr.add_lit]
    exact hc j h1
theorem SrcAt.blk {w : World} {v : Value} {l : List Int} (h : SrcAt w v l) (hl : l ≠ []) : Blk (· < w.heap.size) v := by
  obtain ⟨⟨a, cap, rfl, h⟩, k, n, c, e⟩ := h
  cases e
  rcases h with rfl | ⟨b, o, e, hc⟩
  · exact absurd rfl hl
  · cases e
    intro q hq
    have h0 := hc 0 (List.length_pos_iff.2 hl)
    have e : b = q := by simpa [Value.ownBlock] using hq
    subst e
    exact World.block_lt_of_cell? w _ h0
theorem SrcAt.of {w : World} {v : Value} {l : List Int} (h : IntsAt w v l) (hl : l ≠ []) : SrcAt w v l := by
  refine ⟨h, ?_⟩
  obtain ⟨a, cap, rfl, h⟩ := h
  rcases h with rfl | ⟨b, o, rfl, hc⟩
  · exact absurd rfl hl
  · exact ⟨_, _, _, rfl⟩
theorem rowForm {w : World} {B e s n : Nat} {v : Value} {xs : List Value} (h : w.ownsRow B e s v n xs) : ∃ a m c, v = .slice a m c := by
  rcases h.2 with ⟨rfl, _⟩ | ⟨g, c, cur, rfl, _⟩
  · exact ⟨none, 0, 0, rfl⟩
  · exact ⟨_, _, _, rfl⟩

/-- The slice value v reads as the lists of V. -/
def ListsAt (w : World) (v : Value) (V : List (List Int)) : Prop :=
  ∃ a cap, v = .slice a V.length cap ∧ ∀ i (h : i < V.length), ∃ g u, a = some ⟨g, 0, none⟩ ∧ w.cell? ⟨g, i, none⟩ = some u ∧ SrcAt w u V[i] ∧ g < w.heap.size
theorem ListsAt.below {w w' : World} {v : Value} {V : List (List Int)} (h : ListsAt w v V) (hb : Below w.heap.size w w') : ListsAt w' v V := by
  obtain ⟨a, cap, rfl, h⟩ := h
  refine ⟨a, cap, rfl, fun i hi => ?_⟩
  obtain ⟨g, u, e, h1, h2, h3⟩ := h i hi
  exact ⟨g, u, e, by rw [hb.cell (p := ⟨g, i, none⟩) h3]; exact h1, h2.below hb, Nat.lt_of_lt_of_le h3 hb.size⟩
theorem ListsAt.form {w : World} {v : Value} {V : List (List Int)} (h : ListsAt w v V) : ∃ a c, v = .slice a V.length c := by
  obtain ⟨a, c, rfl, -⟩ := h
  exact ⟨a, c, rfl⟩
theorem ListsK.reads {w : World} {lo : Nat} {ov : Value} {S : List (List Int)} {us : List Value} (h : ListsK w lo ov S us) (hs : ∀ s ∈ S, s ≠ []) : ListsAt w ov S := by
  rcases h.2.1.2 with ⟨h0, hn⟩ | ⟨g, cap, cur, h0, _⟩
  · exact ⟨none, 0, by rw [h0, hn], fun i hi => by omega⟩
  · have h1 := h.2.1
    subst h0
    refine ⟨_, cap, rfl, fun i hi => ?_⟩
    have hi' : i < us.length := by rw [h.1]; exact hi
    exact ⟨g, us[i], rfl, by rw [h1.cellAt i (by omega), List.getElem?_eq_getElem hi'], SrcAt.of (h.2.2 i hi hi').1 (hs _ (List.getElem_mem hi)), (h1.lt g rfl).2⟩
theorem ListsK.form {w : World} {lo : Nat} {ov : Value} {S : List (List Int)} {us : List Value} (h : ListsK w lo ov S us) : ∃ a c, ov = .slice a S.length c := by
  rcases h.2.1.2 with ⟨h0, hn⟩ | ⟨g, cap, cur, h0, _⟩
  · exact ⟨none, 0, by rw [h0, hn]⟩
  · exact ⟨_, cap, h0⟩


/-- Each list with each of three numbers behind it. -/
def extV (V : List (List Int)) : List (List Int) := V.flatMap fun v => [v ++ [0], v ++ [1], v ++ [2]]
/-- All lists of so many numbers from 0 to 2. -/
def allV : Nat → List (List Int)
  | 0 => [[]]
  | i + 1 => extV (allV i)
theorem extV_take {V : List (List Int)} {j : Nat} (h : j < V.length) : extV (V.take (j + 1)) = extV (V.take j) ++ [V[j] ++ [0], V[j] ++ [1], V[j] ++ [2]] := by
  unfold extV
  rw [List.take_succ_eq_append_getElem h, List.flatMap_append]
  simp
theorem extV_len (V : List (List Int)) : (extV V).length = 3 * V.length := by
  induction V with
  | nil => rfl
  | cons v r ih => simp [extV] at ih ⊢; omega
theorem allV_len (i : Nat) (h : i ≤ 3) : (allV i).length ≤ 27 ∧ ∀ v ∈ allV i, v.length = i ∧ ∀ x ∈ v, 0 ≤ x ∧ x ≤ 2 := by
  match i, h with
  | 0, _ => decide
  | 1, _ => decide
  | 2, _ => decide
  | 3, _ => decide
theorem extV_ne {V : List (List Int)} : ∀ s ∈ extV V, s ≠ [] := by
  intro s hs
  unfold extV at hs
  rw [List.mem_flatMap] at hs
  obtain ⟨v, _, h⟩ := hs
  simp at h
  rcases h with rfl | rfl | rfl <;> simp
/-- The first place from j on at which the next number differs. -/
def diffF (v : List Int) (k : Nat) : Nat → Nat → Nat
  | 0, j => j
  | f + 1, j => if j + 1 < k ∧ v[j + 1]? = v[j]? then diffF v k f (j + 1) else j
/-- Whether a vector stands for a coin. -/
def coinV (k : Nat) (v : List Int) : Bool :=
  let j := diffF v k k 0
  decide (j + 1 < k) && decide (((v[j + 1]?.getD 0) - (v[j]?.getD 0) + 3) % 3 = 1)
/-- The vectors of the coins. -/
def vecsL (k : Nat) : List (List Int) := (allV k).filter (coinV k)

theorem filter_take {V : List (List Int)} {p : List Int → Bool} {j : Nat} (h : j < V.length) : (V.take (j + 1)).filter p = (V.take j).filter p ++ (if p V[j] = true then [V[j]] else []) := by
  rw [List.take_succ_eq_append_getElem h, List.filter_append]
  congr 1
  by_cases e : p V[j] = true
  · simp [e]
  · simp [e]
theorem intsOwn {w : World} {B i : Nat} {v : Value} (x : List Int) (y : Int) (hi : x.length = i) (h : w.ownsRow B 3 1 v (0 + i + 1) (([] ++ x.map (Value.int .i64)) ++ [.int .i64 y])) : IntsAt w v (x ++ [y]) := by
  have e : w.ownsRow B 3 1 v (x ++ [y]).length ((x ++ [y]).map (Value.int .i64)) := by
    rw [List.length_append, List.map_append, hi]
    simpa using h
  exact IntsAt.of_owns e
theorem listsRow {w : World} {lo n : Nat} {v : Value} {S : List (List Int)} {us : List Value} (h : ListsK w lo v S us) (hn : S.length = n) : w.ownsRow lo 26 1 v n us := by
  rw [← hn]; exact h.2.1

end Go.Proofs.YtlflblngbneacabGreatDoor
