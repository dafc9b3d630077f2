/- The contracts of the program's copyInts and firstStepsUp: a copy of a list; whether the first change in a vector leads to the next number. Conditions: the list reads as integers and is short; the vector's numbers are from 0 to 2. -/
import Derived.Test.YtlflblngbneacabGreatDoorVectors
namespace Go.Proofs.YtlflblngbneacabGreatDoor
open Go.RowKit

/-- Whether the first change leads to the next number. -/
def stepB : List Int → Bool
  | a :: b :: r => if b = a then stepB (b :: r) else decide (b = (a + 1) % 3)
  | _ => false
theorem stepB_at {l : List Int} {i : Nat} (h : i + 1 < l.length) : stepB (l.drop i) = if l[i + 1] = l[i] then stepB (l.drop (i + 1)) else decide (l[i + 1] = (l[i] + 1) % 3) := by
  have h0 : i < l.length := by omega
  have e : l.drop i = l[i] :: l[i + 1] :: l.drop (i + 2) := by
    rw [List.drop_eq_getElem_cons h0, List.drop_eq_getElem_cons h]
  have e1 : l.drop (i + 1) = l[i + 1] :: l.drop (i + 2) := List.drop_eq_getElem_cons h
  rw [e, e1]
  rfl
theorem stepB_end {l : List Int} {i : Nat} (h : l.length ≤ i + 1) : stepB (l.drop i) = false := by
  have : (l.drop i).length ≤ 1 := by simp; omega
  rcases hd : l.drop i with _ | ⟨a, _ | ⟨b, r⟩⟩
  · rfl
  · rfl
  · rw [hd] at this; simp at this

/-! ### a copy -/
set_option maxHeartbeats 800000 in
theorem implCopyI (v : Value) (l : List Int) (w : World) (h : IntsAt w v l) (hm : l.length ≤ 1000) :
    Calls Tryz.prog 75 #[v] w fun e w' => ∃ u, e = .returned u ∧ Own w' w.heap.size u l ∧ Below w.heap.size w w' := by
  obtain ⟨i0, hi, hz0, hz1, hz2⟩ := info_parts infoInt
  obtain ⟨a, c, rfl, hc⟩ := h
  have HO := Lib.hid (ints_one l)
  have HL : Hid ((l.map (Value.int .i64)).length = l.length * 1) := by unfold Hid; simp
  rcases a with _ | ad
  · obtain rfl : l = [] := by
      rcases hc with e | ⟨b, off, e, -⟩
      · exact e
      · cases e
    go_enter Tryz.func75, Tryz.ntmps75
    go_wp2
    go_ret
    exact ⟨_, rfl, Own.nil _ _, Below.refl _ _⟩
  · have HC : Hid (∀ j u, (l.map (Value.int .i64))[j]? = some u → w.cell? (ad.add j) = some u) := fun j u hj => by
      rcases hc with rfl | ⟨b, off, e, hc⟩
      · simp at hj
      · cases e
        obtain ⟨h1, h2⟩ := List.getElem?_eq_some_iff.1 hj
        rw [List.length_map] at h1
        rw [List.getElem_map] at h2
        rw [← h2, Addr.add_lit]
        exact hc j h1
    clear hc
    go_enter Tryz.func75, Tryz.ntmps75
    go_wp2_with (at_builtin; refine wpList_append_own_at _ rfl _ _ 26 rfl w.heap.size 3 i0 (.int .i64 0) 1 8 Tryz.underlying26 hi hz0 hz1 hz2 rfl (by decide) (.slice none 0 0) 0 [] rfl (World.ownsRow_nil _ _ _ _) ad l.length c (l.map (Value.int .i64)) rfl HL.out HC.out HO.out (by unfold maxLen; omega) (by omega) (Nat.le_refl _) ?_; intro v' w2 hown' hg1 _ _)
    have HW := Lib.hid hown'
    have HB : Hid (Below w.heap.size w w2) := Below.grown (Below.refl _ _) hg1 (Nat.le_refl _) (fun j hj => by simp [Value.ownBlock] at hj)
    clear hown' hg1
    go_wp2
    go_ret
    exact ⟨_, rfl, by unfold Own; simpa using HW.out, HB.out⟩
end Go.Proofs.YtlflblngbneacabGreatDoor
