/- The contracts of the program's copyInts and firstStepsUp: a copy of a list; whether the first change in a vector leads to the next number. Conditions: the list reads as integers and is short; the vector's numbers are from 0 to 2. -/
import Derived.Test.YtbkhmlkicafheaaVectors
namespace Go.Proofs.Ytbkhmlkicafheaa
open Go.RowKit

/-- Whether the first change leads to the next number. -/
def stepB : List Int → Bool
  | a :: b :: r => if b = a then stepB (b :: r) else decide (b = (a + 1) % 3)
  | _ => false
theorem stepB_at {l : List Int} {i : Nat} (h : i + 1 < l.length) : stepB (l.drop i) = if l[i + 1] = l[i] then stepB (l.drop (i + 1)) else decide (l[i + 1] = (l[i] + 1) % 3) := by
  have h0 : i < l.length := by omega
  have e : l.drop i = l[i] :: l[i + 1] :: l.drop (i + 2) := by
    rw [List.drop_eq_getElem_cons h0, List.drop_eq_getElem_cons h]
  have e1 : l.drop (i + 1) = l[i + 1] :: l.drop (i + 2) := List.drop_eq_getElem_cons h
  rw [e, e1]
  rfl
theorem stepB_end {l : List Int} {i : Nat} (h : l.length ≤ i + 1) : stepB (l.drop i) = false := by
  have : (l.drop i).length ≤ 1 := by simp; omega
  rcases hd : l.drop i with _ | ⟨a, _ | ⟨b, r⟩⟩
  · rfl
  · rfl
  · rw [hd] at this; simp at this

set_option maxRecDepth 100000 in
set_option maxHeartbeats 1600000 in
theorem implSteps (v : Value) (l : List Int) (w : World) (h : IntsAt w v l) (hm : l.length ≤ 100) (hx : ∀ x ∈ l, 0 ≤ x ∧ x ≤ 2) :
    Calls Try.prog 77 #[v] w fun e w' => e = .returned (.bool (stepB l)) ∧ Below w.heap.size w w' := by
  obtain ⟨a, cap, rfl, hc⟩ := h
  have HC := Lib.hid hc
  have HX := Lib.hid hx
  have HE : Hid (stepB l = stepB (l.drop 0)) := rfl
  generalize stepB l = r at HE ⊢
  obtain ⟨n, hn⟩ : ∃ n, l.length = n := ⟨_, rfl⟩
  rw [hn] at hm
  have HN := Lib.hid hn
  rw [hn]
  clear hc hx hn
  go_enter Try.func77, Try.ntmps77
  go_wp2
  go_loopw [3] (fun iv wr => ∃ s p : Nat, p = s + 1 ∧ s ≤ n ∧ iv = .int .i64 p ∧ Hid (r = stepB (l.drop s)) ∧ Below w.heap.size w wr) (fun iv _ => n + 1 - (intOf iv).toNat)
  case atStart => exact ⟨0, 1, rfl, by omega, by go_num, HE, Below.refl _ _⟩
  case round =>
    clear HE
    obtain ⟨s, p, hps, hs, rfl, HE, hb⟩ := hrel
    have HB := Lib.hid hb
    have HPS := Lib.hid hps
    by_cases hlt : p < n
    · have hp : p < l.length := by rw [HN.out]; exact hlt
      have hs' : s < l.length := by rw [HN.out]; omega
      obtain ⟨b, o, rfl, hcell⟩ : ∃ b off, a = some ⟨b, off, none⟩ ∧ ∀ i (h : i < l.length), w.cell? ⟨b, off + i, none⟩ = some (.int .i64 l[i]) := by
        rcases HC.out with e | h
        · rw [e] at hp; simp at hp
        · exact h
      have hbl : b < w.heap.size := World.block_lt_of_cell? w _ (hcell 0 (by omega))
      have c1 : wr.cell? ⟨b, o + p, none⟩ = some (.int .i64 l[p]) := by rw [hb.cell (p := ⟨b, o + p, none⟩) hbl]; exact hcell p hp
      have c0 : wr.cell? ⟨b, o + s, none⟩ = some (.int .i64 l[s]) := by rw [hb.cell (p := ⟨b, o + s, none⟩) hbl]; exact hcell s hs'
      have HT : Hid (stepB (l.drop s) = if l[p] = l[s] then stepB (l.drop p) else decide (l[p] = (l[s] + 1) % 3)) := by
        subst hps
        exact stepB_at (by omega)
      obtain ⟨x1a, x1b⟩ := HX.out l[p] (List.getElem_mem hp)
      obtain ⟨x0a, x0b⟩ := HX.out l[s] (List.getElem_mem hs')
      generalize l[p] = x1 at c1 HT x1a x1b
      generalize l[s] = x0 at c0 HT x0a x0b
      have i1 : (p : Int) < (n : Int) := by omega
      have i2 : (0 : Int) ≤ (p : Int) := by omega
      have i3 : (0 : Int) ≤ (s : Int) := by omega
      have i4 : (s : Int) < (n : Int) := by omega
      have iw : IntKind.i64.wrap ((p : Int) - 1) = (s : Int) := by rw [IntKind.wrap_i64]; omega
      clear hcell hp hs' hps hb
      by_cases hdd : x1 = x0
      · subst hdd
        have HF : Hid (r = stepB (l.drop p)) := by unfold Hid; rw [HE.out, HT.out, if_pos rfl]
        go_wp2
        go_quiet (fail)
        have B2 := Lib.hid (below_drewN HB.out nq)
        go_wp2
        go_roundw
        case rel => exact ⟨p, p + 1, rfl, by omega, by go_num, HF, B2.out⟩
        case measure => simp [intOf]; omega
      · have w1 : IntKind.i64.wrap (x0 + 1) = x0 + 1 := by rw [IntKind.wrap_i64]; omega
        obtain ⟨q, hq⟩ : ∃ q, (x0 + 1) % 3 = q := ⟨_, rfl⟩
        have w3 : (x0 + 1).tmod 3 = q := by rw [Int.tmod_eq_emod_of_nonneg (by omega)]; exact hq
        have w4 : IntKind.i64.wrap q = q := by rw [IntKind.wrap_i64]; omega
        have hdb : (x1 == x0) = false := by simpa using hdd
        have HF : Hid (r = decide (x1 = q)) := by unfold Hid; rw [HE.out, HT.out, if_neg hdd, hq]
        clear hq
        go_wp2
        go_quiet (fail)
        obtain ⟨q1, hq1⟩ : ∃ q1, q1 = nq := ⟨_, rfl⟩
        subst hq1
        go_wp2
        go_quiet (fail)
        have B2 := Lib.hid (below_drewN (below_drewN HB.out q1) nq)
        go_wp2
        go_ret
        refine ⟨ret_bool ?_, B2.out⟩
        rw [HF.out, Bool.eq_iff_iff, beq_iff_eq, decide_eq_true_eq]
    · have HF : Hid (r = false) := by unfold Hid; rw [HE.out, stepB_end (by rw [HN.out]; have := HPS.out; omega)]
      have i1 : ¬ ((p : Int) < (n : Int)) := by omega
      go_wp2
      go_ret
      exact ⟨ret_bool HF.out.symm, HB.out⟩

/-! ### a copy -/
set_option maxHeartbeats 800000 in
theorem implCopyI (v : Value) (l : List Int) (w : World) (h : IntsAt w v l) (hm : l.length ≤ 1000) :
    Calls Try.prog 94 #[v] w fun e w' => ∃ u, e = .returned u ∧ Own w' w.heap.size u l ∧ Below w.heap.size w w' := by
  obtain ⟨i0, hi, hz0, hz1, hz2⟩ := info_parts infoInt
  obtain ⟨a, c, rfl, hc⟩ := h
  have HO := Lib.hid (ints_one l)
  have HL : Hid ((l.map (Value.int .i64)).length = l.length * 1) := by unfold Hid; simp
  rcases a with _ | ad
  · obtain rfl : l = [] := by
      rcases hc with e | ⟨b, off, e, -⟩
      · exact e
      · cases e
    go_enter Try.func94, Try.ntmps94
    go_wp2
    go_ret
    exact ⟨_, rfl, Own.nil _ _, Below.refl _ _⟩
  · have HC : Hid (∀ j u, (l.map (Value.int .i64))[j]? = some u → w.cell? (ad.add j) = some u) := fun j u hj => by
      rcases hc with rfl | ⟨b, off, e, hc⟩
      · simp at hj
      · cases e
        obtain ⟨h1, h2⟩ := List.getElem?_eq_some_iff.1 hj
        rw [List.length_map] at h1
        rw [List.getElem_map] at h2
        rw [← h2, Addr.add_lit]
        exact hc j h1
    clear hc
    go_enter Try.func94, Try.ntmps94
    go_wp2_with (at_builtin; refine wpList_append_own_at _ rfl _ _ 39 rfl w.heap.size 3 i0 (.int .i64 0) 1 8 Try.underlying39 hi hz0 hz1 hz2 rfl (by decide) (.slice none 0 0) 0 [] rfl (World.ownsRow_nil _ _ _ _) ad l.length c (l.map (Value.int .i64)) rfl HL.out HC.out HO.out (by unfold maxLen; omega) (by omega) (Nat.le_refl _) ?_; intro v' w2 hown' hg1 _ _)
    have HW := Lib.hid hown'
    have HB : Hid (Below w.heap.size w w2) := Below.grown (Below.refl _ _) hg1 (Nat.le_refl _) (fun j hj => by simp [Value.ownBlock] at hj)
    clear hown' hg1
    go_wp2
    go_ret
    exact ⟨_, rfl, by unfold Own; simpa using HW.out, HB.out⟩
end Go.Proofs.Ytbkhmlkicafheaa
