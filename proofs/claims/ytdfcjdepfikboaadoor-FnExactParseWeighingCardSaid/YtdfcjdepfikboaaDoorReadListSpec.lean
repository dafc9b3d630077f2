/- The contract of the model's reading of a list of numbers: it returns the list whose text is given, or none. Condition: the text has at most 1048576 bytes. -/
import Derived.Test.YtdfcjdepfikboaaDoorFmtWeighSpec
import Derived.Test.YtdfcjdepfikboaaDoorParse
import Derived.Test.YtdfcjdepfikboaaDoorSplitUniq
import Derived.Test.YtdfcjdepfikboaaDoorThree
namespace Go.Proofs.YtdfcjdepfikboaaDoor
open Go.RowKit

/-- l and b are the numbers of the pieces: all of them and true, or none and false. -/
def IsL (ps : List ByteArray) (l : List Int) (b : Bool) : Prop :=
  (b = true ∧ (∀ x ∈ l, inR x) ∧ ps = l.map fmtB) ∨ (b = false ∧ l = [] ∧ ∀ m : List Int, (∀ x ∈ m, inR x) → ps ≠ m.map fmtB)

/-- What the reading of a list ends with. -/
def ReadsL (s : ByteArray) (w : World) (e : Ending) (w' : World) : Prop :=
  ∃ v b l, e = .returned (.tuple #[v, .bool b]) ∧ IsL (parts s (isBy comma)) l b ∧ Own w' w.heap.size v l ∧ Below w.heap.size w w'

theorem infoIntR : (Tryd.prog.info? 3).map (fun i => (i.zero, i.size, i.bytes)) = some (some (.int .i64 0), 1, 8) := by kernel_rfl

theorem isL_bad {ps : List ByteArray} {k : Nat} {x : ByteArray} {r : Int} (hk : k < ps.length) (hx : ps[k] = x) (h : IsAns x r false) : IsL ps [] false := by
  refine .inr ⟨rfl, rfl, fun m hm e => ?_⟩
  rcases h with ⟨h, _⟩ | ⟨_, _, hn⟩
  · cases h
  · have hk' : k < m.length := by rw [e] at hk; simpa using hk
    have : fmtB m[k] = x := by rw [← hx]; simp [e]
    exact hn m[k] (hm _ (List.getElem_mem hk')) this

set_option maxRecDepth 100000 in
set_option maxHeartbeats 1600000 in
theorem specReadL (s : ByteArray) (w : World) (hs : s.size ≤ 1048576) : Calls Tryd.prog 24 #[.string s] w (ReadsL s w) := by
  obtain ⟨i0, hi, hz0, hz1, hz2⟩ := info_parts infoIntR
  have SPL := Lib.hid (fun W => specSplit s comma W hs (by decide))
  have hL := (parts_length s (isBy comma)).2
  have HZ : Hid (∀ x ∈ parts s (isBy comma), x.size ≤ 1048576) := fun x hx => Nat.le_trans (parts_size s _ x hx) hs
  unfold ReadsL
  unfold Splits at SPL
  generalize parts s (isBy comma) = P at hL SPL HZ ⊢
  have hPm : P.length ≤ 1048577 := by omega
  clear hL
  have O0 := Lib.hid (Own.lit w w.heap.size (Nat.le_refl _))
  have B0 := Lib.hid (alloc_below w (.cells #[] 3))
  generalize hX0 : w.alloc (.cells #[] 3) = X0 at O0 B0
  have s0 : X0.heap.size = w.heap.size + 1 := by rw [← hX0]; simp
  go_enter Tryd.func24, Tryd.ntmps24
  go_wp2_with fail
  refine (SPL.out X0).mono ?_
  rintro e w1 ⟨vp, rfl, OP, b1⟩
  have SP := Lib.hid (StrsAt.of_owns OP)
  have O1 := Lib.hid (O0.out.below b1)
  have B1 := Lib.hid (below_up B0.out b1)
  have S1 : Hid (w.heap.size + 1 ≤ w1.heap.size) := by unfold Hid; rw [← s0]; exact b1.size
  have BP : Hid (Blk (fun k => w.heap.size + 1 ≤ k ∧ k < w1.heap.size) vp) := fun k hk => by have := OP.lt k hk; omega
  clear OP b1 hX0
  obtain ⟨ap, cp, rfl, hc⟩ := SP.out
  have H : Hid (∀ i (h : i < P.length), ∃ b o, ap = some ⟨b, o, none⟩ ∧ w1.cell? ⟨b, o + i, none⟩ = some (.string P[i])) := by
    intro i hi
    rcases hc with rfl | ⟨b, o, rfl, hc⟩
    · simp at hi
    · exact ⟨b, o, rfl, hc i hi⟩
  clear hc
  obtain ⟨n, hn⟩ : ∃ n, P.length = n := ⟨_, rfl⟩
  rw [hn] at hPm BP ⊢
  have HN := Lib.hid hn
  clear hn
  go_wp2
  go_loopw [4, 6, 7, 8, 13] (fun v _ _ _ i wr => ∃ (k : Nat) (ps : List Int), k ≤ n ∧ i = .int .i64 k ∧ ps.length ≤ k ∧ Hid ((∀ x ∈ ps, inR x) ∧ P.take k = ps.map fmtB) ∧ Own wr w.heap.size v ps ∧ Hid (Blk (fun j => j = w.heap.size ∨ w1.heap.size ≤ j) v) ∧ Hid (Only (fun j => j = w.heap.size ∨ w1.heap.size ≤ j) w1 wr)) (fun _ _ _ _ i _ => n - (intOf i).toNat)
  case atStart => exact ⟨0, [], Nat.zero_le _, rfl, Nat.le_refl _, ⟨by simp, by simp⟩, O1.out, fun j hj => by simp [Value.ownBlock] at hj; omega, Only.refl _ _⟩
  case round =>
    clear s0
    obtain ⟨k, ps, hk, rfl, hps, HS, hown, HB, HO⟩ := hrel
    have hsz := HO.out.size
    by_cases hlt : k < n
    · have hkl : k < P.length := by rw [HN.out]; exact hlt
      obtain ⟨b, o, rfl, e0⟩ := H.out k hkl
      have hbl : b < w1.heap.size := World.block_lt_of_cell? w1 _ e0
      have hb0 : ¬ (b = w.heap.size ∨ w1.heap.size ≤ b) := by have := BP.out b rfl; omega
      obtain ⟨x, hx⟩ : ∃ x, P[k] = x := ⟨_, rfl⟩
      rw [hx] at e0
      have e1 : wr.cell? ⟨b, o + k, none⟩ = some (.string x) := by rw [World.cell?_of_block (w := w1) (a := ⟨b, o + k, none⟩) (HO.out.block b hbl hb0)]; exact e0
      have C := Lib.hid (fun W => specParse x W (HZ.out x (by rw [← hx]; exact List.getElem_mem hkl)))
      unfold Ans at C
      have HN1 : Hid (∀ r, IsAns x r false → IsL P [] false) := fun r h => isL_bad hkl hx h
      have HN2 : Hid (∀ r, IsAns x r true → (∀ y ∈ ps ++ [r], inR y) ∧ P.take (k + 1) = (ps ++ [r]).map fmtB) := fun r h => by
        rcases h with ⟨_, h1, h2⟩ | ⟨h, _⟩
        · refine ⟨fun y hy => ?_, ?_⟩
          · simp only [List.mem_append, List.mem_singleton] at hy
            rcases hy with hy | rfl
            · exact HS.out.1 y hy
            · exact h1
          · rw [List.take_succ_eq_append_getElem hkl, HS.out.2, hx, List.map_append, ← h2]; rfl
        · cases h
      have i0' : (0 : Int) ≤ (k : Int) := by omega
      have i1 : (k : Int) < (n : Int) := by omega
      clear e0 hbl hb0 hx hkl
      go_wp2_with fail
      refine (C.out _).mono ?_
      rintro e w2 ⟨r, b', rfl, hA, hb2⟩
      have HO2 := Lib.hid (HO.out.trans (Only.fresh hb2))
      have hown2 := hown.below hb2
      have hsz2 : w1.heap.size ≤ w2.heap.size := Nat.le_trans hsz hb2.size
      have hS1 := S1.out
      clear hb2 hown
      cases b' with
      | false =>
        have HR := Lib.hid (HN1.out r hA)
        clear hA
        go_wp2
        go_ret2
        exact ⟨_, false, [], rfl, HR.out, Own.nil _ _, B1.out.trans (HO2.out.below (by omega) (fun j hj => by rcases hj with h | h <;> omega))⟩
      | true =>
        have HR := Lib.hid (HN2.out r hA)
        clear hA
        unfold Own at hown2
        go_wp2_with (at_builtin; refine wpList_append_own_at _ rfl _ _ 22 rfl w.heap.size 3 i0 (.int .i64 0) 1 8 Tryd.underlying22 hi hz0 hz1 hz2 rfl (by decide) _ _ _ rfl (hown2.alloc _) ⟨w2.heap.size, 0, none⟩ 1 1 [.int .i64 r] rfl rfl (cell_one_new _ _ _) (by simp [Value.oneCell']) (by unfold maxLen; omega) (by omega) (by simp; omega) ?_; intro v' w3 hown' hg1 _ hat)
        have HOwn : Hid (Own w3 w.heap.size v' (ps ++ [r])) := by unfold Hid Own; simpa using hown'
        have HB3 : Hid (Blk (fun j => j = w.heap.size ∨ w1.heap.size ≤ j) v') := fun j hj => by
          rcases hat with e | e
          · exact HB.out j (e ▸ hj)
          · rw [e] at hj; simp at hj; omega
        have HO3 : Hid (Only (fun j => j = w.heap.size ∨ w1.heap.size ≤ j) w1 w3) :=
          (HO2.out.trans (Only.fresh (alloc_below _ _))).trans ((Only.of_grown hg1).mono fun j hj => HB.out j hj)
        clear hown' hg1 hat
        go_wp2
        go_roundw
        case rel => exact ⟨k + 1, _, by omega, by go_num, by simp; omega, HR, HOwn.out, HB3, HO3⟩
        case measure => simp [intOf]; omega
    · have HR : Hid (IsL P ps true) := by
        have := HS.out
        rw [List.take_of_length_le (by rw [HN.out]; omega)] at this
        exact .inl ⟨rfl, this.1, this.2⟩
      have hS1 := S1.out
      go_wp2
      go_ret2
      exact ⟨_, true, ps, rfl, HR.out, hown, B1.out.trans (HO.out.below (by omega) (fun j hj => by rcases hj with h | h <;> omega))⟩
end Go.Proofs.YtdfcjdepfikboaaDoor
