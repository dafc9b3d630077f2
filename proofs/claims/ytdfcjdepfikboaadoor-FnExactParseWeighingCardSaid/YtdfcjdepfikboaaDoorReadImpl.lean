/- The contract of the program's reading of a list of numbers: it returns the list whose text is given, or none. Conditions: the text has at most 1048576 bytes; strconv's table and errors are as the program's text lays them. -/
import Derived.Test.YtdfcjdepfikboaaDoorParseImpl
import Derived.Test.YtdfcjdepfikboaaDoorReadListSpec
namespace Go.Proofs.YtdfcjdepfikboaaDoor
open Go.RowKit

/-- What the program's ParseInt asks of a world: strconv's table and its two errors lie there. -/
structure ParOk (w : World) : Prop where
  tab : TabOk w
  syn : SentOk w "strconv.ErrSyntax"
  ran : SentOk w "strconv.ErrRange"
theorem ParOk.below {W W' : World} (h : ParOk W) (hb : Below W.heap.size W W') : ParOk W' := ⟨h.tab.below hb, SentOk.below (g := 1) (by kernel_rfl) h.syn hb, SentOk.below (g := 2) (by kernel_rfl) h.ran hb⟩
theorem implParseG (s : ByteArray) (w : World) (hs : s.size ≤ 1048576) (h : ParOk w) : Calls Tryd.prog 41 #[.string s] w (Ans s w) := implParse s w hs h.tab h.syn h.ran

set_option maxRecDepth 100000 in
set_option maxHeartbeats 1600000 in
theorem implReadL (s : ByteArray) (w : World) (hs : s.size ≤ 1048576) (ht : ParOk w) : Calls Tryd.prog 26 #[.string s] w (ReadsL s w) := by
  obtain ⟨i0, hi, hz0, hz1, hz2⟩ := info_parts infoIntR
  have SPL := Lib.hid (fun W => implSplit s comma W hs)
  have hL := (parts_length s (isBy comma)).2
  have HZ : Hid (∀ x ∈ parts s (isBy comma), x.size ≤ 1048576) := fun x hx => Nat.le_trans (parts_size s _ x hx) hs
  unfold ReadsL
  unfold Splits at SPL
  generalize parts s (isBy comma) = P at hL SPL HZ ⊢
  have hPm : P.length ≤ 1048577 := by omega
  clear hL
  have HT0 := Lib.hid ht
  clear ht
  go_enter Tryd.func26, Tryd.ntmps26
  go_wp2_with fail
  refine (SPL.out w).mono ?_
  rintro e w1 ⟨vp, rfl, OP, b1⟩
  have SP := Lib.hid (StrsAt.of_owns OP)
  have B1 := Lib.hid b1
  have S1 : Hid (w.heap.size ≤ w1.heap.size) := b1.size
  have BP : Hid (Blk (fun k => k < w1.heap.size) vp) := fun k hk => (OP.lt k hk).2
  have HT1 := Lib.hid (HT0.out.below b1)
  clear OP b1 HT0
  obtain ⟨ap, cp, rfl, hc⟩ := SP.out
  have H : Hid (∀ i (h : i < P.length), ∃ b o, ap = some ⟨b, o, none⟩ ∧ w1.cell? ⟨b, o + i, none⟩ = some (.string P[i])) := by
    intro i hi
    rcases hc with rfl | ⟨b, o, rfl, hc⟩
    · simp at hi
    · exact ⟨b, o, rfl, hc i hi⟩
  clear hc
  obtain ⟨n, hn⟩ : ∃ n, P.length = n := ⟨_, rfl⟩
  rw [hn] at hPm BP ⊢
  have HN := Lib.hid hn
  clear hn
  go_wp2
  go_loopw [4, 6, 7, 8, 12] (fun v _ _ _ i wr => ∃ (k : Nat) (ps : List Int), k ≤ n ∧ i = .int .i64 k ∧ ps.length ≤ k ∧ Hid ((∀ x ∈ ps, inR x) ∧ P.take k = ps.map fmtB) ∧ Own wr w.heap.size v ps ∧ Hid (Blk (fun j => w1.heap.size ≤ j) v) ∧ Hid (Only (fun j => w1.heap.size ≤ j) w1 wr)) (fun _ _ _ _ i _ => n - (intOf i).toNat)
  case atStart => exact ⟨0, [], Nat.zero_le _, rfl, Nat.le_refl _, ⟨by simp, by simp⟩, Own.nil _ _, fun j hj => by simp [Value.ownBlock] at hj, Only.refl _ _⟩
  case round =>
    obtain ⟨k, ps, hk, rfl, hps, HS, hown, HB, HO⟩ := hrel
    have hsz := HO.out.size
    by_cases hlt : k < n
    · have hkl : k < P.length := by rw [HN.out]; exact hlt
      obtain ⟨b, o, rfl, e0⟩ := H.out k hkl
      have hbl : b < w1.heap.size := World.block_lt_of_cell? w1 _ e0
      have hb0 : ¬ (w1.heap.size ≤ b) := by have := BP.out b rfl; omega
      obtain ⟨x, hx⟩ : ∃ x, P[k] = x := ⟨_, rfl⟩
      rw [hx] at e0
      have e1 : wr.cell? ⟨b, o + k, none⟩ = some (.string x) := by rw [World.cell?_of_block (w := w1) (a := ⟨b, o + k, none⟩) (HO.out.block b hbl hb0)]; exact e0
      have C := Lib.hid (fun W ht => implParseG x W (HZ.out x (by rw [← hx]; exact List.getElem_mem hkl)) ht)
      unfold Ans at C
      have HN1 : Hid (∀ r, IsAns x r false → IsL P [] false) := fun r h => isL_bad hkl hx h
      have HN2 : Hid (∀ r, IsAns x r true → (∀ y ∈ ps ++ [r], inR y) ∧ P.take (k + 1) = (ps ++ [r]).map fmtB) := fun r h => by
        rcases h with ⟨_, h1, h2⟩ | ⟨h, _⟩
        · refine ⟨fun y hy => ?_, ?_⟩
          · simp only [List.mem_append, List.mem_singleton] at hy
            rcases hy with hy | rfl
            · exact HS.out.1 y hy
            · exact h1
          · rw [List.take_succ_eq_append_getElem hkl, HS.out.2, hx, List.map_append, ← h2]; rfl
        · cases h
      have i0' : (0 : Int) ≤ (k : Int) := by omega
      have i1 : (k : Int) < (n : Int) := by omega
      clear e0 hbl hb0 hx hkl
      go_wp2_with fail
      refine (C.out _ (HT1.out.below (HO.out.below (Nat.le_refl _) (fun j hj => hj)))).mono ?_
      rintro e w2 ⟨r, b', rfl, hA, hb2⟩
      have HO2 := Lib.hid (HO.out.trans (Only.fresh hb2))
      have hown2 := hown.below hb2
      have hsz2 : w1.heap.size ≤ w2.heap.size := Nat.le_trans hsz hb2.size
      have hS1 := S1.out
      clear hb2 hown
      cases b' with
      | false =>
        have HR := Lib.hid (HN1.out r hA)
        clear hA
        go_wp2
        go_ret2
        exact ⟨_, false, [], rfl, HR.out, Own.nil _ _, B1.out.trans (HO2.out.below (by omega) (fun j hj => by omega))⟩
      | true =>
        have HR := Lib.hid (HN2.out r hA)
        clear hA
        unfold Own at hown2
        go_wp2_with (at_builtin; refine wpList_append_own_at _ rfl _ _ 22 rfl w.heap.size 3 i0 (.int .i64 0) 1 8 Tryd.underlying22 hi hz0 hz1 hz2 rfl (by decide) _ _ _ rfl (hown2.alloc _) ⟨w2.heap.size, 0, none⟩ 1 1 [.int .i64 r] rfl rfl (cell_one_new _ _ _) (by simp [Value.oneCell']) (by unfold maxLen; omega) (by omega) (by simp; omega) ?_; intro v' w3 hown' hg1 _ hat)
        have HOwn : Hid (Own w3 w.heap.size v' (ps ++ [r])) := by unfold Hid Own; simpa using hown'
        have HB3 : Hid (Blk (fun j => w1.heap.size ≤ j) v') := fun j hj => by
          rcases hat with e | e
          · exact HB.out j (e ▸ hj)
          · rw [e] at hj; simp at hj; omega
        have HO3 : Hid (Only (fun j => w1.heap.size ≤ j) w1 w3) :=
          (HO2.out.trans (Only.fresh (alloc_below _ _))).trans ((Only.of_grown hg1).mono fun j hj => HB.out j hj)
        clear hown' hg1 hat
        go_wp2
        go_roundw
        case rel => exact ⟨k + 1, _, by omega, by go_num, by simp; omega, HR, HOwn.out, HB3, HO3⟩
        case measure => simp [intOf]; omega
    · have HR : Hid (IsL P ps true) := by
        have := HS.out
        rw [List.take_of_length_le (by rw [HN.out]; omega)] at this
        exact .inl ⟨rfl, this.1, this.2⟩
      have hS1 := S1.out
      go_wp2
      go_ret2
      exact ⟨_, true, ps, rfl, HR.out, hown, B1.out.trans (HO.out.below (by omega) (fun j hj => by omega))⟩
end Go.Proofs.YtdfcjdepfikboaaDoor
