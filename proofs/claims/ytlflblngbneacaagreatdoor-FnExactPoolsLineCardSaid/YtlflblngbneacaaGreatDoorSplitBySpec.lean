/- The contracts of the model's SplitBy and TellsMost: three lists of the call's own, in different blocks. Conditions: the sides and the list of cases read as integers and are short enough to be counted. -/
import Derived.Test.YtlflblngbneacaaGreatDoorGWei
namespace Go.Proofs.YtlflblngbneacaaGreatDoor
open Go.RowKit

/-- What a function that parts a list into three gives back. -/
def Parts (f : Int → Int) (l : List Int) (w : World) (e : Ending) (w' : World) : Prop :=
  ∃ v1 v2 v3, e = .returned (.tuple #[v1, v2, v3]) ∧ Three w' w.heap.size v1 v2 v3 (lessL f l) (evenL f l) (moreL f l) ∧ Below w.heap.size w w'

set_option maxHeartbeats 3200000 in
theorem specSplitBy (vl vr vc : Value) (L R l : List Int) (w : World) (h1 : IntsAt w vl L) (h2 : IntsAt w vr R) (h3 : IntsAt w vc l) (ml : L.length ≤ 100000000) (mr : R.length ≤ 100000000) (mc : l.length ≤ 100000000)
    (hw : ∀ x ∈ l, -9223372036854775808 ≤ x ∧ x ≤ 9223372036854775807) : Calls Tryz.prog 20 #[.agg #[vl, vr], vc] w (Parts (outI L R) l w) := by
  obtain ⟨i0, hi, hz0, hz1, hz2⟩ := info_parts infoIntA
  have C := Lib.hid (fun (c : Int) W h h' c0 c1 => specOutcome vl vr L R c W h h' ml mr c0 c1)
  generalize outI L R = f at C ⊢
  obtain ⟨a, cc, rfl, hc⟩ := h3
  have H : Hid (∀ i (h : i < l.length), ∃ b o, a = some ⟨b, o, none⟩ ∧ w.cell? ⟨b, o + i, none⟩ = some (.int .i64 l[i])) := by
    intro i hi
    rcases hc with rfl | ⟨b, o, rfl, hc⟩
    · simp at hi
    · exact ⟨b, o, rfl, hc i hi⟩
  clear hc
  have HWF := Lib.hid hw
  clear hw
  have P1 := Lib.hid (TwoAt.new w 27 vl vr)
  have B1 := Lib.hid (alloc_below w (.cells #[vl, vr] 27))
  generalize hX1 : w.alloc (.cells #[vl, vr] 27) = X1 at P1 B1
  have s1 : X1.heap.size = w.heap.size + 1 := by rw [← hX1]; simp
  have H1 := Lib.hid h1
  have H2 := Lib.hid h2
  clear h1 h2
  obtain ⟨n, hn⟩ : ∃ n, l.length = n := ⟨_, rfl⟩
  rw [hn] at mc ⊢
  have HN := Lib.hid hn
  clear hn
  go_enter Tryz.func20, Tryz.ntmps20
  go_wp2
  go_loopw [7, 8, 9, 11, 17] (fun v1 v2 v3 _ i wr => ∃ k : Nat, k ≤ n ∧ i = .int .i64 k ∧ Hid (Three wr (w.heap.size + 1) v1 v2 v3 (lessL f (l.take k)) (evenL f (l.take k)) (moreL f (l.take k))) ∧ Below w.heap.size w wr ∧ Hid (TwoAt wr w.heap.size vl vr)) (fun _ _ _ _ i _ => n - (intOf i).toNat)
  case atStart => exact ⟨0, Nat.zero_le _, rfl, by simpa [Hid, lessL, evenL, moreL] using three_start X1 (w.heap.size + 1) (w.heap.size + 1) s1 (Nat.le_refl _), below_up (below_up (below_up B1.out (alloc_below _ _)) (alloc_below _ _)) (alloc_below _ _), ((P1.out.below (alloc_below _ _)).below (alloc_below _ _)).below (alloc_below _ _)⟩
  case round =>
    clear hX1 s1
    obtain ⟨k, hk, rfl, HT, hb, HP⟩ := hrel
    have hsz : w.heap.size + 1 ≤ wr.heap.size := HP.out.2.2
    by_cases hlt : k < n
    · have hkl : k < l.length := by rw [HN.out]; exact hlt
      obtain ⟨b, o, rfl, e0⟩ := H.out k hkl
      have hbl := World.block_lt_of_cell? w _ e0
      obtain ⟨x, hx⟩ : ∃ x, l[k] = x := ⟨_, rfl⟩
      rw [hx] at e0
      have e1 : wr.cell? ⟨b, o + k, none⟩ = some (.int .i64 x) := by rw [hb.cell (p := ⟨b, o + k, none⟩) hbl]; exact e0
      clear e0 hbl
      obtain ⟨q0, q1⟩ := HWF.out x (by rw [← hx]; exact List.getElem_mem hkl)
      have C2 := Lib.hid (fun W h h' => C.out x W h h' q0 q1)
      have HA := Lib.hid (H1.out.below hb)
      have HB := Lib.hid (H2.out.below hb)
      have HK := Lib.hid hlt
      have i0' : (0 : Int) ≤ (k : Int) := by omega
      have i1 : (k : Int) < (n : Int) := by omega
      obtain ⟨e0, e2, -⟩ := HP.out
      clear hk hlt
      by_cases g1 : f x = -1
      · have hfx := g1
        rw [hfx] at C2
        have HE1 : Hid (lessL f (l.take (k + 1)) = lessL f (l.take k) ++ [x]) := by unfold Hid lessL; rw [filter_take_yes hkl (by rw [hx]; simp [hfx]), hx]
        have HE2 : Hid (evenL f (l.take (k + 1)) = evenL f (l.take k)) := by unfold Hid evenL; rw [filter_take_no hkl (by rw [hx]; simp [hfx])]
        have HE3 : Hid (moreL f (l.take (k + 1)) = moreL f (l.take k)) := by unfold Hid moreL; rw [filter_take_no hkl (by rw [hx]; simp [hfx])]
        clear hx hkl hfx g1
        go_wp2_with fail
        refine (C2.out _ HA.out HB.out).mono ?_
        rintro e w1 ⟨rfl, hb1⟩
        have HB1 := Lib.hid (below_up hb hb1)
        have hbs1 : w.heap.size + 1 ≤ w1.heap.size := Nat.le_trans hsz hb1.size
        have HP1 := Lib.hid (HP.out.below hb1)
        have HT1 := Lib.hid (HT.out.below hb1)
        have ho1 : w1.ownsRow (w.heap.size + 1) 3 1 u7 (lessL f (l.take k)).length ((lessL f (l.take k)).map (Value.int .i64)) := HT1.out.o1
        have hlen : (lessL f (l.take k)).length ≤ 100000000 := Nat.le_trans (filter_take_len _ _ _) (by rw [HN.out]; omega)
        clear hb1 hb e0 e1 e2
        go_wp2_with (at_builtin; refine wpList_append_own_at _ rfl _ _ 22 rfl (w.heap.size + 1) 3 i0 (.int .i64 0) 1 8 Tryz.underlying22 hi hz0 hz1 hz2 rfl (by decide) _ _ _ rfl (ho1.alloc _) ⟨w1.heap.size, 0, none⟩ 1 1 [.int .i64 x] rfl rfl (cell_one_new _ _ _) (by simp [Value.oneCell']) (by unfold maxLen; omega) (by omega) (by simp; omega) ?_; intro v' w2 hown' hg1 _ hat)
        have HT2 := Lib.hid (HT1.out.push (alloc_below _ _) hown' hg1 hat)
        have hX : Below (w.heap.size + 1) w1 w2 := Below.grown ((Below.refl (w.heap.size + 1) w1).alloc (by omega) _) hg1 (by simp; omega) (fun j hj => (HT1.out.o1.blk j hj).1)
        have HX := Lib.hid hX
        have HP2 := Lib.hid (HP1.out.belowN hX (by omega))
        clear hX hg1 ho1 hlen hown' hat
        go_wp2
        go_roundw
        case rel => exact ⟨k + 1, by have := HK.out; omega, by have := HK.out; go_num, by unfold Hid; rw [HE1.out, HE2.out, HE3.out]; exact HT2.out, HB1.out.trans (HX.out.mono (by omega)), HP2⟩
        case measure => have := HK.out; simp [intOf]; omega
      · by_cases g2 : f x = 0
        · have hfx := g2
          rw [hfx] at C2
          have HE1 : Hid (lessL f (l.take (k + 1)) = lessL f (l.take k)) := by unfold Hid lessL; rw [filter_take_no hkl (by rw [hx]; simp [hfx])]
          have HE2 : Hid (evenL f (l.take (k + 1)) = evenL f (l.take k) ++ [x]) := by unfold Hid evenL; rw [filter_take_yes hkl (by rw [hx]; simp [hfx]), hx]
          have HE3 : Hid (moreL f (l.take (k + 1)) = moreL f (l.take k)) := by unfold Hid moreL; rw [filter_take_no hkl (by rw [hx]; simp [hfx])]
          clear hx hkl hfx g1 g2
          go_wp2_with fail
          refine (C2.out _ HA.out HB.out).mono ?_
          rintro e w1 ⟨rfl, hb1⟩
          have HB1 := Lib.hid (below_up hb hb1)
          have hbs1 : w.heap.size + 1 ≤ w1.heap.size := Nat.le_trans hsz hb1.size
          have HP1 := Lib.hid (HP.out.below hb1)
          have HT1 := Lib.hid (HT.out.below hb1)
          have ho1 : w1.ownsRow (w.heap.size + 1) 3 1 u8 (evenL f (l.take k)).length ((evenL f (l.take k)).map (Value.int .i64)) := HT1.out.o2
          have hlen : (evenL f (l.take k)).length ≤ 100000000 := Nat.le_trans (filter_take_len _ _ _) (by rw [HN.out]; omega)
          clear hb1 hb e0 e1 e2
          go_wp2_with (at_builtin; refine wpList_append_own_at _ rfl _ _ 22 rfl (w.heap.size + 1) 3 i0 (.int .i64 0) 1 8 Tryz.underlying22 hi hz0 hz1 hz2 rfl (by decide) _ _ _ rfl (ho1.alloc _) ⟨w1.heap.size, 0, none⟩ 1 1 [.int .i64 x] rfl rfl (cell_one_new _ _ _) (by simp [Value.oneCell']) (by unfold maxLen; omega) (by omega) (by simp; omega) ?_; intro v' w2 hown' hg1 _ hat)
          have HT2 := Lib.hid (HT1.out.swap12.push (alloc_below _ _) hown' hg1 hat)
          have hX : Below (w.heap.size + 1) w1 w2 := Below.grown ((Below.refl (w.heap.size + 1) w1).alloc (by omega) _) hg1 (by simp; omega) (fun j hj => (HT1.out.swap12.o1.blk j hj).1)
          have HX := Lib.hid hX
          have HP2 := Lib.hid (HP1.out.belowN hX (by omega))
          clear hX hg1 ho1 hlen hown' hat
          go_wp2
          go_roundw
          case rel => exact ⟨k + 1, by have := HK.out; omega, by have := HK.out; go_num, by unfold Hid; rw [HE1.out, HE2.out, HE3.out]; exact HT2.out.swap12, HB1.out.trans (HX.out.mono (by omega)), HP2⟩
          case measure => have := HK.out; simp [intOf]; omega
        · have hfx : (f x == -1) = false := beq_eq_false_iff_ne.2 g1
          have hfy : (f x == 0) = false := beq_eq_false_iff_ne.2 g2
          have HE1 : Hid (lessL f (l.take (k + 1)) = lessL f (l.take k)) := by unfold Hid lessL; rw [filter_take_no hkl (by rw [hx]; simp [hfx])]
          have HE2 : Hid (evenL f (l.take (k + 1)) = evenL f (l.take k)) := by unfold Hid evenL; rw [filter_take_no hkl (by rw [hx]; simp [hfy])]
          have HE3 : Hid (moreL f (l.take (k + 1)) = moreL f (l.take k) ++ [x]) := by unfold Hid moreL; rw [filter_take_yes hkl (by rw [hx]; simp [hfx, hfy]), hx]
          clear hx hkl g1 g2
          generalize f x = r at C2 hfx hfy
          go_wp2_with fail
          refine (C2.out _ HA.out HB.out).mono ?_
          rintro e w1 ⟨rfl, hb1⟩
          have HB1 := Lib.hid (below_up hb hb1)
          have hbs1 : w.heap.size + 1 ≤ w1.heap.size := Nat.le_trans hsz hb1.size
          have HP1 := Lib.hid (HP.out.below hb1)
          have HT1 := Lib.hid (HT.out.below hb1)
          have ho1 : w1.ownsRow (w.heap.size + 1) 3 1 u9 (moreL f (l.take k)).length ((moreL f (l.take k)).map (Value.int .i64)) := HT1.out.o3
          have hlen : (moreL f (l.take k)).length ≤ 100000000 := Nat.le_trans (filter_take_len _ _ _) (by rw [HN.out]; omega)
          clear hb1 hb e0 e1 e2
          go_wp2_with (at_builtin; refine wpList_append_own_at _ rfl _ _ 22 rfl (w.heap.size + 1) 3 i0 (.int .i64 0) 1 8 Tryz.underlying22 hi hz0 hz1 hz2 rfl (by decide) _ _ _ rfl (ho1.alloc _) ⟨w1.heap.size, 0, none⟩ 1 1 [.int .i64 x] rfl rfl (cell_one_new _ _ _) (by simp [Value.oneCell']) (by unfold maxLen; omega) (by omega) (by simp; omega) ?_; intro v' w2 hown' hg1 _ hat)
          have HT2 := Lib.hid (HT1.out.swap13.push (alloc_below _ _) hown' hg1 hat)
          have hX : Below (w.heap.size + 1) w1 w2 := Below.grown ((Below.refl (w.heap.size + 1) w1).alloc (by omega) _) hg1 (by simp; omega) (fun j hj => (HT1.out.swap13.o1.blk j hj).1)
          have HX := Lib.hid hX
          have HP2 := Lib.hid (HP1.out.belowN hX (by omega))
          clear hX hg1 ho1 hlen hown' hat
          go_wp2
          go_roundw
          case rel => exact ⟨k + 1, by have := HK.out; omega, by have := HK.out; go_num, by unfold Hid; rw [HE1.out, HE2.out, HE3.out]; exact HT2.out.swap13, HB1.out.trans (HX.out.mono (by omega)), HP2⟩
          case measure => have := HK.out; simp [intOf]; omega
    · obtain rfl : k = n := by omega
      have HT2 := HT.out
      rw [List.take_of_length_le (by rw [HN.out]; omega)] at HT2
      go_wp2
      go_ret3
      exact ⟨_, _, _, rfl, HT2.lower (by omega), hb⟩

/-- The length of the longest part. -/
def mostI (f : Int → Int) (l : List Int) : Int := max (max ((lessL f l).length : Int) ((evenL f l).length : Int)) ((moreL f l).length : Int)

end Go.Proofs.YtlflblngbneacaaGreatDoor
