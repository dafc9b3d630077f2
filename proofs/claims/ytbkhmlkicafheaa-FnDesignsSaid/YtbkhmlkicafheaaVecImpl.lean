/- The contract of the program's VectorDesign: it returns the fixed designs as its own for every argument. No condition. -/
import Derived.Test.YtbkhmlkicafheaaVecRows
namespace Go.Proofs.Ytbkhmlkicafheaa
open Go.RowKit

theorem setCell_only (w : World) (b o : Nat) (u : Value) : Only (fun k => k = b) w (w.setCell ⟨b, o, none⟩ u) := by
  refine ⟨rfl, rfl, rfl, by simp [World.setCell], fun k _ hk => ?_⟩
  exact RowKit.Below.heap_setCell _ _ _ _ hk

set_option maxRecDepth 100000 in
set_option maxHeartbeats 12800000 in
theorem implVecSome (k : Nat) (hk : k = 2 ∨ k = 3) (w : World) :
    Calls Try.prog 47 #[.int .i64 k] w fun e w' => ∃ v f, e = .returned (.tuple #[v, .int .i64 (vecN k), .bool true]) ∧ WdsR w' w.heap.size v f (vecD k) ∧ Below w.heap.size w w' := by
  obtain ⟨i0, hi, hz0, hz1, hz2⟩ := info_parts infoWdS
  obtain ⟨j0, hj, hy0, hy1, hy2⟩ := info_parts infoInt
  have hk2 : k ≤ 3 := by omega
  have CV := Lib.hid (fun W => implVectorsOf k hk2 W)
  have HAV := Lib.hid (allV_len k hk2)
  have HST := Lib.hid (step_coin k hk)
  have HD := Lib.hid (vecD_cols k hk)
  have HV : Hid (vecsL k = (allV k).filter (coinV k)) := rfl
  have hor : ((k : Int) != 2) = false ∨ (((k : Int) != 2) = true ∧ ((k : Int) != 3) = false) := by
    rcases hk with rfl | rfl
    · exact .inl rfl
    · exact .inr ⟨rfl, rfl⟩
  have hk0 : 0 < k := by omega
  clear hk
  generalize vecD k = D at HD ⊢
  generalize vecN k = N at HD ⊢
  generalize vecsL k = V at HD HV
  generalize allV k = A at CV HAV HST HV
  generalize coinV k = p at HST HV
  obtain ⟨nA, hnA⟩ : ∃ nA, A.length = nA := ⟨_, rfl⟩
  have hn27 := HAV.out.1
  rw [hnA] at hn27
  have HNA := Lib.hid hnA
  clear hnA
  rcases hor with h2 | ⟨h2, h3⟩
  all_goals
    go_enter Try.func47, Try.ntmps47
    go_wp2_with (at_make; refine wpList_make_full _ rfl _ _ 65 rfl w.heap.size 74 i0 (.agg #[.slice none 0 0, .slice none 0 0]) 2 Try.underlying65 hi hz0 hz1 .i64 .i64 _ _ k rfl rfl rfl rfl (by rw [hz2]; omega) (by unfold maxLen; omega) (Nat.le_refl _) ?_; intro w1 hown hg)
    have hb1 := Below.grown (Below.refl w.heap.size w) hg (Nat.le_refl _) (by intro q hq; cases hq)
    have hgl : w.heap.size < w1.heap.size := (hown.lt w.heap.size rfl).2
    refine (CV.out w1).mono ?_
    rintro e w2 ⟨v, rfl, hL, b2⟩
    have B2 := Lib.hid (hb1.trans (b2.mono hb1.size))
    have hs12 := b2.size
    have L2 := Lib.hid hL
    have R0 : Hid (RowW w2 w2.heap.size w.heap.size (k * 2) (fun _ => .slice none 0 0) (colE V 0)) := ((RowW.made (by omega) hown).below b2).congr fun o _ => (colE_zero V o).symm
    obtain ⟨av, cv, hav⟩ := hL.form
    rw [HNA.out] at hav
    subst hav
    clear hown hg hb1 hL b2
    go_wp2
    go_loopw [6, 22] (fun cn jn wr => ∃ (j m : Nat) (f : Nat → Value), j ≤ nA ∧ jn = .int .i64 j ∧ cn = .int .i64 m ∧ Hid (m = ((A.take j).filter p).length) ∧ Hid (RowW wr w2.heap.size w.heap.size (k * 2) f (colE V m)) ∧ Hid (Only (fun b => b = w.heap.size) w2 wr)) (fun _ jn _ => nA - (intOf jn).toNat)
    case atStart => exact ⟨0, 0, _, Nat.zero_le _, rfl, rfl, rfl, R0, Only.refl _ _⟩
    case round =>
      clear R0
      obtain ⟨j, m, f, hjn, rfl, rfl, HM, R1, O1⟩ := hrel
      have hmj : m ≤ j := by
        rw [HM.out]
        exact Nat.le_trans (List.length_filter_le _ _) (by simp; omega)
      by_cases hjlt : j < nA
      · have hjl : j < A.length := by rw [HNA.out]; exact hjlt
        obtain ⟨a', c', hv', hcell⟩ := L2.out
        rw [HNA.out] at hv'
        cases hv'
        obtain ⟨gv, u, rfl, e1', hu, hgv, hgl2, hbu⟩ := hcell j hjl
        have e1 : wr.cell? ⟨gv, j, none⟩ = some u := by
          rw [World.cell?_of_block (w := w2) (a := ⟨gv, j, none⟩) (O1.out.block gv hgv (by omega))]; exact e1'
        obtain ⟨hxl, hx02⟩ := HAV.out.2 A[j] (List.getElem_mem hjl)
        have hpx := HST.out A[j] (List.getElem_mem hjl)
        have HNX := Lib.hid (filter_next (p := p) hjl)
        have HGT : Hid (p A[j] = true → V[m]? = some A[j]) := fun hp => by
          rw [HM.out, HV.out]
          exact filter_get hjl hp
        obtain ⟨x, hx⟩ : ∃ x, A[j] = x := ⟨_, rfl⟩
        rw [hx] at hu hxl hx02 hpx HNX HGT
        obtain ⟨au, cu, hform, hci⟩ := hu
        rw [hxl] at hform
        subst hform
        have HUB : Hid (∀ W, Only (fun b => b = w.heap.size) w2 W → IntsAt W (.slice au k cu) x) := fun W hW => IntsAt.only ⟨au, cu, by rw [hxl], hci⟩ hW (fun b hb e => by have := hbu b hb; omega)
        have HXL := Lib.hid hxl
        have HX02 := Lib.hid hx02
        have CS := Lib.hid (implSteps (.slice au k cu) x wr (HUB.out wr O1.out) (by omega) hx02)
        rw [hpx] at CS
        have k0 : (0 : Int) ≤ (j : Int) := by omega
        have k1 : (j : Int) < (nA : Int) := by omega
        clear hx hcell hjl hci hbu hxl hx02 hpx e1'
        go_wp2_with fail
        refine CS.out.mono ?_
        rintro e w3 ⟨rfl, b3⟩
        have B3 := Lib.hid b3
        clear b3 e1
        have O3 : Hid (Only (fun b => b = w.heap.size) w2 w3) := O1.out.trans (Only.fresh B3.out)
        have R3 := Lib.hid (R1.out.below B3.out)
        clear CS
        cases hp : p x with
        | false =>
          have HM2 : Hid (m = ((A.take (j + 1)).filter p).length) := by
            unfold Hid
            rw [HNX.out, hp, ← HM.out]
            rfl
          go_wp2
          go_roundw
          case rel => exact ⟨j + 1, m, f, by omega, by go_num, rfl, HM2, R3, O3⟩
          case measure => simp [intOf]; omega
        | true =>
          have HM2 : Hid (m + 1 = ((A.take (j + 1)).filter p).length) := by
            unfold Hid
            rw [HNX.out, hp, ← HM.out]
            rfl
          have HVM := Lib.hid (HGT.out hp)
          have hw1 : IntKind.i64.wrap ((m : Int) + 1) = (m : Int) + 1 := by rw [IntKind.wrap_i64]; omega
          have R4 : Hid (RowW w3 w2.heap.size w.heap.size (k * 2) f (colM V m 0)) := R3.out.congr fun o _ => (colM_zero V m o).symm
          clear hp HGT HNX
          go_wp2
          go_loopw [33] (fun iv ws => ∃ (i : Nat) (f : Nat → Value), i ≤ k ∧ iv = .int .i64 i ∧ Hid (RowW ws w2.heap.size w.heap.size (k * 2) f (colM V m i)) ∧ Hid (Only (fun b => b = w.heap.size) w2 ws)) (fun iv _ => k - (intOf iv).toNat)
          case atStart => exact ⟨0, f, Nat.zero_le _, rfl, R4, O3⟩
          case round =>
            clear R4
            obtain ⟨i, f, hik, rfl, R5, O5⟩ := hrel
            by_cases hilt : i < k
            · have HI := Lib.hid (HUB.out wr O5.out)
              have hil : i < x.length := by rw [HXL.out]; exact hilt
              obtain ⟨xa, xc, hv', hci⟩ := HI.out
              rw [HXL.out] at hv'
              cases hv'
              obtain ⟨bx, ox, rfl, hcx⟩ : ∃ b off, au = some ⟨b, off, none⟩ ∧ wr.cell? ⟨b, off + i, none⟩ = some (.int .i64 x[i]) := by
                rcases hci with e | ⟨b, off, e, hc⟩
                · rw [e] at hil; simp at hil
                · exact ⟨b, off, e, hc i hil⟩
              have HXI : Hid (x[i]? = some x[i]) := List.getElem?_eq_getElem hil
              generalize x[i] = xi at hcx HXI
              clear hci hil
              have y0 : (0 : Int) ≤ (i : Int) := by omega
              have y1 : (i : Int) < (k : Int) := by omega
              have hBw : w2.heap.size ≤ wr.heap.size := O5.out.size
              have HLN : Hid (∀ o, (colM V m i o).length ≤ 100) := fun o => by have := colM_len V m i o; omega
              have HMM := Lib.hid hmj
              by_cases hx0 : xi = 0
              · subst hx0
                have ho : i * 2 < k * 2 := by omega
                obtain ⟨a1, n1, c1, hf⟩ := (R5.out.own (i * 2) ho).form
                have e0 : wr.cell? ⟨w.heap.size, i * 2, none⟩ = some (.slice a1 n1 c1) := by rw [← hf]; exact (R5.out.cells.2 _ ho).1
                have O0 : Hid (Own wr w2.heap.size (.slice a1 n1 c1) (colM V m i (i * 2))) := by unfold Hid; rw [← hf]; exact R5.out.own _ ho
                have HF := Lib.hid hf
                have hln := HLN.out (i * 2)
                have A6 := Lib.hid (alloc_below wr (.cells #[.int .i64 ((m : Int) + 1)] 3))
                have z6 : w2.heap.size ≤ (wr.alloc (.cells #[.int .i64 ((m : Int) + 1)] 3)).heap.size := by simp; omega
                clear hf
                go_wp2_with (
                  at_builtin
                  refine wpList_append_own_at _ rfl _ _ 39 rfl w2.heap.size 3 j0 (.int .i64 0) 1 8 Try.underlying39 hj hy0 hy1 hy2 rfl (by decide) _ _ _ rfl (O0.out.alloc _) ⟨wr.heap.size, 0, none⟩ 1 1 [.int .i64 ((m : Int) + 1)] rfl rfl (cell_one_val _ _ _) (by simp [Value.oneCell']) (by unfold maxLen; omega) (by omega) z6 ?_
                  intro v' w5 hown5 hg5 _ hat5
                  have HO5 : Hid (Own w5 w2.heap.size v' (colM V m i (i * 2) ++ [(m : Int) + 1])) := by unfold Hid Own; simpa using hown5
                  have HG5 : Hid ((wr.alloc (.cells #[.int .i64 ((m : Int) + 1)] 3)).grownBy w5 (f (i * 2)).ownBlock) := by unfold Hid; rw [HF.out]; exact hg5
                  have HA5 : Hid (v'.ownBlock = (f (i * 2)).ownBlock ∨ v'.ownBlock = some (wr.alloc (.cells #[.int .i64 ((m : Int) + 1)] 3)).heap.size) := by unfold Hid; rw [HF.out]; exact hat5
                  have hng : ¬ ((f (i * 2)).ownBlock = some w.heap.size) := fun e => by have := ((R5.out.own (i * 2) ho).blk _ e).1; omega
                  have CW := (R5.out.cells.below A6.out).only (Only.of_grown HG5.out) hng
                  have c5 : w5.cell? ⟨w.heap.size, i * 2, none⟩ = some (f (i * 2)) := (CW.2 _ ho).1
                  have f5 : w5.frozen? ⟨w.heap.size, i * 2, none⟩ = false := (CW.2 _ ho).2
                  have T5 : Hid (Only (fun b => b = w.heap.size) w2 w5) := (O5.out.trans (Only.fresh A6.out)).andOn (Only.of_grown HG5.out) (fun q hq => .inl (by exact ((R5.out.own (i * 2) ho).blk q hq).1))
                  obtain ⟨a5, n5, d5, hv5⟩ := HO5.out.form
                  subst hv5
                  clear hown5 hg5 hat5 hng CW)
                have R6 := Lib.hid ((R5.out.push ho A6.out HO5.out HG5.out HA5.out).congr fun o _ => colM_at HVM.out (c := 0) (.inl rfl) (by rw [HXI.out]; rfl))
                have O6 : Hid (Only (fun b => b = w.heap.size) w2 (w5.setCell ⟨w.heap.size, i * 2, none⟩ (.slice a5 n5 d5))) := T5.out.andOn (setCell_only w5 w.heap.size (i * 2) _) (fun q hq => .inr hq)
                go_wp2
                go_roundw
                case rel => exact ⟨i + 1, _, by omega, by go_num, R6, O6⟩
                case measure => simp [intOf]; omega
              · by_cases hx2 : xi = 2
                · subst hx2
                  have ho : i * 2 + 1 < k * 2 := by omega
                  obtain ⟨a1, n1, c1, hf⟩ := (R5.out.own (i * 2 + 1) ho).form
                  have e0 : wr.cell? ⟨w.heap.size, i * 2 + 1, none⟩ = some (.slice a1 n1 c1) := by rw [← hf]; exact (R5.out.cells.2 _ ho).1
                  have O0 : Hid (Own wr w2.heap.size (.slice a1 n1 c1) (colM V m i (i * 2 + 1))) := by unfold Hid; rw [← hf]; exact R5.out.own _ ho
                  have HF := Lib.hid hf
                  have hln := HLN.out (i * 2 + 1)
                  have A6 := Lib.hid (alloc_below wr (.cells #[.int .i64 ((m : Int) + 1)] 3))
                  have z6 : w2.heap.size ≤ (wr.alloc (.cells #[.int .i64 ((m : Int) + 1)] 3)).heap.size := by simp; omega
                  clear hf
                  go_wp2_with (
                    at_builtin
                    refine wpList_append_own_at _ rfl _ _ 39 rfl w2.heap.size 3 j0 (.int .i64 0) 1 8 Try.underlying39 hj hy0 hy1 hy2 rfl (by decide) _ _ _ rfl (O0.out.alloc _) ⟨wr.heap.size, 0, none⟩ 1 1 [.int .i64 ((m : Int) + 1)] rfl rfl (cell_one_val _ _ _) (by simp [Value.oneCell']) (by unfold maxLen; omega) (by omega) z6 ?_
                    intro v' w5 hown5 hg5 _ hat5
                    have HO5 : Hid (Own w5 w2.heap.size v' (colM V m i (i * 2 + 1) ++ [(m : Int) + 1])) := by unfold Hid Own; simpa using hown5
                    have HG5 : Hid ((wr.alloc (.cells #[.int .i64 ((m : Int) + 1)] 3)).grownBy w5 (f (i * 2 + 1)).ownBlock) := by unfold Hid; rw [HF.out]; exact hg5
                    have HA5 : Hid (v'.ownBlock = (f (i * 2 + 1)).ownBlock ∨ v'.ownBlock = some (wr.alloc (.cells #[.int .i64 ((m : Int) + 1)] 3)).heap.size) := by unfold Hid; rw [HF.out]; exact hat5
                    have hng : ¬ ((f (i * 2 + 1)).ownBlock = some w.heap.size) := fun e => by have := ((R5.out.own (i * 2 + 1) ho).blk _ e).1; omega
                    have CW := (R5.out.cells.below A6.out).only (Only.of_grown HG5.out) hng
                    have c5 : w5.cell? ⟨w.heap.size, i * 2 + 1, none⟩ = some (f (i * 2 + 1)) := (CW.2 _ ho).1
                    have f5 : w5.frozen? ⟨w.heap.size, i * 2 + 1, none⟩ = false := (CW.2 _ ho).2
                    have T5 : Hid (Only (fun b => b = w.heap.size) w2 w5) := (O5.out.trans (Only.fresh A6.out)).andOn (Only.of_grown HG5.out) (fun q hq => .inl (by exact ((R5.out.own (i * 2 + 1) ho).blk q hq).1))
                    obtain ⟨a5, n5, d5, hv5⟩ := HO5.out.form
                    subst hv5
                    clear hown5 hg5 hat5 hng CW)
                  have R6 := Lib.hid ((R5.out.push ho A6.out HO5.out HG5.out HA5.out).congr fun o _ => colM_at HVM.out (c := 1) (.inr rfl) (by rw [HXI.out]; rfl))
                  have O6 : Hid (Only (fun b => b = w.heap.size) w2 (w5.setCell ⟨w.heap.size, i * 2 + 1, none⟩ (.slice a5 n5 d5))) := T5.out.andOn (setCell_only w5 w.heap.size (i * 2 + 1) _) (fun q hq => .inr hq)
                  go_wp2
                  go_roundw
                  case rel => exact ⟨i + 1, _, by omega, by go_num, R6, O6⟩
                  case measure => simp [intOf]; omega
                · have hb0 : (xi == 0) = false := by simpa using hx0
                  have hb2 : (xi == 2) = false := by simpa using hx2
                  have R6 : Hid (RowW wr w2.heap.size w.heap.size (k * 2) f (colM V m (i + 1))) := R5.out.congr fun o _ => colM_none HVM.out (by rw [HXI.out]; intro e; exact hx0 (Option.some.inj e)) (by rw [HXI.out]; intro e; exact hx2 (Option.some.inj e))
                  go_wp2
                  go_roundw
                  case rel => exact ⟨i + 1, f, by omega, by go_num, R6, O5⟩
                  case measure => simp [intOf]; omega
            · obtain rfl : i = k := by omega
              have R6 : Hid (RowW wr w2.heap.size w.heap.size (i * 2) f (colE V (m + 1))) := R5.out.congr fun o ho => colM_full ho
              go_wp2
              go_roundw
              case rel => exact ⟨j + 1, m + 1, f, by omega, by go_num, by go_num, HM2, R6, O5⟩
              case measure => simp [intOf]; omega
      · obtain rfl : j = nA := by omega
        obtain ⟨hD1, hD2, hD3⟩ := HD.out
        subst hD2
        have hmV : m = V.length := by rw [HM.out, HV.out, List.take_of_length_le (by rw [HNA.out]; omega)]
        subst hmV
        have BB : Hid (Below w.heap.size w wr) := B2.out.trans (O1.out.below (by omega) (fun b hb => by omega))
        go_wp2
        go_ret3
        exact ⟨_, rfl, ⟨f, R1.out.list (Nat.le_refl _) hD1 hD3⟩, BB.out⟩

theorem WdsR.none (w : World) (lo : Nat) (f : Nat → Value) : WdsR w lo (.slice none 0 0) f [] :=
  ⟨⟨Option.none, 0, rfl, Nat.le_refl _, fun i hi => by simp at hi⟩, fun i hi => by simp at hi, fun i j hi => by simp at hi, fun i hi => by simp at hi⟩
/-- The program's fixed designs, for every argument. -/
theorem implVec (k : Int) (wk : wfW k) : VecIs 47 k := by
  intro W
  by_cases h2 : k = 2
  · subst h2
    exact implVecSome 2 (.inl rfl) W
  by_cases h3 : k = 3
  · subst h3
    exact implVecSome 3 (.inr rfl) W
  have e1 : vecN k = 0 := by unfold vecN; rw [if_neg h2, if_neg h3]
  have e2 : vecB k = false := by unfold vecB; simp [h2, h3]
  have e3 : vecD k = [] := by unfold vecD; rw [if_neg h2, if_neg h3]
  rw [e1, e2, e3]
  have g2 : (k != 2) = true := by simpa using h2
  have g3 : (k != 3) = true := by simpa using h3
  go_enter Try.func47, Try.ntmps47
  go_wp2
  go_ret3
  exact ⟨_, _, rfl, WdsR.none _ _ fun _ => .bool false, Below.refl _ _⟩
end Go.Proofs.Ytbkhmlkicafheaa
