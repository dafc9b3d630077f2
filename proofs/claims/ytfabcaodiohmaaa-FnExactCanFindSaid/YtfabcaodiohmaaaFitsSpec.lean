/- The contract of the model's test of a pick, round the contract of the search with one weighing fewer. Conditions: a valid state, a pick within it. -/
import Derived.Test.YtfabcaodiohmaaaGoodsSpec
namespace Go.Proofs.Ytfabcaodiohmaaa
open Go.RowKit

theorem all_step {α : Type} {l : List α} {i : Nat} (f : α → Bool) (h : i < l.length) : (l.drop i).all f = (f l[i] && (l.drop (i + 1)).all f) := by
  rw [List.drop_eq_getElem_cons h, List.all_cons]
theorem all_over {α : Type} {l : List α} {i : Nat} (f : α → Bool) (h : l.length ≤ i) : (l.drop i).all f = true := by
  rw [List.drop_of_length_le h]; rfl
/-- A function that tells whether the case of a valid state can be found with j weighings. -/
def CanIs (j : Nat) (can : SD → Bool) : Prop := ∀ s, SIn s → ∀ W, Calls Try.prog 35 #[stateV s, .int .i64 j] W fun e w' => e = .returned (.bool (can s)) ∧ Below W.heap.size W w'

set_option maxRecDepth 100000 in
set_option maxHeartbeats 6400000 in
theorem specFits (j : Nat) (hj : j ≤ 2) (K : Int) (hK : K = (j : Int) + 1) (can : SD → Bool) (HCAN : CanIs j can) (s : SD) (p : PD) (hs : SIn s) (hp : PIn s p) (w : World) :
    Calls Try.prog 50 #[stateV s, pickV p, .int .i64 K] w fun e w' => e = .returned (.bool (fitB can (3 ^ j) s p)) ∧ Below w.heap.size w w' := by
  have CA := Lib.hid (fun x W => specAfter s p x hs hp W)
  have CN := Lib.hid (fun x W => specCountOf (afterS s p x) (stateB_iff.2 (after_in hs hp)) W)
  have CP := Lib.hid (fun W => specPower j (by omega) W)
  have CC := Lib.hid (fun x W => HCAN (afterS s p x) (after_in hs hp) W)
  have hwj : IntKind.i64.wrap (K - 1) = (j : Int) := by rw [IntKind.wrap_i64]; omega
  have HX : Hid (fitB can (3 ^ j) s p = ((([0, 1, -1] : List Int).drop 0).all (fun x => decide (countS (afterS s p x) ≤ 3 ^ j)) && (([0, 1, -1] : List Int).drop 0).all (fun x => can (afterS s p x)))) := rfl
  clear hs hp HCAN hK
  have P0 := StateAt.new w 25 s
  have B0 := alloc_below w (.cells #[.int .i64 s.b, .int .i64 s.h, .int .i64 s.l, .int .i64 s.g] 25)
  have s0 : (w.alloc (.cells #[.int .i64 s.b, .int .i64 s.h, .int .i64 s.l, .int .i64 s.g] 25)).heap.size = w.heap.size + 1 := by simp
  generalize hX0 : w.alloc (.cells #[.int .i64 s.b, .int .i64 s.h, .int .i64 s.l, .int .i64 s.g] 25) = X0 at P0 B0 s0
  have Q0 := PickAt.new X0 32 p
  have B1 := alloc_below X0 (.cells #[.int .i64 p.bl, .int .i64 p.br, .int .i64 p.hl, .int .i64 p.hr, .int .i64 p.ll, .int .i64 p.lr, .int .i64 p.gl, .int .i64 p.gr] 32)
  have s1 : (X0.alloc (.cells #[.int .i64 p.bl, .int .i64 p.br, .int .i64 p.hl, .int .i64 p.hr, .int .i64 p.ll, .int .i64 p.lr, .int .i64 p.gl, .int .i64 p.gr] 32)).heap.size = w.heap.size + 2 := by simp [s0]
  generalize hX1 : X0.alloc (.cells #[.int .i64 p.bl, .int .i64 p.br, .int .i64 p.hl, .int .i64 p.hr, .int .i64 p.ll, .int .i64 p.lr, .int .i64 p.gl, .int .i64 p.gr] 32) = X1 at Q0 B1 s1
  rw [s0] at Q0
  have hc := lit_cells X1 (w.heap.size + 2) s1 [0, 1, -1] (by simp)
  have B2 := alloc_below X1 (.cells #[.int .i64 0, .int .i64 1, .int .i64 (-1)] 3)
  change ∀ j (h : j < ([0, 1, -1] : List Int).length), (X1.alloc (.cells #[.int .i64 0, .int .i64 1, .int .i64 (-1)] 3)).cell? ⟨w.heap.size + 2, j, none⟩ = some (.int .i64 ([0, 1, -1] : List Int)[j]) at hc
  have P2 := Lib.hid ((P0.below B1).below B2)
  have Q2 := Lib.hid (Q0.below B2)
  have BX := Lib.hid (below_up (below_up B0 B1) B2)
  have s2 : (X1.alloc (.cells #[.int .i64 0, .int .i64 1, .int .i64 (-1)] 3)).heap.size = w.heap.size + 3 := by simp [s1]
  generalize hX2 : X1.alloc (.cells #[.int .i64 0, .int .i64 1, .int .i64 (-1)] 3) = X2 at hc P2 Q2 BX s2
  have HC := Lib.hid hc
  clear P0 B0 B1 B2 Q0 hc
  obtain ⟨xs, hxs⟩ : ∃ xs : List Int, xs = [0, 1, -1] := ⟨_, rfl⟩
  rw [← hxs] at HX HC
  have hx3 : xs.length = 3 := by rw [hxs]; rfl
  have HXS := Lib.hid hxs
  clear hxs
  generalize fitB can (3 ^ j) s p = r at HX ⊢
  unfold stateV at CA CN CC ⊢
  unfold pickV at CA ⊢
  go_enter Try.func50, Try.ntmps50
  go_wp2
  go_loopw [13] (fun iv wr => ∃ i : Nat, i ≤ 3 ∧ iv = .int .i64 i ∧ Hid (r = ((xs.drop i).all (fun x => decide (countS (afterS s p x) ≤ 3 ^ j)) && (xs.drop 0).all (fun x => can (afterS s p x)))) ∧ Hid (Below X2.heap.size X2 wr)) (fun iv _ => 3 - (intOf iv).toNat)
  case atStart => exact ⟨0, by omega, rfl, HX, Below.refl _ _⟩
  case round =>
    clear HX
    obtain ⟨i, hi3, rfl, HR, BR⟩ := hrel
    by_cases hlt : i < 3
    · have hil : i < xs.length := by omega
      have c0 : wr.cell? ⟨w.heap.size + 2, i, none⟩ = some (.int .i64 xs[i]) := by rw [BR.out.cell (p := ⟨w.heap.size + 2, i, none⟩) (by rw [s2]; exact Nat.lt_succ_self _)]; exact HC.out i hil
      have HT := Lib.hid (all_step (fun x => decide (countS (afterS s p x) ≤ 3 ^ j)) hil)
      generalize xs[i] = x at c0 HT
      clear hil
      have CAx := Lib.hid (CA.out x)
      have CNx := Lib.hid (CN.out x)
      have P3 := Lib.hid (P2.out.below BR.out)
      have Q3 := Lib.hid (Q2.out.below BR.out)
      obtain ⟨e0, e1, e2, e3, -⟩ := P3.out
      obtain ⟨q0, q1, q2, q3, q4, q5, q6, q7, -⟩ := Q3.out
      have i0 : (0 : Int) ≤ (i : Int) := by omega
      have i1 : (i : Int) < 3 := by omega
      generalize afterS s p x = sx at CAx CNx HT
      go_wp2_with fail
      refine (CAx.out wr).mono ?_
      rintro e w3 ⟨rfl, b3⟩
      have B3 := Lib.hid (below_up BR.out b3)
      clear b3 c0 e0 e1 e2 e3 q0 q1 q2 q3 q4 q5 q6 q7
      go_wp2_with fail
      refine (CNx.out w3).mono ?_
      rintro e w4 ⟨rfl, b4⟩
      have B4 := Lib.hid (below_up B3.out b4)
      clear b4
      go_wp2_with fail
      refine (CP.out w4).mono ?_
      rintro e w5 ⟨rfl, rfl⟩
      by_cases hle : countS sx ≤ 3 ^ j
      · have HF : Hid (r = ((xs.drop (i + 1)).all (fun x => decide (countS (afterS s p x) ≤ 3 ^ j)) && (xs.drop 0).all (fun x => can (afterS s p x)))) := by
          unfold Hid; rw [HR.out, HT.out, decide_eq_true hle, Bool.true_and]
        have hn : ¬ ((3 : Int) ^ j < countS sx) := by omega
        clear HR HT hle
        go_wp2
        go_roundw
        case rel => exact ⟨i + 1, by omega, by go_num, HF, B4⟩
        case measure => simp [intOf]; omega
      · have HF : Hid (r = false) := by unfold Hid; rw [HR.out, HT.out, decide_eq_false hle]; rfl
        have hn : (3 : Int) ^ j < countS sx := by omega
        clear HR HT hle
        go_wp2
        go_ret
        exact ⟨ret_bool HF.out.symm, below_up BX.out B4.out⟩
    · have HF : Hid (r = (xs.drop 0).all (fun x => can (afterS s p x))) := by
        unfold Hid; rw [HR.out, all_over _ (by omega), Bool.true_and]
      clear HR
      have P3 := Lib.hid (P2.out.below BR.out)
      have Q3 := Lib.hid (Q2.out.below BR.out)
      have BX3 := Lib.hid (below_up BX.out BR.out)
      have hc2 := lit_cells wr wr.heap.size rfl [0, 1, -1] (by simp)
      change ∀ j (h : j < ([0, 1, -1] : List Int).length), (wr.alloc (.cells #[.int .i64 0, .int .i64 1, .int .i64 (-1)] 3)).cell? ⟨wr.heap.size, j, none⟩ = some (.int .i64 ([0, 1, -1] : List Int)[j]) at hc2
      have B4 := alloc_below wr (.cells #[.int .i64 0, .int .i64 1, .int .i64 (-1)] 3)
      have P4 := Lib.hid (P3.out.below B4)
      have Q4 := Lib.hid (Q3.out.below B4)
      have BX4 := Lib.hid (below_up BX3.out B4)
      have hs4 : wr.heap.size < (wr.alloc (.cells #[.int .i64 0, .int .i64 1, .int .i64 (-1)] 3)).heap.size := by simp
      generalize hX4 : wr.alloc (.cells #[.int .i64 0, .int .i64 1, .int .i64 (-1)] 3) = X4 at hc2 P4 Q4 BX4 hs4
      have HC4 : Hid (∀ j (h : j < xs.length), X4.cell? ⟨wr.heap.size, j, none⟩ = some (.int .i64 xs[j])) := by
        have e := HXS.out
        subst e
        exact hc2
      have HS4 := Lib.hid hs4
      clear hc2 B4 P3 Q3 BX3 hs4
      obtain ⟨b4, hb4⟩ : ∃ b4, wr.heap.size = b4 := ⟨_, rfl⟩
      rw [hb4] at HC4 HS4
      have HB4 := Lib.hid hb4
      clear hb4
      go_wp2
      rw [HB4.out]
      go_loopw [29] (fun iv ws => ∃ i : Nat, i ≤ 3 ∧ iv = .int .i64 i ∧ Hid (r = (xs.drop i).all (fun x => can (afterS s p x))) ∧ Hid (Below X4.heap.size X4 ws)) (fun iv _ => 3 - (intOf iv).toNat)
      case atStart => exact ⟨0, by omega, rfl, HF, Below.refl _ _⟩
      case round =>
        clear HF
        obtain ⟨i, hi3, rfl, HR, BR4⟩ := hrel
        by_cases hlt : i < 3
        · have hil : i < xs.length := by omega
          have c0 : wr.cell? ⟨b4, i, none⟩ = some (.int .i64 xs[i]) := by rw [BR4.out.cell (p := ⟨b4, i, none⟩) HS4.out]; exact HC4.out i hil
          have HT := Lib.hid (all_step (fun x => can (afterS s p x)) hil)
          generalize xs[i] = x at c0 HT
          clear hil
          have CAx := Lib.hid (CA.out x)
          have CCx := Lib.hid (CC.out x)
          have P5 := Lib.hid (P4.out.below BR4.out)
          have Q5 := Lib.hid (Q4.out.below BR4.out)
          obtain ⟨e0, e1, e2, e3, -⟩ := P5.out
          obtain ⟨q0, q1, q2, q3, q4, q5, q6, q7, -⟩ := Q5.out
          have i0 : (0 : Int) ≤ (i : Int) := by omega
          have i1 : (i : Int) < 3 := by omega
          generalize afterS s p x = sx at CAx CCx HT
          go_wp2_with fail
          refine (CAx.out wr).mono ?_
          rintro e w3 ⟨rfl, b3⟩
          have B3 := Lib.hid (below_up BR4.out b3)
          clear b3 c0 e0 e1 e2 e3 q0 q1 q2 q3 q4 q5 q6 q7
          go_wp2_with fail
          refine (CCx.out w3).mono ?_
          rintro e w4 ⟨rfl, b5⟩
          have B4 := Lib.hid (below_up B3.out b5)
          clear b5
          cases hcan : can sx with
          | true =>
            have HF : Hid (r = (xs.drop (i + 1)).all (fun x => can (afterS s p x))) := by unfold Hid; rw [HR.out, HT.out, hcan, Bool.true_and]
            clear HR HT hcan
            go_wp2
            go_roundw
            case rel => exact ⟨i + 1, by omega, by go_num, HF, B4⟩
            case measure => simp [intOf]; omega
          | false =>
            have HF : Hid (r = false) := by unfold Hid; rw [HR.out, HT.out, hcan]; rfl
            clear HR HT hcan
            go_wp2
            go_ret
            exact ⟨ret_bool HF.out.symm, below_up BX4.out B4.out⟩
        · have HF : Hid (r = true) := by unfold Hid; rw [HR.out, all_over _ (by omega)]
          go_wp2
          go_ret
          exact ⟨ret_bool HF.out.symm, below_up BX4.out BR4.out⟩
end Go.Proofs.Ytfabcaodiohmaaa
