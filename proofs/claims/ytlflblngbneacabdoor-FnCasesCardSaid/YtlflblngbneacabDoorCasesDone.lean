/- The walk of FnCases, round the contract of the program's FormatCases. No other condition. -/
import Derived.Test.YtlflblngbneacabDoorCasesTold
import Derived.Test.YtlflblngbneacabDoorMakeProb
import Derived.Test.YtlflblngbneacabDoorCasesOf
import Derived.Test.YtlflblngbneacabDoorGBase
namespace Go.Proofs.YtlflblngbneacabDoor
open Go.RowKit

theorem beq_of {x y : Int} (h : x = y) : (x == y) = true := by rw [h]; simp

set_option maxRecDepth 100000 in
set_option maxHeartbeats 16000000 in
theorem walkCases (w : World) (a : Option Addr) (len cap : Nat) (hB : BytesAt w a len)
    (CFC : ∀ L : List Int, L.length ≤ 27 → (∀ x ∈ L, -9223372036854775808 ≤ x ∧ x ≤ 9223372036854775807) → ∀ W, Below w.heap.size w W → ∀ v, IntsAt W v L → Calls Tryd.prog 21 #[v] W fun e w' => e = .returned (.string (casesT L)) ∧ Below W.heap.size W w') :
    Calls Tryd.prog 4 #[.slice a len cap] w fun e w' => e = .returned (.bool true) ∧ Below w.heap.size w w' := by
  by_cases hbig : (1048576 : Int) < (len : Int)
  · go_enter Tryd.func4, Tryd.ntmps4
    go_wp2
    go_ret
    exact ⟨rfl, Below.refl _ _⟩
  have hl : len ≤ 1048576 := by omega
  have C1 := Lib.hid (specMakeProb w w a len cap hB (Below.refl _ _) hl)
  have HCF := Lib.hid CFC
  clear hB CFC
  go_enter Tryd.func4, Tryd.ntmps4
  go_wp2_with fail
  refine C1.out.mono ?_
  rintro e w1 ⟨n, h, l, z, rfl, hp, n2, n8, b1⟩
  obtain ⟨HC, HPW, HLN, HNO, HTX⟩ := cases_facts hp n2 n8
  have CCA := Lib.hid (fun W => implCasesOf n h l z W)
  have CPO : Hid (∀ W, Calls Tryd.prog 20 #[probV n h l z] W fun e w' => e = .returned (.bool true) ∧ Below W.heap.size W w') := fun W => by
    have := implProblemOk n h l z W
    rwa [hp] at this
  have CCO := Lib.hid (fun c c0 c1 W => implCaseOk n c h l z W c0 c1)
  have CNO : Hid (∀ W, Calls Tryd.prog 18 #[probV n h l z, .int .i64 (n + 1)] W fun e w' => e = .returned (.bool false) ∧ Below W.heap.size W w') := fun W => by
    have := implCaseOk n (n + 1) h l z W (by omega) (by omega)
    rwa [HNO] at this
  have HLE : (casesL n h l z).length ≤ 27 := casesIn_len _ _ _
  have CF := Lib.hid (HCF.out (casesL n h l z) HLE (fun c hc => by obtain ⟨g1, g2, g3, g4⟩ := HC c hc; omega))
  have P2 := ProbAt.new w1 30 n h l z
  have A2 := alloc_below w1 (.cells #[.int .i64 n, .bool h, .bool l, .bool z] 30)
  generalize hX2 : w1.alloc (.cells #[.int .i64 n, .bool h, .bool l, .bool z] 30) = X2 at P2 A2
  have PX := Lib.hid P2
  have BX := Lib.hid (below_up b1 A2)
  replace HLN := Lib.hid HLN
  replace HC := Lib.hid HC
  replace HPW := Lib.hid HPW
  have HPB := Lib.hid hp
  clear P2 A2 b1 HCF C1 hbig hl hp HNO
  unfold probV at CCA CPO CCO CNO ⊢
  generalize casesT (casesL n h l z) = tx at CF HTX
  obtain ⟨e0, e1, e2, e3, -⟩ := PX.out
  go_wp2_with fail
  refine (CCA.out _).mono ?_
  rintro e w3 ⟨v, rfl, ow, bb⟩
  have HCC : Hid (∀ c ∈ casesL n h l z, (∀ W, Calls Tryd.prog 18 #[.agg #[.int .i64 n, .bool h, .bool l, .bool z], .int .i64 c] W fun e w' => e = .returned (.bool true) ∧ Below W.heap.size W w') ∧ coinI c = (if c < 0 then -c else c) ∧ -13 ≤ c ∧ c ≤ 13) := fun c hc => by
    obtain ⟨g1, g2, g3, g4⟩ := HC.out c hc
    refine ⟨fun W => ?_, g2, g3, g4⟩
    have := CCO.out c (by omega) (by omega) W
    rwa [g1] at this
  have L3 := IntsAt.of_owns ow
  clear CCO HC CCA ow
  generalize casesL n h l z = L at CF HPW HLN HCC HLE L3
  have P3 := Lib.hid (PX.out.below bb)
  have B3 := Lib.hid (below_up BX.out bb)
  obtain ⟨ga, gc, rfl, -⟩ := id L3
  obtain ⟨m, hm⟩ : ∃ m, L.length = m := ⟨_, rfl⟩
  rw [hm] at HLE HLN
  rw [hm] at L3 ⊢
  replace L3 := Lib.hid L3
  have HM := Lib.hid hm
  clear hm bb e0 e1 e2 e3 PX BX hX2
  have HLM : Hid (∀ i (h : i < m), (∀ j (hj : j + 1 = i), L[j]'(by rw [HM.out]; omega) < L[i]'(by rw [HM.out]; exact h))) := fun i hi j hj => List.pairwise_iff_getElem.1 HPW.out j i _ _ (by omega)
  clear HPW
  cases h <;> cases l <;> cases z
  · exact absurd HPB.out (by simp [probB])
  · exact absurd HPB.out (by simp [probB])
  all_goals
    clear HPB
    obtain ⟨e0, e1, e2, e3, -⟩ := P3.out
    go_wp2_with fail
    have hln := HLN.out
    simp only [if_true, Bool.false_eq_true, if_false, Int.add_zero, Int.zero_add] at hln
    have h5 := Lib.hid (beq_of hln)
    clear hln HLN
    go_loopw [33] (fun iv wr => ∃ i : Nat, i ≤ m ∧ iv = .int .i64 i ∧ Hid (ProbAt wr w1.heap.size n _ _ _) ∧ Hid (IntsAt wr (.slice ga m gc) L) ∧ Hid (Below w.heap.size w wr)) (fun iv _ => m - (intOf iv).toNat)
    case atStart => exact ⟨0, Nat.zero_le _, rfl, P3, L3, B3⟩
    case round =>
      clear P3 L3 B3
      obtain ⟨i, hi, rfl, P4, L4, B4⟩ := hrel
      by_cases hlt : i < m
      · have hil : i < L.length := by rw [HM.out]; exact hlt
        have i0 : (0 : Int) ≤ (i : Int) := by omega
        have i1 : (i : Int) < (m : Int) := by omega
        obtain ⟨b1, o1, rfl, f1⟩ : ∃ b o, ga = some ⟨b, o, none⟩ ∧ ∀ k (hk : k < L.length), wr.cell? ⟨b, o + k, none⟩ = some (.int .i64 L[k]) := by
          obtain ⟨_, _, e, h⟩ := L4.out
          injection e with e1 e2 e3
          rcases h with h | ⟨b, o, h, hc⟩
          · rw [h] at hil; simp at hil
          · exact ⟨b, o, by rw [e1, h], hc⟩
        obtain ⟨C4, hco, c0, c1⟩ := HCC.out L[i] (List.getElem_mem hil)
        replace C4 := Lib.hid C4
        have CO4 := Lib.hid (fun W => implCoinOf L[i] W (by omega) (by omega))
        rw [hco] at CO4
        have g1 := f1 i hil
        have hpr : i = 0 ∨ ∃ d, 0 < (i : Int) ∧ wr.cell? ⟨b1, o1 + ((i : Int) - 1).toNat, none⟩ = some (.int .i64 d) ∧ ¬ L[i] ≤ d := by
          rcases i with _ | j
          · exact .inl rfl
          · have := HLM.out (j + 1) hlt j rfl
            refine .inr ⟨L[j]'(by omega), by omega, ?_, by omega⟩
            rw [show (((j + 1 : Nat) : Int) - 1).toNat = j by omega]
            exact f1 j (by omega)
        clear hco f1
        generalize L[i] = c at C4 CO4 g1 c0 c1 hpr
        obtain ⟨e0, e1, e2, e3, -⟩ := P4.out
        rcases hpr with rfl | ⟨d, hi0, g2, hdc⟩
        · simp only [Nat.add_zero] at g1
          by_cases hneg : c < 0
          · rw [if_pos hneg] at CO4
            have hmx : c < -c := by omega
            go_wp2_with fail
            refine (C4.out _).mono ?_
            rintro e w5 ⟨rfl, bb⟩
            have P5 := Lib.hid (P4.out.below bb)
            have L5 := Lib.hid (L4.out.below bb)
            have B5 := Lib.hid (below_up B4.out bb)
            clear bb g1 e0 e1 e2 e3 P4 L4 B4
            go_wp2_with fail
            refine (CO4.out _).mono ?_
            rintro e w6 ⟨rfl, rfl⟩
            go_wp2
            go_roundw
            case rel => exact ⟨0 + 1, by omega, by go_num, P5, L5, B5⟩
            case measure => simp [intOf]; omega
          · rw [if_neg hneg] at CO4
            have hmx : ¬ c < -c := by omega
            go_wp2_with fail
            refine (C4.out _).mono ?_
            rintro e w5 ⟨rfl, bb⟩
            have P5 := Lib.hid (P4.out.below bb)
            have L5 := Lib.hid (L4.out.below bb)
            have B5 := Lib.hid (below_up B4.out bb)
            clear bb g1 e0 e1 e2 e3 P4 L4 B4
            go_wp2_with fail
            refine (CO4.out _).mono ?_
            rintro e w6 ⟨rfl, rfl⟩
            go_wp2
            go_roundw
            case rel => exact ⟨0 + 1, by omega, by go_num, P5, L5, B5⟩
            case measure => simp [intOf]; omega
        · by_cases hneg : c < 0
          · rw [if_pos hneg] at CO4
            have hmx : c < -c := by omega
            go_wp2_with fail
            refine (C4.out _).mono ?_
            rintro e w5 ⟨rfl, bb⟩
            have P5 := Lib.hid (P4.out.below bb)
            have L5 := Lib.hid (L4.out.below bb)
            have B5 := Lib.hid (below_up B4.out bb)
            have g3 := (bb.cell (World.block_lt_of_cell? _ _ g2)).trans g2
            have hdl : d < c := by omega
            have hmq : (-c != max c (-c)) = false := by rw [show max c (-c) = -c by omega]; simp
            have g4 := g3
            rw [show ((i : Int) - 1).toNat = i - 1 by omega] at g4
            clear bb g1 g2 e0 e1 e2 e3 P4 L4 B4
            go_wp2_with fail
            refine (CO4.out _).mono ?_
            rintro e w6 ⟨rfl, rfl⟩
            go_wp2
            go_roundw
            case rel => exact ⟨i + 1, by omega, by go_num, P5, L5, B5⟩
            case measure => simp [intOf]; omega
          · rw [if_neg hneg] at CO4
            have hmx : ¬ c < -c := by omega
            go_wp2_with fail
            refine (C4.out _).mono ?_
            rintro e w5 ⟨rfl, bb⟩
            have P5 := Lib.hid (P4.out.below bb)
            have L5 := Lib.hid (L4.out.below bb)
            have B5 := Lib.hid (below_up B4.out bb)
            have g3 := (bb.cell (World.block_lt_of_cell? _ _ g2)).trans g2
            have hdl : d < c := by omega
            have hmq : (c != max c (-c)) = false := by rw [show max c (-c) = c by omega]; simp
            have g4 := g3
            rw [show ((i : Int) - 1).toNat = i - 1 by omega] at g4
            clear bb g1 g2 e0 e1 e2 e3 P4 L4 B4
            go_wp2_with fail
            refine (CO4.out _).mono ?_
            rintro e w6 ⟨rfl, rfl⟩
            go_wp2
            go_roundw
            case rel => exact ⟨i + 1, by omega, by go_num, P5, L5, B5⟩
            case measure => simp [intOf]; omega
      · obtain rfl : i = m := by omega
        obtain ⟨e0, e1, e2, e3, -⟩ := P4.out
        have h6 := h5.out
        go_wp2_with fail
        refine (CPO.out _).mono ?_
        rintro e w5 ⟨rfl, bb⟩
        have P5 := Lib.hid (P4.out.below bb)
        have L5 := Lib.hid (L4.out.below bb)
        have B5 := Lib.hid (below_up B4.out bb)
        clear bb e0 e1 e2 e3 P4 L4 B4
        go_wp2_with fail
        refine (CF.out _ B5.out _ L5.out).mono ?_
        rintro e w6 ⟨rfl, bb⟩
        have P6 := Lib.hid (P5.out.below bb)
        have B6 := Lib.hid (below_up B5.out bb)
        clear bb P5 L5 B5
        obtain ⟨e0, e1, e2, e3, -⟩ := P6.out
        go_wp2_with fail
        refine (CNO.out _).mono ?_
        rintro e w7 ⟨rfl, bb⟩
        have B7 := Lib.hid (below_up B6.out bb)
        clear bb e0 e1 e2 e3 P6 B6
        go_wp2
        go_ret
        exact ⟨rfl, B7.out⟩
end Go.Proofs.YtlflblngbneacabDoor
