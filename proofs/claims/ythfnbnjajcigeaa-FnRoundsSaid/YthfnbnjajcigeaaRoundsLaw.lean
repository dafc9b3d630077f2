/- The walk of FnRounds round the contracts of the program's functions: it returns true for every argument. Condition: the slice reads as bytes. -/
import Derived.Test.YthfnbnjajcigeaaGRndL
import Derived.Test.YthfnbnjajcigeaaMakePools
import Derived.Test.YthfnbnjajcigeaaPoolLaws
import Derived.Test.YthfnbnjajcigeaaOutcomesLaw
import Derived.Deep.RegionHeld3
namespace Go.Proofs.Ythfnbnjajcigeaa
open Go.RowKit

theorem RowsQ.cap {w : World} {lo hi : Nat} {v : Value} {S : List (List Int)} (h : RowsQ w lo hi v S) : LsCap w v S := by
  obtain ⟨us, h⟩ := h
  have hrow := h.row
  rcases h.row.2 with ⟨e, h0⟩ | ⟨g, cap, cur, e, -, -, -, -, -, -⟩
  · exact ⟨none, 0, by rw [e, h0], fun i hi => by omega⟩
  · refine ⟨_, cap, e, fun i hi => ?_⟩
    have hi' : i < us.length := by rw [h.len]; exact hi
    rw [e] at hrow
    have ho := h.own i hi hi'
    obtain ⟨a, c, e2, hc⟩ := own_cap ho
    have hr := ho.reads
    have hcell : w.cell? ⟨g, 0 + i, none⟩ = some us[i] := by rw [Nat.zero_add, hrow.cellAt i (by omega), List.getElem?_eq_getElem hi']
    rw [e2] at hr hcell
    exact ⟨g, 0, a, c, rfl, hcell, hr, hc⟩
theorem LsCap.below {w w' : World} {v : Value} {S : List (List Int)} (h : LsCap w v S) (hb : Below w.heap.size w w') : LsCap w' v S := by
  obtain ⟨a, cap, rfl, h⟩ := h
  refine ⟨a, cap, rfl, fun i hi => ?_⟩
  obtain ⟨b, off, ar, cr, e, h1, h2, h3⟩ := h i hi
  exact ⟨b, off, ar, cr, e, by rw [hb.cell (p := ⟨b, off + i, none⟩) (World.block_lt_of_cell? w _ h1)]; exact h1, h2.below hb, h3⟩
/-- All that FnRounds asks, of seven pools at most. -/
theorem rounds_all {n m : Nat} {P : List Int} (n7 : n ≤ 7) (m1 : 1 ≤ m) (m4 : m ≤ 4) (hp : poolsB (n : Int) P = true) (h7 : P.length ≤ 7) :
    roundsB (n : Int) P (m : Int) = true ∧ roundsOkB (n : Int) P (m : Int) (gS (n : Int) P (m : Int)) = true ∧
    (0 ≤ boundI (n : Int) P (m : Int) ∧ boundI (n : Int) P (m : Int) ≤ ((gS (n : Int) P (m : Int)).length : Int)) ∧
    (boundI (n : Int) P (m : Int) ≤ fewRI (n : Int) P (m : Int) ∧ fewRI (n : Int) P (m : Int) ≤ ((gS (n : Int) P (m : Int)).length : Int)) ∧
    (∀ x ∈ usesR (n : Int) P, 0 ≤ x ∧ x ≤ boundI (n : Int) P (m : Int)) ∧ (usesR (n : Int) P).length = n ∧ (usesR (n : Int) P).sum = (P.map cntI).sum ∧
    daysI (n : Int) P (m : Int) 2 = ((gS (n : Int) P (m : Int)).length + 1) / 2 ∧ fewRI (n : Int) P 12 ≤ ((gS (n : Int) P (m : Int)).length : Int) ∧ (gS (n : Int) P (m : Int)).length ≤ 12 ∧ boundI (n : Int) P (m : Int) ≤ 7 := by
  have hr : ∀ q : Int, 1 ≤ q → q ≤ 12 → roundsB (n : Int) P q = true := fun q q1 q12 => by
    unfold roundsB
    rw [hp, decide_eq_true q1, decide_eq_true q12]
    rfl
  have h1 := hr m (by omega) (by omega)
  have h12 := hr 12 (by omega) (by omega)
  have hg : (gS (n : Int) P (m : Int)).length = (greedyF P m P.length).length := by unfold gS greedyR; rw [if_pos h1, List.length_map]; rfl
  have hf : ∀ q : Int, roundsB (n : Int) P q = true → fewRI (n : Int) P q = (fewK (n : Int) P q : Int) := fun q hq => by
    unfold fewRI
    rw [hq, decide_eq_true h7]
    rfl
  have hb := bound_in h1
  have hu : usesR (n : Int) P = usesL n P := by unfold usesR; rw [if_pos hp]; rfl
  have hb2 := bound_greedy h1 h1 (Int.le_refl _)
  have hk := few_bound (n : Int) P (m : Int)
  have hk2 := few_greedy h1 h1 (Int.le_refl _)
  have hk3 := few_greedy h1 h12 (show (m : Int) ≤ 12 by omega)
  have hd := days_two h1
  have hgr : (greedyR (n : Int) P (m : Int)).length = (gS (n : Int) P (m : Int)).length := by unfold gS; rw [List.length_map]
  have hl12 := greedyR_len (n : Int) P (m : Int)
  rw [Int.toNat_natCast] at hb2 hk2 hk3
  rw [hf _ h1, hf _ h12, hg, hu]
  rw [hgr, hg] at hd hl12
  refine ⟨h1, greedy_valid h1, ⟨hb.1, hb2⟩, ⟨hk, by omega⟩, fun x hx => ⟨(usesL_in n P x hx).1, uses_bound h1 x hx⟩, usesL_len n P, uses_items n7 hp, by rw [hd]; omega, by omega, hl12, by omega⟩

/-- The sum of the first numbers. -/
def sumTo (U : List Int) (i : Nat) : Int := (U.take i).sum
theorem sumTo_succ {U : List Int} {i : Nat} (h : i < U.length) : sumTo U (i + 1) = sumTo U i + U[i] := by
  unfold sumTo
  rw [List.take_succ_eq_append_getElem h, List.sum_append]
  simp
theorem sumTo_all (U : List Int) : sumTo U U.length = U.sum := by unfold sumTo; rw [List.take_length]
theorem sumTo_in {U : List Int} {b : Int} (h : ∀ x ∈ U, 0 ≤ x ∧ x ≤ b) : ∀ i, i ≤ U.length → 0 ≤ sumTo U i ∧ sumTo U i ≤ b * (i : Int)
  | 0, _ => by simp [sumTo]
  | i + 1, hi => by
    have ih := sumTo_in h i (by omega)
    have hx := h U[i] (List.getElem_mem (by omega))
    rw [sumTo_succ (by omega)]
    have e : b * ((i + 1 : Nat) : Int) = b * (i : Int) + b := by rw [Int.natCast_add, Int.mul_add]; simp
    rw [e]
    omega

set_option maxRecDepth 100000 in
set_option maxHeartbeats 6400000 in
theorem walkRounds (w : World) (IG : ∀ n P m, P.length ≤ 1048576 → GreedyRoundsIs 18 n P m) (IB : ∀ n P m, P.length ≤ 1048576 → RoundBoundIs 26 n P m)
    (IF : ∀ n P m, P.length ≤ 1048576 → FewestRoundsIs 28 n P m) (IR : ∀ n P m S, P.length ≤ 1048576 → S.length + totL S ≤ 1048576 → RoundsOkIs 14 n P m S)
    (IU : ∀ n P, P.length ≤ 1048576 → UsesOfIs 23 n P) (IN : ∀ s, s ≤ 1023 → CountItemsIs 33 s) (ID : ∀ n P m d, P.length ≤ 1048576 → DaysForIs 30 n P m d)
    (a : Option Addr) (len cap : Nat) (hB : BytesAt w a len) :
    Calls Try.prog 9 #[.slice a len cap] w fun e w' => e = .returned (.bool true) ∧ Below w.heap.size w w' := by
  by_cases hbig : (1048576 : Int) < (len : Int)
  · go_enter Try.func9, Try.ntmps9
    go_wp2
    go_ret
    exact ⟨rfl, Below.refl _ _⟩
  have hl : len ≤ 1048576 := by omega
  have C1 := Lib.hid (makeNum_any w w a len cap 1 hB (Below.refl _ _) hl (by omega) (by omega))
  have C3 := Lib.hid (fun V h => makeNum_any w V a len cap 3 hB h hl (by omega) (by omega))
  have CM := Lib.hid (fun V n n1 n7 h => specMakeSeven w V a len cap 20 n n1 n7 hB h hl (by omega) (by omega))
  have HIG := Lib.hid IG
  have HIB := Lib.hid IB
  have HIF := Lib.hid IF
  have HIR := Lib.hid IR
  have HIU := Lib.hid IU
  have HIN := Lib.hid IN
  have HID := Lib.hid ID
  clear hB IG IB IF IR IU IN ID
  go_enter Try.func9, Try.ntmps9
  go_wp2_with fail
  refine C1.out.mono ?_
  rintro e w1 ⟨x, rfl, x0, x1, bb⟩
  have B1 := Lib.hid bb
  clear bb C1 hbig hl
  obtain ⟨n, hn⟩ : ∃ n : Nat, 1 + x % 7 = (n : Int) := ⟨(1 + x % 7).toNat, by omega⟩
  have n1 : 1 ≤ n := by omega
  have n7 : n ≤ 7 := by omega
  have CM1 := Lib.hid (CM.out w1 n n1 n7 B1.out)
  unfold MadeSeven at CM1
  go_wp2_with fail
  refine CM1.out.mono ?_
  rintro e w2 ⟨v, P, rfl, hv, hp, bb⟩
  have R2 := Lib.hid hv.reads
  have HP := Lib.hid hp
  have B2 := Lib.hid (below_up B1.out bb)
  obtain ⟨ga, gc, rfl, hcap, -⟩ := id hv
  clear hv hp bb CM CM1 B1 hn x0 x1
  go_wp2_with fail
  refine (C3.out _ B2.out).mono ?_
  rintro e w3 ⟨y, rfl, y0, y1, bb⟩
  have R3 := Lib.hid (R2.out.below bb)
  have B3 := Lib.hid (below_up B2.out bb)
  clear bb C3 R2 B2
  obtain ⟨m, hm⟩ : ∃ m : Nat, 1 + y % 4 = (m : Int) := ⟨(1 + y % 4).toNat, by omega⟩
  have m1 : 1 ≤ m := by omega
  have m4 : m ≤ 4 := by omega
  obtain ⟨f1, f2, f3, f4, f5, f6, f7, f8, f9, f10, f11⟩ := rounds_all n7 m1 m4 HP.out.1 HP.out.2
  have hpl := HP.out.2
  have hmx : ∀ p ∈ P, p ≤ 1023 := fun p hp => ((pools_in HP.out.1).2.2 p hp).2
  have gl := gS_len (n : Int) P (m : Int)
  have CG := Lib.hid (fun W h => HIG.out (n : Int) P (m : Int) (by omega) W (.slice ga P.length gc) h)
  have CB := Lib.hid (fun W h => HIB.out (n : Int) P (m : Int) (by omega) W (.slice ga P.length gc) h)
  have CF := Lib.hid (fun W h => HIF.out (n : Int) P (m : Int) (by omega) W (.slice ga P.length gc) ⟨ga, gc, rfl, hcap, h⟩)
  have CF2 := Lib.hid (fun W h => HIF.out (n : Int) P 12 (by omega) W (.slice ga P.length gc) ⟨ga, gc, rfl, hcap, h⟩)
  have CR := Lib.hid (fun W u h h' => HIR.out (n : Int) P (m : Int) (gS (n : Int) P (m : Int)) (by omega) (by omega) W (.slice ga P.length gc) u h h')
  have CU := Lib.hid (fun W h => HIU.out (n : Int) P (by omega) W (.slice ga P.length gc) h)
  have CD := Lib.hid (fun W h => HID.out (n : Int) P (m : Int) 2 (by omega) W (.slice ga P.length gc) h)
  have CN := Lib.hid (fun p (hp : p ∈ P) W => HIN.out p (hmx p hp) W)
  unfold GivesLs at CG
  unfold ListI at CU
  rw [f1] at CG
  rw [f2] at CR
  rw [f8] at CD
  clear HIG HIB HIF HIR HIU HIN HID f1 f2 f8 gl hmx hcap
  generalize boundI (n : Int) P (m : Int) = b at CB f3 f4 f5 f11
  generalize fewRI (n : Int) P (m : Int) = f at CF f4
  generalize fewRI (n : Int) P 12 = g at CF2 f9
  have FU := Lib.hid f5
  have FS := Lib.hid f7
  have FL : Hid ((usesR (n : Int) P).length = n) := f6
  generalize usesR (n : Int) P = U at CU FU FS FL f6
  generalize gS (n : Int) P (m : Int) = G at CG CR CD f3 f4 f9 f10
  clear f5 f7
  obtain ⟨q, hq⟩ : ∃ q, G.length = q := ⟨_, rfl⟩
  obtain ⟨p, hp⟩ : ∃ p, P.length = p := ⟨_, rfl⟩
  have HQ := Lib.hid hq
  have HPL := Lib.hid hp
  have HUL := Lib.hid f6
  have HPS : Hid (P.length ≤ 12 ∧ ∀ s ∈ P, 0 ≤ cntI s ∧ cntI s ≤ 64) := ⟨by omega, fun s _ => cnt_in s⟩
  rw [hq] at CD f3 f4 f9 f10
  rw [hp] at CG CB CF CF2 CR CU CD R3 hpl ⊢
  clear hq hp HP f6
  go_wp2_with fail
  refine (CG.out _ R3.out).mono ?_
  rintro e w4 ⟨u, rfl, hu, bb⟩
  have L4 := Lib.hid hu.cap
  have R4 := Lib.hid (R3.out.below bb)
  have B4 := Lib.hid (below_up B3.out bb)
  obtain ⟨gu, cu, rfl, -⟩ := hu.cap
  rw [HQ.out] at L4 ⊢
  clear hu bb CG R3 B3 hm y0 y1
  go_wp2_with fail
  refine (CB.out _ R4.out).mono ?_
  rintro e w5 ⟨rfl, bb⟩
  have R5 := Lib.hid (R4.out.below bb)
  have L5 := Lib.hid (L4.out.below bb)
  have B5 := Lib.hid (below_up B4.out bb)
  clear bb CB R4 L4 B4
  go_wp2_with fail
  refine (CF.out _ R5.out).mono ?_
  rintro e w6 ⟨rfl, bb⟩
  have R6 := Lib.hid (R5.out.below bb)
  have L6 := Lib.hid (L5.out.below bb)
  have B6 := Lib.hid (below_up B5.out bb)
  clear bb CF R5 L5 B5
  go_wp2_with fail
  refine (CR.out _ _ R6.out L6.out).mono ?_
  rintro e w7 ⟨rfl, bb⟩
  have R7 := Lib.hid (R6.out.below bb)
  have B7 := Lib.hid (below_up B6.out bb)
  clear bb CR R6 L6 B6
  have t1 : ¬ b < 0 := by omega
  have t2 : ¬ (q : Int) < b := by omega
  have t3 : (p : Int) ≤ 7 := by omega
  have t4 : ¬ f < b := by omega
  have t5 : ¬ (q : Int) < f := by omega
  have t6 : ¬ (7 : Int) < (p : Int) := by omega
  have t7 : (f == -1) = false := beq_eq_false_iff_ne.2 (by omega)
  go_wp2_with fail
  refine (CU.out _ R7.out).mono ?_
  rintro e w8 ⟨u, rfl, ou, bb⟩
  have U8 := Lib.hid ou.reads
  have R8 := Lib.hid (R7.out.below bb)
  have B8 := Lib.hid (below_up B7.out bb)
  obtain ⟨go, co, rfl, -⟩ := ou.reads
  rw [FL.out] at U8 ⊢
  clear ou bb CU R7 B7 t1 t2 t3 t4 t5 t6 t7
  have HS0 : Hid (sumTo U 0 = 0) := rfl
  have HSS : Hid (∀ i (h : i < U.length), sumTo U (i + 1) = sumTo U i + U[i]) := fun i h => sumTo_succ h
  have HSI : Hid (∀ i, i ≤ U.length → 0 ≤ sumTo U i ∧ sumTo U i ≤ 7 * (i : Int)) := fun i h => sumTo_in (fun x hx => ⟨(FU.out x hx).1, by have := (FU.out x hx).2; omega⟩) i h
  have HT0 : Hid (sumTo (P.map cntI) 0 = 0) := rfl
  have HTS : Hid (∀ i (h : i < P.length), sumTo (P.map cntI) (i + 1) = sumTo (P.map cntI) i + cntI P[i]) := fun i h => by
    have := sumTo_succ (U := P.map cntI) (i := i) (by rw [List.length_map]; exact h)
    rw [List.getElem_map] at this
    exact this
  have HTI : Hid (∀ i, i ≤ P.length → 0 ≤ sumTo (P.map cntI) i ∧ sumTo (P.map cntI) i ≤ 64 * (i : Int)) := fun i h => sumTo_in (b := 64) (fun x hx => by
    obtain ⟨s, -, rfl⟩ := List.mem_map.1 hx
    exact cnt_in s) i (by rw [List.length_map]; exact h)
  have HEQ : Hid (sumTo U n = sumTo (P.map cntI) p) := by
    unfold Hid
    rw [← FL.out, ← HPL.out, sumTo_all, ← List.length_map (f := cntI), sumTo_all]
    exact FS.out
  generalize sumTo (P.map cntI) = T at HT0 HTS HTI HEQ
  generalize sumTo U = V at HS0 HSS HSI HEQ
  have V0 := HS0.out
  go_wp2
  go_loopw [11, 96] (fun sv iv wr => ∃ i : Nat, i ≤ n ∧ iv = .int .i64 (i : Int) ∧ sv = .int .i64 (V i) ∧ wr = w8) (fun _ iv _ => n - (intOf iv).toNat)
  case atStart => exact ⟨0, Nat.zero_le _, rfl, by rw [V0], by first | rfl | trivial⟩
  case round =>
    clear V0
    obtain ⟨i, hi, rfl, rfl, hw⟩ := hrel
    obtain rfl := hw.symm
    by_cases hlt : i < n
    · have hiu : i < U.length := by rw [FL.out]; exact hlt
      have i0 : (0 : Int) ≤ (i : Int) := by omega
      have i1 : (i : Int) < (n : Int) := by omega
      obtain ⟨b1, o1, rfl, e1⟩ : ∃ b o, go = some ⟨b, o, none⟩ ∧ w8.cell? ⟨b, o + i, none⟩ = some (.int .i64 U[i]) := by
        obtain ⟨_, _, e, h⟩ := U8.out
        injection e with e1 e2 e3
        rcases h with h | ⟨b, o, h, hc⟩
        · rw [h] at hiu; simp at hiu
        · exact ⟨b, o, by rw [e1, h], hc i hiu⟩
      have hx := FU.out U[i] (List.getElem_mem hiu)
      have HV := HSS.out i hiu
      have hv := HSI.out i (by omega)
      generalize U[i] = z at e1 hx HV
      have z1 : ¬ b < z := by omega
      have hz : V i + z = V (i + 1) := HV.symm
      have HVW : IntKind.i64.wrap (V i + z) = V (i + 1) := by rw [← hz, IntKind.wrap_i64]; omega
      clear HV hx hiu hz hv
      go_wp2
      go_roundw
      case rel => exact ⟨i + 1, by omega, by go_num, by first | rfl | (rw [HVW]) | skip, by first | rfl | trivial⟩
      case measure => simp [intOf]; omega
    · obtain rfl : i = n := by omega
      have hVT := HEQ.out
      have T0 := HT0.out
      generalize hvi : V i = vi at hVT
      clear HS0 HSS HSI HEQ hvi FU FS U8 f11
      go_wp2
      go_loopw [14, 109] (fun sv jv wr => ∃ j : Nat, j ≤ p ∧ jv = .int .i64 (j : Int) ∧ sv = .int .i64 (T j) ∧ Hid (Below w.heap.size w wr) ∧ Hid (IntsAt wr (.slice ga p gc) P)) (fun _ jv _ => p - (intOf jv).toNat)
      case atStart => exact ⟨0, Nat.zero_le _, rfl, by rw [T0], B8, R8⟩
      case round =>
        clear T0 B8 R8
        obtain ⟨j, hj, rfl, rfl, B9, R9⟩ := hrel
        by_cases hlt2 : j < p
        · have hjp : j < P.length := by rw [HPL.out]; exact hlt2
          have j0 : (0 : Int) ≤ (j : Int) := by omega
          have j1 : (j : Int) < (p : Int) := by omega
          obtain ⟨b1, o1, rfl, e1⟩ : ∃ b o, ga = some ⟨b, o, none⟩ ∧ wr.cell? ⟨b, o + j, none⟩ = some (.int .i64 P[j]) := by
            obtain ⟨_, _, e, h⟩ := R9.out
            injection e with e1 e2 e3
            rcases h with h | ⟨b, o, h, hc⟩
            · rw [h] at hjp; simp at hjp
            · exact ⟨b, o, by rw [e1, h], hc j hjp⟩
          have CX := Lib.hid (CN.out P[j] (List.getElem_mem hjp) wr)
          have hv := HTI.out j (by omega)
          have hs := HTS.out j hjp
          have hc := (HPS.out.2 P[j] (List.getElem_mem hjp))
          have hp12 : p ≤ 12 := by have := HPS.out.1; rw [HPL.out] at this; exact this
          generalize P[j] = z at e1 CX hs hc
          generalize cntI z = cz at CX hs hc
          have HVW : IntKind.i64.wrap (T j + cz) = T (j + 1) := by rw [hs, IntKind.wrap_i64]; omega
          clear hs hv hc hjp
          go_wp2_with fail
          refine CX.out.mono ?_
          rintro e v1 ⟨rfl, bb⟩
          have B10 := Lib.hid (below_up B9.out bb)
          have R10 := Lib.hid (R9.out.below bb)
          clear bb B9 R9 e1 CX
          go_wp2
          go_roundw
          case rel => exact ⟨j + 1, by omega, by go_num, by first | rfl | (rw [HVW]) | skip, B10, R10⟩
          case measure => simp [intOf]; omega
        · obtain rfl : j = p := by omega
          generalize hvt : T j = tj at hVT
          clear HT0 HTS HTI hvt
          subst hVT
          go_wp2_with fail
          refine (CD.out _ R9.out).mono ?_
          rintro e v1 ⟨rfl, bb⟩
          have B10 := Lib.hid (below_up B9.out bb)
          have R10 := Lib.hid (R9.out.below bb)
          clear bb B9 R9 CD
          go_wp2_with fail
          refine (CF2.out _ R10.out).mono ?_
          rintro e v2 ⟨rfl, bb⟩
          have BF := Lib.hid (below_up B10.out bb)
          have q1 : f ≤ (q : Int) := f4.2
          have q2 : ¬ (q : Int) < f := by omega
          clear bb B10 R10 CF2 f3 f4
          go_wp2
          all_goals (go_ret; exact ⟨by first | rfl | exact ret_bool (by simp; omega), BF.out⟩)
end Go.Proofs.Ythfnbnjajcigeaa
