/- The walk of FnDesigns: it returns true for every code. No condition. -/
import Derived.Test.YtbkhmlkicafheaaDesignsPlain
import Derived.Test.YtbkhmlkicafheaaSpareImpl
import Derived.Test.YtbkhmlkicafheaaSolvesImpl
import Derived.Test.YtbkhmlkicafheaaVecImpl
import Derived.Test.YtbkhmlkicafheaaDesignImpl
import Derived.Test.YtbkhmlkicafheaaDecodeLaw
import Derived.Test.YtbkhmlkicafheaaBoundImpl
import Derived.Test.YtbkhmlkicafheaaCur
namespace Go.Proofs.Ytbkhmlkicafheaa
open Go.RowKit

set_option maxRecDepth 100000 in
set_option maxHeartbeats 16000000 in
theorem walkDesigns (w : World) (a : Option Addr) (len cap : Nat) (hB : BytesAt w a len) :
    Calls Try.prog 12 #[.slice a len cap] w fun e w' => e = .returned (.bool true) ∧ Below w.heap.size w w' := by
  by_cases hbig : (1048576 : Int) < (len : Int)
  · go_enter Try.func12, Try.ntmps12
    go_wp2
    go_ret
    exact ⟨rfl, Below.refl _ _⟩
  have hl : len ≤ 1048576 := by omega
  have C1 := Lib.hid (makeNum_any w w a len cap 1 hB (Below.refl _ _) hl (by omega) (by omega))
  have C3 := Lib.hid (fun V h => makeNum_any w V a len cap 3 hB h hl (by omega) (by omega))
  clear hB
  go_enter Try.func12, Try.ntmps12
  go_wp2_with fail
  refine C1.out.mono ?_
  rintro e w1 ⟨x, rfl, x0, x1, bb⟩
  have B1 := Lib.hid bb
  clear bb C1 hbig hl
  rcases (show x % 2 = 0 ∨ x % 2 = 1 by omega) with hx | hx
  · have F := fine2
    have hlen : (vecD 2).length = 2 := F.len
    have hsz := vecD_size 2
    have hll : ∀ d ∈ vecD 2, d.L.length ≤ 1048576 ∧ d.R.length ≤ 1048576 := SzW.lists (by omega)
    have hl1 : (vecD 2).length ≤ 1048576 := by omega
    have CV : Hid (∀ W, Calls Try.prog 47 #[.int .i64 2] W fun e w' => ∃ v f, e = .returned (.tuple #[v, .int .i64 3, .bool true]) ∧ WdsR w' W.heap.size v f (vecD 2) ∧ Below W.heap.size W w') := fun W => implVec 2 (by unfold wfW; decide) W
    have CM : Hid (∀ W, Calls Try.prog 16 #[.int .i64 2, .bool false] W fun e w' => e = .returned (.int .i64 3) ∧ W = w') := fun W => by
      have := implMostUnknownE 2 false W
      rwa [show mostI 2 false = 3 from F.most] at this
    have CD : Hid (∀ W v, WdsAt W v (vecD 2) → Calls Try.prog 48 #[v, .int .i64 3] W fun e w' => e = .returned (.bool true) ∧ Below W.heap.size W w') := fun W v h => by
      have := implDesignOk v (vecD 2) 3 W h hl1 hll
      rwa [F.ok] at this
    have CS : Hid (∀ W v, WdsAt W v (vecD 2) → Calls Try.prog 49 #[probV 3 true true true, v] W fun e w' => e = .returned (.bool true) ∧ Below W.heap.size W w') := fun W v h => by
      have := implDesignSolves v (vecD 2) 3 true true true W h hl1 hll
      rwa [F.solves] at this
    have CP : Hid (∀ W v, WdsAt W v (vecD 2) → Calls Try.prog 50 #[probV 3 true true true, v] W fun e w' => e = .returned (.int .i64 (-1)) ∧ Below W.heap.size W w') := fun W v h => by
      have := implSpare v (vecD 2) 3 true true true W h hl1 hll
      rwa [F.spare] at this
    have CC : Hid (∀ W v, WdsAt W v (vecD 2) → Calls Try.prog 53 #[probV 3 true true true, v] W fun e w' => e = .returned (.int .i64 7) ∧ Below W.heap.size W w') := fun W v h => by
      have := implCountSigns v (vecD 2) 3 true true true W h hl1 hll
      rwa [show cntR (vecD 2) 3 true true true = 7 from F.count] at this
    have CG : Hid (∀ (c : Int), -3 ≤ c → c ≤ 3 → ∀ W v, WdsAt W v (vecD 2) → Calls Try.prog 51 #[v, .int .i64 3, .int .i64 c] W fun e w' => ∃ u, e = .returned (.tuple #[u, .bool true]) ∧ IntsAt w' u (signsL (vecD 2) c) ∧ Below W.heap.size W w') := fun c h0 h1 W v h => by
      have hs : sokB (vecD 2) 3 c = true := by
        unfold sokB
        rw [F.ok, decide_eq_true h0, decide_eq_true h1]
        rfl
      refine (implSignsOf v (vecD 2) 3 c W h hl1 hll (by omega) (by omega)).mono ?_
      rintro e w' ⟨u, he, ho, hb⟩
      rw [hs] at he
      refine ⟨u, he, ?_, hb⟩
      have := ho.reads
      unfold sgR at this
      rwa [hs, if_pos rfl] at this
    have CE : Hid (∀ (c : Int), -3 ≤ c → c ≤ 3 → ∀ W v vs, WdsAt W v (vecD 2) → IntsAt W vs (signsL (vecD 2) c) → Calls Try.prog 52 #[probV 3 true true true, v, vs] W fun e w' => ∃ u, e = .returned u ∧ IntsAt w' u [c] ∧ Below W.heap.size W w') := fun c h0 h1 W v vs h hV => by
      refine (implDecodeSigns v vs (vecD 2) 3 true true true _ W h hV hl1 hll ⟨by rw [signsL_len]; omega, signs_wf _ c⟩).mono ?_
      rintro e w' ⟨u, he, ho, hb⟩
      refine ⟨u, he, ?_, hb⟩
      have hd : decR (vecD 2) 3 true true true (signsL (vecD 2) c) = [c] := by
        have := (signs2 (c + 3).toNat (by omega)).1
        rwa [show (((c + 3).toNat : Int) - 3) = c by omega] at this
      rw [hd] at ho
      exact IntsAt.of_owns ho
    have HNG : Hid (∀ (c : Int), -3 ≤ c → c ≤ 3 → signsL (vecD 2) (-c) = (signsL (vecD 2) c).map fun y => -y) := fun c h0 h1 => by
      have := (signs2 (c + 3).toNat (by omega)).2
      rwa [show (((c + 3).toNat : Int) - 3) = c by omega] at this
    have HSM : Hid (∀ (c : Int), ∀ y ∈ signsL (vecD 2) c, -1 ≤ y ∧ y ≤ 1) := fun c y hy => by
      unfold signsL at hy
      obtain ⟨d, -, rfl⟩ := List.mem_map.1 hy
      exact outc_small d.L d.R c
    have HSL : Hid (∀ c, (signsL (vecD 2) c).length = 2) := fun c => by rw [signsL_len]; exact hlen
    have HEV := Lib.hid F.even
    have HLN := Lib.hid hlen
    clear F hlen hsz hll hl1
    generalize vecD 2 = D at CV CD CS CP CC CG CE HNG HSM HSL HEV HLN
    unfold probV at CS CP CC CE
    go_wp2_with fail
    refine (CV.out _).mono ?_
    rintro e w2 ⟨v, f, rfl, r2, bb⟩
    have hv := r2.reads
    obtain ⟨al, cl, hvf, hcl, -⟩ := hv
    rw [HLN.out] at hvf hcl
    subst hvf
    have aa := alloc_below w2 (.cells #[.int .i64 3, .bool true, .bool true, .bool true] 69)
    have P3 := Lib.hid (ProbAt.new w2 69 3 true true true)
    have W3 := Lib.hid (r2.reads.below aa)
    have B3 := Lib.hid (below_up (below_up B1.out bb) aa)
    obtain ⟨dp, hdp⟩ : ∃ dp, w2.heap.size = dp := ⟨_, rfl⟩
    rw [hdp] at P3
    generalize hX3 : w2.alloc (.cells #[.int .i64 3, .bool true, .bool true, .bool true] 69) = w3 at P3 W3 B3
    clear r2 bb aa CV B1 hx
    go_wp2_with fail
    clear hX3 hdp x0 x1
    refine (CM.out _).mono ?_
    rintro e w4 ⟨rfl, rfl⟩
    go_wp2_with fail
    refine (CD.out _ _ W3.out).mono ?_
    rintro e w5 ⟨rfl, bb⟩
    have P5 := Lib.hid (P3.out.below bb)
    have W5 := Lib.hid (W3.out.below bb)
    have B5 := Lib.hid (below_up B3.out bb)
    clear bb P3 W3 B3 CD CM
    obtain ⟨e0, e1, e2, e3, -⟩ := P5.out
    go_wp2_with fail
    refine (CS.out _ _ W5.out).mono ?_
    rintro e w6 ⟨rfl, bb⟩
    have P6 := Lib.hid (P5.out.below bb)
    have W6 := Lib.hid (W5.out.below bb)
    have B6 := Lib.hid (below_up B5.out bb)
    clear bb P5 W5 B5 CS e0 e1 e2 e3
    obtain ⟨e0, e1, e2, e3, -⟩ := P6.out
    go_wp2_with fail
    refine (CP.out _ _ W6.out).mono ?_
    rintro e w7 ⟨rfl, bb⟩
    have P7 := Lib.hid (P6.out.below bb)
    have W7 := Lib.hid (W6.out.below bb)
    have B7 := Lib.hid (below_up B6.out bb)
    clear bb P6 W6 B6 CP e0 e1 e2 e3
    go_wp2_with fail
    go_loopw [67] (fun iv wr => ∃ i : Nat, i ≤ 2 ∧ iv = .int .i64 i ∧ Hid (WdsAt wr (.slice al 2 cl) D) ∧ Hid (ProbAt wr dp 3 true true true) ∧ Hid (Below w.heap.size w wr)) (fun iv _ => 2 - (intOf iv).toNat)
    case atStart => exact ⟨0, by omega, rfl, W7, P7, B7⟩
    case round =>
      clear W7 P7 B7
      obtain ⟨i, hi, rfl, W8, P8, B8⟩ := hrel
      by_cases hlt : i < 2
      · have hil : i < D.length := by rw [HLN.out]; exact hlt
        obtain ⟨a2, c2, heq, -, h8⟩ := W8.out
        rw [HLN.out] at heq
        simp only [Value.slice.injEq, true_and] at heq
        obtain ⟨rfl, rfl⟩ := heq
        obtain ⟨b, o, vl, vr, rfl, h2, hL, hR⟩ := h8 i hil
        have hev := HEV.out D[i] (List.getElem_mem hil)
        obtain ⟨d, hd⟩ : ∃ d, D[i] = d := ⟨_, rfl⟩
        rw [hd] at hL hR hev
        obtain ⟨ga, ca, rfl, -⟩ := hL
        obtain ⟨gb, cb, rfl, -⟩ := hR
        rw [← hev.1] at h2
        obtain ⟨m, hm⟩ : ∃ m, d.L.length = m := ⟨_, rfl⟩
        rw [hm] at h2 hev
        obtain ⟨p0, p1, -⟩ := h2
        have hm3 : 3 * (m : Int) = 3 := hev.2
        have hmm : m = 1 := by omega
        subst hmm
        have i0 : (0 : Int) ≤ (i : Int) := by omega
        have i1 : (i : Int) < 2 := by omega
        have aa := alloc_below wr (.cells #[.slice ga 1 ca, .slice gb 1 cb] 74)
        have T9 := TwoAt.new wr 74 (.slice ga 1 ca) (.slice gb 1 cb)
        have W9 := Lib.hid (W8.out.below aa)
        have P9 := Lib.hid (P8.out.below aa)
        have B9 := Lib.hid (below_up B8.out aa)
        generalize hX9 : wr.alloc (.cells #[.slice ga 1 ca, .slice gb 1 cb] 74) = X9 at T9 W9 P9 B9
        obtain ⟨t0, t1, -⟩ := T9
        clear hm hev hm3 hd h8 hil aa W8 P8 B8
        go_wp2
        go_roundw
        case rel => exact ⟨i + 1, by omega, by go_num, W9, P9, B9⟩
        case measure => simp [intOf]; omega
      · obtain rfl : i = 2 := by omega
        clear HEV hlt hi
        go_wp2_with fail
        refine (C3.out _ B8.out).mono ?_
        rintro e wA ⟨y, rfl, y0, y1, bb⟩
        have PA := Lib.hid (P8.out.below bb)
        have WA := Lib.hid (W8.out.below bb)
        have BA := Lib.hid (below_up B8.out bb)
        clear bb P8 W8 B8 C3
        obtain ⟨c, hc⟩ : ∃ c, y % 7 - 3 = c := ⟨_, rfl⟩
        have c0 : -3 ≤ c := by omega
        have c1 : c ≤ 3 := by omega
        have CG1 := Lib.hid (CG.out c c0 c1)
        have CG2 := Lib.hid (CG.out (-c) (by omega) (by omega))
        rw [HNG.out c c0 c1] at CG2
        have CE1 := Lib.hid (CE.out c c0 c1)
        have HS1 := Lib.hid (HSM.out c)
        have HSZ := Lib.hid (HSL.out c)
        clear CG CE HSM HSL HNG
        generalize signsL D c = S at CG1 CG2 CE1 HS1 HSZ
        go_wp2_with fail
        refine (CG1.out _ _ WA.out).mono ?_
        rintro e wB ⟨u, rfl, ou, bb⟩
        obtain ⟨gu, cu, hu, hcu⟩ := id ou
        rw [HSZ.out] at hu
        subst hu
        have PB := Lib.hid (PA.out.below bb)
        have WB := Lib.hid (WA.out.below bb)
        have BB := Lib.hid (below_up BA.out bb)
        have UB := Lib.hid ou
        clear bb PA WA BA CG1 ou hcu hc
        go_wp2_with fail
        refine (CG2.out _ _ WB.out).mono ?_
        rintro e wC ⟨t, rfl, ot, bb⟩
        obtain ⟨gt, ct, ht, hct⟩ := id ot
        rw [List.length_map, HSZ.out] at ht
        subst ht
        have PC := Lib.hid (PB.out.below bb)
        have WC := Lib.hid (WB.out.below bb)
        have BC := Lib.hid (below_up BB.out bb)
        have UC := Lib.hid (UB.out.below bb)
        have TC := Lib.hid ot
        clear bb PB WB BB UB CG2 ot hct
        obtain ⟨e0, e1, e2, e3, -⟩ := PC.out
        go_wp2_with fail
        refine (CE1.out _ _ _ WC.out UC.out).mono ?_
        rintro e wD ⟨z, rfl, oz, bb⟩
        obtain ⟨gz, cz, hz, hcz⟩ := oz
        subst hz
        have PD := Lib.hid (PC.out.below bb)
        have WD := Lib.hid (WC.out.below bb)
        have BD := Lib.hid (below_up BC.out bb)
        have UD := Lib.hid (UC.out.below bb)
        have TD := Lib.hid (TC.out.below bb)
        clear bb PC WC BC UC TC CE1 e0 e1 e2 e3
        rcases hcz with hcz | ⟨bz, oz, rfl, hcz⟩
        · cases hcz
        have z0 := hcz 0 (by simp)
        simp only [Nat.add_zero, List.getElem_cons_zero] at z0
        clear hcz
        go_wp2_with fail
        clear z0
        go_loopw [146] (fun iv wr => ∃ i : Nat, i ≤ 2 ∧ iv = .int .i64 i ∧ wr = wD) (fun iv _ => 2 - (intOf iv).toNat)
        case atStart => exact ⟨0, by omega, rfl, rfl⟩
        case round =>
          obtain ⟨i, hi, rfl, rfl⟩ := hrel
          by_cases hlt : i < 2
          · obtain ⟨gu2, cu2, hu, hcu⟩ := UD.out
            obtain ⟨gt2, ct2, ht, hct⟩ := TD.out
            rw [HSZ.out] at hu
            rw [List.length_map, HSZ.out] at ht
            simp only [Value.slice.injEq, true_and] at hu ht
            obtain ⟨rfl, rfl⟩ := hu
            obtain ⟨rfl, rfl⟩ := ht
            have hiS : i < S.length := by rw [HSZ.out]; exact hlt
            rcases hcu with hcu | ⟨bu, ou, rfl, hcu⟩
            · exact absurd hiS (by rw [hcu]; simp)
            rcases hct with hct | ⟨bt, ot, rfl, hct⟩
            · exact absurd hiS (by rw [← List.length_map (f := fun y : Int => -y), hct]; simp)
            have u0 := hcu i hiS
            have t0 := hct i (by rw [List.length_map]; exact hiS)
            rw [List.getElem_map] at t0
            have hsm := HS1.out S[i] (List.getElem_mem hiS)
            obtain ⟨xs, hxs⟩ : ∃ xs, S[i] = xs := ⟨_, rfl⟩
            rw [hxs] at u0 t0 hsm
            have i0 : (0 : Int) ≤ (i : Int) := by omega
            have i1 : (i : Int) < 2 := by omega
            clear hxs hcu hct hiS
            go_wp2
            go_roundw
            case rel => exact ⟨i + 1, by omega, by go_num, by first | rfl | trivial⟩
            case measure => simp [intOf]; omega
          · obtain rfl : i = 2 := by omega
            clear hlt hi
            obtain ⟨e0, e1, e2, e3, -⟩ := PD.out
            go_wp2_with fail
            refine (CC.out _ _ WD.out).mono ?_
            rintro e wE ⟨rfl, bb⟩
            have BE := Lib.hid (below_up BD.out bb)
            clear bb
            go_wp2
            go_ret
            exact ⟨rfl, BE.out⟩
  · have F := fine3
    have hlen : (vecD 3).length = 3 := F.len
    have hsz := vecD_size 3
    have hll : ∀ d ∈ vecD 3, d.L.length ≤ 1048576 ∧ d.R.length ≤ 1048576 := SzW.lists (by omega)
    have hl1 : (vecD 3).length ≤ 1048576 := by omega
    have CV : Hid (∀ W, Calls Try.prog 47 #[.int .i64 3] W fun e w' => ∃ v f, e = .returned (.tuple #[v, .int .i64 12, .bool true]) ∧ WdsR w' W.heap.size v f (vecD 3) ∧ Below W.heap.size W w') := fun W => implVec 3 (by unfold wfW; decide) W
    have CM : Hid (∀ W, Calls Try.prog 16 #[.int .i64 3, .bool false] W fun e w' => e = .returned (.int .i64 12) ∧ W = w') := fun W => by
      have := implMostUnknownE 3 false W
      rwa [show mostI 3 false = 12 from F.most] at this
    have CD : Hid (∀ W v, WdsAt W v (vecD 3) → Calls Try.prog 48 #[v, .int .i64 12] W fun e w' => e = .returned (.bool true) ∧ Below W.heap.size W w') := fun W v h => by
      have := implDesignOk v (vecD 3) 12 W h hl1 hll
      rwa [F.ok] at this
    have CS : Hid (∀ W v, WdsAt W v (vecD 3) → Calls Try.prog 49 #[probV 12 true true true, v] W fun e w' => e = .returned (.bool true) ∧ Below W.heap.size W w') := fun W v h => by
      have := implDesignSolves v (vecD 3) 12 true true true W h hl1 hll
      rwa [F.solves] at this
    have CP : Hid (∀ W v, WdsAt W v (vecD 3) → Calls Try.prog 50 #[probV 12 true true true, v] W fun e w' => e = .returned (.int .i64 (-1)) ∧ Below W.heap.size W w') := fun W v h => by
      have := implSpare v (vecD 3) 12 true true true W h hl1 hll
      rwa [F.spare] at this
    have CC : Hid (∀ W v, WdsAt W v (vecD 3) → Calls Try.prog 53 #[probV 12 true true true, v] W fun e w' => e = .returned (.int .i64 25) ∧ Below W.heap.size W w') := fun W v h => by
      have := implCountSigns v (vecD 3) 12 true true true W h hl1 hll
      rwa [show cntR (vecD 3) 12 true true true = 25 from F.count] at this
    have CG : Hid (∀ (c : Int), -12 ≤ c → c ≤ 12 → ∀ W v, WdsAt W v (vecD 3) → Calls Try.prog 51 #[v, .int .i64 12, .int .i64 c] W fun e w' => ∃ u, e = .returned (.tuple #[u, .bool true]) ∧ IntsAt w' u (signsL (vecD 3) c) ∧ Below W.heap.size W w') := fun c h0 h1 W v h => by
      have hs : sokB (vecD 3) 12 c = true := by
        unfold sokB
        rw [F.ok, decide_eq_true h0, decide_eq_true h1]
        rfl
      refine (implSignsOf v (vecD 3) 12 c W h hl1 hll (by omega) (by omega)).mono ?_
      rintro e w' ⟨u, he, ho, hb⟩
      rw [hs] at he
      refine ⟨u, he, ?_, hb⟩
      have := ho.reads
      unfold sgR at this
      rwa [hs, if_pos rfl] at this
    have CE : Hid (∀ (c : Int), -12 ≤ c → c ≤ 12 → ∀ W v vs, WdsAt W v (vecD 3) → IntsAt W vs (signsL (vecD 3) c) → Calls Try.prog 52 #[probV 12 true true true, v, vs] W fun e w' => ∃ u, e = .returned u ∧ IntsAt w' u [c] ∧ Below W.heap.size W w') := fun c h0 h1 W v vs h hV => by
      refine (implDecodeSigns v vs (vecD 3) 12 true true true _ W h hV hl1 hll ⟨by rw [signsL_len]; omega, signs_wf _ c⟩).mono ?_
      rintro e w' ⟨u, he, ho, hb⟩
      refine ⟨u, he, ?_, hb⟩
      have hd : decR (vecD 3) 12 true true true (signsL (vecD 3) c) = [c] := by
        have := (signs3 (c + 12).toNat (by omega)).1
        rwa [show (((c + 12).toNat : Int) - 12) = c by omega] at this
      rw [hd] at ho
      exact IntsAt.of_owns ho
    have HNG : Hid (∀ (c : Int), -12 ≤ c → c ≤ 12 → signsL (vecD 3) (-c) = (signsL (vecD 3) c).map fun y => -y) := fun c h0 h1 => by
      have := (signs3 (c + 12).toNat (by omega)).2
      rwa [show (((c + 12).toNat : Int) - 12) = c by omega] at this
    have HSM : Hid (∀ (c : Int), ∀ y ∈ signsL (vecD 3) c, -1 ≤ y ∧ y ≤ 1) := fun c y hy => by
      unfold signsL at hy
      obtain ⟨d, -, rfl⟩ := List.mem_map.1 hy
      exact outc_small d.L d.R c
    have HSL : Hid (∀ c, (signsL (vecD 3) c).length = 3) := fun c => by rw [signsL_len]; exact hlen
    have HEV := Lib.hid F.even
    have HLN := Lib.hid hlen
    clear F hlen hsz hll hl1
    generalize vecD 3 = D at CV CD CS CP CC CG CE HNG HSM HSL HEV HLN
    unfold probV at CS CP CC CE
    go_wp2_with fail
    refine (CV.out _).mono ?_
    rintro e w2 ⟨v, f, rfl, r2, bb⟩
    have hv := r2.reads
    obtain ⟨al, cl, hvf, hcl, -⟩ := hv
    rw [HLN.out] at hvf hcl
    subst hvf
    have aa := alloc_below w2 (.cells #[.int .i64 12, .bool true, .bool true, .bool true] 69)
    have P3 := Lib.hid (ProbAt.new w2 69 12 true true true)
    have W3 := Lib.hid (r2.reads.below aa)
    have B3 := Lib.hid (below_up (below_up B1.out bb) aa)
    obtain ⟨dp, hdp⟩ : ∃ dp, w2.heap.size = dp := ⟨_, rfl⟩
    rw [hdp] at P3
    generalize hX3 : w2.alloc (.cells #[.int .i64 12, .bool true, .bool true, .bool true] 69) = w3 at P3 W3 B3
    clear r2 bb aa CV B1 hx
    go_wp2_with fail
    clear hX3 hdp x0 x1
    refine (CM.out _).mono ?_
    rintro e w4 ⟨rfl, rfl⟩
    go_wp2_with fail
    refine (CD.out _ _ W3.out).mono ?_
    rintro e w5 ⟨rfl, bb⟩
    have P5 := Lib.hid (P3.out.below bb)
    have W5 := Lib.hid (W3.out.below bb)
    have B5 := Lib.hid (below_up B3.out bb)
    clear bb P3 W3 B3 CD CM
    obtain ⟨e0, e1, e2, e3, -⟩ := P5.out
    go_wp2_with fail
    refine (CS.out _ _ W5.out).mono ?_
    rintro e w6 ⟨rfl, bb⟩
    have P6 := Lib.hid (P5.out.below bb)
    have W6 := Lib.hid (W5.out.below bb)
    have B6 := Lib.hid (below_up B5.out bb)
    clear bb P5 W5 B5 CS e0 e1 e2 e3
    obtain ⟨e0, e1, e2, e3, -⟩ := P6.out
    go_wp2_with fail
    refine (CP.out _ _ W6.out).mono ?_
    rintro e w7 ⟨rfl, bb⟩
    have P7 := Lib.hid (P6.out.below bb)
    have W7 := Lib.hid (W6.out.below bb)
    have B7 := Lib.hid (below_up B6.out bb)
    clear bb P6 W6 B6 CP e0 e1 e2 e3
    go_wp2_with fail
    go_loopw [67] (fun iv wr => ∃ i : Nat, i ≤ 3 ∧ iv = .int .i64 i ∧ Hid (WdsAt wr (.slice al 3 cl) D) ∧ Hid (ProbAt wr dp 12 true true true) ∧ Hid (Below w.heap.size w wr)) (fun iv _ => 3 - (intOf iv).toNat)
    case atStart => exact ⟨0, by omega, rfl, W7, P7, B7⟩
    case round =>
      clear W7 P7 B7
      obtain ⟨i, hi, rfl, W8, P8, B8⟩ := hrel
      by_cases hlt : i < 3
      · have hil : i < D.length := by rw [HLN.out]; exact hlt
        obtain ⟨a2, c2, heq, -, h8⟩ := W8.out
        rw [HLN.out] at heq
        simp only [Value.slice.injEq, true_and] at heq
        obtain ⟨rfl, rfl⟩ := heq
        obtain ⟨b, o, vl, vr, rfl, h2, hL, hR⟩ := h8 i hil
        have hev := HEV.out D[i] (List.getElem_mem hil)
        obtain ⟨d, hd⟩ : ∃ d, D[i] = d := ⟨_, rfl⟩
        rw [hd] at hL hR hev
        obtain ⟨ga, ca, rfl, -⟩ := hL
        obtain ⟨gb, cb, rfl, -⟩ := hR
        rw [← hev.1] at h2
        obtain ⟨m, hm⟩ : ∃ m, d.L.length = m := ⟨_, rfl⟩
        rw [hm] at h2 hev
        obtain ⟨p0, p1, -⟩ := h2
        have hm3 : 3 * (m : Int) = 12 := hev.2
        have hmm : m = 4 := by omega
        subst hmm
        have i0 : (0 : Int) ≤ (i : Int) := by omega
        have i1 : (i : Int) < 3 := by omega
        have aa := alloc_below wr (.cells #[.slice ga 4 ca, .slice gb 4 cb] 74)
        have T9 := TwoAt.new wr 74 (.slice ga 4 ca) (.slice gb 4 cb)
        have W9 := Lib.hid (W8.out.below aa)
        have P9 := Lib.hid (P8.out.below aa)
        have B9 := Lib.hid (below_up B8.out aa)
        generalize hX9 : wr.alloc (.cells #[.slice ga 4 ca, .slice gb 4 cb] 74) = X9 at T9 W9 P9 B9
        obtain ⟨t0, t1, -⟩ := T9
        clear hm hev hm3 hd h8 hil aa W8 P8 B8
        go_wp2
        go_roundw
        case rel => exact ⟨i + 1, by omega, by go_num, W9, P9, B9⟩
        case measure => simp [intOf]; omega
      · obtain rfl : i = 3 := by omega
        clear HEV hlt hi
        go_wp2_with fail
        refine (C3.out _ B8.out).mono ?_
        rintro e wA ⟨y, rfl, y0, y1, bb⟩
        have PA := Lib.hid (P8.out.below bb)
        have WA := Lib.hid (W8.out.below bb)
        have BA := Lib.hid (below_up B8.out bb)
        clear bb P8 W8 B8 C3
        obtain ⟨c, hc⟩ : ∃ c, y % 25 - 12 = c := ⟨_, rfl⟩
        have c0 : -12 ≤ c := by omega
        have c1 : c ≤ 12 := by omega
        have CG1 := Lib.hid (CG.out c c0 c1)
        have CG2 := Lib.hid (CG.out (-c) (by omega) (by omega))
        rw [HNG.out c c0 c1] at CG2
        have CE1 := Lib.hid (CE.out c c0 c1)
        have HS1 := Lib.hid (HSM.out c)
        have HSZ := Lib.hid (HSL.out c)
        clear CG CE HSM HSL HNG
        generalize signsL D c = S at CG1 CG2 CE1 HS1 HSZ
        go_wp2_with fail
        refine (CG1.out _ _ WA.out).mono ?_
        rintro e wB ⟨u, rfl, ou, bb⟩
        obtain ⟨gu, cu, hu, hcu⟩ := id ou
        rw [HSZ.out] at hu
        subst hu
        have PB := Lib.hid (PA.out.below bb)
        have WB := Lib.hid (WA.out.below bb)
        have BB := Lib.hid (below_up BA.out bb)
        have UB := Lib.hid ou
        clear bb PA WA BA CG1 ou hcu hc
        go_wp2_with fail
        refine (CG2.out _ _ WB.out).mono ?_
        rintro e wC ⟨t, rfl, ot, bb⟩
        obtain ⟨gt, ct, ht, hct⟩ := id ot
        rw [List.length_map, HSZ.out] at ht
        subst ht
        have PC := Lib.hid (PB.out.below bb)
        have WC := Lib.hid (WB.out.below bb)
        have BC := Lib.hid (below_up BB.out bb)
        have UC := Lib.hid (UB.out.below bb)
        have TC := Lib.hid ot
        clear bb PB WB BB UB CG2 ot hct
        obtain ⟨e0, e1, e2, e3, -⟩ := PC.out
        go_wp2_with fail
        refine (CE1.out _ _ _ WC.out UC.out).mono ?_
        rintro e wD ⟨z, rfl, oz, bb⟩
        obtain ⟨gz, cz, hz, hcz⟩ := oz
        subst hz
        have PD := Lib.hid (PC.out.below bb)
        have WD := Lib.hid (WC.out.below bb)
        have BD := Lib.hid (below_up BC.out bb)
        have UD := Lib.hid (UC.out.below bb)
        have TD := Lib.hid (TC.out.below bb)
        clear bb PC WC BC UC TC CE1 e0 e1 e2 e3
        rcases hcz with hcz | ⟨bz, oz, rfl, hcz⟩
        · cases hcz
        have z0 := hcz 0 (by simp)
        simp only [Nat.add_zero, List.getElem_cons_zero] at z0
        clear hcz
        go_wp2_with fail
        clear z0
        go_loopw [146] (fun iv wr => ∃ i : Nat, i ≤ 3 ∧ iv = .int .i64 i ∧ wr = wD) (fun iv _ => 3 - (intOf iv).toNat)
        case atStart => exact ⟨0, by omega, rfl, rfl⟩
        case round =>
          obtain ⟨i, hi, rfl, rfl⟩ := hrel
          by_cases hlt : i < 3
          · obtain ⟨gu2, cu2, hu, hcu⟩ := UD.out
            obtain ⟨gt2, ct2, ht, hct⟩ := TD.out
            rw [HSZ.out] at hu
            rw [List.length_map, HSZ.out] at ht
            simp only [Value.slice.injEq, true_and] at hu ht
            obtain ⟨rfl, rfl⟩ := hu
            obtain ⟨rfl, rfl⟩ := ht
            have hiS : i < S.length := by rw [HSZ.out]; exact hlt
            rcases hcu with hcu | ⟨bu, ou, rfl, hcu⟩
            · exact absurd hiS (by rw [hcu]; simp)
            rcases hct with hct | ⟨bt, ot, rfl, hct⟩
            · exact absurd hiS (by rw [← List.length_map (f := fun y : Int => -y), hct]; simp)
            have u0 := hcu i hiS
            have t0 := hct i (by rw [List.length_map]; exact hiS)
            rw [List.getElem_map] at t0
            have hsm := HS1.out S[i] (List.getElem_mem hiS)
            obtain ⟨xs, hxs⟩ : ∃ xs, S[i] = xs := ⟨_, rfl⟩
            rw [hxs] at u0 t0 hsm
            have i0 : (0 : Int) ≤ (i : Int) := by omega
            have i1 : (i : Int) < 3 := by omega
            clear hxs hcu hct hiS
            go_wp2
            go_roundw
            case rel => exact ⟨i + 1, by omega, by go_num, by first | rfl | trivial⟩
            case measure => simp [intOf]; omega
          · obtain rfl : i = 3 := by omega
            clear hlt hi
            obtain ⟨e0, e1, e2, e3, -⟩ := PD.out
            go_wp2_with fail
            refine (CC.out _ _ WD.out).mono ?_
            rintro e wE ⟨rfl, bb⟩
            have BE := Lib.hid (below_up BD.out bb)
            clear bb
            go_wp2
            go_ret
            exact ⟨rfl, BE.out⟩

theorem walkFnDesigns (W : World) (a : Option Addr) (len cap : Nat) (zs : List Int) (h : IsBytes W a len cap zs) :
    Calls Try.prog 12 #[.slice a len cap] W fun e w' => e = .returned (.bool true) ∧ Below W.heap.size W w' := walkDesigns W a len cap (bytesAt_of h)
end Go.Proofs.Ytbkhmlkicafheaa
