/- Several texts in one file; each says what it proves and under which condition. No condition. -/
import Derived.Test.YthfnbnjajcigeaaGRndP
import Derived.Test.YthfnbnjajcigeaaCapAt
import Derived.Test.YthfnbnjajcigeaaBools
import Derived.Test.YthfnbnjajcigeaaMarkLs
import Derived.Test.YthfnbnjajcigeaaGBase
import Derived.Test.YthfnbnjajcigeaaIntSS
import Derived.Maps.AppendAt
import Derived.Laws.OwnMore
/- The contract of the model's RoundsOk. Conditions: the slices read as integers and as lists of them, and are short enough to be counted. -/
namespace Go.Proofs.Ythfnbnjajcigeaa
open Go.RowKit

theorem IntsAt.front {w : World} {a : Option Addr} {l c : Nat} {r : List Int} (h : IntsAt w (.slice a l c) r) (i : Nat) (hi : i ≤ r.length) (c2 : Nat) : IntsAt w (.slice a i c2) (r.take i) := by
  obtain ⟨a', c', e, h⟩ := h
  injection e with e1 e2 e3
  subst e1
  have hl : (r.take i).length = i := by rw [List.length_take]; omega
  refine ⟨a, c2, by rw [hl], ?_⟩
  rcases h with h | ⟨b, o, e4, hc⟩
  · exact .inl (by rw [h]; simp)
  · refine .inr ⟨b, o, e4, fun j hj => ?_⟩
    rw [hl] at hj
    rw [hc j (by omega)]
    simp

/-- The slice value v reads as the lists of S, each with room for its numbers. -/
def LsCap (w : World) (v : Value) (S : List (List Int)) : Prop :=
  ∃ a cap, v = .slice a S.length cap ∧ ∀ i (h : i < S.length), ∃ b off ar cr, a = some ⟨b, off, none⟩ ∧ w.cell? ⟨b, off + i, none⟩ = some (.slice ar S[i].length cr) ∧ IntsAt w (.slice ar S[i].length cr) S[i] ∧ S[i].length ≤ cr
theorem LsCap.reads {w : World} {v : Value} {S : List (List Int)} (h : LsCap w v S) : LsAt w v S := by
  obtain ⟨a, cap, rfl, h⟩ := h
  exact ⟨a, cap, rfl, fun i hi => by obtain ⟨b, o, ar, cr, h1, h2, h3, -⟩ := h i hi; exact ⟨b, o, _, h1, h2, h3⟩⟩
theorem OwnLs.cap {w : World} {lo : Nat} {v : Value} {S : List (List Int)} (h : OwnLs w lo v S) : LsCap w v S := by
  obtain ⟨g, f, rfl, -, hk⟩ := h
  refine ⟨_, _, rfl, fun i hi => ?_⟩
  have ho := hk.own i hi hi
  obtain ⟨a, c, e, hc⟩ := own_cap ho
  have hr := ho.reads
  have hcell := (hk.cells.2 i hi).1
  rw [e] at hr hcell
  exact ⟨g, 0, a, c, rfl, by rw [Nat.zero_add]; exact hcell, hr, hc⟩

set_option maxRecDepth 100000 in
set_option maxHeartbeats 6400000 in
theorem specRoundsOk (n m : Int) (v vS : Value) (P : List Int) (S : List (List Int)) (w : World) (h : IntsAt w v P) (hS : LsCap w vS S) (hm : P.length ≤ 1048576) (hmS : S.length + totL S ≤ 1048576) :
    Calls Try.prog 11 #[.int .i64 n, v, .int .i64 m, vS] w fun e w' => e = .returned (.bool (roundsOkB n P m S)) ∧ Below w.heap.size w w' := by
  have CP := Lib.hid (specRoundsIn n m v P w h hm)
  have HNO := Lib.hid (fun h => roundsOkB_no (n := n) (m := m) (P := P) (S := S) h)
  by_cases hp : roundsB n P m = true
  · obtain ⟨hpp, m1, m12⟩ := rounds_in hp
    obtain ⟨-, hl12, -⟩ := pools_in hpp
    obtain ⟨i0, hi, hz0, hz1, hz2⟩ := info_parts infoBoolA
    rw [hp] at CP
    obtain ⟨M, hM⟩ : ∃ M : Nat, m = (M : Int) := ⟨m.toNat, by omega⟩
    subst hM
    rw [Int.toNat_natCast] at HNO
    have HYES : Hid (∀ U c, allK P M S S.length = some (U, c) → roundsOkB n P M S = (c == P.length)) := fun U c h => by
      unfold roundsOkB
      rw [Int.toNat_natCast, h, hp]
      rfl
    obtain ⟨q, hq⟩ : ∃ q, roundsOkB n P M S = q := ⟨_, rfl⟩
    rw [hq] at HNO HYES ⊢
    obtain ⟨p, hpl⟩ : ∃ p, P.length = p := ⟨_, rfl⟩
    obtain ⟨sl, hsl⟩ : ∃ sl, S.length = sl := ⟨_, rfl⟩
    have HP := Lib.hid hpl
    have HSL := Lib.hid hsl
    have H := Lib.hid h
    have HS := Lib.hid hS
    have HAI := Lib.hid (fun j U c (hj : j ≤ S.length) h => allK_in (P := P) (m := M) (S := S) (j := j) (U := U) (c := c) hj h)
    have HTL := Lib.hid (fun k => totL_leS (S := S) k)
    have HMEM := Lib.hid (fun d (hd : d ∈ S) => totL_mem hd)
    have A0 : Hid (allK P M S 0 = some (List.replicate p false, 0)) := by unfold Hid; rw [← hpl]; rfl
    have CI := Lib.hid (fun k W => l01In_is k 0 ((p : Int) - 1) W)
    have CF := Lib.hid (fun (R : List Nat) (k : Nat) vr W (hP : IntsAt W v P) hr hR2 hk hR => specFitsR v vr P R M k W hP hr hR2 hk hR)
    obtain ⟨a, c, rfl, -⟩ := h
    obtain ⟨aS, cS, rfl⟩ := hS.reads.form
    rw [hpl] at CP CF H hl12 ⊢
    rw [hsl] at HS HNO HYES HAI hmS ⊢
    clear hS hp hpp hq hpl hsl hm
    go_enter Try.func11, Try.ntmps11
    go_wp2_with fail
    refine CP.out.mono ?_
    rintro e w1 ⟨rfl, rfl⟩
    go_wp2_with (at_make; refine wpList_make_full _ rfl _ _ 44 rfl w.heap.size 4 i0 (.bool false) 1 Try.underlying44 hi hz0 hz1 .i64 .i64 _ _ p rfl rfl rfl rfl (by rw [hz2]; omega) (by unfold maxLen; omega) (Nat.le_refl _) ?_; intro w1 hown hg)
    have hb := Below.grown (Below.refl w.heap.size w) hg (Nat.le_refl _) (by intro k hk; cases hk)
    have HO : Hid (OwnB w1 w.heap.size (.slice (some ⟨w.heap.size, 0, none⟩) p p) (List.replicate p false)) := by
      have : (madeCells (Value.bool false).cells (p * 1)).toList = (List.replicate p false).map Value.bool := by
        simp [madeCells, Value.cells, Nat.mod_one]
        apply List.ext_getElem <;> simp
      unfold Hid OwnB
      rw [← this, List.length_replicate]
      exact hown
    have HBB := Lib.hid hb
    clear hown hg hb
    go_wp2
    go_loopw [10, 25] (fun cv jv wr => ∃ (j : Nat) (U : List Bool) (c : Nat), j ≤ sl ∧ jv = .int .i64 (j : Int) ∧ cv = .int .i64 (c : Int) ∧ Hid (allK P M S j = some (U, c)) ∧ Hid (OwnB wr w.heap.size (.slice (some ⟨w.heap.size, 0, none⟩) p p) U) ∧ Hid (Below w.heap.size w wr)) (fun _ jv _ => sl - (intOf jv).toNat)
    case atStart => exact ⟨0, _, 0, Nat.zero_le _, rfl, rfl, A0, HO, HBB⟩
    case round =>
      clear A0 HO HBB
      obtain ⟨j, U, cn, hj, rfl, rfl, HA, HO, HBB⟩ := hrel
      have HAJ := Lib.hid (HAI.out j U cn hj HA.out)
      by_cases hlt : j < sl
      · have hjs : j < S.length := by rw [HSL.out]; exact hlt
        obtain ⟨aS2, cS2, hvS, hcS⟩ := HS.out
        obtain ⟨b, o, ar, cr, haS, e0, iR, hcap⟩ := hcS j hjs
        injection hvS with ev1 ev2 ev3
        subst ev1 ev3
        subst haS
        have hml := HMEM.out S[j] (List.getElem_mem hjs)
        have htt := HTL.out j
        have e1 : wr.cell? ⟨b, o + j, none⟩ = some (.slice ar S[j].length cr) := by rw [HBB.out.cell (p := ⟨b, o + j, none⟩) (World.block_lt_of_cell? w _ e0)]; exact e0
        have IR := Lib.hid iR
        have HSTEP : Hid (allK P M S (j + 1) = rowK P M S[j] (some (U, cn)) S[j].length) := by
          unfold Hid
          rw [show allK P M S (j + 1) = rowK P M (S.getD j []) (allK P M S j) (S.getD j []).length from rfl, HA.out, getD_at [] hjs]
        have HNONE : Hid (allK P M S (j + 1) = none → q = false) := fun h => HNO.out (allK_none h (by omega))
        have htk := totL_take hjs
        have htt2 := HTL.out (j + 1)
        obtain ⟨r, hr⟩ : ∃ r, S[j] = r := ⟨_, rfl⟩
        rw [hr] at IR HSTEP hml htk e1 hcap
        obtain ⟨l, hl⟩ : ∃ l, r.length = l := ⟨_, rfl⟩
        have HL := Lib.hid hl
        rw [hl] at IR HSTEP hml e1 htk hcap
        have HCB : Hid (∀ i, i ≤ l → ((cn : Int) + (i : Int)) ≤ 1048576) := fun i hi => by have := HAJ.out.2; omega
        have HUL : Hid (U.length = P.length) := HAJ.out.1
        have HRI := Lib.hid (fun i U' c' (h : rowK P M r (some (U, cn)) i = some (U', c')) => rowK_in (s := (U, cn)) HAJ.out.1 h)
        have HRN := Lib.hid (fun i (hi : i ≤ l) (h : rowK P M r (some (U, cn)) i = none) => rowK_none h hi)
        have R0 : Hid (rowK P M r (some (U, cn)) 0 = some (U, cn)) := rfl
        have RS : Hid (∀ i U' c', rowK P M r (some (U, cn)) i = some (U', c') → rowK P M r (some (U, cn)) (i + 1) = if okK P M r i U' = true then some (U'.set (r.getD i 0).toNat true, c' + 1) else none) := fun i U' c' h => by
          simp only [rowK, h]
        have j0 : (0 : Int) ≤ (j : Int) := by omega
        have j1 : (j : Int) < (sl : Int) := by omega
        clear hjs hcS e0 iR hr hl HAJ ev2 htk htt htt2
        generalize rowK P M r (some (U, cn)) = RK at HSTEP HRI HRN R0 RS
        go_wp2
        go_loopw [10, 31] (fun cv iv ws => ∃ (i : Nat) (U' : List Bool) (c' : Nat), i ≤ l ∧ iv = .int .i64 (i : Int) ∧ cv = .int .i64 (c' : Int) ∧ Hid (RK i = some (U', c')) ∧ Hid (OwnB ws w.heap.size (.slice (some ⟨w.heap.size, 0, none⟩) p p) U') ∧ Hid (Below w.heap.size w ws)) (fun _ iv _ => l - (intOf iv).toNat)
        case atStart => exact ⟨0, U, cn, Nat.zero_le _, rfl, rfl, R0, HO, HBB⟩
        case round =>
          clear HO HBB R0 e1
          obtain ⟨i, U', c', hi', rfl, rfl, HK, HO, HBB⟩ := hrel
          by_cases hil : i < l
          · have hir : i < r.length := by rw [HL.out]; exact hil
            obtain ⟨ar2, cr2, hvr, hcr⟩ := IR.out.below HBB.out
            injection hvr with er1 er2 er3
            subst er1 er3
            rcases hcr with hcr | ⟨b2, o2, hb2, hcr⟩
            · rw [hcr] at hir; simp at hir
            subst hb2
            have e2 := hcr i hir
            obtain ⟨hu1, hu2, hu3⟩ := HRI.out i U' c' HK.out
            have HS2 := RS.out i U' c' HK.out
            have hgd : r.getD i 0 = r[i] := getD_at 0 hir
            have HPRE : Hid (natL ((r.take i).map Int.toNat) = r.take i ∧ ∀ x ∈ (r.take i).map Int.toNat, x < P.length) := by
              refine ⟨natL_back fun x hx => ?_, fun x hx => ?_⟩
              · obtain ⟨y, hy, e⟩ := List.mem_iff_getElem.1 hx
                rw [List.getElem_take] at e
                have := (hu3 y (by rw [List.length_take] at hy; omega)).1
                rw [getD_at 0 (by rw [List.length_take] at hy; omega), e] at this
                exact this
              · obtain ⟨y, hy, rfl⟩ := List.mem_map.1 hx
                obtain ⟨z, hz, e⟩ := List.mem_iff_getElem.1 hy
                rw [List.getElem_take] at e
                have := hu3 z (by rw [List.length_take] at hz; omega)
                rw [getD_at 0 (by rw [List.length_take] at hz; omega), e] at this
                omega
            have HFRONT := Lib.hid (fun c2 => (IR.out.below HBB.out).front i (by omega) c2)
            obtain ⟨k, hk⟩ : ∃ k, r[i] = k := ⟨_, rfl⟩
            rw [hk] at e2 hgd
            have hok : okK P M r i U' = ((decide (0 ≤ k) && decide (k ≤ (p : Int) - 1)) && (!(U'.getD k.toNat false) && fitB P M ((r.take i).map Int.toNat) k.toNat)) := by
              unfold okK
              rw [hgd, HP.out]
            rw [hok, hgd] at HS2
            have hcb := HCB.out i hi'
            have hcc : c' = cn + i := hu2
            have i0' : (0 : Int) ≤ (i : Int) := by omega
            have i1' : (i : Int) < (l : Int) := by omega
            have HBAD : Hid (RK (i + 1) = none → q = false) := fun h => HNONE.out (by rw [HSTEP.out]; exact HRN.out (i + 1) (by omega) h)
            have CIK := Lib.hid (CI.out k wr)
            clear hok hu3 hu2 hgd hk hir hcr er2
            by_cases hrange : 0 ≤ k ∧ k ≤ (p : Int) - 1
            · obtain ⟨kn, rfl⟩ : ∃ kn : Nat, k = (kn : Int) := ⟨k.toNat, by omega⟩
              have hkp : kn < p := by omega
              rw [decide_eq_true hrange.1, decide_eq_true hrange.2, Bool.true_and] at HS2 CIK
              rw [Int.toNat_natCast, Bool.true_and] at HS2
              have hul : U'.length = p := by rw [hu1, HP.out]
              have hown := HO.out
              unfold OwnB at hown
              rw [hul] at hown
              have e4 : wr.cell? ⟨w.heap.size, kn, none⟩ = some (.bool (U'[kn]'(by omega))) := by rw [hown.cellAt kn (by omega), List.getElem?_map, List.getElem?_eq_getElem (by omega)]; rfl
              have e5 := hown.frozenAt kn
              have HST := Lib.hid (hown.stored kn (.bool true))
              rw [getD_at false (show kn < U'.length by omega)] at HS2
              have k0' : (0 : Int) ≤ (kn : Int) := by omega
              have k1' : (kn : Int) < (p : Int) := by omega
              have CFK := Lib.hid (fun W (hW : Below w.heap.size w W) c2 (hF : IntsAt W (.slice (some ⟨b2, o2, none⟩) i c2) (r.take i)) => CF.out ((r.take i).map Int.toNat) kn (.slice (some ⟨b2, o2, none⟩) i c2) W (H.out.below hW) (by rw [HPRE.out.1]; exact hF) (by rw [List.length_map, List.length_take]; omega) hkp (fun x hx => by have := HPRE.out.2 x hx; rw [HP.out] at this; exact this))
              obtain ⟨ub, hub⟩ : ∃ ub, U'[kn]'(by omega) = ub := ⟨_, rfl⟩
              rw [hub] at e4 HS2
              have HSS := Lib.hid HS2
              clear HS2 hub hown hrange
              cases ub with
              | true =>
                have HE : Hid (q = false) := HBAD.out (by rw [HSS.out]; rfl)
                go_wp2_with fail
                refine CIK.out.mono ?_
                rintro e w2 ⟨rfl, rfl⟩
                go_wp2
                go_ret
                exact ⟨ret_bool HE.out.symm, HBB.out⟩
              | false =>
                have hil' : ¬ (cr : Int) < (i : Int) := by omega
                go_wp2_with fail
                refine CIK.out.mono ?_
                rintro e w2 ⟨rfl, rfl⟩
                go_wp2_with fail
                refine (CFK.out wr HBB.out cr (HFRONT.out cr)).mono ?_
                rintro e w2 ⟨rfl, d, rfl⟩
                obtain ⟨fb, hfb⟩ : ∃ fb, fitB P M ((r.take i).map Int.toNat) kn = fb := ⟨_, rfl⟩
                rw [hfb] at HSS ⊢
                clear hfb
                cases fb with
                | false =>
                  have HE : Hid (q = false) := HBAD.out (by rw [HSS.out]; rfl)
                  go_wp2
                  go_ret
                  exact ⟨ret_bool HE.out.symm, below_drewN HBB.out _⟩
                | true =>
                  have HK2 : Hid (RK (i + 1) = some (U'.set kn true, c' + 1)) := by unfold Hid; rw [HSS.out]; rfl
                  have HO3 := Lib.hid (owns_only HO.out (Only.fresh (below_drewN (Below.refl wr.heap.size wr) d)) (fun _ _ e => e))
                  have HO2 : Hid (OwnB ((wr.drewN d).setCell ⟨w.heap.size, kn, none⟩ (.bool true)) w.heap.size (.slice (some ⟨w.heap.size, 0, none⟩) p p) (U'.set kn true)) := by
                    have h1 := HO3.out
                    rw [hul] at h1
                    have h2 := (h1.stored kn (.bool true)).1
                    unfold Hid OwnB
                    rw [List.length_set, hul, List.map_set]
                    exact h2
                  have HB2 : Hid (Below w.heap.size w ((wr.drewN d).setCell ⟨w.heap.size, kn, none⟩ (.bool true))) := (below_drewN HBB.out d).setCell (p := ⟨w.heap.size, kn, none⟩) (Nat.le_refl _) _
                  have hcc2 : (c' : Int) + 1 ≤ 1048577 := by omega
                  clear HO3 hul
                  go_wp2
                  go_roundw
                  case rel => exact ⟨i + 1, U'.set kn true, c' + 1, by omega, by go_num, by go_num, HK2, HO2, HB2⟩
                  case measure => simp [intOf]; omega
            · have hr2 : (decide (0 ≤ k) && decide (k ≤ (p : Int) - 1)) = false := by
                rw [Bool.and_eq_false_iff, decide_eq_false_iff_not, decide_eq_false_iff_not]
                omega
              rw [hr2, Bool.false_and] at HS2
              rw [hr2] at CIK
              have HE : Hid (q = false) := HBAD.out (by rw [HS2]; rfl)
              go_wp2_with fail
              refine CIK.out.mono ?_
              rintro e w2 ⟨rfl, rfl⟩
              go_wp2
              go_ret
              exact ⟨ret_bool HE.out.symm, HBB.out⟩
          · obtain rfl : i = l := by omega
            have HX : Hid (allK P M S (j + 1) = some (U', c')) := by unfold Hid; rw [HSTEP.out, HK.out]
            go_wp2
            go_roundw
            case rel => exact ⟨j + 1, U', c', by omega, by go_num, rfl, HX, HO, HBB⟩
            case measure => simp [intOf]; omega
      · obtain rfl : j = sl := by omega
        have HE : Hid (q = ((cn : Int) == (p : Int))) := by
          unfold Hid
          rw [HYES.out U cn HA.out, HP.out, Bool.eq_iff_iff, beq_iff_eq, beq_iff_eq]
          omega
        go_wp2
        go_ret
        exact ⟨ret_bool HE.out.symm, HBB.out⟩
  · have hp2 : roundsB n P m = false := by simpa using hp
    have HE : Hid (roundsOkB n P m S = false) := by unfold Hid roundsOkB; rw [hp2]; rfl
    rw [hp2] at CP
    obtain ⟨a, c, rfl, -⟩ := h
    obtain ⟨aS, cS, rfl⟩ := hS.reads.form
    generalize roundsOkB n P m S = r at HE ⊢
    clear hp hp2 HNO
    go_enter Try.func11, Try.ntmps11
    go_wp2_with fail
    refine CP.out.mono ?_
    rintro e w1 ⟨rfl, rfl⟩
    go_wp2
    go_ret
    exact ⟨ret_bool HE.out.symm, Below.refl _ _⟩
end Go.Proofs.Ythfnbnjajcigeaa

/- The walk of the exact law of RoundsOk round the contract of the program's function: it returns true for every argument. Condition: the slices that came in read as integers and as lists of them. -/
namespace Go.Proofs.Ythfnbnjajcigeaa
open Go.RowKit

def RoundsOkIs (f : FuncId) (n : Int) (P : List Int) (m : Int) (S : List (List Int)) : Prop := ∀ W vP vS, IntsAt W vP P → LsCap W vS S → Calls Try.prog f #[.int .i64 n, vP, .int .i64 m, vS] W fun e w' => e = .returned (.bool (roundsOkB n P m S)) ∧ Below W.heap.size W w'

set_option maxRecDepth 100000 in
set_option maxHeartbeats 3200000 in
theorem lawRoundsOk (n m : Int) (P : List Int) (S : List (List Int)) (w : World) (vP vS : Value) (cP : IntsAt w vP P) (cS : LsAt w vS S) (hSm : S.length ≤ maxLen) (hSd : ∀ d ∈ S, d.length ≤ maxLen)
    (IM : P.length ≤ 1048576 → S.length + totL S ≤ 1048576 → RoundsOkIs 14 n P m S) :
    Calls Try.prog 3 #[.int .i64 n, vP, .int .i64 m, vS] w fun e w' => e = .returned (.bool true) ∧ Below w.heap.size w w' := by
  have HP := Lib.hid cP
  have HS := Lib.hid cS
  have CZ := Lib.hid (szLs vS S w cS hSm hSd)
  have B0 := Lib.hid (Below.refl w.heap.size w)
  obtain ⟨aS, kS, rfl⟩ := cS.form
  obtain ⟨aP, kP, rfl, -⟩ := cP
  by_cases LP : 1048576 < P.length
  · go_enter Try.func3, Try.ntmps3
    go_wp2
    go_ret
    exact ⟨rfl, B0.out⟩
  have NP : P.length ≤ 1048576 := by omega
  have HIM := Lib.hid (IM NP)
  have CS1 := Lib.hid (fun (hz : S.length + totL S ≤ 1048576) u v W h1 h2 => specRoundsOk n m u v P S W h1 h2 NP hz)
  have TP := Lib.hid (fun W h => toInts (.slice aP P.length kP) P W h NP)
  have EP := Lib.hid (fun W a b (h : IntsAt W a P) h' => eqInts_same a b P W h h' (by omega))
  have TS := Lib.hid (fun (hz : S.length + totL S ≤ 1048576) W h => toLs (.slice aS S.length kS) S W h (by omega) (SzLs.lists hz))
  have ES := Lib.hid (fun (hz : S.length + totL S ≤ 1048576) W a b (h : LsAt W a S) h' => eqLs a b S W h h' (by omega) (SzLs.lists hz))
  clear IM NP hSm hSd
  generalize hq : roundsOkB n P m S = q at CS1
  have hqq : (q != q) = false := by cases q <;> rfl
  generalize P.length = nP at HP TP LP ⊢
  generalize hnS : S.length = nS at HS TS CZ ⊢
  go_enter Try.func3, Try.ntmps3
  go_wp2_with fail
  refine CZ.out.mono ?_
  rintro e w0 ⟨r, rfl, hr, bb⟩
  have B1 := Lib.hid bb
  clear bb B0 CZ
  rcases hr with hr | ⟨r0, r1, hsz⟩
  · go_wp2
    go_ret
    exact ⟨rfl, B1.out⟩
  · have CS2 := Lib.hid (CS1.out hsz)
    have TS2 := Lib.hid (TS.out (by rw [← hnS]; exact hsz))
    have ES2 := Lib.hid (ES.out hsz)
    have IM2 := HIM.out hsz
    unfold RoundsOkIs at IM2
    rw [hq] at IM2
    have CI := Lib.hid IM2
    have r2 : ¬ r < 0 := by omega
    clear CS1 TS ES HIM IM2 hsz hnS hq r0 r1
    go_wp2_with fail
    refine (TP.out _ (HP.out.below B1.out)).mono ?_
    rintro e w1 ⟨uA, rfl, -, o, bb⟩
    obtain ⟨gA, nA, qA, rfl⟩ := o.form
    have OA := Lib.hid o
    have B2 := Lib.hid (below_up B1.out bb)
    clear o bb B1
    go_wp2_with fail
    refine (TS2.out _ (HS.out.below B2.out)).mono ?_
    rintro e w2 ⟨uB, rfl, o, bb⟩
    obtain ⟨gB, nB, qB, rfl⟩ := o.form
    have OB := Lib.hid o
    have OA2 := Lib.hid (OA.out.below bb)
    have B3 := Lib.hid (below_up B2.out bb)
    clear o bb B2 OA
    go_wp2_with fail
    refine (CS2.out _ _ _ OA2.out.reads OB.out.cap).mono ?_
    rintro e w3 ⟨rfl, bb⟩
    have B4 := Lib.hid (below_up B3.out bb)
    clear bb B3 OA2 OB
    go_wp2_with fail
    refine (TP.out _ (HP.out.below B4.out)).mono ?_
    rintro e w4 ⟨uC, rfl, -, o, bb⟩
    obtain ⟨gC, nC, qC, rfl⟩ := o.form
    have OC := Lib.hid o
    have B5 := Lib.hid (below_up B4.out bb)
    clear o bb B4
    go_wp2_with fail
    refine (TS2.out _ (HS.out.below B5.out)).mono ?_
    rintro e w5 ⟨uD, rfl, o, bb⟩
    obtain ⟨gD, nD, qD, rfl⟩ := o.form
    have OD := Lib.hid o
    have OC2 := Lib.hid (OC.out.below bb)
    have B6 := Lib.hid (below_up B5.out bb)
    clear o bb B5 OC
    go_wp2_with fail
    refine (CI.out _ _ _ OC2.out.reads OD.out.cap).mono ?_
    rintro e w6 ⟨rfl, bb⟩
    have OC3 := Lib.hid (OC2.out.below bb)
    have OD3 := Lib.hid (OD.out.below bb)
    have B7 := Lib.hid (below_up B6.out bb)
    clear bb B6 OC2 OD
    go_wp2_with fail
    refine (TP.out _ (HP.out.below B7.out)).mono ?_
    rintro e w7 ⟨uE, rfl, -, o, bb⟩
    obtain ⟨gE, nE, qE, rfl⟩ := o.form
    have OE := Lib.hid o
    have OC4 := Lib.hid (OC3.out.below bb)
    have OD4 := Lib.hid (OD3.out.below bb)
    have B8 := Lib.hid (below_up B7.out bb)
    clear o bb B7 OC3 OD3
    go_wp2_with fail
    refine (EP.out _ _ _ OC4.out.reads OE.out.reads).mono ?_
    rintro e w8 ⟨rfl, bb⟩
    have OD5 := Lib.hid (OD4.out.below bb)
    have B9 := Lib.hid (below_up B8.out bb)
    clear bb B8 OC4 OE OD4
    go_wp2_with fail
    refine (TS2.out _ (HS.out.below B9.out)).mono ?_
    rintro e w9 ⟨uF, rfl, o, bb⟩
    obtain ⟨gF, nF, qF, rfl⟩ := o.form
    have OF := Lib.hid o
    have OD6 := Lib.hid (OD5.out.below bb)
    have B10 := Lib.hid (below_up B9.out bb)
    clear o bb B9 OD5
    go_wp2_with fail
    refine (ES2.out _ _ _ OD6.out.reads OF.out.reads).mono ?_
    rintro e w10 ⟨rfl, bb⟩
    have B11 := Lib.hid (below_up B10.out bb)
    clear bb B10 OD6 OF
    go_wp2
    go_ret
    exact ⟨rfl, B11.out⟩
end Go.Proofs.Ythfnbnjajcigeaa

/- The walk of the model's GreedyRounds. Condition: the slice reads as integers. -/
namespace Go.Proofs.Ythfnbnjajcigeaa
open Go.RowKit

theorem cell_at_alloc6 (W : World) (t : TypeId) (v : Value) {q : Nat} (h : W.heap.size = q) : (W.alloc (.cells #[v] t)).cell? ⟨q, 0, none⟩ = some v := by
  subst h
  unfold World.alloc World.cell?
  simp
theorem one_cells6 {W : World} {q : Nat} {v : Value} (hc : W.cell? ⟨q, 0, none⟩ = some v) : ∀ j u, [v][j]? = some u → W.cell? ((⟨q, 0, none⟩ : Addr).add j) = some u := by
  intro j u hj
  cases j with
  | zero =>
    simp at hj
    subst hj
    rw [Addr.add_lit]
    exact hc
  | succ j => simp at hj
theorem cell_grown6 {W w1 : World} {row : Option Nat} {q o : Nat} {v : Value} (hg : W.grownBy w1 row) (hc : W.cell? ⟨q, o, none⟩ = some v) (hne : row ≠ some q) : w1.cell? ⟨q, o, none⟩ = some v := by
  have hlt := World.block_lt_of_cell? W _ hc
  unfold World.cell? at hc ⊢
  rw [hg.block q hlt (Ne.symm hne)]
  exact hc
theorem cell_old6 {W : World} {q o : Nat} {v : Value} (hc : W.cell? ⟨q, o, none⟩ = some v) (x : Obj) : (W.alloc x).cell? ⟨q, o, none⟩ = some v := by
  rw [(alloc_below W x).cell (World.block_lt_of_cell? W _ hc)]
  exact hc
theorem frozen_old6 {W : World} {q o : Nat} (hf : W.frozen? ⟨q, o, none⟩ = false) (hq : q < W.heap.size) (x : Obj) : (W.alloc x).frozen? ⟨q, o, none⟩ = false := by
  rw [World.frozen?_of_block (w := W) (a := ⟨q, o, none⟩) ((alloc_below W x).block q hq)]
  exact hf
theorem frozen_grown6 {W w1 : World} {row : Option Nat} {q o : Nat} (hg : W.grownBy w1 row) (hf : W.frozen? ⟨q, o, none⟩ = false) (hq : q < W.heap.size) (hne : row ≠ some q) : w1.frozen? ⟨q, o, none⟩ = false := by
  rw [World.frozen?_of_block (w := W) (a := ⟨q, o, none⟩) (hg.block q hq (Ne.symm hne))]
  exact hf

set_option maxRecDepth 100000 in
set_option maxHeartbeats 6400000 in
theorem specGreedy (n m : Int) (v : Value) (P : List Int) (w : World) (h : IntsAt w v P) (hm : P.length ≤ 1048576) :
    Calls Try.prog 17 #[.int .i64 n, v, .int .i64 m] w (GivesG (greedyR n P m) (roundsB n P m) w) := by
  obtain ⟨i0, hi, hz0, hz1, hz2⟩ := info_parts infoIntA
  obtain ⟨l0, hj0, hy0, hy1, hy2⟩ := info_parts infoLstI
  have CR := Lib.hid (specRoundsIn n m v P w h hm)
  have HG : Hid (greedyR n P m = if roundsB n P m = true then greedyF P m.toNat P.length else []) := rfl
  have HB : Hid (roundsB n P m = true → (1 ≤ m ∧ m ≤ 12) ∧ P.length ≤ 12) := fun h => ⟨(rounds_in h).2, (pools_in (rounds_in h).1).2.1⟩
  have HV := Lib.hid h
  obtain ⟨a, c, rfl, -⟩ := h
  unfold GivesG
  generalize greedyR n P m = G at HG ⊢
  generalize roundsB n P m = rb at CR HG HB ⊢
  cases rb with
  | false =>
    have HE : Hid (G = []) := HG.out
    go_enter Try.func17, Try.ntmps17
    go_wp2_with fail
    refine CR.out.mono ?_
    rintro e w1 ⟨rfl, rfl⟩
    go_wp2
    go_ret2
    rw [HE.out]
    exact ⟨_, [], rfl, GRow.nil _ _ _ (World.ownsRow_nil _ _ _ _), Below.refl _ _⟩
  | true =>
    obtain ⟨⟨m1, m12⟩, hl12⟩ := HB.out rfl
    obtain ⟨M, hM⟩ : ∃ M : Nat, m.toNat = M := ⟨_, rfl⟩
    have hmM : m = (M : Int) := by omega
    subst hmM
    have HE : Hid (G = greedyF P M P.length) := HG.out
    have HGI := Lib.hid (greedy_in P M)
    have HST : Hid (∀ k, greedyF P M (k + 1) = putS (greedyF P M k) (placeN P M k (greedyF P M k)) k) := fun _ => rfl
    have CF := Lib.hid (fun (vr : Value) (R : List Nat) (k : Nat) (W : World) (hw : IntsAt W (.slice a P.length c) P) (hr : IntsAt W vr (natL R)) (h2 : R.length ≤ 12) (hk : k < P.length) (hR : ∀ i ∈ R, i < P.length) => specFitsR (.slice a P.length c) vr P R M k W hw hr (by omega) hk hR)
    obtain ⟨p, hp⟩ : ∃ p, P.length = p := ⟨_, rfl⟩
    rw [hp] at CR HE hl12 HV CF ⊢
    have F0 : greedyF P M 0 = [] := rfl
    have HO : Hid (GRow (w.alloc (.cells #[] 22)) w.heap.size (.slice (some ⟨w.heap.size, 0, none⟩) 0 0) (greedyF P M 0) []) := by rw [F0]; exact GRow.nil _ _ _ (row_nilG w _ (Nat.le_refl _))
    have HBB := Lib.hid (alloc_below w (.cells #[] 22))
    clear HG HB hM hp F0 hm
    go_enter Try.func17, Try.ntmps17
    go_wp2_with fail
    refine CR.out.mono ?_
    rintro e w1 ⟨rfl, rfl⟩
    go_wp2_with fail
    go_loopw [8, 19] (fun ov kv wr => ∃ (k : Nat) (us : List Value), k ≤ p ∧ kv = .int .i64 k ∧ Hid (GRow wr w.heap.size ov (greedyF P M k) us) ∧ Hid (Below w.heap.size w wr)) (fun _ kv _ => p - (intOf kv).toNat)
    case atStart => exact ⟨0, [], Nat.zero_le _, rfl, HO, HBB⟩
    case round =>
      clear HO HBB
      obtain ⟨k, us, hk, rfl, HO, HBB⟩ := hrel
      obtain ⟨ao, co, hov, -⟩ := HO.out.form
      by_cases hlt : k < p
      · have HGK := Lib.hid (HGI.out k)
        have HSK := Lib.hid (HST.out k)
        have HPL := Lib.hid (placeN_le P M k (greedyF P M k))
        have HPN := Lib.hid (placeN_no P M k (greedyF P M k))
        have HPY := Lib.hid (placeN_yes P M k (greedyF P M k))
        have HVW := Lib.hid (HV.out.below HBB.out)
        generalize greedyF P M k = S at HO HGK HSK HPL HPN HPY hov
        generalize placeN P M k S = q at HSK HPL HPN HPY
        subst hov
        have hSl : S.length ≤ 12 := by have := HGK.out.1; omega
        have hql := HPL.out
        obtain ⟨sl, hsl⟩ : ∃ sl, S.length = sl := ⟨_, rfl⟩
        have HSL := Lib.hid hsl
        rw [hsl] at hSl hql ⊢
        clear hsl HPL
        have k0 : (0 : Int) ≤ (k : Int) := by omega
        have k1 : (k : Int) < (p : Int) := by omega
        obtain ⟨wo, hwo⟩ : ∃ wo, wo = wr := ⟨_, rfl⟩
        subst hwo
        go_wp2
        go_loopw [10] (fun qv wr => ∃ j d : Nat, j ≤ q ∧ qv = .int .i64 j ∧ wr = wo.drewN d) (fun qv _ => q + 1 - (intOf qv).toNat)
        case atStart => exact ⟨0, 0, Nat.zero_le _, rfl, rfl⟩
        case round =>
          obtain ⟨j, d, hj, rfl, rfl⟩ := hrel
          by_cases hlq : j < q
          · have hjs : j < S.length := by rw [HSL.out]; omega
            have hju : j < us.length := by rw [HO.out.len]; exact hjs
            obtain ⟨ao2, co2, ee, hcells⟩ := HO.out.form
            cases ee
            obtain ⟨g, rfl, e0, -⟩ := hcells j hju
            have hown := (HO.out.own j hjs hju).reads
            have hnf := HPN.out j hjs hlq
            have hin := HGK.out.2 S[j] (List.getElem_mem hjs)
            have CFJ := Lib.hid (CF.out us[j] S[j] k (wo.drewN d) (HVW.out.below (below_drewN (Below.refl _ _) _)) (hown.below (below_drewN (Below.refl _ _) _)) (by omega) (by omega) (fun i hi => by have := hin.2 i hi; omega))
            rw [hnf] at CFJ
            generalize us[j] = u at e0 CFJ
            have j0 : (0 : Int) ≤ (j : Int) := by omega
            have j1 : (j : Int) < (sl : Int) := by omega
            clear hcells hown hnf hin hju hjs
            go_wp2_with fail
            refine CFJ.out.mono ?_
            rintro e w3 ⟨rfl, d2, rfl⟩
            go_wp2
            go_roundw
            case rel => exact ⟨j + 1, _, by omega, by go_num, by first | rfl | exact World.drewN_drewN ..⟩
            case measure => simp [intOf]; omega
          · obtain rfl : j = q := by omega
            by_cases hjl : j < sl
            · have hjs : j < S.length := by rw [HSL.out]; exact hjl
              have hju : j < us.length := by rw [HO.out.len]; exact hjs
              have hin := HGK.out.2 S[j] (List.getElem_mem hjs)
              have hyes := HPY.out hjs
              have hown := (HO.out.own j hjs hju).reads
              have CFJ := Lib.hid (CF.out us[j] S[j] k (wo.drewN d) (HVW.out.below (below_drewN (Below.refl _ _) _)) (hown.below (below_drewN (Below.refl _ _) _)) (by omega) (by omega) (fun i hi => by have := hin.2 i hi; omega))
              rw [hyes] at CFJ
              have HSN : Hid (greedyF P M (k + 1) = S.set j (S[j] ++ [k])) := by unfold Hid; rw [HSK.out, putS_old k hjs]
              have hlen : S[j].length ≤ 12 := by omega
              obtain ⟨ao2, co2, ee, hcells⟩ := HO.out.form
              cases ee
              obtain ⟨g, rfl, e0, -⟩ := hcells j hju
              have j0 : (0 : Int) ≤ (j : Int) := by omega
              have j1 : (j : Int) < (sl : Int) := by omega
              have jne : ((j : Int) == (sl : Int)) = false := beq_eq_false_iff_ne.2 (by omega)
              obtain ⟨u, hu⟩ : ∃ u, us[j] = u := ⟨_, rfl⟩
              rw [hu] at e0 CFJ
              obtain ⟨ae, ne, ce, huf⟩ := (HO.out.own j hjs hju).form
              rw [hu] at huf
              subst huf
              have HU := Lib.hid hu
              clear hcells hown hin hyes HPN HPY HSK hu
              go_wp2_with fail
              refine CFJ.out.mono ?_
              rintro e w3 ⟨rfl, d2, hw3⟩
              have b3 : Below wo.heap.size wo w3 := by rw [hw3]; exact below_drewN (below_drewN (Below.refl _ _) _) _
              have HO3 := Lib.hid (HO.out.below b3)
              have HB3 := Lib.hid (below_up HBB.out b3)
              clear hw3 b3 HO HBB HVW
              obtain ⟨ao3, co3, ee3, hcells3⟩ := HO3.out.form
              cases ee3
              obtain ⟨g3, eg3, e3, fz3⟩ := hcells3 j hju
              cases eg3
              rw [HU.out] at e3
              have A4 := Lib.hid (alloc_below w3 (.cells #[.int .i64 (k : Int)] 3))
              have OX : Hid ((w3.alloc (.cells #[.int .i64 (k : Int)] 3)).ownsRow w.heap.size 3 1 (.slice ae ne ce) S[j].length ((natL S[j]).map (Value.int .i64))) := by
                have := (HO3.out.own j hjs hju).below A4.out
                rw [HU.out] at this
                unfold Own at this
                rw [natL_len] at this
                exact this
              have hsz : w.heap.size ≤ (w3.alloc (.cells #[.int .i64 (k : Int)] 3)).heap.size := by have := HB3.out.size; simp; omega
              have hgW := (owns_blk HO3.out.row g rfl)
              clear hcells3 e0
              go_wp2_with (at_builtin; refine wpList_append_own_at _ rfl _ _ 22 rfl w.heap.size 3 i0 (.int .i64 0) 1 8 Try.underlying22 hi hz0 hz1 hz2 rfl (by decide) (.slice ae ne ce) S[j].length ((natL S[j]).map (Value.int .i64)) rfl OX.out ⟨w3.heap.size, 0, none⟩ 1 1 [.int .i64 (k : Int)] rfl rfl (cell_one_new _ _ _) (by simp [Value.oneCell']) (by unfold maxLen; omega) (by omega) hsz ?_; intro v6 w6 hown6 hg6 _ hat6; have hg6' : (w3.alloc (.cells #[.int .i64 (k : Int)] 3)).grownBy w6 (Value.slice ae ne ce).ownBlock := hg6; obtain ⟨a6, n6, c6, hv6⟩ := rowFormI hown6; subst hv6; have hrow : (Value.slice ae ne ce).ownBlock ≠ some g := (fun e => HO3.out.away j hju g (by rw [HU.out]; exact e) rfl); have e6 : w6.cell? ⟨g, j, none⟩ = some (.slice ae ne ce) := cell_grown6 hg6' (cell_old6 e3 _) hrow; have f6 : w6.frozen? ⟨g, j, none⟩ = false := frozen_grown6 hg6' (frozen_old6 fz3 hgW.2 _) (by simp; omega) hrow; have HW6 := Lib.hid hown6; have HG6 := Lib.hid hg6'; have HA6 := Lib.hid hat6; clear hown6 hg6 hg6' hat6)
              have O6 : Hid (Own w6 w.heap.size (.slice a6 n6 c6) (natL (S[j] ++ [k]))) := by
                unfold Hid Own
                rw [natL_snoc, List.length_append, List.map_append, natL_len]
                exact HW6.out
              have HL3 : Hid (GRow w3 w.heap.size (.slice (some ⟨g, 0, none⟩) S.length co) S us) := HO3
              have R6 := Lib.hid (HL3.out.grow hjs hju A4.out O6.out (by rw [HU.out]; exact HG6.out) (by rw [HU.out]; exact HA6.out))
              have B6 := Lib.hid ((Below.grown (below_up HB3.out A4.out) HG6.out hsz (fun q hq => by have := (OX.out.lt q hq).1; omega)).setCell (p := ⟨g, j, none⟩) hgW.1 (.slice a6 n6 c6))
              rw [HSL.out, ← HSN.out] at R6
              go_wp2
              go_roundw
              case rel => exact ⟨k + 1, us.set j (.slice a6 n6 c6), by omega, by go_num, R6, B6⟩
              case measure => simp [intOf]; omega
            · obtain rfl : j = sl := by omega
              have HSN : Hid (greedyF P M (k + 1) = S ++ [[k]]) := by unfold Hid; rw [HSK.out, ← HSL.out, putS_open]
              have hgl : S.length ≤ k := HGK.out.1
              have jne : ((j : Int) == (j : Int)) = true := by simp
              have w3e : ∃ w3, wo.drewN d = w3 := ⟨_, rfl⟩
              obtain ⟨w3, hw3⟩ := w3e
              have b3 : Below wo.heap.size wo w3 := by rw [← hw3]; exact below_drewN (Below.refl _ _) _
              have HO3 := Lib.hid (HO.out.below b3)
              have HB3 := Lib.hid (below_up HBB.out b3)
              rw [hw3]
              clear hw3 b3 HO HBB HVW HPN HPY HSK CF
              obtain ⟨ao3, co3, ee3, -⟩ := HO3.out.form
              cases ee3
              have AE := Lib.hid (alloc_below w3 (.cells #[] 3))
              have OE := Lib.hid (Own.lit w3 w.heap.size HB3.out.size)
              have AX := Lib.hid (alloc_below (w3.alloc (.cells #[] 3)) (.cells #[.slice (some ⟨w3.heap.size, 0, none⟩) 0 0] 22))
              have OE2 := Lib.hid (OE.out.below AX.out)
              have HO3j : Hid (GRow w3 w.heap.size (.slice ao j co) S us) := by
                have := HO3.out
                rw [HSL.out] at this
                exact this
              have HOX := Lib.hid ((HO3j.out.below AE.out).below AX.out)
              have OXR : Hid (((w3.alloc (.cells #[] 3)).alloc (.cells #[.slice (some ⟨w3.heap.size, 0, none⟩) 0 0] 22)).ownsRow w.heap.size 22 1 (.slice ao j co) j us) := by
                have := HOX.out.row
                rw [HSL.out] at this
                exact this
              have hsz2 : w.heap.size ≤ ((w3.alloc (.cells #[] 3)).alloc (.cells #[.slice (some ⟨w3.heap.size, 0, none⟩) 0 0] 22)).heap.size := by have := HB3.out.size; simp; omega
              have hsepE : Hid (∀ i (h' : i < us.length), Sep us[i] (.slice (some ⟨w3.heap.size, 0, none⟩) 0 0)) := fun i h' b e1 e2 => by
                have h1 := ((HO3.out.own i (HO3.out.len ▸ h') h').blk b e1).2
                have h2 : w3.heap.size = b := by simpa [Value.ownBlock] using e2
                omega
              have hsepV : Hid (Sep (.slice (some ⟨w3.heap.size, 0, none⟩) 0 0) (.slice ao j co)) := fun b e1 e2 => by
                have h1 := (owns_blk HO3j.out.row b e2).2
                have h2 : w3.heap.size = b := by simpa [Value.ownBlock] using e1
                omega
              have hlu := HO3.out.len
              go_wp2_with (at_builtin; first
                | (refine wpList_append_own_at _ rfl _ _ 23 rfl w.heap.size 22 l0 (.slice none 0 0) 1 24 Try.underlying23 hj0 hy0 hy1 hy2 rfl (by decide) (.slice ao j co) j us rfl OXR.out ⟨w3.heap.size + 1, 0, none⟩ 1 1 [.slice (some ⟨w3.heap.size, 0, none⟩) 0 0] rfl rfl (one_cells6 (cell_at_alloc6 _ _ _ (by simp))) (by simp [Value.oneCell']) (by unfold maxLen; omega) (by omega) hsz2 ?_
                   intro v5 w5 hown5 hg5 _ hat5
                   have hg5' : ((w3.alloc (.cells #[] 3)).alloc (.cells #[.slice (some ⟨w3.heap.size, 0, none⟩) 0 0] 22)).grownBy w5 (Value.slice ao j co).ownBlock := hg5
                   have R5 := Lib.hid (HOX.out.push (s := []) OE2.out hsepE.out hsepV.out hg5' (by rw [HSL.out]; exact hown5) hat5)
                   have B5 := Lib.hid (Below.grown (below_up (below_up HB3.out AE.out) AX.out) hg5' hsz2 (fun q hq => by have := (OXR.out.lt q hq).1; omega))
                   obtain ⟨a5, c5, hv5, hc5⟩ := R5.out.form
                   subst hv5
                   obtain ⟨g5, ea5, e5, f5⟩ := hc5 j (by rw [List.length_append, hlu, HSL.out]; simp)
                   subst ea5
                   have hE : (us ++ [Value.slice (some ⟨w3.heap.size, 0, none⟩) 0 0])[j]'(by rw [List.length_append, hlu, HSL.out]; simp) = .slice (some ⟨w3.heap.size, 0, none⟩) 0 0 := by rw [List.getElem_append_right (by rw [hlu, HSL.out]; omega)]; simp
                   rw [hE] at e5
                   have hS5 : (S ++ [([] : List Nat)])[j]'(by rw [List.length_append, HSL.out]; simp) = [] := by rw [List.getElem_append_right (by rw [HSL.out]; omega)]; simp
                   have hl5 : (S ++ [([] : List Nat)]).length = j + 1 := by rw [List.length_append, HSL.out]; rfl
                   rw [hl5]
                   have O5 : Hid (Own w5 w.heap.size (.slice (some ⟨w3.heap.size, 0, none⟩) 0 0) []) := by
                     have := R5.out.own j (by rw [hl5]; omega) (by rw [List.length_append, hlu, HSL.out]; simp)
                     rw [hE, hS5] at this
                     exact this
                   have A7 := Lib.hid (alloc_below w5 (.cells #[.int .i64 (k : Int)] 3))
                   have OX7 := Lib.hid (O5.out.below A7.out)
                   have hsz7 : w.heap.size ≤ (w5.alloc (.cells #[.int .i64 (k : Int)] 3)).heap.size := by have := B5.out.size; simp; omega
                   have hgW := (owns_blk R5.out.row g5 rfl)
                   have HE5 := Lib.hid hE
                   have HS5 := Lib.hid hS5
                   clear hown5 hg5 hg5' hat5 hc5 hE hS5)
                | (refine wpList_append_own_at _ rfl _ _ 22 rfl w.heap.size 3 i0 (.int .i64 0) 1 8 Try.underlying22 hi hz0 hz1 hz2 rfl (by decide) (.slice (some ⟨w3.heap.size, 0, none⟩) 0 0) 0 [] rfl OX7.out ⟨w5.heap.size, 0, none⟩ 1 1 [.int .i64 (k : Int)] rfl rfl (cell_one_new _ _ _) (by simp [Value.oneCell']) (by unfold maxLen; omega) (by omega) hsz7 ?_
                   intro v6 w6 hown6 hg6 _ hat6
                   have hg6' : (w5.alloc (.cells #[.int .i64 (k : Int)] 3)).grownBy w6 (Value.slice (some ⟨w3.heap.size, 0, none⟩) 0 0).ownBlock := hg6
                   obtain ⟨a6, n6, c6, hv6⟩ := rowFormI hown6
                   subst hv6
                   have hrow : (Value.slice (some ⟨w3.heap.size, 0, none⟩) 0 0).ownBlock ≠ some g5 := fun e => R5.out.away j (by rw [List.length_append, hlu, HSL.out]; simp) g5 (by rw [HE5.out]; exact e) rfl
                   have e6 : w6.cell? ⟨g5, j, none⟩ = some (.slice (some ⟨w3.heap.size, 0, none⟩) 0 0) := cell_grown6 hg6' (cell_old6 e5 _) hrow
                   have f6 : w6.frozen? ⟨g5, j, none⟩ = false := frozen_grown6 hg6' (frozen_old6 f5 hgW.2 _) (by simp; omega) hrow
                   have HW6 := Lib.hid hown6
                   have HG6 := Lib.hid hg6'
                   have HA6 := Lib.hid hat6
                   clear hown6 hg6 hg6' hat6))
              have O6 : Hid (Own w6 w.heap.size (.slice a6 n6 c6) (natL ([] ++ [k]))) := HW6.out
              have R6 := Lib.hid (R5.out.grow (o := j) (k := k) (v' := .slice a6 n6 c6) (by rw [hl5]; omega) (by rw [List.length_append, hlu, HSL.out]; simp) A7.out (by rw [HS5.out]; exact O6.out) (by rw [HE5.out]; exact HG6.out) (by rw [HE5.out]; exact HA6.out))
              have B6 := Lib.hid ((Below.grown (below_up B5.out A7.out) HG6.out hsz7 (fun q hq => by have := (OX7.out.lt q hq).1; omega)).setCell (p := ⟨g5, j, none⟩) hgW.1 (.slice a6 n6 c6))
              have hset : (S ++ [([] : List Nat)]).set j ((S ++ [([] : List Nat)])[j]'(by rw [hl5]; omega) ++ [k]) = greedyF P M (k + 1) := by
                rw [HSN.out, HS5.out]
                apply List.ext_getElem
                · simp
                · intro i h1 h2
                  rw [List.getElem_set]
                  by_cases e : j = i
                  · subst e
                    rw [if_pos rfl, List.getElem_append_right (by rw [HSL.out]; omega)]
                    simp
                  · rw [if_neg e]
                    have hi : i < S.length := by rw [HSL.out]; simp [HSL.out] at h2; omega
                    rw [List.getElem_append_left hi, List.getElem_append_left hi]
              rw [hset, hl5] at R6
              go_wp2
              go_roundw
              case rel => exact ⟨k + 1, _, by omega, by go_num, R6, B6⟩
              case measure => simp [intOf]; omega
      · obtain rfl : k = p := by omega
        generalize greedyF P M k = S at HO HE hov
        subst hov
        go_wp2
        go_ret2
        rw [HE.out]
        exact ⟨_, us, rfl, HO.out, HBB.out⟩
end Go.Proofs.Ythfnbnjajcigeaa

/- The walk of the exact law of GreedyRounds round the contract of the program's function: it returns true for every argument. Condition: the slice that came in reads as integers. -/
namespace Go.Proofs.Ythfnbnjajcigeaa
open Go.RowKit

/-- The rounds that the greedy way makes, as lists of integers. -/
def gS (n : Int) (P : List Int) (m : Int) : List (List Int) := (greedyR n P m).map natL
theorem totL_bound {b : Nat} : ∀ (S : List (List Int)), (∀ d ∈ S, d.length ≤ b) → totL S ≤ S.length * b
  | [], _ => by simp [totL]
  | d :: r, h => by
    have h1 := totL_bound r fun x hx => h x (by simp [hx])
    have h2 := h d (by simp)
    simp only [totL, List.length_cons]
    rw [Nat.succ_mul]
    omega
theorem gS_len (n : Int) (P : List Int) (m : Int) : (gS n P m).length + totL (gS n P m) ≤ 1000 ∧ ∀ d ∈ gS n P m, d.length ≤ 1048576 := by
  have h : (gS n P m).length ≤ 12 ∧ ∀ d ∈ gS n P m, d.length ≤ 12 := by
    unfold gS greedyR
    split
    · rename_i hr
      have hl := (pools_in (rounds_in hr).1).2.1
      have hg := greedy_in P m.toNat P.length
      refine ⟨by rw [List.length_map]; omega, fun d hd => ?_⟩
      obtain ⟨r, h1, rfl⟩ := List.mem_map.1 hd
      have := (hg.2 r h1).1
      rw [natL_len]
      omega
    · simp
  have h2 := totL_bound _ h.2
  refine ⟨by have : (gS n P m).length * 12 ≤ 12 * 12 := Nat.mul_le_mul_right _ h.1; omega, fun d hd => by have := h.2 d hd; omega⟩
/-- A list of lists of the call's own, and whether there is one. -/
def GivesLs (S : List (List Int)) (b : Bool) (w : World) (e : Ending) (w' : World) : Prop := ∃ u, e = .returned (.tuple #[u, .bool b]) ∧ RowsQ w' w.heap.size w'.heap.size u S ∧ Below w.heap.size w w'
theorem GRow.toQ {w : World} {lo : Nat} {ov : Value} {S : List (List Nat)} {us : List Value} (h : GRow w lo ov S us) : RowsQ w lo w.heap.size ov (S.map natL) :=
  ⟨us, by rw [List.length_map]; exact h.len, by rw [List.length_map]; exact h.row, fun i h1 h2 => by rw [List.getElem_map]; exact h.own i (by simpa using h1) h2, h.away, h.sep,
    fun k hk => (h.row.lt k hk).2, fun i h' k hk => ((h.own i (by rw [← h.len]; exact h') h').blk k hk).2⟩
theorem GivesG.ls {S : List (List Nat)} {b : Bool} {w w' : World} {e : Ending} (h : GivesG S b w e w') : GivesLs (S.map natL) b w e w' := by
  obtain ⟨ov, us, h1, h2, h3⟩ := h
  exact ⟨ov, h1, h2.toQ, h3⟩
theorem specGreedyQ (n m : Int) (v : Value) (P : List Int) (w : World) (h : IntsAt w v P) (hm : P.length ≤ 1048576) :
    Calls Try.prog 17 #[.int .i64 n, v, .int .i64 m] w (GivesLs (gS n P m) (roundsB n P m) w) :=
  (specGreedy n m v P w h hm).mono fun _ _ h => h.ls
def GreedyRoundsIs (f : FuncId) (n : Int) (P : List Int) (m : Int) : Prop := ∀ W vP, IntsAt W vP P → Calls Try.prog f #[.int .i64 n, vP, .int .i64 m] W (GivesLs (gS n P m) (roundsB n P m) W)

set_option maxRecDepth 100000 in
set_option maxHeartbeats 3200000 in
theorem lawGreedyRounds (n : Int) (P : List Int) (m : Int) (w : World) (vP : Value) (cP : IntsAt w vP P) (IM : P.length ≤ 1048576 → GreedyRoundsIs 18 n P m) :
    Calls Try.prog 4 #[.int .i64 n, vP, .int .i64 m] w fun e w' => e = .returned (.bool true) ∧ Below w.heap.size w w' := by
  have HP := Lib.hid cP
  have B0 := Lib.hid (Below.refl w.heap.size w)
  obtain ⟨aP, kP, rfl, -⟩ := cP
  by_cases LP : 1048576 < P.length
  · go_enter Try.func4, Try.ntmps4
    go_wp2
    go_ret
    exact ⟨rfl, B0.out⟩
  have NP : P.length ≤ 1048576 := by omega
  replace IM := IM NP
  have SP := Lib.hid (fun W u0 h0 => specGreedyQ n m u0 P W h0 NP)
  unfold GreedyRoundsIs at IM
  have IP := Lib.hid IM
  unfold GivesLs at SP IP
  have hF := gS_len n P m
  generalize gS n P m = F at SP IP hF
  generalize roundsB n P m = t at SP IP
  have TP := Lib.hid (fun W h => toInts (.slice aP P.length kP) P W h NP)
  have EP := Lib.hid (fun W a b (h : IntsAt W a P) h' => eqInts_same a b P W h h' (by omega))
  have MP := Lib.hid (fun W B a (h : Own W B a P) => markInts B a 1 P W h (by omega) (by omega) (by omega))
  obtain ⟨qP, hqP⟩ : ∃ q, (1 : Int) + (P.length : Int) = q := ⟨_, rfl⟩
  rw [hqP] at MP
  have lqP : 1 ≤ qP ∧ qP ≤ 10000000 := by omega
  have kneg : ¬ qP < 0 := by omega
  have EL := Lib.hid (fun W a b (h : LsAt W a F) h' => eqLs a b F W h h' (by omega) hF.2)
  have ML := Lib.hid (fun W lo hi a (h : RowsQ W lo hi a F) => markLs lo hi a 1 F W h (by omega) (by omega) (by omega))
  have HL := Lib.hid (fun W a h => heldLs a 1 F W h (by omega) (by omega) (by omega))
  obtain ⟨kf, hkf⟩ : ∃ kf, (1 : Int) + ((totL F : Nat) : Int) = kf := ⟨_, rfl⟩
  rw [hkf] at ML HL
  have kf0 : 0 ≤ kf := by omega
  have hok : (t != t) = false := by simp
  clear IM NP hkf hF hqP lqP
  generalize hnP : P.length = nP at HP TP LP
  clear hnP
  go_enter Try.func4, Try.ntmps4
  go_wp2_with fail
  refine (TP.out _ (HP.out.below B0.out)).mono ?_
  rintro e w1 ⟨uPP, rfl, -, o, bb⟩
  obtain ⟨gPP, nPP, qPP, rfl⟩ := o.form
  have IPP : Hid (∀ k, Value.ownBlock (.slice gPP nPP qPP) = some k → w.heap.size ≤ k ∧ k < w1.heap.size) := fun k hk => o.blk k hk
  have PP1 := Lib.hid o
  clear o
  have B1 := Lib.hid (below_up B0.out bb)
  have D1 : Hid (w.heap.size ≤ w1.heap.size) := bb.size
  clear bb B0
  go_wp2_with fail
  refine (SP.out _ _ PP1.out.reads).mono ?_
  rintro e w2 ⟨uW, rfl, o, bb⟩
  obtain ⟨gW, nW, qW, rfl⟩ := o.form
  have W2 := Lib.hid o
  clear o
  have B2 := Lib.hid (below_up B1.out bb)
  have D2 : Hid (w1.heap.size ≤ w2.heap.size) := bb.size
  clear bb B1 PP1
  go_wp2_with fail
  refine (TP.out _ (HP.out.below B2.out)).mono ?_
  rintro e w3 ⟨uXP, rfl, -, o, bb⟩
  obtain ⟨gXP, nXP, qXP, rfl⟩ := o.form
  have IXP : Hid (∀ k, Value.ownBlock (.slice gXP nXP qXP) = some k → w2.heap.size ≤ k ∧ k < w3.heap.size) := fun k hk => o.blk k hk
  have XP3 := Lib.hid o
  clear o
  have B3 := Lib.hid (below_up B2.out bb)
  have D3 : Hid (w2.heap.size ≤ w3.heap.size) := bb.size
  have W3 := Lib.hid (W2.out.below bb)
  clear bb B2 W2
  go_wp2_with fail
  refine (IP.out _ _ XP3.out.reads).mono ?_
  rintro e w4 ⟨uG, rfl, o, bb⟩
  obtain ⟨gG, nG, qG, rfl⟩ := o.form
  have G4 := Lib.hid o
  clear o
  have B4 := Lib.hid (below_up B3.out bb)
  have D4 : Hid (w3.heap.size ≤ w4.heap.size) := bb.size
  have W4 := Lib.hid (W3.out.below bb)
  have XP4 := Lib.hid (XP3.out.below bb)
  clear bb B3 W3 XP3
  go_wp2_with fail
  refine (EL.out _ _ _ G4.out.reads W4.out.reads).mono ?_
  rintro e w5 ⟨rfl, bb⟩
  have B5 := Lib.hid (below_up B4.out bb)
  have D5 : Hid (w4.heap.size ≤ w5.heap.size) := bb.size
  have W5 := Lib.hid (W4.out.below bb)
  have XP5 := Lib.hid (XP4.out.below bb)
  have G5 := Lib.hid (G4.out.below bb)
  clear bb B4 W4 XP4 G4
  go_wp2_with fail
  refine (TP.out _ (HP.out.below B5.out)).mono ?_
  rintro e w6 ⟨uY, rfl, -, o, bb⟩
  obtain ⟨gY, nY, qY, rfl⟩ := o.form
  have IY : Hid (∀ k, Value.ownBlock (.slice gY nY qY) = some k → w5.heap.size ≤ k ∧ k < w6.heap.size) := fun k hk => o.blk k hk
  have Y6 := Lib.hid o
  clear o
  have B6 := Lib.hid (below_up B5.out bb)
  have D6 : Hid (w5.heap.size ≤ w6.heap.size) := bb.size
  have W6 := Lib.hid (W5.out.below bb)
  have XP6 := Lib.hid (XP5.out.below bb)
  have G6 := Lib.hid (G5.out.below bb)
  clear bb B5 W5 XP5 G5
  go_wp2_with fail
  refine (EP.out _ _ _ XP6.out.reads Y6.out.reads).mono ?_
  rintro e w7 ⟨rfl, bb⟩
  have B7 := Lib.hid (below_up B6.out bb)
  have D7 : Hid (w6.heap.size ≤ w7.heap.size) := bb.size
  have W7 := Lib.hid (W6.out.below bb)
  have XP7 := Lib.hid (XP6.out.below bb)
  have G7 := Lib.hid (G6.out.below bb)
  clear bb B6 W6 XP6 G6 Y6
  go_wp2_with fail
  refine (MP.out _ _ _ XP7.out).mono ?_
  rintro e w8 ⟨rfl, oI, gI⟩
  have tI := Only.of_grown gI
  have B8 : Hid (Below w.heap.size w w8) := B7.out.trans (tI.below B7.out.size fun k hk => by have := IXP.out k hk; have := D1.out; have := D2.out; have := D3.out; have := D4.out; have := D5.out; have := D6.out; have := D7.out; omega)
  have D8 : Hid (w7.heap.size ≤ w8.heap.size) := tI.size
  have W8 := Lib.hid (W7.out.only tI fun k e => by have := IXP.out k e; have := D1.out; have := D2.out; have := D3.out; have := D4.out; have := D5.out; have := D6.out; have := D7.out; omega)
  have G8 := Lib.hid (G7.out.only tI fun k e => by have := IXP.out k e; have := D1.out; have := D2.out; have := D3.out; have := D4.out; have := D5.out; have := D6.out; have := D7.out; omega)
  clear oI gI tI B7 W7 XP7 G7
  go_wp2_with fail
  refine (EL.out _ _ _ G8.out.reads W8.out.reads).mono ?_
  rintro e w9 ⟨rfl, bb⟩
  have B9 := Lib.hid (below_up B8.out bb)
  have D9 : Hid (w8.heap.size ≤ w9.heap.size) := bb.size
  have W9 := Lib.hid (W8.out.below bb)
  have G9 := Lib.hid (G8.out.below bb)
  clear bb B8 W8 G8
  go_wp2_with fail
  refine (ML.out _ _ _ _ G9.out).mono ?_
  rintro e w10 ⟨rfl, oI, tI⟩
  have B10 : Hid (Below w.heap.size w w10) := B9.out.trans (tI.below B9.out.size fun k hk => by have := D1.out; have := D2.out; have := D3.out; have := D4.out; have := D5.out; have := D6.out; have := D7.out; have := D8.out; have := D9.out; omega)
  have D10 : Hid (w9.heap.size ≤ w10.heap.size) := tI.size
  have W10 := Lib.hid (W9.out.only tI fun k e => by have := D1.out; have := D2.out; have := D3.out; have := D4.out; have := D5.out; have := D6.out; have := D7.out; have := D8.out; have := D9.out; omega)
  have G10 : Hid (LsAt w10 (.slice gG nG qG) (marksL 1 F)) := oI
  clear oI tI B9 W9 G9
  go_wp2_with fail
  refine (HL.out _ _ G10.out).mono ?_
  rintro e w11 ⟨rfl, rfl⟩
  go_wp2_with fail
  refine (TP.out _ (HP.out.below B10.out)).mono ?_
  rintro e w11 ⟨uZP, rfl, -, o, bb⟩
  obtain ⟨gZP, nZP, qZP, rfl⟩ := o.form
  have IZP : Hid (∀ k, Value.ownBlock (.slice gZP nZP qZP) = some k → w10.heap.size ≤ k ∧ k < w11.heap.size) := fun k hk => o.blk k hk
  have ZP11 := Lib.hid o
  clear o
  have B11 := Lib.hid (below_up B10.out bb)
  have D11 : Hid (w10.heap.size ≤ w11.heap.size) := bb.size
  have W11 := Lib.hid (W10.out.below bb)
  have G11 := Lib.hid (G10.out.below bb)
  clear bb B10 W10 G10
  go_wp2_with fail
  refine (IP.out _ _ ZP11.out.reads).mono ?_
  rintro e w12 ⟨uH, rfl, o, bb⟩
  obtain ⟨gH, nH, qH, rfl⟩ := o.form
  have H12 := Lib.hid o
  clear o
  have B12 := Lib.hid (below_up B11.out bb)
  have D12 : Hid (w11.heap.size ≤ w12.heap.size) := bb.size
  have W12 := Lib.hid (W11.out.below bb)
  have G12 := Lib.hid (G11.out.below bb)
  clear bb B11 W11 G11 ZP11
  go_wp2_with fail
  refine (EL.out _ _ _ H12.out.reads W12.out.reads).mono ?_
  rintro e w13 ⟨rfl, bb⟩
  have B13 := Lib.hid (below_up B12.out bb)
  have D13 : Hid (w12.heap.size ≤ w13.heap.size) := bb.size
  have G13 := Lib.hid (G12.out.below bb)
  clear bb B12 W12 G12 H12
  go_wp2_with fail
  refine (HL.out _ _ G13.out).mono ?_
  rintro e w14 ⟨rfl, rfl⟩
  go_wp2
  go_ret
  exact ⟨rfl, B13.out⟩
end Go.Proofs.Ythfnbnjajcigeaa

/- The contract of the model's DaysFor. Condition: the slice reads as integers. -/
namespace Go.Proofs.Ythfnbnjajcigeaa
open Go.RowKit

def dayB (d : Int) : Bool := decide (1 ≤ d) && decide (d ≤ 24)
def daysI (n : Int) (P : List Int) (m d : Int) : Int := if (roundsB n P m && dayB d) = true then ((ceilN (greedyR n P m).length d.toNat : Nat) : Int) else -1
theorem greedyR_len (n : Int) (P : List Int) (m : Int) : (greedyR n P m).length ≤ 12 := by
  unfold greedyR
  split
  · rename_i h
    have h1 := (greedy_in P m.toNat P.length).1
    have h2 := (pools_in (rounds_in h).1).2.1
    omega
  · simp

set_option maxRecDepth 100000 in
set_option maxHeartbeats 1600000 in
theorem specDays (n m d : Int) (v : Value) (P : List Int) (w : World) (h : IntsAt w v P) (hm : P.length ≤ 1048576) :
    Calls Try.prog 29 #[.int .i64 n, v, .int .i64 m, .int .i64 d] w fun e w' => e = .returned (.int .i64 (daysI n P m d)) ∧ Below w.heap.size w w' := by
  have CG := Lib.hid (specGreedy n m v P w h hm)
  have CD : Hid (∀ W, Calls Try.prog 36 #[.int .i64 d, .int .i64 1, .int .i64 24] W fun e w' => e = .returned (.bool (dayB d)) ∧ W = w') := fun W => l01In_is d 1 24 W
  have HD : Hid (daysI n P m d = if (roundsB n P m && dayB d) = true then ((ceilN (greedyR n P m).length d.toNat : Nat) : Int) else -1) := rfl
  have HB : Hid (dayB d = true → 1 ≤ d ∧ d ≤ 24) := fun h => by unfold dayB at h; simpa using h
  have hg := greedyR_len n P m
  obtain ⟨a, c, rfl, -⟩ := h
  unfold GivesG at CG
  generalize daysI n P m d = r at HD ⊢
  generalize greedyR n P m = G at CG HD hg
  generalize roundsB n P m = rb at CG HD
  generalize dayB d = db at CD HD HB
  cases rb with
  | false =>
    have HE : Hid (r = -1) := HD.out
    go_enter Try.func29, Try.ntmps29
    go_wp2_with fail
    refine CG.out.mono ?_
    rintro e w1 ⟨ov, us, rfl, hgr, bb⟩
    have B1 := Lib.hid bb
    clear hgr bb
    go_wp2
    go_ret
    exact ⟨ret_int HE.out.symm, B1.out⟩
  | true =>
    cases db with
    | false =>
      have HE : Hid (r = -1) := HD.out
      go_enter Try.func29, Try.ntmps29
      go_wp2_with fail
      refine CG.out.mono ?_
      rintro e w1 ⟨ov, us, rfl, hgr, bb⟩
      have B1 := Lib.hid bb
      clear hgr bb
      go_wp2_with fail
      refine (CD.out _).mono ?_
      rintro e w1 ⟨rfl, rfl⟩
      go_wp2
      go_ret
      exact ⟨ret_int HE.out.symm, B1.out⟩
    | true =>
      obtain ⟨d1, d24⟩ := HB.out rfl
      obtain ⟨D, hD⟩ : ∃ D : Nat, d.toNat = D := ⟨_, rfl⟩
      have hdD : d = (D : Int) := by omega
      subst hdD
      have HE : Hid (r = ((ceilN G.length D : Nat) : Int)) := HD.out
      obtain ⟨l, hl⟩ : ∃ l, G.length = l := ⟨_, rfl⟩
      have HL := Lib.hid hl
      rw [hl] at HE hg
      have hq : ceilN l D ≤ 35 := by unfold ceilN; exact Nat.le_trans (Nat.div_le_self _ _) (by omega)
      have hqi : ((l : Int) + (D : Int) - 1) / (D : Int) = ((ceilN l D : Nat) : Int) := by
        unfold ceilN
        rw [Int.natCast_ediv]
        congr 1
        omega
      obtain ⟨C, hC⟩ : ∃ C, ceilN l D = C := ⟨_, rfl⟩
      rw [hC] at hq hqi HE
      have HQI := Lib.hid hqi
      have DB : ((D : Int) == 0) = false := beq_eq_false_iff_ne.2 (by omega)
      clear hqi hC hl HD HB hD
      go_enter Try.func29, Try.ntmps29
      go_wp2_with fail
      refine CG.out.mono ?_
      rintro e w1 ⟨ov, us, rfl, hgr, bb⟩
      have B1 := Lib.hid bb
      obtain ⟨ao, co, hov, -⟩ := hgr.form
      rw [HL.out] at hov
      subst hov
      clear hgr bb
      go_wp2_with fail
      refine (CD.out _).mono ?_
      rintro e w1 ⟨rfl, rfl⟩
      have qi := HQI.out
      have qw : IntKind.i64.wrap (((l : Int) + (D : Int) - 1) / (D : Int)) = (C : Int) := by rw [qi, IntKind.wrap_i64]; omega
      go_wp2
      go_ret
      exact ⟨ret_int (by first | exact HE.out.symm | exact qi.trans HE.out.symm), B1.out⟩
end Go.Proofs.Ythfnbnjajcigeaa

/- The walks of the exact laws of UsesOf, RoundBound and DaysFor round the contracts of the program's functions: each returns true for every argument. Condition: the slice that came in reads as integers. -/
namespace Go.Proofs.Ythfnbnjajcigeaa
open Go.RowKit

/-- The contracts of the program's functions. -/
def UsesOfIs (f : FuncId) (n : Int) (P : List Int) : Prop := ∀ W vP, IntsAt W vP P → Calls Try.prog f #[.int .i64 n, vP] W (ListI (usesR n P) W)
def DaysForIs (f : FuncId) (n : Int) (P : List Int) (m : Int) (d : Int) : Prop := ∀ W vP, IntsAt W vP P → Calls Try.prog f #[.int .i64 n, vP, .int .i64 m, .int .i64 d] W fun e w' => e = .returned (.int .i64 (daysI n P m d)) ∧ Below W.heap.size W w'
def RoundBoundIs (f : FuncId) (n : Int) (P : List Int) (m : Int) : Prop := ∀ W vP, IntsAt W vP P → Calls Try.prog f #[.int .i64 n, vP, .int .i64 m] W fun e w' => e = .returned (.int .i64 (boundI n P m)) ∧ Below W.heap.size W w'

set_option maxRecDepth 100000 in
set_option maxHeartbeats 3200000 in
theorem lawUsesOf (n : Int) (P : List Int) (w : World) (vP : Value) (cP : IntsAt w vP P) (IM : P.length ≤ 1048576 → UsesOfIs 23 n P) :
    Calls Try.prog 5 #[.int .i64 n, vP] w fun e w' => e = .returned (.bool true) ∧ Below w.heap.size w w' := by
  have HP := Lib.hid cP
  have B0 := Lib.hid (Below.refl w.heap.size w)
  obtain ⟨aP, kP, rfl, -⟩ := cP
  by_cases LP : 1048576 < P.length
  · go_enter Try.func5, Try.ntmps5
    go_wp2
    go_ret
    exact ⟨rfl, B0.out⟩
  have NP : P.length ≤ 1048576 := by omega
  replace IM := IM NP
  have SP := Lib.hid (fun W u0 h0 => specUses n u0 P W h0 NP)
  unfold UsesOfIs at IM
  have IP := Lib.hid IM
  unfold ListI at SP IP
  have hF := usesR_len n P
  generalize usesR n P = F at SP IP hF
  have TP := Lib.hid (fun W h => toInts (.slice aP P.length kP) P W h NP)
  have EP := Lib.hid (fun W a b (h : IntsAt W a P) h' => eqInts_same a b P W h h' (by omega))
  have MP := Lib.hid (fun W B a (h : Own W B a P) => markInts B a 1 P W h (by omega) (by omega) (by omega))
  obtain ⟨qP, hqP⟩ : ∃ q, (1 : Int) + (P.length : Int) = q := ⟨_, rfl⟩
  rw [hqP] at MP
  have lqP : 1 ≤ qP ∧ qP ≤ 10000000 := by omega
  have kneg : ¬ qP < 0 := by omega
  have EL := Lib.hid (fun W a b (h : IntsAt W a F) h' => eqInts_same a b F W h h' (by omega))
  have ML := Lib.hid (fun W B a (h : Own W B a F) => markInts B a 1 F W h (by omega) (by omega) (by omega))
  have HL := Lib.hid (fun W a h => heldInts a 1 F.length W h (by omega) (by omega) (by omega))
  obtain ⟨kf, hkf⟩ : ∃ kf, (1 : Int) + (F.length : Int) = kf := ⟨_, rfl⟩
  rw [hkf] at ML HL
  have kf0 : 0 ≤ kf := by omega
  clear IM NP hkf hF hqP lqP
  generalize hnP : P.length = nP at HP TP LP
  clear hnP
  go_enter Try.func5, Try.ntmps5
  go_wp2_with fail
  refine (TP.out _ (HP.out.below B0.out)).mono ?_
  rintro e w1 ⟨uPP, rfl, -, o, bb⟩
  obtain ⟨gPP, nPP, qPP, rfl⟩ := o.form
  have IPP : Hid (∀ k, Value.ownBlock (.slice gPP nPP qPP) = some k → w.heap.size ≤ k ∧ k < w1.heap.size) := fun k hk => o.blk k hk
  have PP1 := Lib.hid o
  clear o
  have B1 := Lib.hid (below_up B0.out bb)
  have D1 : Hid (w.heap.size ≤ w1.heap.size) := bb.size
  clear bb B0
  go_wp2_with fail
  refine (SP.out _ _ PP1.out.reads).mono ?_
  rintro e w2 ⟨uW, rfl, o, bb⟩
  obtain ⟨gW, nW, qW, rfl⟩ := o.form
  have IW : Hid (∀ k, Value.ownBlock (.slice gW nW qW) = some k → w1.heap.size ≤ k ∧ k < w2.heap.size) := fun k hk => o.blk k hk
  have W2 := Lib.hid o
  clear o
  have B2 := Lib.hid (below_up B1.out bb)
  have D2 : Hid (w1.heap.size ≤ w2.heap.size) := bb.size
  clear bb B1 PP1
  go_wp2_with fail
  refine (TP.out _ (HP.out.below B2.out)).mono ?_
  rintro e w3 ⟨uXP, rfl, -, o, bb⟩
  obtain ⟨gXP, nXP, qXP, rfl⟩ := o.form
  have IXP : Hid (∀ k, Value.ownBlock (.slice gXP nXP qXP) = some k → w2.heap.size ≤ k ∧ k < w3.heap.size) := fun k hk => o.blk k hk
  have XP3 := Lib.hid o
  clear o
  have B3 := Lib.hid (below_up B2.out bb)
  have D3 : Hid (w2.heap.size ≤ w3.heap.size) := bb.size
  have W3 := Lib.hid (W2.out.below bb)
  clear bb B2 W2
  go_wp2_with fail
  refine (IP.out _ _ XP3.out.reads).mono ?_
  rintro e w4 ⟨uG, rfl, o, bb⟩
  obtain ⟨gG, nG, qG, rfl⟩ := o.form
  have IG : Hid (∀ k, Value.ownBlock (.slice gG nG qG) = some k → w3.heap.size ≤ k ∧ k < w4.heap.size) := fun k hk => o.blk k hk
  have G4 := Lib.hid o
  clear o
  have B4 := Lib.hid (below_up B3.out bb)
  have D4 : Hid (w3.heap.size ≤ w4.heap.size) := bb.size
  have W4 := Lib.hid (W3.out.below bb)
  have XP4 := Lib.hid (XP3.out.below bb)
  clear bb B3 W3 XP3
  go_wp2_with fail
  refine (EL.out _ _ _ G4.out.reads W4.out.reads).mono ?_
  rintro e w5 ⟨rfl, bb⟩
  have B5 := Lib.hid (below_up B4.out bb)
  have D5 : Hid (w4.heap.size ≤ w5.heap.size) := bb.size
  have W5 := Lib.hid (W4.out.below bb)
  have XP5 := Lib.hid (XP4.out.below bb)
  have G5 := Lib.hid (G4.out.below bb)
  clear bb B4 W4 XP4 G4
  go_wp2_with fail
  refine (TP.out _ (HP.out.below B5.out)).mono ?_
  rintro e w6 ⟨uY, rfl, -, o, bb⟩
  obtain ⟨gY, nY, qY, rfl⟩ := o.form
  have IY : Hid (∀ k, Value.ownBlock (.slice gY nY qY) = some k → w5.heap.size ≤ k ∧ k < w6.heap.size) := fun k hk => o.blk k hk
  have Y6 := Lib.hid o
  clear o
  have B6 := Lib.hid (below_up B5.out bb)
  have D6 : Hid (w5.heap.size ≤ w6.heap.size) := bb.size
  have W6 := Lib.hid (W5.out.below bb)
  have XP6 := Lib.hid (XP5.out.below bb)
  have G6 := Lib.hid (G5.out.below bb)
  clear bb B5 W5 XP5 G5
  go_wp2_with fail
  refine (EP.out _ _ _ XP6.out.reads Y6.out.reads).mono ?_
  rintro e w7 ⟨rfl, bb⟩
  have B7 := Lib.hid (below_up B6.out bb)
  have D7 : Hid (w6.heap.size ≤ w7.heap.size) := bb.size
  have W7 := Lib.hid (W6.out.below bb)
  have XP7 := Lib.hid (XP6.out.below bb)
  have G7 := Lib.hid (G6.out.below bb)
  clear bb B6 W6 XP6 G6 Y6
  go_wp2_with fail
  refine (MP.out _ _ _ XP7.out).mono ?_
  rintro e w8 ⟨rfl, oI, gI⟩
  have tI := Only.of_grown gI
  have B8 : Hid (Below w.heap.size w w8) := B7.out.trans (tI.below B7.out.size fun k hk => by have := IXP.out k hk; have := D1.out; have := D2.out; have := D3.out; have := D4.out; have := D5.out; have := D6.out; have := D7.out; omega)
  have D8 : Hid (w7.heap.size ≤ w8.heap.size) := tI.size
  have W8 := Lib.hid (W7.out.only tI fun k hk e => by have := IW.out k hk; have := IXP.out k e; have := D1.out; have := D2.out; have := D3.out; have := D4.out; have := D5.out; have := D6.out; have := D7.out; omega)
  have G8 := Lib.hid (G7.out.only tI fun k hk e => by have := IG.out k hk; have := IXP.out k e; have := D1.out; have := D2.out; have := D3.out; have := D4.out; have := D5.out; have := D6.out; have := D7.out; omega)
  clear oI gI tI B7 W7 XP7 G7
  go_wp2_with fail
  refine (EL.out _ _ _ G8.out.reads W8.out.reads).mono ?_
  rintro e w9 ⟨rfl, bb⟩
  have B9 := Lib.hid (below_up B8.out bb)
  have D9 : Hid (w8.heap.size ≤ w9.heap.size) := bb.size
  have W9 := Lib.hid (W8.out.below bb)
  have G9 := Lib.hid (G8.out.below bb)
  clear bb B8 W8 G8
  go_wp2_with fail
  refine (ML.out _ _ _ G9.out).mono ?_
  rintro e w10 ⟨rfl, oI, gI⟩
  have tI := Only.of_grown gI
  have B10 : Hid (Below w.heap.size w w10) := B9.out.trans (tI.below B9.out.size fun k hk => by have := IG.out k hk; have := D1.out; have := D2.out; have := D3.out; have := D4.out; have := D5.out; have := D6.out; have := D7.out; have := D8.out; have := D9.out; omega)
  have D10 : Hid (w9.heap.size ≤ w10.heap.size) := tI.size
  have W10 := Lib.hid (W9.out.only tI fun k hk e => by have := IW.out k hk; have := IG.out k e; have := D1.out; have := D2.out; have := D3.out; have := D4.out; have := D5.out; have := D6.out; have := D7.out; have := D8.out; have := D9.out; omega)
  have G10 : Hid (IntsAt w10 (.slice gG nG qG) (imarks 1 F.length)) := IntsAt.of_owns_n oI (imarks_length _ _)
  clear oI gI tI B9 W9 G9
  go_wp2_with fail
  refine (HL.out _ _ G10.out).mono ?_
  rintro e w11 ⟨rfl, rfl⟩
  go_wp2_with fail
  refine (TP.out _ (HP.out.below B10.out)).mono ?_
  rintro e w11 ⟨uZP, rfl, -, o, bb⟩
  obtain ⟨gZP, nZP, qZP, rfl⟩ := o.form
  have IZP : Hid (∀ k, Value.ownBlock (.slice gZP nZP qZP) = some k → w10.heap.size ≤ k ∧ k < w11.heap.size) := fun k hk => o.blk k hk
  have ZP11 := Lib.hid o
  clear o
  have B11 := Lib.hid (below_up B10.out bb)
  have D11 : Hid (w10.heap.size ≤ w11.heap.size) := bb.size
  have W11 := Lib.hid (W10.out.below bb)
  have G11 := Lib.hid (G10.out.below bb)
  clear bb B10 W10 G10
  go_wp2_with fail
  refine (IP.out _ _ ZP11.out.reads).mono ?_
  rintro e w12 ⟨uH, rfl, o, bb⟩
  obtain ⟨gH, nH, qH, rfl⟩ := o.form
  have IH : Hid (∀ k, Value.ownBlock (.slice gH nH qH) = some k → w11.heap.size ≤ k ∧ k < w12.heap.size) := fun k hk => o.blk k hk
  have H12 := Lib.hid o
  clear o
  have B12 := Lib.hid (below_up B11.out bb)
  have D12 : Hid (w11.heap.size ≤ w12.heap.size) := bb.size
  have W12 := Lib.hid (W11.out.below bb)
  have G12 := Lib.hid (G11.out.below bb)
  clear bb B11 W11 G11 ZP11
  go_wp2_with fail
  refine (EL.out _ _ _ H12.out.reads W12.out.reads).mono ?_
  rintro e w13 ⟨rfl, bb⟩
  have B13 := Lib.hid (below_up B12.out bb)
  have D13 : Hid (w12.heap.size ≤ w13.heap.size) := bb.size
  have G13 := Lib.hid (G12.out.below bb)
  clear bb B12 W12 G12 H12
  go_wp2_with fail
  refine (HL.out _ _ G13.out).mono ?_
  rintro e w14 ⟨rfl, rfl⟩
  go_wp2
  go_ret
  exact ⟨rfl, B13.out⟩

set_option maxRecDepth 100000 in
set_option maxHeartbeats 3200000 in
theorem lawRoundBound (n : Int) (P : List Int) (m : Int) (w : World) (vP : Value) (cP : IntsAt w vP P) (IM : P.length ≤ 1048576 → RoundBoundIs 26 n P m) :
    Calls Try.prog 6 #[.int .i64 n, vP, .int .i64 m] w fun e w' => e = .returned (.bool true) ∧ Below w.heap.size w w' := by
  have HP := Lib.hid cP
  have B0 := Lib.hid (Below.refl w.heap.size w)
  obtain ⟨aP, kP, rfl, -⟩ := cP
  by_cases LP : 1048576 < P.length
  · go_enter Try.func6, Try.ntmps6
    go_wp2
    go_ret
    exact ⟨rfl, B0.out⟩
  have NP : P.length ≤ 1048576 := by omega
  replace IM := IM NP
  have SP := Lib.hid (fun W u0 h0 => specRoundBound n m u0 P W h0 NP)
  unfold RoundBoundIs at IM
  have IP := Lib.hid IM
  generalize boundI n P m = r at SP IP
  have TP := Lib.hid (fun W h => toInts (.slice aP P.length kP) P W h NP)
  have EP := Lib.hid (fun W a b (h : IntsAt W a P) h' => eqInts_same a b P W h h' (by omega))
  clear IM NP
  generalize hnP : P.length = nP at HP TP LP
  clear hnP
  go_enter Try.func6, Try.ntmps6
  go_wp2_with fail
  refine (TP.out _ (HP.out.below B0.out)).mono ?_
  rintro e w1 ⟨uPP, rfl, -, o, bb⟩
  obtain ⟨gPP, nPP, qPP, rfl⟩ := o.form
  have IPP : Hid (∀ k, Value.ownBlock (.slice gPP nPP qPP) = some k → w.heap.size ≤ k ∧ k < w1.heap.size) := fun k hk => o.blk k hk
  have PP1 := Lib.hid o
  clear o
  have B1 := Lib.hid (below_up B0.out bb)
  have D1 : Hid (w.heap.size ≤ w1.heap.size) := bb.size
  clear bb B0
  go_wp2_with fail
  refine (SP.out _ _ PP1.out.reads).mono ?_
  rintro e w2 ⟨rfl, bb⟩
  have B2 := Lib.hid (below_up B1.out bb)
  have D2 : Hid (w1.heap.size ≤ w2.heap.size) := bb.size
  clear bb B1 PP1
  go_wp2_with fail
  refine (TP.out _ (HP.out.below B2.out)).mono ?_
  rintro e w3 ⟨uXP, rfl, -, o, bb⟩
  obtain ⟨gXP, nXP, qXP, rfl⟩ := o.form
  have IXP : Hid (∀ k, Value.ownBlock (.slice gXP nXP qXP) = some k → w2.heap.size ≤ k ∧ k < w3.heap.size) := fun k hk => o.blk k hk
  have XP3 := Lib.hid o
  clear o
  have B3 := Lib.hid (below_up B2.out bb)
  have D3 : Hid (w2.heap.size ≤ w3.heap.size) := bb.size
  clear bb B2
  go_wp2_with fail
  refine (IP.out _ _ XP3.out.reads).mono ?_
  rintro e w4 ⟨rfl, bb⟩
  have B4 := Lib.hid (below_up B3.out bb)
  have D4 : Hid (w3.heap.size ≤ w4.heap.size) := bb.size
  have XP4 := Lib.hid (XP3.out.below bb)
  clear bb B3 XP3
  go_wp2_with fail
  refine (TP.out _ (HP.out.below B4.out)).mono ?_
  rintro e w5 ⟨uY, rfl, -, o, bb⟩
  obtain ⟨gY, nY, qY, rfl⟩ := o.form
  have IY : Hid (∀ k, Value.ownBlock (.slice gY nY qY) = some k → w4.heap.size ≤ k ∧ k < w5.heap.size) := fun k hk => o.blk k hk
  have Y5 := Lib.hid o
  clear o
  have B5 := Lib.hid (below_up B4.out bb)
  have D5 : Hid (w4.heap.size ≤ w5.heap.size) := bb.size
  have XP5 := Lib.hid (XP4.out.below bb)
  clear bb B4 XP4
  go_wp2_with fail
  refine (EP.out _ _ _ XP5.out.reads Y5.out.reads).mono ?_
  rintro e w6 ⟨rfl, bb⟩
  have B6 := Lib.hid (below_up B5.out bb)
  have D6 : Hid (w5.heap.size ≤ w6.heap.size) := bb.size
  clear bb B5 XP5 Y5
  go_wp2
  go_ret
  exact ⟨rfl, B6.out⟩

set_option maxRecDepth 100000 in
set_option maxHeartbeats 3200000 in
theorem lawDaysFor (n : Int) (P : List Int) (m : Int) (d : Int) (w : World) (vP : Value) (cP : IntsAt w vP P) (IM : P.length ≤ 1048576 → DaysForIs 30 n P m d) :
    Calls Try.prog 8 #[.int .i64 n, vP, .int .i64 m, .int .i64 d] w fun e w' => e = .returned (.bool true) ∧ Below w.heap.size w w' := by
  have HP := Lib.hid cP
  have B0 := Lib.hid (Below.refl w.heap.size w)
  obtain ⟨aP, kP, rfl, -⟩ := cP
  by_cases LP : 1048576 < P.length
  · go_enter Try.func8, Try.ntmps8
    go_wp2
    go_ret
    exact ⟨rfl, B0.out⟩
  have NP : P.length ≤ 1048576 := by omega
  replace IM := IM NP
  have SP := Lib.hid (fun W u0 h0 => specDays n m d u0 P W h0 NP)
  unfold DaysForIs at IM
  have IP := Lib.hid IM
  generalize daysI n P m d = r at SP IP
  have TP := Lib.hid (fun W h => toInts (.slice aP P.length kP) P W h NP)
  have EP := Lib.hid (fun W a b (h : IntsAt W a P) h' => eqInts_same a b P W h h' (by omega))
  clear IM NP
  generalize hnP : P.length = nP at HP TP LP
  clear hnP
  go_enter Try.func8, Try.ntmps8
  go_wp2_with fail
  refine (TP.out _ (HP.out.below B0.out)).mono ?_
  rintro e w1 ⟨uPP, rfl, -, o, bb⟩
  obtain ⟨gPP, nPP, qPP, rfl⟩ := o.form
  have IPP : Hid (∀ k, Value.ownBlock (.slice gPP nPP qPP) = some k → w.heap.size ≤ k ∧ k < w1.heap.size) := fun k hk => o.blk k hk
  have PP1 := Lib.hid o
  clear o
  have B1 := Lib.hid (below_up B0.out bb)
  have D1 : Hid (w.heap.size ≤ w1.heap.size) := bb.size
  clear bb B0
  go_wp2_with fail
  refine (SP.out _ _ PP1.out.reads).mono ?_
  rintro e w2 ⟨rfl, bb⟩
  have B2 := Lib.hid (below_up B1.out bb)
  have D2 : Hid (w1.heap.size ≤ w2.heap.size) := bb.size
  clear bb B1 PP1
  go_wp2_with fail
  refine (TP.out _ (HP.out.below B2.out)).mono ?_
  rintro e w3 ⟨uXP, rfl, -, o, bb⟩
  obtain ⟨gXP, nXP, qXP, rfl⟩ := o.form
  have IXP : Hid (∀ k, Value.ownBlock (.slice gXP nXP qXP) = some k → w2.heap.size ≤ k ∧ k < w3.heap.size) := fun k hk => o.blk k hk
  have XP3 := Lib.hid o
  clear o
  have B3 := Lib.hid (below_up B2.out bb)
  have D3 : Hid (w2.heap.size ≤ w3.heap.size) := bb.size
  clear bb B2
  go_wp2_with fail
  refine (IP.out _ _ XP3.out.reads).mono ?_
  rintro e w4 ⟨rfl, bb⟩
  have B4 := Lib.hid (below_up B3.out bb)
  have D4 : Hid (w3.heap.size ≤ w4.heap.size) := bb.size
  have XP4 := Lib.hid (XP3.out.below bb)
  clear bb B3 XP3
  go_wp2_with fail
  refine (TP.out _ (HP.out.below B4.out)).mono ?_
  rintro e w5 ⟨uY, rfl, -, o, bb⟩
  obtain ⟨gY, nY, qY, rfl⟩ := o.form
  have IY : Hid (∀ k, Value.ownBlock (.slice gY nY qY) = some k → w4.heap.size ≤ k ∧ k < w5.heap.size) := fun k hk => o.blk k hk
  have Y5 := Lib.hid o
  clear o
  have B5 := Lib.hid (below_up B4.out bb)
  have D5 : Hid (w4.heap.size ≤ w5.heap.size) := bb.size
  have XP5 := Lib.hid (XP4.out.below bb)
  clear bb B4 XP4
  go_wp2_with fail
  refine (EP.out _ _ _ XP5.out.reads Y5.out.reads).mono ?_
  rintro e w6 ⟨rfl, bb⟩
  have B6 := Lib.hid (below_up B5.out bb)
  have D6 : Hid (w5.heap.size ≤ w6.heap.size) := bb.size
  clear bb B5 XP5 Y5
  go_wp2
  go_ret
  exact ⟨rfl, B6.out⟩

end Go.Proofs.Ythfnbnjajcigeaa

/- An append onto a slice of the call's own, of a slice that may be nil. Conditions: as for an append onto a slice of the call's own. -/
namespace Go.Proofs.Ythfnbnjajcigeaa
open Go.RowKit

/-- The slice value reads as the m values of news, one cell each. -/
def SrcVs (w : World) (x : Value) (m : Nat) (news : List Value) : Prop :=
  news.length = m ∧ ∃ a c, x = .slice a m c ∧ (news = [] ∨ ∃ b o, a = some ⟨b, o, none⟩ ∧ ∀ j u, news[j]? = some u → w.cell? ⟨b, o + j, none⟩ = some u)
theorem SrcVs.below {w w' : World} {x : Value} {m : Nat} {news : List Value} (h : SrcVs w x m news) (hb : Below w.heap.size w w') : SrcVs w' x m news := by
  obtain ⟨hl, a, c, rfl, h⟩ := h
  refine ⟨hl, a, c, rfl, ?_⟩
  rcases h with h | ⟨b, o, rfl, h⟩
  · exact .inl h
  · refine .inr ⟨b, o, rfl, fun j u hj => ?_⟩
    have := h j u hj
    rw [hb.cell (p := ⟨b, o + j, none⟩) (World.block_lt_of_cell? w _ this)]
    exact this
theorem SrcVs.ints {w : World} {x : Value} {l : List Int} (h : IntsAt w x l) : SrcVs w x l.length (l.map (Value.int .i64)) := by
  obtain ⟨a, c, rfl, h⟩ := h
  refine ⟨by simp, a, c, rfl, ?_⟩
  rcases h with rfl | ⟨b, o, rfl, h⟩
  · exact .inl rfl
  · refine .inr ⟨b, o, rfl, fun j u hj => ?_⟩
    obtain ⟨h1, h2⟩ := List.getElem?_eq_some_iff.1 hj
    rw [List.length_map] at h1
    rw [List.getElem_map] at h2
    rw [← h2]
    exact h j h1

theorem append_nil_own {P : Program} {w : World} (base : Nat) (t ty e : TypeId) (i : TypeInfo) (size : Nat) (ht : P.underlying t = some (.slice e)) (hi : P.info? e = some i)
    (v : Value) (n c : Nat) (xs : List Value) (hown : w.ownsRow base e size v n xs) :
    (Builtin.append_ #[t, t] ty #[v, .slice none 0 c]).run P w = .ok v w := by
  rcases hown.2 with ⟨rfl, rfl⟩ | ⟨g, cap, cur, rfl, _, _, hnc, _⟩
  · simp [Builtin.append_, run_underlying ht, sizeOf, typeInfo, hi, Builtin.lenOf, Builtin.firstCells]
  · simp [Builtin.append_, run_underlying ht, sizeOf, typeInfo, hi, Builtin.lenOf, Builtin.firstCells, hnc, storeCells]

theorem wpList_append_src {P : Program} {w : World} {ops : Array Oper} {rest : List Oper} {o : Oper} {a : Act} {Q : Exit → Act → World → Prop} (hgd : o.guard = none) (s x : Operand) (t : TypeId)
    (ho : o.op = .call { callee := .builtin .append, args := #[s, x], argTypes := #[t, t] })
    (base : Nat) (e : TypeId) (i : TypeInfo) (z : Value) (bytes : Nat) (ht : P.underlying t = some (.slice e)) (hi : P.info? e = some i) (hz : i.zero = some z)
    (hsize : i.size = 1) (hby : i.bytes = bytes) (hzs : z.cells.size = 1)
    (v : Value) (n : Nat) (xs : List Value) (hs : a.eval s = v) (hown : w.ownsRow base e 1 v n xs)
    (sv : Value) (m : Nat) (news : List Value) (hx : a.eval x = sv) (hsrc : SrcVs w sv m news) (h1 : ∀ u ∈ news, u.oneCell' = true)
    (h63 : n + m ≤ maxLen) (hbytes : (n + m) * bytes ≤ 140737488355328) (hbase : base ≤ w.heap.size)
    (h : ∀ v' w', w'.ownsRow base e 1 v' (n + m) (xs ++ news) → w.grownBy w' v.ownBlock → (v'.ownBlock = v.ownBlock ∨ v'.ownBlock = some w.heap.size) → wpList P ops Q rest (a.put o.dst v') w') :
    wpList P ops Q (o :: rest) a w := by
  obtain ⟨hl, sa, c, rfl, hc⟩ := hsrc
  rcases sa with _ | ad
  · have hn : news = [] := by
      rcases hc with hc | ⟨b, o', e', -⟩
      · exact hc
      · cases e'
    subst hn
    obtain rfl : m = 0 := by simpa using hl.symm
    refine wpList_plain hgd fun K hK => ?_
    have hr := append_nil_own (P := P) (w := w) base t o.type e i 1 ht hi v n c xs hown
    unfold Oper.wp execOp
    simp only [ho, resolve, invoke, builtin, Sem.run_bind, Sem.run_pure, Result.andThen_ok, List.map_toArray, List.map_cons, List.map_nil, hs, hx, hr]
    exact hK _ _ (h v w (by simpa using hown) ⟨rfl, rfl, rfl, Nat.le_refl _, fun _ _ _ => rfl⟩ (.inl rfl))
  · refine wpList_append_own_at w hgd s x t ho base e i z 1 bytes ht hi hz hsize hby hzs (by decide) v n xs hs hown ad m c news hx (by omega) (fun j u hj => ?_) h1 h63 hbytes hbase fun v' w' g1 g2 _ g4 => h v' w' g1 g2 g4
    rcases hc with rfl | ⟨b, o', e', hc⟩
    · simp at hj
    · cases e'
      rw [Addr.add_lit]
      exact hc j u hj

/-- A list of lists as the values of its lists. -/
theorem LsAt.src {w : World} {v : Value} {S : List (List Int)} (h : LsAt w v S) : ∃ us, us.length = S.length ∧ SrcVs w v S.length us ∧ ∀ i (h1 : i < S.length) (h2 : i < us.length), IntsAt w us[i] S[i] := by
  obtain ⟨a, c, rfl, h⟩ := h
  rcases Nat.eq_zero_or_pos S.length with h0 | hpos
  · refine ⟨[], h0.symm, ⟨by simp [h0], a, c, rfl, .inl rfl⟩, fun i h1 h2 => absurd h2 (by simp)⟩
  · obtain ⟨b, off, -, rfl, -, -⟩ := h 0 hpos
    have key : ∀ i (hi : i < S.length), ∃ u, w.cell? ⟨b, off + i, none⟩ = some u ∧ IntsAt w u S[i] := fun i hi => by
      obtain ⟨b2, off2, u, e, h1, h2⟩ := h i hi
      cases e
      exact ⟨u, h1, h2⟩
    let f : Nat → Value := fun i => (w.cell? ⟨b, off + i, none⟩).getD (.slice none 0 0)
    have hf : ∀ i (hi : i < S.length), w.cell? ⟨b, off + i, none⟩ = some (f i) ∧ IntsAt w (f i) S[i] := fun i hi => by
      obtain ⟨u, h1, h2⟩ := key i hi
      have : f i = u := by simp only [f, h1, Option.getD_some]
      rw [this]
      exact ⟨h1, h2⟩
    refine ⟨(List.range S.length).map f, by simp, ⟨by simp, _, c, rfl, .inr ⟨b, off, rfl, fun j u hj => ?_⟩⟩, fun i h1 h2 => ?_⟩
    · obtain ⟨h1, h2⟩ := List.getElem?_eq_some_iff.1 hj
      have h1' : j < S.length := by simpa using h1
      simp only [List.getElem_map, List.getElem_range] at h2
      rw [← h2]
      exact (hf j h1').1
    · simp only [List.getElem_map, List.getElem_range]
      exact (hf i h1).2
theorem IntsAt.one {w : World} {v : Value} {l : List Int} (h : IntsAt w v l) : v.oneCell' = true := by
  obtain ⟨a, c, rfl, -⟩ := h
  rfl
end Go.Proofs.Ythfnbnjajcigeaa

/- The contract of the model's l14Place. Conditions: the slices read as integers and as lists of pools' numbers; the rounds are few. -/
namespace Go.Proofs.Ythfnbnjajcigeaa
open Go.RowKit

def FineS (S : List (List Nat)) (k : Nat) : Prop := S.length ≤ 12 ∧ ∀ r ∈ S, r.length ≤ k ∧ ∀ i ∈ r, i < k
theorem FineS.give {S : List (List Nat)} {k i : Nat} (h : FineS S k) (hi : i < S.length) : FineS (giveS S i k) (k + 1) := by
  refine ⟨by rw [giveS_len]; exact h.1, fun r hr => ?_⟩
  rw [giveS_at _ hi] at hr
  rcases List.mem_or_eq_of_mem_set hr with hr | rfl
  · have := h.2 r hr
    exact ⟨by omega, fun j hj => by have := this.2 j hj; omega⟩
  · have := h.2 S[i] (List.getElem_mem hi)
    refine ⟨by simp; omega, fun j hj => ?_⟩
    rw [List.mem_append, List.mem_singleton] at hj
    rcases hj with hj | rfl
    · have := this.2 j hj; omega
    · omega
theorem next_reads {w w5 w7 : World} {g5 c5 i k n : Nat} {S : List (List Nat)} {us : List Value} {v7 : Value} (hn : S.length = n) (hi : i < S.length) (hu : us.length = S.length)
    (h5 : w5.ownsRow w.heap.size 22 1 (.slice (some ⟨g5, 0, none⟩) n c5) n us) (b5 : Below w.heap.size w w5) (b7 : Below w5.heap.size w5 w7)
    (o7 : Own w7 w5.heap.size v7 (natL (S[i] ++ [k]))) (hr : ∀ j (h1 : j < S.length) (h2 : j < us.length), IntsAt w us[j] (natL S[j])) :
    LsAt (w7.setCell ⟨g5, i, none⟩ v7) (.slice (some ⟨g5, 0, none⟩) n c5) ((giveS S i k).map natL) ∧ Below w.heap.size w (w7.setCell ⟨g5, i, none⟩ v7) := by
  subst hn
  have hg := owns_blk h5 g5 rfl
  have b57 := below_up b5 b7
  have bF : Below w.heap.size w (w7.setCell ⟨g5, i, none⟩ v7) := b57.setCell (p := ⟨g5, i, none⟩) hg.1 v7
  have h7 := owns_below h5 b7
  have hF := (h7.stored i v7).1
  refine ⟨⟨some ⟨g5, 0, none⟩, c5, by rw [List.length_map, giveS_len], fun j hj => ?_⟩, bF⟩
  rw [List.length_map, giveS_len] at hj
  have hj' : j < (us.set i v7).length := by rw [List.length_set, hu]; exact hj
  refine ⟨g5, 0, (us.set i v7)[j], rfl, ?_, ?_⟩
  · rw [Nat.zero_add, hF.cellAt j (by omega), List.getElem?_eq_getElem hj']
  · rw [List.getElem_map]
    have hjg : j < (giveS S i k).length := by rw [giveS_len]; exact hj
    have e : (giveS S i k)[j] = (S.set i (S[i] ++ [k]))[j]'(by rw [List.length_set]; exact hj) := by
      congr 1
      exact giveS_at k hi
    rw [e]
    by_cases h : i = j
    · subst h
      rw [List.getElem_set_self, List.getElem_set_self]
      exact (o7.setCell (c := g5) hg.2 v7).reads
    · rw [List.getElem_set_ne h, List.getElem_set_ne h]
      exact (hr j hj (by omega)).below bF

/-- What l14Place does for the last f pools. -/
def PlaceAt (P : List Int) (m f : Nat) : Prop := ∀ (v ov : Value) (S : List (List Nat)) (w : World), IntsAt w v P → LsAt w ov (S.map natL) → FineS S (P.length - f) →
  Calls Try.prog 50 #[v, .int .i64 (m : Int), ov, .int .i64 ((P.length - f : Nat) : Int)] w fun e w' => e = .returned (.bool (placeB P m f S)) ∧ Below w.heap.size w w'

theorem specPlaceZ (P : List Int) (m : Nat) : PlaceAt P m 0 := by
  intro v ov S w h _ _
  obtain ⟨a, c, rfl, -⟩ := h
  rw [Nat.sub_zero]
  obtain ⟨p, hp⟩ : ∃ p, P.length = p := ⟨_, rfl⟩
  rw [hp]
  have HE : Hid (placeB P m 0 S = true) := rfl
  generalize placeB P m 0 S = r at HE ⊢
  go_enter Try.func50, Try.ntmps50
  go_wp2
  go_ret
  exact ⟨ret_bool HE.out.symm, Below.refl _ _⟩

set_option maxRecDepth 100000 in
set_option maxHeartbeats 6400000 in
theorem specPlaceS (P : List Int) (m f : Nat) (hm : P.length ≤ 12) (hf : f + 1 ≤ P.length) (ih : PlaceAt P m f) : PlaceAt P m (f + 1) := by
  intro v ov S w h hS hfine
  obtain ⟨i0, hi, hz0, hz1, hz2⟩ := info_parts infoIntA
  obtain ⟨l0, hj0, hy0, hy1, hy2⟩ := info_parts infoLstI
  obtain ⟨k, hk⟩ : ∃ k, P.length - (f + 1) = k := ⟨_, rfl⟩
  have hk1 : P.length - f = k + 1 := by omega
  have hkp : k < P.length := by omega
  obtain ⟨fit, hfit⟩ : ∃ fit : List Nat → Bool, (fun R => fitB P m R k) = fit := ⟨_, rfl⟩
  obtain ⟨go, hgo⟩ : ∃ go : Nat → Bool, (fun i => placeB P m f (giveS S i k)) = go := ⟨_, rfl⟩
  have HSC : Hid (placeB P m (f + 1) S = scanB fit go (S.drop 0) 0) := by rw [← hfit, ← hgo, ← hk]; rfl
  rw [hk] at hfine ⊢
  generalize placeB P m (f + 1) S = r at HSC ⊢
  have HSS := Lib.hid (fun (i : Nat) (h : i < S.length) => scanB_step fit go h)
  have HSE := Lib.hid (fun (i : Nat) (h : S.length ≤ i) => scanB_end fit go S i h)
  obtain ⟨us, hul, hsrc, hint⟩ := hS.src
  rw [List.length_map] at hul hsrc
  have HU : Hid (∀ i (h1 : i < S.length) (h2 : i < us.length), IntsAt w us[i] (natL S[i])) := fun i h1 h2 => by
    have := hint i (by rw [List.length_map]; exact h1) h2
    rw [List.getElem_map] at this
    exact this
  have HCELL : Hid (∃ a c, ov = .slice a S.length c ∧ ∀ i (h2 : i < us.length), ∃ b o, a = some ⟨b, o, none⟩ ∧ w.cell? ⟨b, o + i, none⟩ = some us[i]) := by
    obtain ⟨-, ao, co, rfl, hc⟩ := hsrc
    refine ⟨ao, co, rfl, fun i h2 => ?_⟩
    rcases hc with hc | ⟨b, o, e, hc⟩
    · rw [hc] at h2; simp at h2
    · exact ⟨b, o, e, hc i us[i] (List.getElem?_eq_getElem h2)⟩
  have HONE : Hid (∀ u ∈ us, u.oneCell' = true) := fun u hu => by
    obtain ⟨i, h1, rfl⟩ := List.mem_iff_getElem.1 hu
    exact (HU.out i (hul ▸ h1) h1).one
  have HV := Lib.hid h
  have HFIN := Lib.hid hfine
  have HSRC := Lib.hid hsrc
  have HUL := Lib.hid hul
  obtain ⟨a, c, rfl, -⟩ := h
  obtain ⟨ao, co, rfl, hcell⟩ := HCELL.out
  have CF : Hid (∀ (vr : Value) (R : List Nat) (W : World), IntsAt W (.slice a P.length c) P → IntsAt W vr (natL R) → R.length ≤ 12 → (∀ i ∈ R, i < P.length) →
      Calls Try.prog 37 #[.slice a P.length c, .int .i64 (m : Int), vr, .int .i64 (k : Int)] W fun e w' => e = .returned (.bool (fit R)) ∧ ∃ d, w' = W.drewN d) := fun vr R W h1 h2 h3 h4 => by
    rw [← hfit]
    exact specFitsR _ vr P R m k W h1 h2 (by omega) hkp h4
  have CI : Hid (∀ (i g5 c5 : Nat) (W : World), i < S.length → IntsAt W (.slice a P.length c) P → LsAt W (.slice (some ⟨g5, 0, none⟩) S.length c5) ((giveS S i k).map natL) →
      Calls Try.prog 50 #[.slice a P.length c, .int .i64 (m : Int), .slice (some ⟨g5, 0, none⟩) S.length c5, .int .i64 ((k : Int) + 1)] W fun e w' => e = .returned (.bool (go i)) ∧ Below W.heap.size W w') := fun i g5 c5 W h1 h2 h3 => by
    rw [← hgo, show (k : Int) + 1 = ((P.length - f : Nat) : Int) by omega]
    exact ih _ _ (giveS S i k) W h2 h3 (by rw [hk1]; exact hfine.give h1)
  obtain ⟨p, hp⟩ : ∃ p, P.length = p := ⟨_, rfl⟩
  obtain ⟨n, hn⟩ : ∃ n, S.length = n := ⟨_, rfl⟩
  have HN := Lib.hid hn
  have HP := Lib.hid hp
  have hn12 : n ≤ 12 := by have := hfine.1; omega
  rw [hp] at HV CF CI hm hkp ⊢
  rw [hn] at HSRC CI ⊢
  have kne : ((k : Int) == (p : Int)) = false := beq_eq_false_iff_ne.2 (by omega)
  have kw : (k : Int) + 1 ≤ 12 := by omega
  have HCL := Lib.hid HCELL.out
  clear hint hS hsrc hul hfine hp hn hfit hgo ih hk hk1 hf HCELL hcell
  go_enter Try.func50, Try.ntmps50
  go_wp2
  go_loopw [18] (fun iv wr => ∃ i : Nat, i ≤ n ∧ iv = .int .i64 i ∧ Hid (r = scanB fit go (S.drop i) i) ∧ Hid (Below w.heap.size w wr)) (fun iv _ => n - (intOf iv).toNat)
  case atStart => exact ⟨0, Nat.zero_le _, rfl, HSC, Lib.hid (Below.refl _ _)⟩
  case round =>
    clear HSC
    obtain ⟨i, hi', rfl, HR, HB⟩ := hrel
    by_cases hlt : i < n
    · have his : i < S.length := by rw [HN.out]; exact hlt
      have hiu : i < us.length := by rw [HUL.out]; exact his
      have HSI := Lib.hid (HSS.out i his)
      obtain ⟨ac, cc, ee, hcells⟩ : ∃ a2 c2, Value.slice ao n co = .slice a2 n c2 ∧ ∀ i (h2 : i < us.length), ∃ b o, a2 = some ⟨b, o, none⟩ ∧ w.cell? ⟨b, o + i, none⟩ = some us[i] := by
        obtain ⟨a2, c2, e, hc⟩ := HCL.out
        rw [HN.out] at e
        exact ⟨a2, c2, e, hc⟩
      cases ee
      obtain ⟨b, o, rfl, e0⟩ := hcells i hiu
      have e0 : wr.cell? ⟨b, o + i, none⟩ = some us[i] := by rw [HB.out.cell (p := ⟨b, o + i, none⟩) (World.block_lt_of_cell? w _ e0)]; exact e0
      have hint := HU.out i his hiu
      have hin := HFIN.out.2 S[i] (List.getElem_mem his)
      have hl12 : S[i].length ≤ 12 := by omega
      have CFJ := Lib.hid (CF.out us[i] S[i] wr (HV.out.below HB.out) (hint.below HB.out) hl12 (fun j hj => by have := hin.2 j hj; omega))
      have HSRCI := Lib.hid (SrcVs.ints hint)
      have HL0 : Hid (us[i] = us[i]) := rfl
      obtain ⟨u, hu⟩ : ∃ u, us[i] = u := ⟨_, rfl⟩
      rw [hu] at e0 CFJ HSRCI
      obtain ⟨ae, ce, huf⟩ : ∃ ae ce, u = .slice ae S[i].length ce := by
        obtain ⟨ae, ce, e, -⟩ := hint
        exact ⟨ae, ce, by rw [← hu, e, natL_len]⟩
      subst huf
      have HUI := Lib.hid hu
      have j0 : (0 : Int) ≤ (i : Int) := by omega
      have j1 : (i : Int) < (n : Int) := by omega
      clear hcells hint hin hu HL0
      cases hft : fit S[i] with
      | false =>
        rw [hft] at CFJ
        have HR2 : Hid (r = scanB fit go (S.drop (i + 1)) (i + 1)) := by unfold Hid; rw [HR.out, HSI.out, hft]; rfl
        clear HR HSI hft
        go_wp2_with fail
        refine CFJ.out.mono ?_
        rintro e w3 ⟨rfl, d2, hw3⟩
        have B3 : Hid (Below w.heap.size w w3) := by unfold Hid; rw [hw3]; exact below_drewN HB.out _
        clear hw3
        go_wp2
        go_roundw
        case rel => exact ⟨i + 1, by omega, by go_num, HR2, B3⟩
        case measure => simp [intOf]; omega
      | true =>
        rw [hft] at CFJ
        have HR2 : Hid (r = if go i = true then true else if S[i].length = 0 then false else scanB fit go (S.drop (i + 1)) (i + 1)) := by unfold Hid; rw [HR.out, HSI.out, hft]; rfl
        clear HR HSI hft
        go_wp2_with fail
        refine CFJ.out.mono ?_
        rintro e w3 ⟨rfl, d2, hw3⟩
        have B3 : Hid (Below w.heap.size w w3) := by unfold Hid; rw [hw3]; exact below_drewN HB.out _
        clear hw3 HB
        have A3 := Lib.hid (alloc_below w3 (.cells #[] 22))
        have OE1 := Lib.hid (row_nilG w3 w.heap.size B3.out.size)
        have SRC3 := Lib.hid ((HSRC.out.below (below_up B3.out A3.out)))
        have hsz3 : w.heap.size ≤ (w3.alloc (.cells #[] 22)).heap.size := by have := B3.out.size; simp; omega
        go_wp2_with (at_builtin; first
          | (refine wpList_append_src rfl _ _ 23 rfl w.heap.size 22 l0 (.slice none 0 0) 24 Try.underlying23 hj0 hy0 hy1 hy2 rfl (.slice (some ⟨w3.heap.size, 0, none⟩) 0 0) 0 [] rfl OE1.out (.slice (some ⟨b, o, none⟩) n co) n us rfl SRC3.out HONE.out (by unfold maxLen; omega) (by omega) hsz3 ?_
             intro v5 w5 hown5 hg5 hat5
             have B5 := Lib.hid (Below.grown (below_up B3.out A3.out) hg5 hsz3 (fun q hq => by cases hq; exact B3.out.size))
             rw [Nat.zero_add, List.nil_append] at hown5
             obtain ⟨g5, c5, hv5⟩ : ∃ g5 c5, v5 = .slice (some ⟨g5, 0, none⟩) n c5 := by
               rcases hown5.2 with ⟨-, h0⟩ | ⟨g5, c5, cur, e5, -⟩
               · omega
               · exact ⟨g5, c5, e5⟩
             subst hv5
             have O5 := Lib.hid hown5
             have A5 := Lib.hid (alloc_below w5 (.cells #[] 3))
             have OE2 := Lib.hid (Own.lit w5 w5.heap.size (Nat.le_refl _))
             have SRC5 := Lib.hid (HSRCI.out.below (below_up B5.out A5.out))
             have hsz5 : w5.heap.size ≤ (w5.alloc (.cells #[] 3)).heap.size := A5.out.size
             clear hown5 hg5 hat5)
          | (refine wpList_append_src rfl _ _ 22 rfl w5.heap.size 3 i0 (.int .i64 0) 8 Try.underlying22 hi hz0 hz1 hz2 rfl (.slice (some ⟨w5.heap.size, 0, none⟩) 0 0) 0 [] rfl OE2.out (.slice ae S[i].length ce) S[i].length ((natL S[i]).map (Value.int .i64)) rfl (by have := SRC5.out; rw [natL_len] at this; exact this) (ints_one _) (by unfold maxLen; omega) (by omega) hsz5 ?_
             intro v6 w6 hown6 hg6 hat6
             rw [Nat.zero_add, List.nil_append] at hown6
             have B6 := Lib.hid (Below.grown A5.out hg6 hsz5 (fun q hq => by cases hq; exact Nat.le_refl _))
             obtain ⟨a6, n6, c6, hv6⟩ := rowFormI hown6
             subst hv6
             have A6 := Lib.hid (alloc_below w6 (.cells #[.int .i64 (k : Int)] 3))
             have O6 := Lib.hid (owns_below hown6 A6.out)
             have hsz6 : w5.heap.size ≤ (w6.alloc (.cells #[.int .i64 (k : Int)] 3)).heap.size := by have := B6.out.size; simp; omega
             clear hown6 hg6 hat6)
          | (refine wpList_append_own_at _ rfl _ _ 22 rfl w5.heap.size 3 i0 (.int .i64 0) 1 8 Try.underlying22 hi hz0 hz1 hz2 rfl (by decide) (.slice a6 n6 c6) S[i].length ((natL S[i]).map (Value.int .i64)) rfl O6.out ⟨w6.heap.size, 0, none⟩ 1 1 [.int .i64 (k : Int)] rfl rfl (cell_one_new _ _ _) (by simp [Value.oneCell']) (by unfold maxLen; omega) (by omega) hsz6 ?_
             intro v7 w7 hown7 hg7 _ hat7
             have B7 := Lib.hid (Below.grown (below_up B6.out A6.out) hg7 hsz6 (fun q hq => by have := (O6.out.lt q hq).1; omega))
             obtain ⟨a7, n7, c7, hv7⟩ := rowFormI hown7
             subst hv7
             have O7 : Hid (Own w7 w5.heap.size (.slice a7 n7 c7) (natL (S[i] ++ [k]))) := by
               unfold Hid Own
               rw [natL_snoc, List.length_append, List.map_append, natL_len]
               exact hown7
             have R7 := Lib.hid (owns_below O5.out B7.out)
             have e7 : w7.cell? ⟨g5, i, none⟩ = some (.slice ae S[i].length ce) := by rw [R7.out.cellAt i (by omega), List.getElem?_eq_getElem hiu, HUI.out]
             have f7 : w7.frozen? ⟨g5, i, none⟩ = false := R7.out.frozenAt i
             clear hown7 hg7 hat7))
        have NX := Lib.hid (next_reads HN.out his HUL.out O5.out B5.out B7.out O7.out HU.out)
        have CJ := Lib.hid (CI.out i g5 c5 (w7.setCell ⟨g5, i, none⟩ (.slice a7 n7 c7)) hlt (HV.out.below NX.out.2) NX.out.1)
        have BX := Lib.hid NX.out.2
        clear NX e7 f7 R7 O7 B7 O6 A6 B6 SRC5 OE2 A5 O5 B5 SRC3 OE1 A3
        cases hgi : go i with
        | true =>
          rw [hgi] at CJ HR2
          have HE : Hid (r = true) := HR2.out
          clear HR2 hgi
          refine CJ.out.mono ?_
          rintro e w8 ⟨rfl, b8⟩
          have B8 := Lib.hid (below_up BX.out b8)
          clear b8
          go_wp2
          go_ret
          exact ⟨ret_bool HE.out.symm, B8.out⟩
        | false =>
          rw [hgi] at CJ HR2
          have HR3 : Hid (r = if S[i].length = 0 then false else scanB fit go (S.drop (i + 1)) (i + 1)) := HR2.out
          clear HR2 hgi
          refine CJ.out.mono ?_
          rintro e w8 ⟨rfl, b8⟩
          have B8 := Lib.hid (below_up BX.out b8)
          obtain ⟨s, hs⟩ : ∃ s, S[i].length = s := ⟨_, rfl⟩
          rw [hs] at HR3 ⊢
          clear b8 CJ BX CFJ HSRCI HUI
          by_cases hs0 : s = 0
          · have hsb : ((s : Int) == 0) = true := by simp [hs0]
            have HE : Hid (r = false) := by unfold Hid; rw [HR3.out, if_pos hs0]
            clear HR3 hs hs0
            go_wp2
            go_ret
            exact ⟨ret_bool HE.out.symm, B8.out⟩
          · have hsb : ((s : Int) == 0) = false := beq_eq_false_iff_ne.2 (by omega)
            have HE : Hid (r = scanB fit go (S.drop (i + 1)) (i + 1)) := by unfold Hid; rw [HR3.out, if_neg hs0]
            clear HR3 hs hs0
            go_wp2
            go_roundw
            case rel => exact ⟨i + 1, by omega, by go_num, HE, B8⟩
            case measure => simp [intOf]; omega
    · obtain rfl : i = n := by omega
      have HE : Hid (r = false) := by unfold Hid; rw [HR.out, HSE.out i (by rw [HN.out]; exact Nat.le_refl _)]
      go_wp2
      go_ret
      exact ⟨ret_bool HE.out.symm, HB.out⟩
end Go.Proofs.Ythfnbnjajcigeaa

/- The contract of the model's FewestRounds. Condition: the slice reads as integers. -/
namespace Go.Proofs.Ythfnbnjajcigeaa
open Go.RowKit

theorem specPlace (P : List Int) (m : Nat) (hm : P.length ≤ 12) : ∀ f, f ≤ P.length → PlaceAt P m f
  | 0, _ => specPlaceZ P m
  | f + 1, h => specPlaceS P m f hm h (specPlace P m hm f (by omega))
/-- A new row of nil lists. -/
theorem nils_ls {w1 : World} {B g n : Nat} (h : w1.ownsRow B 22 1 (.slice (some ⟨g, 0, none⟩) n n) n (madeCells (Value.slice none 0 0).cells (n * 1)).toList) : LsAt w1 (.slice (some ⟨g, 0, none⟩) n n) ((List.replicate n []).map natL) := by
  have e : (madeCells (Value.slice none 0 0).cells (n * 1)).toList = List.replicate n (.slice none 0 0) := by
    simp [madeCells, Value.cells, Nat.mod_one]
    apply List.ext_getElem <;> simp
  rw [e] at h
  refine ⟨some ⟨g, 0, none⟩, n, by simp, fun i hi => ?_⟩
  have hi' : i < n := by simpa using hi
  refine ⟨g, 0, .slice none 0 0, rfl, ?_, ?_⟩
  · rw [Nat.zero_add, h.cellAt i (by omega), List.getElem?_eq_getElem (by simpa using hi')]
    simp
  · simp only [List.getElem_map, List.getElem_replicate]
    exact ⟨none, 0, rfl, .inl rfl⟩

set_option maxRecDepth 100000 in
set_option maxHeartbeats 3200000 in
theorem specFewRounds (n m : Int) (v : Value) (P : List Int) (w : World) (h : IntsAt w v P) (hm : P.length ≤ 1048576) :
    Calls Try.prog 27 #[.int .i64 n, v, .int .i64 m] w fun e w' => e = .returned (.int .i64 (fewRI n P m)) ∧ Below w.heap.size w w' := by
  obtain ⟨l0, hj0, hy0, hy1, hy2⟩ := info_parts infoLstI
  have CR := Lib.hid (specRoundsIn n m v P w h hm)
  have CB := Lib.hid (specRoundBound n m v P w h hm)
  have HG : Hid (fewRI n P m = if (roundsB n P m && decide (P.length ≤ 7)) = true then (fewK n P m : Int) else -1) := rfl
  have HB : Hid (roundsB n P m = true → (1 ≤ m ∧ m ≤ 12) ∧ P.length ≤ 12 ∧ 0 ≤ boundI n P m ∧ boundI n P m ≤ (P.length : Int)) := fun h => ⟨(rounds_in h).2, (pools_in (rounds_in h).1).2.1, bound_in h⟩
  have HV := Lib.hid h
  have HK : Hid (fewK n P m = leastK (fun k => placeB P m.toNat P.length (List.replicate k [])) (P.length - (boundI n P m).toNat) (boundI n P m).toNat) := rfl
  obtain ⟨a, c, rfl, -⟩ := h
  generalize fewRI n P m = r at HG ⊢
  generalize roundsB n P m = rb at CR HG HB
  generalize fewK n P m = K at HG HK
  generalize boundI n P m = bi at CB HB HK
  cases rb with
  | false =>
    have HE : Hid (r = -1) := HG.out
    go_enter Try.func27, Try.ntmps27
    go_wp2_with fail
    refine CR.out.mono ?_
    rintro e w1 ⟨rfl, rfl⟩
    go_wp2
    go_ret
    exact ⟨ret_int HE.out.symm, Below.refl _ _⟩
  | true =>
    obtain ⟨⟨m1, m12⟩, hl12, b0, b1⟩ := HB.out rfl
    obtain ⟨M, hM⟩ : ∃ M : Nat, m.toNat = M := ⟨_, rfl⟩
    have hmM : m = (M : Int) := by omega
    subst hmM
    obtain ⟨b, hb⟩ : ∃ b : Nat, bi.toNat = b := ⟨_, rfl⟩
    have hbb : bi = (b : Int) := by omega
    subst hbb
    rw [hM, Int.toNat_natCast] at HK
    have HP := Lib.hid (fun (W : World) (ov : Value) (k : Nat) (hW : IntsAt W (.slice a P.length c) P) (hS : LsAt W ov ((List.replicate k []).map natL)) (hk : k ≤ 12) => specPlace P M hl12 P.length (Nat.le_refl _) (.slice a P.length c) ov (List.replicate k []) W hW hS ⟨by simpa using hk, fun r hr => by rw [(List.mem_replicate.1 hr).2]; exact ⟨Nat.zero_le _, fun i hi => by cases hi⟩⟩)
    have HEN : Hid (placeB P M P.length (List.replicate (b + (P.length - b)) []) = true) := placeB_enough (by omega) (by omega)
    obtain ⟨ok, hok⟩ : ∃ ok : Nat → Bool, (fun k => placeB P M P.length (List.replicate k [])) = ok := ⟨_, rfl⟩
    have CP : Hid (∀ (W : World) (ov : Value) (k : Nat), IntsAt W (.slice a P.length c) P → LsAt W ov ((List.replicate k []).map natL) → k ≤ 12 →
        Calls Try.prog 50 #[.slice a P.length c, .int .i64 (M : Int), ov, .int .i64 0] W fun e w' => e = .returned (.bool (ok k)) ∧ Below W.heap.size W w') := fun W ov k h1 h2 h3 => by
      have := HP.out W ov k h1 h2 h3
      rw [Nat.sub_self, Int.natCast_zero] at this
      rw [← hok]
      exact this
    have HEN2 : Hid (ok (b + (P.length - b)) = true) := by rw [← hok]; exact HEN.out
    rw [hok] at HK
    have KLE := Lib.hid (leastK_le ok (P.length - b) b)
    have KYES := Lib.hid (leastK_yes (p := ok) (P.length - b) b HEN2.out)
    have KNO := Lib.hid (fun j => leastK_no (p := ok) (P.length - b) b j)
    rw [← HK.out] at KLE KYES KNO
    obtain ⟨p, hp⟩ : ∃ p, P.length = p := ⟨_, rfl⟩
    rw [hp] at HG HV CB CR CP KLE hl12 b1 ⊢
    by_cases hp7 : p ≤ 7
    · have HE : Hid (r = (K : Int)) := by unfold Hid; rw [HG.out, decide_eq_true hp7]; rfl
      have t7 : ¬ (7 : Int) < (p : Int) := by omega
      have kle := KLE.out
      clear HG HP HEN HEN2 HK hok hp hM hb HB KLE hm
      go_enter Try.func27, Try.ntmps27
      go_wp2_with fail
      refine CR.out.mono ?_
      rintro e w1 ⟨rfl, rfl⟩
      go_wp2_with fail
      refine CB.out.mono ?_
      rintro e w1 ⟨rfl, bb⟩
      have B1 := Lib.hid bb
      clear bb
      go_wp2
      go_loopw [7] (fun kv wr => ∃ k : Nat, b ≤ k ∧ k ≤ K ∧ kv = .int .i64 k ∧ Hid (Below w.heap.size w wr)) (fun kv _ => K - (intOf kv).toNat)
      case atStart => exact ⟨b, Nat.le_refl _, kle.1, rfl, B1⟩
      case round =>
        clear B1
        obtain ⟨k, hbk, hkK, rfl, B1⟩ := hrel
        have hk12 : k ≤ 12 := by omega
        have k0 : (0 : Int) ≤ (k : Int) := by omega
        go_wp2_with (at_make; refine wpList_make_full _ rfl _ _ 23 rfl w.heap.size 22 l0 (.slice none 0 0) 1 Try.underlying23 hj0 hy0 hy1 .i64 .i64 _ _ k rfl rfl rfl rfl (by rw [hy2]; omega) (by unfold maxLen; omega) B1.out.size ?_; intro w2 hown hg)
        have B2 := Lib.hid (Below.grown B1.out hg B1.out.size (by intro k hk; cases hk))
        have CK := Lib.hid (CP.out w2 _ k (HV.out.below B2.out) (nils_ls hown) hk12)
        clear hown hg
        cases hok : ok k with
        | true =>
          rw [hok] at CK
          obtain rfl : k = K := by
            rcases Nat.lt_or_ge k K with h | h
            · have := KNO.out k hbk h
              rw [hok] at this
              cases this
            · omega
          clear hok
          go_wp2_with fail
          refine CK.out.mono ?_
          rintro e w3 ⟨rfl, b3⟩
          have B3 := Lib.hid (below_up B2.out b3)
          clear b3
          go_wp2
          go_ret
          exact ⟨ret_int HE.out.symm, B3.out⟩
        | false =>
          rw [hok] at CK
          have hkK2 : k < K := by
            rcases Nat.lt_or_ge k K with h | h
            · exact h
            · obtain rfl : k = K := by omega
              have := KYES.out
              rw [hok] at this
              cases this
          clear hok
          go_wp2_with fail
          refine CK.out.mono ?_
          rintro e w3 ⟨rfl, b3⟩
          have B3 := Lib.hid (below_up B2.out b3)
          clear b3
          go_wp2
          go_roundw
          case rel => exact ⟨k + 1, by omega, by omega, by go_num, B3⟩
          case measure => simp [intOf]; omega
    · have HE : Hid (r = -1) := by unfold Hid; rw [HG.out, decide_eq_false hp7]; rfl
      have t7 : (7 : Int) < (p : Int) := by omega
      clear HG HP HEN HEN2 HK hok hp hM hb HB KLE hm
      go_enter Try.func27, Try.ntmps27
      go_wp2_with fail
      refine CR.out.mono ?_
      rintro e w1 ⟨rfl, rfl⟩
      go_wp2
      go_ret
      exact ⟨ret_int HE.out.symm, Below.refl _ _⟩
end Go.Proofs.Ythfnbnjajcigeaa

/- The walk of the exact law of FewestRounds round the contract of the program's function: it returns true for every argument. Condition: the slice that came in reads as integers. -/
namespace Go.Proofs.Ythfnbnjajcigeaa
open Go.RowKit

/-- The contract of the program's function. -/
def FewestRoundsIs (f : FuncId) (n : Int) (P : List Int) (m : Int) : Prop := ∀ W vP, CapAt W vP P → Calls Try.prog f #[.int .i64 n, vP, .int .i64 m] W fun e w' => e = .returned (.int .i64 (fewRI n P m)) ∧ Below W.heap.size W w'

set_option maxRecDepth 100000 in
set_option maxHeartbeats 3200000 in
theorem lawFewestRounds (n : Int) (P : List Int) (m : Int) (w : World) (vP : Value) (cP : IntsAt w vP P) (IM : P.length ≤ 1048576 → FewestRoundsIs 28 n P m) :
    Calls Try.prog 7 #[.int .i64 n, vP, .int .i64 m] w fun e w' => e = .returned (.bool true) ∧ Below w.heap.size w w' := by
  have HP := Lib.hid cP
  have B0 := Lib.hid (Below.refl w.heap.size w)
  obtain ⟨aP, kP, rfl, -⟩ := cP
  by_cases LP : 1048576 < P.length
  · go_enter Try.func7, Try.ntmps7
    go_wp2
    go_ret
    exact ⟨rfl, B0.out⟩
  have NP : P.length ≤ 1048576 := by omega
  replace IM := IM NP
  have SP := Lib.hid (fun W u0 h0 => specFewRounds n m u0 P W h0 NP)
  unfold FewestRoundsIs at IM
  have IP := Lib.hid IM
  generalize fewRI n P m = r at SP IP
  have TP := Lib.hid (fun W h => toInts (.slice aP P.length kP) P W h NP)
  have EP := Lib.hid (fun W a b (h : IntsAt W a P) h' => eqInts_same a b P W h h' (by omega))
  clear IM NP
  generalize hnP : P.length = nP at HP TP LP
  clear hnP
  go_enter Try.func7, Try.ntmps7
  go_wp2_with fail
  refine (TP.out _ (HP.out.below B0.out)).mono ?_
  rintro e w1 ⟨uPP, rfl, -, o, bb⟩
  obtain ⟨gPP, nPP, qPP, rfl⟩ := o.form
  have IPP : Hid (∀ k, Value.ownBlock (.slice gPP nPP qPP) = some k → w.heap.size ≤ k ∧ k < w1.heap.size) := fun k hk => o.blk k hk
  have PP1 := Lib.hid o
  clear o
  have B1 := Lib.hid (below_up B0.out bb)
  have D1 : Hid (w.heap.size ≤ w1.heap.size) := bb.size
  clear bb B0
  go_wp2_with fail
  refine (SP.out _ _ PP1.out.reads).mono ?_
  rintro e w2 ⟨rfl, bb⟩
  have B2 := Lib.hid (below_up B1.out bb)
  have D2 : Hid (w1.heap.size ≤ w2.heap.size) := bb.size
  clear bb B1 PP1
  go_wp2_with fail
  refine (TP.out _ (HP.out.below B2.out)).mono ?_
  rintro e w3 ⟨uXP, rfl, -, o, bb⟩
  obtain ⟨gXP, nXP, qXP, rfl⟩ := o.form
  have IXP : Hid (∀ k, Value.ownBlock (.slice gXP nXP qXP) = some k → w2.heap.size ≤ k ∧ k < w3.heap.size) := fun k hk => o.blk k hk
  have XP3 := Lib.hid o
  clear o
  have B3 := Lib.hid (below_up B2.out bb)
  have D3 : Hid (w2.heap.size ≤ w3.heap.size) := bb.size
  clear bb B2
  go_wp2_with fail
  refine (IP.out _ _ XP3.out.capAt).mono ?_
  rintro e w4 ⟨rfl, bb⟩
  have B4 := Lib.hid (below_up B3.out bb)
  have D4 : Hid (w3.heap.size ≤ w4.heap.size) := bb.size
  have XP4 := Lib.hid (XP3.out.below bb)
  clear bb B3 XP3
  go_wp2_with fail
  refine (TP.out _ (HP.out.below B4.out)).mono ?_
  rintro e w5 ⟨uY, rfl, -, o, bb⟩
  obtain ⟨gY, nY, qY, rfl⟩ := o.form
  have IY : Hid (∀ k, Value.ownBlock (.slice gY nY qY) = some k → w4.heap.size ≤ k ∧ k < w5.heap.size) := fun k hk => o.blk k hk
  have Y5 := Lib.hid o
  clear o
  have B5 := Lib.hid (below_up B4.out bb)
  have D5 : Hid (w4.heap.size ≤ w5.heap.size) := bb.size
  have XP5 := Lib.hid (XP4.out.below bb)
  clear bb B4 XP4
  go_wp2_with fail
  refine (EP.out _ _ _ XP5.out.reads Y5.out.reads).mono ?_
  rintro e w6 ⟨rfl, bb⟩
  have B6 := Lib.hid (below_up B5.out bb)
  have D6 : Hid (w5.heap.size ≤ w6.heap.size) := bb.size
  clear bb B5 XP5 Y5
  go_wp2
  go_ret
  exact ⟨rfl, B6.out⟩

end Go.Proofs.Ythfnbnjajcigeaa

/- The greedy rounds are valid; how often all items are used. No condition. -/
namespace Go.Proofs.Ythfnbnjajcigeaa
open Go.RowKit

/-! ### the greedy rounds are valid -/
theorem greedy_fits (P : List Int) (m : Nat) (hm : 1 ≤ m) (k : Nat) : ∀ r ∈ greedyF P m k, ∀ i (h : i < r.length), fitB P m (r.take i) r[i] = true :=
  greedy_all P m hm (p := fun r => ∀ i (h : i < r.length), fitB P m (r.take i) r[i] = true) (fun i h => absurd h (by simp)) (fun r k hr hf i h => by
    by_cases e : i < r.length
    · rw [List.take_append_of_le_length (by omega), List.getElem_append_left e]
      exact hr i e
    · have e2 : i = r.length := by simp at h; omega
      subst e2
      rw [List.take_left, List.getElem_append_right (Nat.le_refl _)]
      simpa using hf) k
theorem greedy_flat (P : List Int) (m : Nat) (hm : 1 ≤ m) : ∀ k, (greedyF P m k).flatten.Nodup ∧ (∀ x ∈ (greedyF P m k).flatten, x < k) ∧ (greedyF P m k).flatten.length = k
  | 0 => ⟨List.nodup_nil, fun x h => (by cases h), rfl⟩
  | k + 1 => by
    obtain ⟨ih1, ih2, ih3⟩ := greedy_flat P m hm k
    obtain ⟨A, r, B, h1, -, h2⟩ := greedy_split P m k hm
    have hp : ((greedyF P m (k + 1)).flatten).Perm (k :: (greedyF P m k).flatten) := by
      rw [h2]
      rcases h1 with h1 | ⟨h1, rfl, rfl⟩
      · rw [h1]
        simp only [List.flatten_append, List.flatten_cons]
        have e : A.flatten ++ (r ++ [k] ++ B.flatten) = (A.flatten ++ r) ++ k :: B.flatten := by simp
        have e2 : A.flatten ++ (r ++ B.flatten) = (A.flatten ++ r) ++ B.flatten := by simp
        rw [e, e2]
        exact List.perm_middle
      · rw [h1]
        simp only [List.flatten_append, List.flatten_cons, List.flatten_nil, List.append_nil, List.nil_append]
        have := List.perm_middle (a := k) (l₁ := A.flatten) (l₂ := [])
        rwa [List.append_nil] at this
    refine ⟨hp.nodup_iff.2 (List.nodup_cons.2 ⟨fun h => by have := ih2 k h; omega, ih1⟩), fun x hx => ?_, ?_⟩
    · have := hp.mem_iff.1 hx
      rw [List.mem_cons] at this
      rcases this with rfl | h
      · omega
      · have := ih2 x h; omega
    · rw [hp.length_eq, List.length_cons, ih3]
/-- The state of the check, when the pools of L have been placed. -/
def StU (P : List Int) (L : List Nat) (s : Option (List Bool × Nat)) : Prop := ∃ U, s = some (U, L.length) ∧ U.length = P.length ∧ ∀ x, U.getD x false = decide (x ∈ L)
theorem rowK_ok {P : List Int} {m : Nat} {L r : List Nat} {s : Option (List Bool × Nat)} (hs : StU P L s) (hr : ∀ x ∈ r, x < P.length) (hf : ∀ i (h : i < r.length), fitB P m (r.take i) r[i] = true) (hn : (L ++ r).Nodup) :
    ∀ i, i ≤ r.length → StU P (L ++ r.take i) (rowK P m (natL r) s i)
  | 0, _ => by simpa [rowK] using hs
  | i + 1, h => by
    have h' : i < r.length := by omega
    obtain ⟨U, e, hl, hu⟩ := rowK_ok hs hr hf hn i (by omega)
    have hx := hr r[i] (List.getElem_mem h')
    have hnl : i < (natL r).length := by rw [natL_len]; exact h'
    have hg : (natL r).getD i 0 = (r[i] : Int) := by rw [List.getD_eq_getElem?_getD, List.getElem?_eq_getElem hnl, natL_at r i h']; rfl
    have htk : ((natL r).take i).map Int.toNat = r.take i := by
      unfold natL
      rw [← List.map_take, List.map_map]
      conv => rhs; rw [← List.map_id (r.take i)]
      exact List.map_congr_left fun x _ => by simp
    have hnot : r[i] ∉ L ++ r.take i := fun hm => by
      have e : L ++ r = (L ++ r.take i) ++ r[i] :: r.drop (i + 1) := by
        rw [← List.drop_eq_getElem_cons h', List.append_assoc, List.take_append_drop]
      rw [e, List.nodup_append] at hn
      exact hn.2.2 _ hm _ List.mem_cons_self rfl
    have hok : okK P m (natL r) i U = true := by
      unfold okK
      rw [hg, htk, Int.toNat_natCast, hf i h', hu, decide_eq_false hnot]
      simp
      omega
    have et : r.take (i + 1) = r.take i ++ [r[i]] := List.take_succ_eq_append_getElem h'
    refine ⟨U.set r[i] true, ?_, by rw [List.length_set]; exact hl, fun x => ?_⟩
    · simp only [rowK, e, hok, if_true, hg, Int.toNat_natCast]
      rw [et, ← List.append_assoc, List.length_append (bs := [r[i]])]
      rfl
    · rw [et, ← List.append_assoc, List.getD_eq_getElem?_getD, List.getElem?_set]
      have hux := hu x
      rw [List.getD_eq_getElem?_getD] at hux
      by_cases e : r[i] = x
      · subst e
        rw [if_pos rfl, if_pos (by omega)]
        exact (decide_eq_true (by rw [List.mem_append]; exact .inr (List.mem_singleton.2 rfl))).symm
      · rw [if_neg e, hux]
        have : (x ∈ L ++ r.take i) ↔ (x ∈ L ++ r.take i ++ [r[i]]) := by
          rw [List.mem_append (t := [r[i]]), List.mem_singleton]
          exact ⟨.inl, fun h => h.resolve_right fun e' => e e'.symm⟩
        exact decide_eq_decide.2 this
theorem allK_ok {P : List Int} {m : Nat} {S : List (List Nat)} (hr : ∀ x ∈ S.flatten, x < P.length) (hf : ∀ r ∈ S, ∀ i (h : i < r.length), fitB P m (r.take i) r[i] = true) (hn : S.flatten.Nodup) :
    ∀ j, j ≤ S.length → StU P (S.take j).flatten (allK P m (S.map natL) j)
  | 0, _ => ⟨List.replicate P.length false, rfl, by simp, fun x => by
      rw [List.getD_eq_getElem?_getD, List.getElem?_replicate]
      split <;> simp⟩
  | j + 1, h => by
    have h' : j < S.length := by omega
    have ih := allK_ok hr hf hn j (by omega)
    have hg : (S.map natL).getD j [] = natL S[j] := by rw [List.getD_eq_getElem?_getD, List.getElem?_eq_getElem (by rw [List.length_map]; exact h')]; simp
    have et : (S.take (j + 1)).flatten = (S.take j).flatten ++ S[j] := by
      rw [List.take_succ_eq_append_getElem h', List.flatten_append]
      congr 1
      exact List.append_nil _
    have hall : S.flatten = ((S.take j).flatten ++ S[j]) ++ (S.drop (j + 1)).flatten := by
      rw [← et, ← List.flatten_append, List.take_append_drop]
    have hnn : ((S.take j).flatten ++ S[j]).Nodup := by
      rw [hall, List.nodup_append] at hn
      exact hn.1
    have := rowK_ok (m := m) ih (fun x hx => hr x (by rw [hall]; simp [hx])) (hf S[j] (List.getElem_mem h')) hnn S[j].length (Nat.le_refl _)
    rw [List.take_length] at this
    rw [et]
    simp only [allK, hg, natL_len]
    exact this
theorem greedy_valid {n m : Int} {P : List Int} (h : roundsB n P m = true) : roundsOkB n P m (gS n P m) = true := by
  have hr := rounds_in h
  have hm : 1 ≤ m.toNat := by omega
  have e : gS n P m = (greedyF P m.toNat P.length).map natL := by unfold gS greedyR; rw [if_pos h]
  obtain ⟨f1, f2, f3⟩ := greedy_flat P m.toNat hm P.length
  obtain ⟨U, hU, -, -⟩ := allK_ok f2 (greedy_fits P m.toNat hm P.length) f1 (greedyF P m.toNat P.length).length (Nat.le_refl _)
  unfold roundsOkB
  rw [h, e, List.length_map, hU, List.take_length, f3]
  simp

/-! ### how often all items are used -/
def bitOne (x : Int) (i : Nat) : Int := if x.toNat.testBit i = true then 1 else 0
theorem sum_addI {α : Type} (f g : α → Int) : ∀ L : List α, (L.map fun i => f i + g i).sum = (L.map f).sum + (L.map g).sum
  | [] => rfl
  | a :: L => by
    simp only [List.map_cons, List.sum_cons, sum_addI f g L]
    omega
theorem bits_cnt : ∀ N : Nat, N < 8 → ∀ x : Nat, x < 2 ^ N → ((List.range N).map (bitOne (x : Int))).sum = cntI (x : Int) := by decide +kernel
theorem uses_sum {N : Nat} {P : List Int} (hN : N < 8) (hP : ∀ p ∈ P, 0 ≤ p ∧ p < 2 ^ N) : ∀ k, k ≤ P.length → ((List.range N).map fun i => ((useN P i k : Nat) : Int)).sum = ((P.take k).map cntI).sum
  | 0, _ => by
    simp only [useN]
    rw [List.take_zero]
    have : ∀ L : List Nat, (L.map fun _ => ((0 : Nat) : Int)).sum = 0 := fun L => by
      induction L with
      | nil => rfl
      | cons a L ih => simp only [List.map_cons, List.sum_cons, ih]; rfl
    rw [this]
    rfl
  | k + 1, h => by
    have hk : k < P.length := by omega
    have ih := uses_sum hN hP k (by omega)
    have hb := hP P[k] (List.getElem_mem hk)
    have e : ∀ i, i < N → ((useN P i (k + 1) : Nat) : Int) = ((useN P i k : Nat) : Int) + bitOne P[k] i := fun i hi => by
      have hg : P.getD k 0 = P[k] := getD_at 0 hk
      have p7 : (2 : Int) ^ N ≤ 128 := by
        have := (by decide : ∀ N : Nat, N < 8 → (2 : Int) ^ N ≤ 128) N hN
        exact this
      have hbit := has_bit (s := P[k]) (i := i) hb.1 (by omega) (by omega)
      have hu : useN P i (k + 1) = if (bits .and .i64 (P.getD k 0) (2 ^ i) != 0) = true then useN P i k + 1 else useN P i k := rfl
      rw [hu, hg, hbit]
      unfold bitOne
      cases P[k].toNat.testBit i
      · simp
      · simp
    have e2 : ((List.range N).map fun i => ((useN P i (k + 1) : Nat) : Int)) = (List.range N).map fun i => ((useN P i k : Nat) : Int) + bitOne P[k] i :=
      List.map_congr_left fun i hi => e i (List.mem_range.1 hi)
    rw [e2, sum_addI, ih, List.take_succ_eq_append_getElem hk, List.map_append, List.sum_append]
    congr 1
    obtain ⟨a, ha⟩ := Int.eq_ofNat_of_zero_le hb.1
    have := bits_cnt N hN a (by have := hb.2; rw [ha] at this; exact_mod_cast this)
    rw [← ha] at this
    rw [this]
    simp
/-- The uses of all items are as many as the pools have items. -/
theorem uses_items {n : Nat} {P : List Int} (n7 : n ≤ 7) (h : poolsB (n : Int) P = true) : (usesL n P).sum = (P.map cntI).sum := by
  have hp : ∀ p ∈ P, 0 ≤ p ∧ p < 2 ^ n := fun p hp => by
    unfold poolsB at h
    simp only [Bool.and_eq_true] at h
    have hq := List.all_eq_true.1 h.2 p hp
    unfold poolB topI at hq
    simp only [Bool.and_eq_true, decide_eq_true_eq, Int.toNat_natCast] at hq
    omega
  have := uses_sum (by omega) hp P.length (Nat.le_refl _)
  rw [List.take_length] at this
  exact this
theorem days_two {n m : Int} {P : List Int} (h : roundsB n P m = true) : daysI n P m 2 = ((((greedyR n P m).length + 1) / 2 : Nat) : Int) := by
  unfold daysI
  rw [h]
  rfl
end Go.Proofs.Ythfnbnjajcigeaa
