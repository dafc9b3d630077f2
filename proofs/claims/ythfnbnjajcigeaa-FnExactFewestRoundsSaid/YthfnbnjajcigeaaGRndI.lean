/- Several texts in one file; each says what it proves and under which condition. No condition. -/
import Derived.Test.YthfnbnjajcigeaaGRndP
import Derived.Test.YthfnbnjajcigeaaCountImpl
import Derived.Test.YthfnbnjajcigeaaBitsImpl
import Derived.Test.YthfnbnjajcigeaaGWei
import Derived.Deep.RegionHeld3
import Derived.BigQuiet
import Derived.Test.YthfnbnjajcigeaaGRndL
import Derived.Test.YthfnbnjajcigeaaSumImpl
import Derived.Test.YthfnbnjajcigeaaPoolsImpl
import Derived.Test.YthfnbnjajcigeaaIsSet
import Derived.RangeFuncBox
import Derived.OwnWalkIn
import Derived.Test.YthfnbnjajcigeaaCapAt
import Derived.Laws.CopyOwn
/- The contracts of the program's dividedUp, of its check of pools and machines, and of a round: what it takes and what it becomes. Conditions: pools and sets of at most ten items. -/
namespace Go.Proofs.Ythfnbnjajcigeaa
open Go.RowKit

set_option maxHeartbeats 1600000 in
theorem implCeil (a b : Nat) (ha : a ≤ 1000) (h1 : 1 ≤ b) (hb : b ≤ 1000) (W : World) : Calls Try.prog 48 #[.int .i64 (a : Int), .int .i64 (b : Int)] W fun e w' => e = .returned (.int .i64 (ceilN a b : Int)) ∧ W = w' := by
  have e1 : IntKind.i64.wrap ((a : Int) + b) = (a : Int) + b := by rw [IntKind.wrap_i64]; omega
  have e2 : IntKind.i64.wrap ((a : Int) + b - 1) = ((a + b - 1 : Nat) : Int) := by rw [IntKind.wrap_i64]; omega
  have hle : ceilN a b ≤ a := ceilN_le a b h1
  have e3 : ((a + b - 1 : Nat) : Int) / (b : Int) = (ceilN a b : Int) := by
    unfold ceilN
    exact (Int.natCast_ediv _ _).symm
  have e4 : wrap64 (ceilN a b : Int) = (ceilN a b : Int) := by unfold wrap64; omega
  have hb0 : ¬ (b : Int) = 0 := by omega
  have hb1 : ((b : Int) == 0) = false := by simp; omega
  generalize ceilN a b = c at *
  have H3 := Lib.hid e3
  have H4 := Lib.hid e4
  generalize a + b - 1 = d at *
  clear e3 hle h1 hb ha
  go_enter Try.func48, Try.ntmps48
  go_wp2
  go_ret
  have h3 := H3.out
  have h4 := H4.out
  refine ⟨ret_int ?_, rfl⟩
  rw [h3]
  exact h4

set_option maxHeartbeats 1600000 in
theorem implRoundsIn (n m : Int) (v : Value) (P : List Int) (w : World) (h : IntsAt w v P) (hm : P.length ≤ 1048576) :
    Calls Try.prog 38 #[.int .i64 n, v, .int .i64 m] w fun e w' => e = .returned (.bool (roundsB n P m)) ∧ w = w' := by
  have CP := Lib.hid (implPoolsOk n v P w h (by unfold maxLen; omega))
  have HR : Hid (roundsB n P m = (poolsB n P && (decide (1 ≤ m) && decide (m ≤ 12)))) := rfl
  obtain ⟨a, c, rfl, -⟩ := h
  generalize roundsB n P m = r at HR ⊢
  generalize poolsB n P = pb at CP HR
  cases pb with
  | false =>
    have HE : Hid (false = r) := HR.out.symm
    go_enter Try.func38, Try.ntmps38
    go_wp2_with fail
    refine CP.out.mono ?_
    rintro e w1 ⟨rfl, rfl⟩
    go_wp2
    go_ret
    exact ⟨ret_bool HE.out, rfl⟩
  | true =>
    by_cases h1 : 1 ≤ m
    · have HE : Hid (decide (m ≤ 12) = r) := by unfold Hid; rw [HR.out, decide_eq_true h1]; rfl
      go_enter Try.func38, Try.ntmps38
      go_wp2_with fail
      refine CP.out.mono ?_
      rintro e w1 ⟨rfl, rfl⟩
      go_wp2
      go_ret
      exact ⟨ret_bool HE.out, rfl⟩
    · have HE : Hid (false = r) := by unfold Hid; rw [HR.out, decide_eq_false h1]; rfl
      go_enter Try.func38, Try.ntmps38
      go_wp2_with fail
      refine CP.out.mono ?_
      rintro e w1 ⟨rfl, rfl⟩
      go_wp2
      go_ret
      exact ⟨ret_bool HE.out, rfl⟩

/-- A round, as the program keeps it. -/
def rndV (c : Nat) (u : Int) : Value := .agg #[.int .i64 (c : Int), .int .i64 u]

set_option maxRecDepth 100000 in
set_option maxHeartbeats 1600000 in
theorem implTakes (c m : Nat) (u p : Int) (p0 : 0 ≤ p) (p1 : p ≤ 1023) (u0 : 0 ≤ u) (u1 : u ≤ 1023) (W : World) :
    Calls Try.prog 58 #[rndV c u, .int .i64 p, .int .i64 (m : Int)] W fun e w' => e = .returned (.bool (decide (c < m) && !(andI p u != 0))) ∧ Below W.heap.size W w' := by
  have P0 := TwoAt.new W 66 (.int .i64 (c : Int)) (.int .i64 u)
  have B0 := Lib.hid (alloc_below W (.cells #[.int .i64 (c : Int), .int .i64 u] 66))
  have CP := Lib.hid (fun V => (callsIn_wide (n := 4)).1 (positiveN p u p0 p1 u0 u1 4 (Nat.le_refl _) V))
  generalize hX : W.alloc (.cells #[.int .i64 (c : Int), .int .i64 u] 66) = X at P0 B0
  obtain ⟨e0, e1, -⟩ := P0
  unfold rndV
  by_cases h : c < m
  · have h1 : (c : Int) < (m : Int) := by omega
    rw [decide_eq_true h, Bool.true_and]
    clear p0 p1 u0 u1 h
    generalize (andI p u != 0) = t at CP ⊢
    go_enter Try.func58, Try.ntmps58
    go_wp2_with fail
    refine (CP.out _).mono ?_
    rintro e w1 ⟨rfl, hb1⟩
    have HB := Lib.hid (below_up B0.out hb1)
    clear hb1
    cases t with
    | false =>
      go_wp2
      go_ret
      exact ⟨rfl, HB.out⟩
    | true =>
      go_wp2
      go_ret
      exact ⟨rfl, HB.out⟩
  · have h1 : ¬ (c : Int) < (m : Int) := by omega
    rw [decide_eq_false h, Bool.false_and]
    clear p0 p1 u0 u1 h
    go_enter Try.func58, Try.ntmps58
    go_wp2
    go_ret
    exact ⟨rfl, B0.out⟩

set_option maxRecDepth 100000 in
set_option maxHeartbeats 1600000 in
theorem implWith (c : Nat) (u p : Int) (hc : c ≤ 1048576) (W : World) :
    Calls Try.prog 59 #[rndV c u, .int .i64 p] W fun e w' => e = .returned (rndV (c + 1) (orI u p)) ∧ Below W.heap.size W w' := by
  have P0 := TwoAt.new W 66 (.int .i64 (c : Int)) (.int .i64 u)
  have B0 := alloc_below W (.cells #[.int .i64 (c : Int), .int .i64 u] 66)
  have hw : IntKind.i64.wrap ((c : Int) + 1) = ((c + 1 : Nat) : Int) := by rw [IntKind.wrap_i64]; omega
  have hor : bits .or .i64 u p = orI u p := rfl
  generalize hX : W.alloc (.cells #[.int .i64 (c : Int), .int .i64 u] 66) = X at P0 B0
  have B2 := alloc_below X (.cells #[.int .i64 0, .int .i64 0] 66)
  obtain ⟨e0', e1', hlt⟩ := P0
  have e0 := (B2.cell (p := ⟨W.heap.size, 0, none⟩) hlt).trans e0'
  have e1 := (B2.cell (p := ⟨W.heap.size, 1, none⟩) hlt).trans e1'
  unfold rndV
  generalize orI u p = o at hor ⊢
  generalize c + 1 = c1 at hw ⊢
  have B1 := Lib.hid (below_up B0 (alloc_below X (.cells #[.int .i64 (c1 : Int), .int .i64 o] 66)))
  clear B0 B2 hc e0' e1' hlt
  go_enter Try.func59, Try.ntmps59
  go_wp2
  refine bodyPost_ret (v := .agg #[.int .i64 (c1 : Int), .int .i64 o]) (by simp [results, Try.results59, go_sem]) rfl ⟨rfl, ?_⟩
  exact B1.out
end Go.Proofs.Ythfnbnjajcigeaa

/- The contracts of the program's isRound and of its hasItem and allItems for up to twelve pools. Conditions: valid pools, a round that is short enough to be counted. -/
namespace Go.Proofs.Ythfnbnjajcigeaa
open Go.RowKit

/-- A round in a variable of its own. -/
def RndVar (w : World) (b c : Nat) (u : Int) : Prop :=
  (w.cell? ⟨b, 0, none⟩ = some (.int .i64 (c : Int)) ∧ w.cell? ⟨b, 1, none⟩ = some (.int .i64 u) ∧ b < w.heap.size) ∧ w.frozen? ⟨b, 0, none⟩ = false ∧ w.frozen? ⟨b, 1, none⟩ = false
theorem RndVar.below {w w' : World} {b c : Nat} {u : Int} (h : RndVar w b c u) (hb : Below w.heap.size w w') : RndVar w' b c u := by
  obtain ⟨⟨e0, e1, hlt⟩, f0, f1⟩ := h
  have k := hb.block b hlt
  refine ⟨⟨?_, ?_, Nat.lt_of_lt_of_le hlt hb.size⟩, ?_, ?_⟩
  · rw [hb.cell (p := ⟨b, 0, none⟩) hlt]; exact e0
  · rw [hb.cell (p := ⟨b, 1, none⟩) hlt]; exact e1
  · rw [World.frozen?_of_block (w := w) (a := ⟨b, 0, none⟩) k]; exact f0
  · rw [World.frozen?_of_block (w := w) (a := ⟨b, 1, none⟩) k]; exact f1
theorem RndVar.new (w : World) (ty : TypeId) : RndVar (w.alloc (.cells #[.int .i64 0, .int .i64 0] ty)) w.heap.size 0 0 := by
  refine ⟨⟨?_, ?_, ?_⟩, ?_, ?_⟩ <;> simp
theorem RndVar.set {w : World} {b c c' : Nat} {u u' : Int} (h : RndVar w b c u) : RndVar ((w.setCell ⟨b, 0, none⟩ (.int .i64 (c' : Int))).setCell ⟨b, 1, none⟩ (.int .i64 u')) b c' u' := by
  obtain ⟨⟨e0, e1, hlt⟩, f0, f1⟩ := h
  refine ⟨⟨?_, ?_, by simp only [setCell_size]; exact hlt⟩, ?_, ?_⟩
  · rw [World.cell?_setCell_other _ _ _ _ (by simp)]
    exact World.cell?_setCell_same _ _ _ e0
  · exact World.cell?_setCell_same _ _ _ ((World.cell?_setCell_other _ _ _ _ (by simp)).trans e1)
  all_goals (simp only [World.frozen?_setCell]; assumption)

set_option maxRecDepth 100000 in
set_option maxHeartbeats 1600000 in
theorem implIsRound (v vr : Value) (P r : List Int) (M : Nat) (w : World) (h : IntsAt w v P) (hr : IntsAt w vr r) (hP : ∀ p ∈ P, 0 ≤ p ∧ p ≤ 1023) (hrl : r.length ≤ 1048576) :
    Calls Try.prog 39 #[v, .int .i64 (M : Int), vr] w fun e w' => e = .returned (.bool (isRB P M r r.length)) ∧ Below w.heap.size w w' := by
  have CT := Lib.hid (fun (c : Nat) (u p : Int) p0 p1 u0 u1 W => implTakes c M u p p0 p1 u0 u1 W)
  have CW := Lib.hid (fun (c : Nat) (u p : Int) hc W => implWith c u p hc W)
  obtain ⟨q, hq⟩ : ∃ q, isRB P M r r.length = q := ⟨_, rfl⟩
  have HNO : Hid (∀ i, i < r.length → okI P M r i = false → q = false) := fun i hi hk => by rw [← hq]; exact isRB_no hk _ hi
  have HYES : Hid (isRB P M r r.length = true → q = true) := fun h => by rw [← hq]; exact h
  rw [hq]
  obtain ⟨p, hpl⟩ : ∃ p, P.length = p := ⟨_, rfl⟩
  obtain ⟨l, hl⟩ : ∃ l, r.length = l := ⟨_, rfl⟩
  have HP := Lib.hid hpl
  have HL := Lib.hid hl
  have H := Lib.hid h
  have HR := Lib.hid hr
  have HIN := Lib.hid (fun k => getD_in hP k)
  have HIT := Lib.hid (fun R => itemsR_in hP R)
  have HFIT := Lib.hid (fun R k => takes_fit hP M R k)
  obtain ⟨a, c, rfl, -⟩ := h
  obtain ⟨ar, cr, rfl, -⟩ := hr
  have V0 := Lib.hid (RndVar.new w 66)
  have B0 := Lib.hid (alloc_below w (.cells #[.int .i64 0, .int .i64 0] 66))
  rw [hpl] at H ⊢
  rw [hl] at HR HNO HYES hrl ⊢
  clear hq hpl hl hP
  go_enter Try.func39, Try.ntmps39
  go_wp2
  go_loopw [12] (fun iv wr => ∃ i : Nat, i ≤ l ∧ iv = .int .i64 (i : Int) ∧ Hid (isRB P M r i = true) ∧ Hid (RndVar wr w.heap.size i (itemsR P (natT r i))) ∧ Hid (Below w.heap.size w wr)) (fun iv _ => l - (intOf iv).toNat)
  case atStart => exact ⟨0, Nat.zero_le _, rfl, rfl, V0, B0⟩
  case round =>
    clear V0 B0
    obtain ⟨i, hi, rfl, HB, HV, HBB⟩ := hrel
    by_cases hil : i < l
    · have hir : i < r.length := by rw [HL.out]; exact hil
      obtain ⟨ar2, cr2, hvr, hcr⟩ := HR.out.below HBB.out
      injection hvr with er1 er2 er3
      subst er1 er3
      rcases hcr with hcr | ⟨b2, o2, hb2, hcr⟩
      · rw [hcr] at hir; simp at hir
      subst hb2
      have e2 := hcr i hir
      have hgd : r.getD i 0 = r[i] := getD_at 0 hir
      have hsn := natT_snoc hir
      have hnl : (natT r i).length = i := natT_len (by omega)
      have hno := HNO.out i hil
      have hst := isRB_step P M r i
      rw [HB.out, Bool.true_and] at hst
      unfold okI rangeI at hno hst
      rw [hgd, HP.out] at hno hst
      obtain ⟨k, hk⟩ : ∃ k, r[i] = k := ⟨_, rfl⟩
      rw [hk] at e2 hno hst hsn
      have i0' : (0 : Int) ≤ (i : Int) := by omega
      have i1' : (i : Int) < (l : Int) := by omega
      clear hgd hk hir hcr er2
      by_cases hneg : k < 0
      · have HE : Hid (q = false) := hno (by rw [decide_eq_false (show ¬ 0 ≤ k by omega)]; rfl)
        have hd : decide (k < 0) = true := decide_eq_true hneg
        clear hno hst hsn hneg
        go_wp2
        go_quiet (fail)
        go_wp2
        go_ret
        exact ⟨ret_bool HE.out.symm, below_drewN HBB.out _⟩
      · by_cases hbig : (p : Int) ≤ k
        · have HE : Hid (q = false) := hno (by rw [decide_eq_false (show ¬ k ≤ (p : Int) - 1 by omega), Bool.and_false]; rfl)
          have hd : decide (k < 0) = false := decide_eq_false hneg
          have hd2 : decide ((p : Int) ≤ k) = true := decide_eq_true hbig
          clear hno hst hsn hneg hbig
          go_wp2
          go_quiet (fail)
          go_wp2
          go_ret
          exact ⟨ret_bool HE.out.symm, below_drewN HBB.out _⟩
        · obtain ⟨kn, rfl⟩ : ∃ kn : Nat, k = (kn : Int) := ⟨k.toNat, by omega⟩
          have hkp : kn < P.length := by rw [HP.out]; omega
          rw [decide_eq_true (show (0 : Int) ≤ (kn : Int) by omega), decide_eq_true (show (kn : Int) ≤ (p : Int) - 1 by omega), Int.toNat_natCast] at hno hst
          rw [Int.toNat_natCast] at hsn
          simp only [Bool.and_self, Bool.true_and] at hno hst
          obtain ⟨a3, c3, hv3, hc3⟩ := H.out.below HBB.out
          injection hv3 with ev1 ev2 ev3
          subst ev1 ev3
          rcases hc3 with hc3 | ⟨b3, o3, hb3, hc3⟩
          · rw [hc3] at hkp; simp at hkp
          subst hb3
          have e3 := hc3 kn hkp
          have hpk : P.getD kn 0 = P[kn] := getD_at 0 hkp
          have hin := HIN.out kn
          have hit := HIT.out (natT r i)
          have hft := HFIT.out (natT r i) kn
          have hsnoc := itemsR_snoc P (natT r i) kn
          rw [← hsn, hpk] at hsnoc
          unfold takesB at hft
          rw [hpk, hnl] at hft
          rw [hpk] at hin
          generalize P[kn] = pk at e3 hin hft hsnoc
          have HV2 := HV.out
          generalize itemsR P (natT r i) = u at hit hft HV2 hsnoc
          obtain ⟨⟨f0, f1, hlt⟩, g0, g1⟩ := HV2
          have HV := Lib.hid (show RndVar wr w.heap.size i u from ⟨⟨f0, f1, hlt⟩, g0, g1⟩)
          have C1 := Lib.hid (CT.out i u pk hin.1 hin.2 hit.1 hit.2 wr.drew)
          have k0' : (0 : Int) ≤ (kn : Int) := by omega
          have k1' : (kn : Int) < (p : Int) := by omega
          have d1 : decide ((kn : Int) < 0) = false := decide_eq_false hneg
          have d2 : decide ((p : Int) ≤ (kn : Int)) = false := decide_eq_false hbig
          have d3 : decide (p ≤ kn) = false := decide_eq_false (by omega)
          have H4 : Hid (IntsAt wr (.slice (some ⟨b3, o3, none⟩) p c) P) := H.out.below HBB.out
          rw [hft] at C1
          clear hft hin hit hc3 hneg hbig ev2
          have K2 : Hid (b3 < wr.heap.size) := World.block_lt_of_cell? wr _ e3
          cases hfb : fitB P M (natT r i) kn with
          | false =>
            have HE : Hid (q = false) := hno hfb
            rw [hfb] at C1
            clear hno hst hsn hsnoc hfb
            go_wp2_with fail
            first | (go_region_held3 (fun w' => w'.cell? ⟨w.heap.size, 0, none⟩ = some (.int .i64 (i : Int)) ∧ w'.cell? ⟨w.heap.size, 1, none⟩ = some (.int .i64 u) ∧ w'.cell? ⟨b3, o3 + kn, none⟩ = some (.int .i64 pk))
                (first | exact ⟨G0.out, G1.out, G2.out⟩ | exact ⟨f0, f1, e3⟩)
                (first
                  | (go_at_call 58; refine C1.out.mono ?_; rintro e w1 ⟨rfl, b1⟩; have BX := Lib.hid ((Below.refl wr.heap.size wr).drew.trans b1); have G0 : Hid (w1.cell? ⟨w.heap.size, 0, none⟩ = some (.int .i64 (i : Int))) := (BX.out.cell (p := ⟨w.heap.size, 0, none⟩) hlt).trans f0; have G1 : Hid (w1.cell? ⟨w.heap.size, 1, none⟩ = some (.int .i64 u)) := (BX.out.cell (p := ⟨w.heap.size, 1, none⟩) hlt).trans f1; have G2 : Hid (w1.cell? ⟨b3, o3 + kn, none⟩ = some (.int .i64 pk)) := (BX.out.cell (p := ⟨b3, o3 + kn, none⟩) K2.out).trans e3; have BY := Lib.hid (below_up HBB.out BX.out); clear b1)
                  | fail)) | fail
            all_goals
              go_wp2
              go_ret
              exact ⟨ret_bool HE.out.symm, BY.out⟩
          | true =>
            have HS : Hid (isRB P M r (i + 1) = true) := hst.trans hfb
            rw [hfb] at C1
            have hi1 : i ≤ 1048576 := by omega
            have HSN := Lib.hid hsnoc
            have C2 := Lib.hid (fun W => CW.out i u pk hi1 W)
            unfold rndV at C2
            clear hno hst hsn hsnoc hfb
            go_wp2_with fail
            first | (go_region_held3 (fun w' => w'.cell? ⟨w.heap.size, 0, none⟩ = some (.int .i64 (i : Int)) ∧ w'.cell? ⟨w.heap.size, 1, none⟩ = some (.int .i64 u) ∧ w'.cell? ⟨b3, o3 + kn, none⟩ = some (.int .i64 pk))
                (first | exact ⟨G0.out, G1.out, G2.out⟩ | exact ⟨f0, f1, e3⟩)
                (first
                  | (go_at_call 58; refine C1.out.mono ?_; rintro e w1 ⟨rfl, b1⟩; have BX := Lib.hid ((Below.refl wr.heap.size wr).drew.trans b1); have G0 : Hid (w1.cell? ⟨w.heap.size, 0, none⟩ = some (.int .i64 (i : Int))) := (BX.out.cell (p := ⟨w.heap.size, 0, none⟩) hlt).trans f0; have G1 : Hid (w1.cell? ⟨w.heap.size, 1, none⟩ = some (.int .i64 u)) := (BX.out.cell (p := ⟨w.heap.size, 1, none⟩) hlt).trans f1; have G2 : Hid (w1.cell? ⟨b3, o3 + kn, none⟩ = some (.int .i64 pk)) := (BX.out.cell (p := ⟨b3, o3 + kn, none⟩) K2.out).trans e3; have BY := Lib.hid (below_up HBB.out BX.out); have V1 := Lib.hid (HV.out.below BX.out); clear b1)
                  | fail)) | fail
            have P1 := H4.out.below BX.out
            have q0 := G0.out
            have q1 := G1.out
            have q2 := G2.out
            clear f0 f1 e3 e2 G0 G1 G2 P1 g0 g1 hlt K2
            go_wp2_with fail
            (go_region_with (first
              | (go_at_call 59; refine (C2.out _).mono ?_; rintro e w2 ⟨rfl, b2'⟩; have BZ := Lib.hid (below_up BY.out ((Below.refl w1.heap.size w1).drew.trans b2')); have V2 := Lib.hid (V1.out.below ((Below.refl w1.heap.size w1).drew.trans b2')); obtain ⟨⟨q0', q1', qlt⟩, g0', g1'⟩ := V2.out; clear b2')
              | fail))
            all_goals
              have V3 := Lib.hid (V2.out.set (c' := i + 1) (u' := orI u pk))
              rw [← HSN.out] at V3
              have B3 := Lib.hid ((BZ.out.setCell (p := ⟨w.heap.size, 0, none⟩) (Nat.le_refl _) (.int .i64 ((i + 1 : Nat) : Int))).setCell (p := ⟨w.heap.size, 1, none⟩) (Nat.le_refl _) (.int .i64 (orI u pk)))
              go_wp2
              go_roundw
              case rel => exact ⟨i + 1, by omega, by go_num, HS, by rw [HSN.out] at V3 ⊢; exact V3, B3⟩
              case measure => simp [intOf]; omega
    · obtain rfl : i = l := by omega
      have HE : Hid (true = q) := (HYES.out HB.out).symm
      go_wp2
      go_ret
      exact ⟨ret_bool HE.out, HBB.out⟩
end Go.Proofs.Ythfnbnjajcigeaa

/- The contract of the program's RoundsOk, and of its hasItem and allItems for up to twelve bits. Conditions: the slices read as integers and as lists of them, and are short enough to be counted. -/
namespace Go.Proofs.Ythfnbnjajcigeaa
open Go.RowKit

theorem pow12 {k : Nat} (hk : k ≤ 12) : IntKind.i64.wrap (2 ^ k) = 2 ^ k ∧ (2 : Int) ^ k = ((2 ^ k : Nat) : Int) ∧ 1 ≤ 2 ^ k ∧ 2 ^ k ≤ 4096 := by
  obtain ⟨h1, h2, -⟩ := pow_i (show k ≤ 62 by omega)
  have h3 : 2 ^ k ≤ 2 ^ 12 := Nat.pow_le_pow_right (by decide) hk
  have h4 : 0 < 2 ^ k := Nat.pow_pos (by decide)
  exact ⟨h1, h2, h4, h3⟩

set_option maxHeartbeats 1000000 in
theorem implHas12 (s i : Nat) (hs : s ≤ 4096) (hi : i ≤ 12) (w : World) : Calls Try.prog 40 #[.int .i64 (s : Int), .int .i64 (i : Int)] w fun e w' => e = .returned (.bool (s.testBit i)) ∧ w = w' := by
  obtain ⟨q1, -, -⟩ := pow12 hi
  have hb := has_bit (s := (s : Int)) (i := i) (by omega) (by omega) (by omega)
  rw [Int.toNat_natCast] at hb
  have hi0 : (0 : Int) ≤ i := by omega
  have hi1 : (i : Int) ≤ 64 := by omega
  rw [← hb]
  clear hb
  go_enter Try.func40, Try.ntmps40
  go_wp2
  go_ret
  exact ⟨rfl, rfl⟩

set_option maxHeartbeats 1600000 in
theorem implAll12 (k : Nat) (hk : k ≤ 12) (w : World) : Calls Try.prog 41 #[.int .i64 (k : Int)] w fun e w' => e = .returned (.int .i64 ((2 ^ k - 1 : Nat) : Int)) ∧ w = w' := by
  obtain ⟨q1, q2, q3, q4⟩ := pow12 hk
  have k0 : (0 : Int) ≤ (k : Int) := by omega
  have hw : IntKind.i64.wrap ((2 : Int) ^ k - 1) = ((2 ^ k - 1 : Nat) : Int) := by rw [IntKind.wrap_i64, q2]; omega
  have hw2 : wrap64 ((2 : Int) ^ k - 1) = ((2 ^ k - 1 : Nat) : Int) := by rw [q2]; unfold wrap64; omega
  have HW := Lib.hid hw
  have HW2 := Lib.hid hw2
  clear q2 q3 q4 hw hw2
  go_enter Try.func41, Try.ntmps41
  go_wp2
  go_ret
  exact ⟨ret_int (by first | exact HW.out | exact HW2.out), rfl⟩

set_option maxRecDepth 100000 in
set_option maxHeartbeats 6400000 in
theorem implRoundsOk (n m : Int) (v vS : Value) (P : List Int) (S : List (List Int)) (w : World) (h : IntsAt w v P) (hS : LsCap w vS S) (hm : P.length ≤ 1048576) (hmS : S.length + totL S ≤ 1048576) :
    Calls Try.prog 14 #[.int .i64 n, v, .int .i64 m, vS] w fun e w' => e = .returned (.bool (roundsOkB n P m S)) ∧ Below w.heap.size w w' := by
  have CP := Lib.hid (implRoundsIn n m v P w h hm)
  have HNO := Lib.hid (fun h => roundsOkB_no (n := n) (m := m) (P := P) (S := S) h)
  by_cases hp : roundsB n P m = true
  · obtain ⟨hpp, m1, m12⟩ := rounds_in hp
    obtain ⟨-, hl12, hin⟩ := pools_in hpp
    rw [hp] at CP
    obtain ⟨M, hM⟩ : ∃ M : Nat, m = (M : Int) := ⟨m.toNat, by omega⟩
    subst hM
    rw [Int.toNat_natCast] at HNO
    have HYES : Hid (∀ U c, allK P M S S.length = some (U, c) → roundsOkB n P M S = (c == P.length)) := fun U c h => by
      unfold roundsOkB
      rw [Int.toNat_natCast, h, hp]
      rfl
    obtain ⟨q, hq⟩ : ∃ q, roundsOkB n P M S = q := ⟨_, rfl⟩
    rw [hq] at HNO HYES ⊢
    have CI := Lib.hid (fun (r : List Int) vr W (hP : IntsAt W v P) (hr : IntsAt W vr r) (hl : r.length ≤ 1048576) => implIsRound v vr P r M W hP hr hin hl)
    have CA := Lib.hid (fun W => implAll12 P.length hl12 W)
    have CH := Lib.hid (fun s i (hs : s ≤ 4096) (hi : i ≤ 12) W => implHas12 s i hs hi W)
    have HAI := Lib.hid (fun j U c (hj : j ≤ S.length) h => (⟨(allK_in (P := P) (m := M) (S := S) (j := j) (U := U) (c := c) hj h).1, allK_cnt hj h⟩ : U.length = P.length ∧ U.countP id = c))
    have HTL := Lib.hid (fun k => totL_leS (S := S) k)
    have HMEM := Lib.hid (fun d (hd : d ∈ S) => totL_mem hd)
    obtain ⟨p, hpl⟩ : ∃ p, P.length = p := ⟨_, rfl⟩
    obtain ⟨sl, hsl⟩ : ∃ sl, S.length = sl := ⟨_, rfl⟩
    have HP := Lib.hid hpl
    have HSL := Lib.hid hsl
    have H := Lib.hid h
    have HS := Lib.hid hS
    have A0 : Hid (allK P M S 0 = some (List.replicate p false, 0)) := by unfold Hid; rw [← hpl]; rfl
    have M0 := Lib.hid (marks_zero p)
    obtain ⟨a, c, rfl, -⟩ := h
    obtain ⟨aS, cS, rfl⟩ := hS.reads.form
    rw [hpl] at CP CI CA H hl12 ⊢
    rw [hsl] at HS HNO HYES HAI hmS ⊢
    clear hS hp hpp hq hpl hsl hm hin
    have B0 := Lib.hid (Below.refl w.heap.size w)
    go_enter Try.func14, Try.ntmps14
    go_wp2_with fail
    refine CP.out.mono ?_
    rintro e w1 ⟨rfl, rfl⟩
    go_wp2
    go_loopw [9, 21] (fun tv jv wr => ∃ (j : Nat) (U : List Bool) (c T : Nat), j ≤ sl ∧ jv = .int .i64 (j : Int) ∧ tv = .int .i64 (T : Int) ∧ Hid (allK P M S j = some (U, c)) ∧ Hid (Marks T U) ∧ Hid (Below w.heap.size w wr)) (fun _ jv _ => sl - (intOf jv).toNat)
    case atStart => exact ⟨0, _, 0, 0, Nat.zero_le _, rfl, rfl, A0, M0, B0⟩
    case round =>
      clear A0 M0 B0
      obtain ⟨j, U, cn, T, hj, rfl, rfl, HA, HM, HBB⟩ := hrel
      have HAJ := Lib.hid (HAI.out j U cn hj HA.out)
      by_cases hlt : j < sl
      · have hjs : j < S.length := by rw [HSL.out]; exact hlt
        obtain ⟨aS2, cS2, hvS, hcS⟩ := HS.out
        obtain ⟨b, o, ar, cr, haS, e0, iR, hcap⟩ := hcS j hjs
        injection hvS with ev1 ev2 ev3
        subst ev1 ev3
        subst haS
        have hml := HMEM.out S[j] (List.getElem_mem hjs)
        have htt := HTL.out j
        have e1 : wr.cell? ⟨b, o + j, none⟩ = some (.slice ar S[j].length cr) := by rw [HBB.out.cell (p := ⟨b, o + j, none⟩) (World.block_lt_of_cell? w _ e0)]; exact e0
        have IR := Lib.hid iR
        have HSTEP : Hid (allK P M S (j + 1) = rowK P M S[j] (some (U, cn)) S[j].length) := by
          unfold Hid
          rw [show allK P M S (j + 1) = rowK P M (S.getD j []) (allK P M S j) (S.getD j []).length from rfl, HA.out, getD_at [] hjs]
        have HNONE : Hid (allK P M S (j + 1) = none → q = false) := fun h => HNO.out (allK_none h (by omega))
        have htk := totL_take hjs
        have htt2 := HTL.out (j + 1)
        have hrl : S[j].length ≤ 1048576 := by omega
        obtain ⟨r, hr⟩ : ∃ r, S[j] = r := ⟨_, rfl⟩
        rw [hr] at IR HSTEP hml htk e1 hcap hrl
        have C1 := Lib.hid (CI.out r (.slice ar r.length cr) wr (H.out.below HBB.out) (IR.out.below HBB.out) hrl)
        obtain ⟨l, hl⟩ : ∃ l, r.length = l := ⟨_, rfl⟩
        have HL := Lib.hid hl
        rw [hl] at IR HSTEP hml e1 htk hcap C1 hrl
        have HUL : Hid (U.length = P.length) := HAJ.out.1
        have j0 : (0 : Int) ≤ (j : Int) := by omega
        have j1 : (j : Int) < (sl : Int) := by omega
        clear hjs hcS e0 iR hr hl HAJ ev2 htk htt htt2 hml hcap
        cases hisr : isRB P M r l with
        | false =>
          have HE : Hid (q = false) := HNONE.out (by rw [HSTEP.out]; exact rowK_bad hisr)
          rw [hisr] at C1
          clear hisr
          go_wp2_with fail
          refine C1.out.mono ?_
          rintro e w1 ⟨rfl, b1⟩
          have BY := Lib.hid (below_up HBB.out b1)
          clear b1
          go_wp2
          go_ret
          exact ⟨ret_bool HE.out.symm, BY.out⟩
        | true =>
          rw [hisr] at C1
          have HOK := Lib.hid (isRB_all l hisr)
          have HRI := Lib.hid (fun i U' c' (h : rowK P M r (some (U, cn)) i = some (U', c')) => rowK_in (s := (U, cn)) HUL.out h)
          have HRN := Lib.hid (fun i (hi : i ≤ l) (h : rowK P M r (some (U, cn)) i = none) => rowK_none h hi)
          have R0 : Hid (rowK P M r (some (U, cn)) 0 = some (U, cn)) := rfl
          have RS := Lib.hid (fun i U' c' (hk : okI P M r i = true) (h : rowK P M r (some (U, cn)) i = some (U', c')) => rowK_good hk h)
          generalize rowK P M r (some (U, cn)) = RK at HSTEP HRI HRN R0 RS
          clear hisr
          go_wp2_with fail
          refine C1.out.mono ?_
          rintro e w1 ⟨rfl, b1⟩
          have BY := Lib.hid (below_up HBB.out b1)
          clear b1 HBB e1 C1
          go_wp2
          go_loopw [9, 32] (fun tv iv ws => ∃ (i : Nat) (U' : List Bool) (c' T' : Nat), i ≤ l ∧ iv = .int .i64 (i : Int) ∧ tv = .int .i64 (T' : Int) ∧ Hid (RK i = some (U', c')) ∧ Hid (Marks T' U') ∧ Hid (Below w.heap.size w ws)) (fun _ iv _ => l - (intOf iv).toNat)
          case atStart => exact ⟨0, U, cn, T, Nat.zero_le _, rfl, rfl, R0, HM, BY⟩
          case round =>
            clear BY R0 HM
            obtain ⟨i, U', c', T', hi', rfl, rfl, HK, HM, HBB⟩ := hrel
            by_cases hil : i < l
            · have hir : i < r.length := by rw [HL.out]; exact hil
              obtain ⟨ar2, cr2, hvr, hcr⟩ := IR.out.below HBB.out
              injection hvr with er1 er2 er3
              subst er1 er3
              rcases hcr with hcr | ⟨b2, o2, hb2, hcr⟩
              · rw [hcr] at hir; simp at hir
              subst hb2
              have e2 := hcr i hir
              obtain ⟨hu1, -, -⟩ := HRI.out i U' c' HK.out
              have hok := HOK.out i hil
              have HS2 := RS.out i U' c' hok HK.out
              have hgd : r.getD i 0 = r[i] := getD_at 0 hir
              unfold okI rangeI at hok
              simp only [Bool.and_eq_true, decide_eq_true_eq] at hok
              rw [hgd, HP.out] at hok
              rw [hgd] at HS2
              obtain ⟨k, hk⟩ : ∃ k, r[i] = k := ⟨_, rfl⟩
              rw [hk] at e2 hok HS2
              obtain ⟨kn, rfl⟩ : ∃ kn : Nat, k = (kn : Int) := ⟨k.toNat, by omega⟩
              rw [Int.toNat_natCast] at HS2
              have hkp : kn < p := by omega
              have hul : U'.length = p := by rw [hu1, HP.out]
              have hT : T' < 2 ^ p := by have := HM.out.1; rw [hul] at this; exact this
              have hp2 := pow12 hl12
              have hk2 := pow12 (show kn ≤ 12 by omega)
              have hbit := HM.out.2 kn (by omega)
              rw [← hbit] at HS2
              have C2 := Lib.hid (CH.out T' kn (by omega) (by omega) wr)
              have HBAD : Hid (RK (i + 1) = none → q = false) := fun h => HNONE.out (by rw [HSTEP.out]; exact HRN.out (i + 1) (by omega) h)
              have i0' : (0 : Int) ≤ (i : Int) := by omega
              have i1' : (i : Int) < (l : Int) := by omega
              have M2 := Lib.hid (marks_set HM.out (show kn < U'.length by omega))
              have hor : orI (T' : Int) (2 ^ kn) = ((T' ||| 2 ^ kn : Nat) : Int) := by
                rw [hk2.2.1]
                exact or_nat (by omega) (by omega)
              have HOR := Lib.hid hor
              have HS3 := Lib.hid HS2
              have w1' : IntKind.i64.wrap (2 ^ kn) = 2 ^ kn := hk2.1
              have kn0 : (0 : Int) ≤ (kn : Int) := by omega
              clear hok hgd hk hir hcr er2 hu1 hul hT hp2 hk2 hbit hor HS2
              cases hb : T'.testBit kn with
              | true =>
                rw [hb] at C2
                have HE : Hid (q = false) := HBAD.out (by rw [HS3.out, hb]; rfl)
                clear hb
                go_wp2_with fail
                refine C2.out.mono ?_
                rintro e w2 ⟨rfl, rfl⟩
                go_wp2
                go_ret
                exact ⟨ret_bool HE.out.symm, HBB.out⟩
              | false =>
                rw [hb] at C2
                have HK2 : Hid (RK (i + 1) = some (U'.set kn true, c' + 1)) := by unfold Hid; rw [HS3.out, hb]; rfl
                clear hb
                go_wp2_with fail
                refine C2.out.mono ?_
                rintro e w2 ⟨rfl, rfl⟩
                go_wp2
                go_roundw
                case rel => exact ⟨i + 1, U'.set kn true, c' + 1, T' ||| 2 ^ kn, by omega, by go_num, congrArg (Value.int .i64) HOR.out, HK2, M2, HBB⟩
                case measure => simp [intOf]; omega
            · obtain rfl : i = l := by omega
              have HX : Hid (allK P M S (j + 1) = some (U', c')) := by unfold Hid; rw [HSTEP.out, HK.out]
              go_wp2
              go_roundw
              case rel => exact ⟨j + 1, U', c', T', by omega, by go_num, rfl, HX, HM, HBB⟩
              case measure => simp [intOf]; omega
      · obtain rfl : j = sl := by omega
        obtain ⟨hu1, hcnt⟩ := HAJ.out
        have hfull := marks_full HM.out
        rw [hu1, HP.out, hcnt] at hfull
        have HE : Hid (((T : Int) == ((2 ^ p - 1 : Nat) : Int)) = q) := by
          unfold Hid
          rw [HYES.out U cn HA.out, HP.out, Bool.eq_iff_iff, beq_iff_eq, beq_iff_eq, ← hfull]
          omega
        clear hu1 hcnt hfull
        generalize ((2 ^ p - 1 : Nat) : Int) = top at CA HE
        go_wp2_with fail
        refine (CA.out _).mono ?_
        rintro e w2 ⟨rfl, rfl⟩
        go_wp2
        go_ret
        exact ⟨ret_bool HE.out, HBB.out⟩
  · have hp2 : roundsB n P m = false := by simpa using hp
    have HE : Hid (roundsOkB n P m S = false) := by unfold Hid roundsOkB; rw [hp2]; rfl
    rw [hp2] at CP
    obtain ⟨a, c, rfl, -⟩ := h
    obtain ⟨aS, cS, rfl⟩ := hS.reads.form
    generalize roundsOkB n P m S = r at HE ⊢
    clear hp hp2 HNO
    go_enter Try.func14, Try.ntmps14
    go_wp2_with fail
    refine CP.out.mono ?_
    rintro e w1 ⟨rfl, rfl⟩
    go_wp2
    go_ret
    exact ⟨ret_bool HE.out.symm, Below.refl _ _⟩
end Go.Proofs.Ythfnbnjajcigeaa

/- The contract of the program's fill. Conditions: valid pools; the indices are those of pools, at most twelve. -/
namespace Go.Proofs.Ythfnbnjajcigeaa
open Go.RowKit

theorem RndVar.grown {w w' : World} {row : Option Nat} {b c : Nat} {u : Int} (h : RndVar w b c u) (hg : w.grownBy w' row) (hne : row ≠ some b) : RndVar w' b c u := by
  obtain ⟨⟨e0, e1, hlt⟩, f0, f1⟩ := h
  have hb := hg.block b hlt (Ne.symm hne)
  refine ⟨⟨?_, ?_, Nat.lt_of_lt_of_le hlt (Only.of_grown hg).size⟩, ?_, ?_⟩
  · rw [World.cell?_of_block (w := w) (a := ⟨b, 0, none⟩) hb]; exact e0
  · rw [World.cell?_of_block (w := w) (a := ⟨b, 1, none⟩) hb]; exact e1
  · rw [World.frozen?_of_block (w := w) (a := ⟨b, 0, none⟩) hb]; exact f0
  · rw [World.frozen?_of_block (w := w) (a := ⟨b, 1, none⟩) hb]; exact f1
/-- A list of the call's own has grown: another one is left as it is, and they are still apart. -/
theorem grow_two {X w6 : World} {B : Nat} {x x' y : Value} {l' : List Int} (hy : Own X B y l') (hs : Sep x y) (hg : X.grownBy w6 x.ownBlock) (hat : x'.ownBlock = x.ownBlock ∨ x'.ownBlock = some X.heap.size) :
    Own w6 B y l' ∧ Sep x' y := by
  refine ⟨hy.only (Only.of_grown hg) fun b e e2 => hs b e2 e, fun b e e2 => ?_⟩
  rcases hat with e' | e'
  · exact hs b (e' ▸ e) e2
  · rw [e'] at e
    have h1 : X.heap.size = b := by simpa using e
    have := (hy.blk b e2).2
    omega
/-- What fill gives back. -/
def Fills (T F : List Nat) (w : World) (e : Ending) (w' : World) : Prop := ∃ x y, e = .returned (.tuple #[x, y]) ∧ Own w' w.heap.size x (natL T) ∧ Own w' w.heap.size y (natL F) ∧ Below w.heap.size w w'

set_option maxRecDepth 100000 in
set_option maxHeartbeats 3200000 in
theorem implFill (v vi : Value) (P : List Int) (L : List Nat) (M : Nat) (w : World) (h : IntsAt w v P) (hi : IntsAt w vi (natL L)) (hP : ∀ p ∈ P, 0 ≤ p ∧ p ≤ 1023) (hLP : ∀ k ∈ L, k < P.length) (hl12 : L.length ≤ 12) :
    Calls Try.prog 44 #[v, vi, .int .i64 (M : Int)] w (Fills (fillC P M [] L).1 (fillC P M [] L).2 w) := by
  obtain ⟨i0, hi0, hz0, hz1, hz2⟩ := info_parts infoIntA
  have CT := Lib.hid (fun (c : Nat) (u p : Int) p0 p1 u0 u1 W => implTakes c M u p p0 p1 u0 u1 W)
  have CW := Lib.hid (fun (c : Nat) (u p : Int) hc W => implWith c u p hc W)
  have HALL := Lib.hid (fillS_all P M L)
  have HSTEP := Lib.hid (fun j => fillS_step P M L j)
  have HLEN := Lib.hid (fun j hj => (fillS_in P M L j hj).1)
  have HIN := Lib.hid (fun k => getD_in hP k)
  have HIT := Lib.hid (fun R => itemsR_in hP R)
  have HFIT := Lib.hid (fun R k => takes_fit hP M R k)
  have HLP := Lib.hid hLP
  rw [← HALL.out]
  unfold Fills
  have Z0 : Hid (fillS P M L 0 = ([], [])) := rfl
  generalize fillS P M L = FS at HALL HSTEP HLEN Z0 ⊢
  obtain ⟨l, hl⟩ : ∃ l, L.length = l := ⟨_, rfl⟩
  obtain ⟨p, hpl⟩ : ∃ p, P.length = p := ⟨_, rfl⟩
  have HL := Lib.hid hl
  have HP := Lib.hid hpl
  have H := Lib.hid h
  have HI := Lib.hid hi
  obtain ⟨a, c, rfl, -⟩ := h
  obtain ⟨ai, ci, rfl, -⟩ := hi
  have hnl : (natL L).length = l := by rw [natL_len, hl]
  rw [hnl] at HI ⊢
  have V0 := Lib.hid (RndVar.new w 66)
  have B0 := Lib.hid (alloc_below w (.cells #[.int .i64 0, .int .i64 0] 66))
  have S0 : Hid (Sep (.slice none 0 0) (.slice none 0 0)) := fun b e => by simp [Value.ownBlock] at e
  have O0 := Lib.hid (Own.nil (w.alloc (.cells #[.int .i64 0, .int .i64 0] 66)) (w.heap.size + 1))
  rw [hpl] at H ⊢
  rw [hl] at HLEN hl12 ⊢
  clear hP hLP hl hpl hnl HALL
  go_enter Try.func44, Try.ntmps44
  go_wp2
  go_loopw [6, 7, 13] (fun xv yv jv wr => ∃ (j : Nat) (x y : Value), j ≤ l ∧ jv = .int .i64 (j : Int) ∧ xv = x ∧ yv = y ∧ Hid (Own wr (w.heap.size + 1) x (natL (FS j).1)) ∧ Hid (Own wr (w.heap.size + 1) y (natL (FS j).2)) ∧ Hid (Sep x y) ∧ Hid (RndVar wr w.heap.size (FS j).1.length (itemsR P (FS j).1)) ∧ Hid (Below w.heap.size w wr)) (fun _ _ jv _ => l - (intOf jv).toNat)
  case atStart => exact ⟨0, _, _, Nat.zero_le _, rfl, rfl, rfl, by rw [Z0.out]; exact O0, by rw [Z0.out]; exact O0, S0, by rw [Z0.out]; exact V0, B0⟩
  case round =>
    clear V0 B0 S0 O0 Z0
    obtain ⟨j, x, y, hj, rfl, rfl, rfl, HX, HY, HSP, HV, HBB⟩ := hrel
    have hlen := HLEN.out j hj
    have hstep := HSTEP.out j
    obtain ⟨T, hT⟩ : ∃ T, (FS j).1 = T := ⟨_, rfl⟩
    obtain ⟨F, hF⟩ : ∃ F, (FS j).2 = F := ⟨_, rfl⟩
    obtain ⟨ax, nx, cx, hxf⟩ := HX.out.form
    obtain ⟨ay, ny, cy, hyf⟩ := HY.out.form
    subst hxf hyf
    by_cases hjl : j < l
    · rw [hT, hF] at hlen hstep
      rw [hT] at HX HV
      rw [hF] at HY
      have hjr : j < L.length := by rw [HL.out]; exact hjl
      obtain ⟨ar2, cr2, hvr, hcr⟩ := HI.out.below HBB.out
      injection hvr with er1 er2 er3
      subst er1 er3
      rcases hcr with hcr | ⟨b2, o2, hb2, hcr⟩
      · have : (natL L).length = 0 := by rw [hcr]; rfl
        rw [natL_len] at this
        omega
      subst hb2
      have e2 := hcr j (by rw [natL_len]; exact hjr)
      rw [natL_at L j hjr] at e2
      have hgd : L.getD j 0 = L[j] := getD_at 0 hjr
      rw [hgd] at hstep
      have hkp := HLP.out L[j] (List.getElem_mem hjr)
      obtain ⟨kn, hk⟩ : ∃ k, L[j] = k := ⟨_, rfl⟩
      rw [hk] at e2 hstep hkp
      obtain ⟨a3, c3, hv3, hc3⟩ := H.out.below HBB.out
      injection hv3 with ev1 ev2 ev3
      subst ev1 ev3
      rcases hc3 with hc3 | ⟨b3, o3, hb3, hc3⟩
      · rw [hc3] at hkp; simp at hkp
      subst hb3
      have e3 := hc3 kn hkp
      have hpk : P.getD kn 0 = P[kn] := getD_at 0 hkp
      have hin := HIN.out kn
      have hit := HIT.out T
      have hft := HFIT.out T kn
      have HSN := Lib.hid (itemsR_snoc P T kn)
      rw [hpk] at HSN
      unfold takesB at hft
      rw [hpk] at hft hin
      generalize P[kn] = pk at e3 hin hft HSN
      have HV2 := HV.out
      obtain ⟨u, hu⟩ : ∃ u, itemsR P T = u := ⟨_, rfl⟩
      rw [hu] at hit hft HV HV2 HSN
      obtain ⟨tl, htl⟩ : ∃ tl, T.length = tl := ⟨_, rfl⟩
      rw [htl] at hft HV HV2 hlen
      obtain ⟨⟨f0, f1, hlt⟩, g0, g1⟩ := HV2
      have C1 := Lib.hid (CT.out tl u pk hin.1 hin.2 hit.1 hit.2 wr.drew)
      rw [HP.out] at hkp
      have j0 : (0 : Int) ≤ (j : Int) := by omega
      have j1 : (j : Int) < (l : Int) := by omega
      have k0' : (0 : Int) ≤ (kn : Int) := by omega
      have k1' : (kn : Int) < (p : Int) := by omega
      have H4 : Hid (IntsAt wr (.slice (some ⟨b3, o3, none⟩) p c) P) := H.out.below HBB.out
      rw [hft] at C1
      have HTL := Lib.hid htl
      have HU := Lib.hid hu
      have HTT := Lib.hid hT
      have HFF := Lib.hid hF
      clear hft hin hit hc3 hgd hk hjr hcr er2 ev2 hu htl hT hF
      have K2 : Hid (b3 < wr.heap.size) := World.block_lt_of_cell? wr _ e3
      have HNX := Lib.hid (show nx = T.length from by have := HX.out.1; have h2 := HX.out.reads; obtain ⟨_, _, e, _⟩ := h2; injection e with _ e2 _; rw [e2, natL_len])
      have HNY := Lib.hid (show ny = F.length from by have h2 := HY.out.reads; obtain ⟨_, _, e, _⟩ := h2; injection e with _ e2 _; rw [e2, natL_len])
      cases hfb : fitB P M T kn with
      | false =>
        have HS : Hid (FS (j + 1) = (T, F ++ [kn])) := by unfold Hid; rw [hstep, hfb]; rfl
        rw [hfb] at C1
        clear hstep hfb HSN
        go_wp2_with fail
        first | (go_region_held3 (fun w' => w'.cell? ⟨w.heap.size, 0, none⟩ = some (.int .i64 (tl : Int)) ∧ w'.cell? ⟨w.heap.size, 1, none⟩ = some (.int .i64 u) ∧ w'.cell? ⟨b3, o3 + kn, none⟩ = some (.int .i64 pk))
            (first | exact ⟨G0.out, G1.out, G2.out⟩ | exact ⟨f0, f1, e3⟩)
            (first
              | (go_at_call 58; refine C1.out.mono ?_; rintro e w1 ⟨rfl, b1⟩; have BX := Lib.hid ((Below.refl wr.heap.size wr).drew.trans b1); have G0 : Hid (w1.cell? ⟨w.heap.size, 0, none⟩ = some (.int .i64 (tl : Int))) := (BX.out.cell (p := ⟨w.heap.size, 0, none⟩) hlt).trans f0; have G1 : Hid (w1.cell? ⟨w.heap.size, 1, none⟩ = some (.int .i64 u)) := (BX.out.cell (p := ⟨w.heap.size, 1, none⟩) hlt).trans f1; have G2 : Hid (w1.cell? ⟨b3, o3 + kn, none⟩ = some (.int .i64 pk)) := (BX.out.cell (p := ⟨b3, o3 + kn, none⟩) K2.out).trans e3; have BY := Lib.hid (below_up HBB.out BX.out); have V1 := Lib.hid (HV.out.below BX.out); have X1 := Lib.hid (HX.out.below BX.out); have Y1 := Lib.hid (HY.out.below BX.out); clear b1)
              | fail)) | fail
        clear f0 f1 e3 e2 G0 G1 G2 g0 g1 hlt K2 HX HY HV HBB BX C1 H4
        have A4 := Lib.hid (alloc_below w1 (.cells #[.int .i64 (kn : Int)] 3))
        have OY : Hid ((w1.alloc (.cells #[.int .i64 (kn : Int)] 3)).ownsRow (w.heap.size + 1) 3 1 (.slice ay ny cy) F.length ((natL F).map (Value.int .i64))) := by
          have := Y1.out.below A4.out
          unfold Own at this
          rw [natL_len] at this
          exact this
        have hsz : w.heap.size + 1 ≤ (w1.alloc (.cells #[.int .i64 (kn : Int)] 3)).heap.size := by have := V1.out.1.2.2; simp; omega
        go_wp2_with (at_builtin; refine wpList_append_own_at _ rfl _ _ 22 rfl (w.heap.size + 1) 3 i0 (.int .i64 0) 1 8 Try.underlying22 hi0 hz0 hz1 hz2 rfl (by decide) (.slice ay ny cy) F.length ((natL F).map (Value.int .i64)) rfl OY.out ⟨w1.heap.size, 0, none⟩ 1 1 [.int .i64 (kn : Int)] rfl rfl (cell_one_new _ _ _) (by simp [Value.oneCell']) (by unfold maxLen; omega) (by omega) hsz ?_; intro v6 w6 hown6 hg6 _ hat6; have hg6' : (w1.alloc (.cells #[.int .i64 (kn : Int)] 3)).grownBy w6 (Value.slice ay ny cy).ownBlock := hg6; obtain ⟨a6, n6, c6, hv6⟩ := rowFormI hown6; subst hv6; have HW6 := Lib.hid hown6; have HG6 := Lib.hid hg6'; have HA6 := Lib.hid hat6; clear hown6 hg6 hg6' hat6)
        have O6 : Hid (Own w6 (w.heap.size + 1) (.slice a6 n6 c6) (natL (F ++ [kn]))) := by
          unfold Hid Own
          rw [natL_snoc, List.length_append, List.map_append, natL_len]
          exact HW6.out
        have hne : Hid ((Value.slice ay ny cy).ownBlock ≠ some w.heap.size) := fun e => by have := (OY.out.lt _ e).1; omega
        have T2 := Lib.hid (grow_two (X1.out.below A4.out) (fun b e e2 => HSP.out b e2 e) HG6.out HA6.out)
        have V6 := Lib.hid ((V1.out.below A4.out).grown HG6.out hne.out)
        have B6 := Lib.hid (Below.grown (below_up BY.out A4.out) HG6.out (by omega) (fun q hq => by have := (OY.out.lt q hq).1; omega))
        go_wp2
        go_roundw
        case rel =>
          refine ⟨j + 1, _, _, by omega, by go_num, rfl, rfl, ?_, ?_, ?_, ?_, B6⟩
          · rw [HS.out]; exact Lib.hid T2.out.1
          · rw [HS.out]; exact O6
          · exact fun b e e2 => T2.out.2 b e2 e
          · rw [HS.out]
            show Hid (RndVar _ _ T.length (itemsR P T))
            rw [HTL.out, HU.out]
            exact V6
        case measure => simp [intOf]; omega
      | true =>
        have HS : Hid (FS (j + 1) = (T ++ [kn], F)) := by unfold Hid; rw [hstep, hfb]; rfl
        rw [hfb] at C1
        have C2 := Lib.hid (fun W => CW.out tl u pk (by omega) W)
        unfold rndV at C2
        clear hstep hfb
        go_wp2_with fail
        first | (go_region_held3 (fun w' => w'.cell? ⟨w.heap.size, 0, none⟩ = some (.int .i64 (tl : Int)) ∧ w'.cell? ⟨w.heap.size, 1, none⟩ = some (.int .i64 u) ∧ w'.cell? ⟨b3, o3 + kn, none⟩ = some (.int .i64 pk))
            (first | exact ⟨G0.out, G1.out, G2.out⟩ | exact ⟨f0, f1, e3⟩)
            (first
              | (go_at_call 58; refine C1.out.mono ?_; rintro e w1 ⟨rfl, b1⟩; have BX := Lib.hid ((Below.refl wr.heap.size wr).drew.trans b1); have G0 : Hid (w1.cell? ⟨w.heap.size, 0, none⟩ = some (.int .i64 (tl : Int))) := (BX.out.cell (p := ⟨w.heap.size, 0, none⟩) hlt).trans f0; have G1 : Hid (w1.cell? ⟨w.heap.size, 1, none⟩ = some (.int .i64 u)) := (BX.out.cell (p := ⟨w.heap.size, 1, none⟩) hlt).trans f1; have G2 : Hid (w1.cell? ⟨b3, o3 + kn, none⟩ = some (.int .i64 pk)) := (BX.out.cell (p := ⟨b3, o3 + kn, none⟩) K2.out).trans e3; have BY := Lib.hid (below_up HBB.out BX.out); have V1 := Lib.hid (HV.out.below BX.out); have X1 := Lib.hid (HX.out.below BX.out); have Y1 := Lib.hid (HY.out.below BX.out); clear b1)
              | fail)) | fail
        have q2 := G2.out
        have q0 := G0.out
        have q1 := G1.out
        clear f0 f1 e3 e2 G0 G1 G2 g0 g1 hlt K2 HX HY HV HBB BX C1 H4
        go_wp2_with fail
        (go_region_with (first
          | (go_at_call 59; refine (C2.out _).mono ?_; rintro e w2 ⟨rfl, b2'⟩; have BX2 := Lib.hid ((Below.refl w1.heap.size w1).drew.trans b2'); have BZ := Lib.hid (below_up BY.out BX2.out); have V2 := Lib.hid (V1.out.below BX2.out); have X2 := Lib.hid (X1.out.below BX2.out); have Y2 := Lib.hid (Y1.out.below BX2.out); obtain ⟨⟨q0', q1', qlt⟩, g0', g1'⟩ := V2.out; clear b2')
          | fail))
        all_goals
          have V3 := Lib.hid (V2.out.set (c' := tl + 1) (u' := orI u pk))
          have B3 := Lib.hid ((BZ.out.setCell (p := ⟨w.heap.size, 0, none⟩) (Nat.le_refl _) (.int .i64 ((tl + 1 : Nat) : Int))).setCell (p := ⟨w.heap.size, 1, none⟩) (Nat.le_refl _) (.int .i64 (orI u pk)))
          have X3 := Lib.hid ((X2.out.setCell (c := w.heap.size) (o := 0) (Nat.lt_succ_self _) (.int .i64 ((tl + 1 : Nat) : Int))).setCell (c := w.heap.size) (o := 1) (Nat.lt_succ_self _) (.int .i64 (orI u pk)))
          have Y3 := Lib.hid ((Y2.out.setCell (c := w.heap.size) (o := 0) (Nat.lt_succ_self _) (.int .i64 ((tl + 1 : Nat) : Int))).setCell (c := w.heap.size) (o := 1) (Nat.lt_succ_self _) (.int .i64 (orI u pk)))
          obtain ⟨w3, hw3⟩ : ∃ w3, (w2.setCell ⟨w.heap.size, 0, none⟩ (.int .i64 ((tl : Int) + 1))).setCell ⟨w.heap.size, 1, none⟩ (.int .i64 (orI u pk)) = w3 := ⟨_, rfl⟩
          have hcast : ((tl + 1 : Nat) : Int) = (tl : Int) + 1 := by omega
          rw [hcast, hw3] at V3 B3 X3 Y3
          rw [hw3]
          clear hw3 hcast
          have A4 := Lib.hid (alloc_below w3 (.cells #[.int .i64 (kn : Int)] 3))
          have OX : Hid ((w3.alloc (.cells #[.int .i64 (kn : Int)] 3)).ownsRow (w.heap.size + 1) 3 1 (.slice ax nx cx) T.length ((natL T).map (Value.int .i64))) := by
            have := X3.out.below A4.out
            unfold Own at this
            rw [natL_len] at this
            exact this
          have hsz : w.heap.size + 1 ≤ (w3.alloc (.cells #[.int .i64 (kn : Int)] 3)).heap.size := by have := V3.out.1.2.2; simp; omega
          clear q0 q1 q2 q0' q1' qlt g0' g1'
          have htl12 : T.length ≤ 12 := by rw [HTL.out]; omega
          go_wp2_with (at_builtin; refine wpList_append_own_at _ rfl _ _ 22 rfl (w.heap.size + 1) 3 i0 (.int .i64 0) 1 8 Try.underlying22 hi0 hz0 hz1 hz2 rfl (by decide) (.slice ax nx cx) T.length ((natL T).map (Value.int .i64)) rfl OX.out ⟨w3.heap.size, 0, none⟩ 1 1 [.int .i64 (kn : Int)] rfl rfl (cell_one_new _ _ _) (by simp [Value.oneCell']) (by unfold maxLen; omega) (by omega) hsz ?_; intro v6 w6 hown6 hg6 _ hat6; have hg6' : (w3.alloc (.cells #[.int .i64 (kn : Int)] 3)).grownBy w6 (Value.slice ax nx cx).ownBlock := hg6; obtain ⟨a6, n6, c6, hv6⟩ := rowFormI hown6; subst hv6; have HW6 := Lib.hid hown6; have HG6 := Lib.hid hg6'; have HA6 := Lib.hid hat6; clear hown6 hg6 hg6' hat6)
          have O6 : Hid (Own w6 (w.heap.size + 1) (.slice a6 n6 c6) (natL (T ++ [kn]))) := by
            unfold Hid Own
            rw [natL_snoc, List.length_append, List.map_append, natL_len]
            exact HW6.out
          have hne : Hid ((Value.slice ax nx cx).ownBlock ≠ some w.heap.size) := fun e => by have := (OX.out.lt _ e).1; omega
          have T2 := Lib.hid (grow_two (Y3.out.below A4.out) HSP.out HG6.out HA6.out)
          have V6 := Lib.hid ((V3.out.below A4.out).grown HG6.out hne.out)
          have B6 := Lib.hid (Below.grown (below_up B3.out A4.out) HG6.out (by omega) (fun q hq => by have := (OX.out.lt q hq).1; omega))
          go_wp2
          go_roundw
          case rel =>
            refine ⟨j + 1, _, _, by omega, by go_num, rfl, rfl, ?_, ?_, ?_, ?_, B6⟩
            · rw [HS.out]; exact O6
            · rw [HS.out]; exact Lib.hid T2.out.1
            · exact T2.out.2
            · rw [HS.out]
              show Hid (RndVar _ _ (T ++ [kn]).length (itemsR P (T ++ [kn])))
              rw [List.length_append, HTL.out, HSN.out]
              exact V6
          case measure => simp [intOf]; omega
    · obtain rfl : j = l := by omega
      have X2 : Hid (Own wr w.heap.size (.slice ax nx cx) (natL (FS j).1)) := HX.out.lower (Nat.le_succ _)
      have Y2 : Hid (Own wr w.heap.size (.slice ay ny cy) (natL (FS j).2)) := HY.out.lower (Nat.le_succ _)
      clear hstep hlen HX HY
      go_wp2
      go_ret2
      exact ⟨_, _, rfl, X2.out, Y2.out, HBB.out⟩
end Go.Proofs.Ythfnbnjajcigeaa

/- The contract of the program's GreedyRounds. Condition: the slice reads as integers and is short enough to be counted. -/
namespace Go.Proofs.Ythfnbnjajcigeaa
open Go.RowKit

theorem natL_range (k : Nat) : natL (List.range (k + 1)) = natL (List.range k) ++ [(k : Int)] := by rw [List.range_succ, natL_snoc]
theorem implSelf (i : Int) (W : World) : Calls Try.prog 43 #[.int .i64 i] W fun e w' => e = .returned (.int .i64 i) ∧ W = w' := by
  go_enter Try.func43, Try.ntmps43
  go_wp2
  go_ret
  exact ⟨rfl, rfl⟩

set_option maxRecDepth 100000 in
set_option maxHeartbeats 1600000 in
theorem implOverN (m : Nat) (hm : m ≤ 12) (w : World) :
    Calls Try.prog 42 #[.int .i64 (m : Int), .func (.func 43) #[] #[]] w fun e w' => ∃ v, e = .returned v ∧ Own w' w.heap.size v (natL (List.range m)) ∧ Below w.heap.size w w' := by
  obtain ⟨i0, hi, hz0, hz1, hz2⟩ := info_parts infoIntA
  have HC := Lib.hid (fun i W => implSelf i W)
  have O1 : Hid (Own w w.heap.size (.slice none 0 0) (natL (List.range 0))) := World.ownsRow_nil _ _ _ _
  go_enter Try.func42, Try.ntmps42
  go_wp2
  go_loopw [5, 8] (fun ov iv wr => ∃ i : Nat, i ≤ m ∧ iv = .int .i64 i ∧ Hid (Own wr w.heap.size ov (natL (List.range i))) ∧ Hid (Below w.heap.size w wr)) (fun _ iv _ => m - (intOf iv).toNat)
  case atStart => exact ⟨0, Nat.zero_le _, rfl, O1, Lib.hid (Below.refl _ _)⟩
  case round =>
    clear O1
    obtain ⟨i, hi2, rfl, O2, B2⟩ := hrel
    by_cases hlt : i < m
    · have HST := Lib.hid (natL_range i)
      have hlen : (natL (List.range i)).length = i := by rw [natL_len, List.length_range]
      have O3 := Lib.hid O2.out
      obtain ⟨g, mm, cc, rfl⟩ := O2.out.form
      generalize natL (List.range i) = L at O3 hlen HST
      have i0' : (0 : Int) ≤ (i : Int) := by omega
      have i1 : (i : Int) < (m : Int) := by omega
      clear O2
      go_wp2_with fail
      refine (HC.out _ _).mono ?_
      rintro e w1 ⟨rfl, rfl⟩
      have hown := O3.out
      unfold Own at hown
      have hbs : w.heap.size ≤ wr.heap.size := B2.out.size
      go_wp2_with (at_builtin; refine wpList_append_own _ rfl _ _ 22 rfl w.heap.size 3 i0 (.int .i64 0) 1 8 Try.underlying22 hi hz0 hz1 hz2 rfl (by decide) _ _ _ rfl (hown.alloc _) ⟨wr.heap.size, 0, none⟩ 1 1 [.int .i64 (i : Int)] rfl rfl (cell_one_new _ _ _) (by simp [Value.oneCell']) (by unfold maxLen; omega) (by omega) (by simp; omega) ?_; intro v' w2 hown' hg1 _)
      have hb2 := Below.grown (B2.out.alloc hbs _) hg1 (by simp; omega) (fun j hj => (hown.lt j hj).1)
      go_wp2
      go_roundw
      case rel =>
        refine ⟨i + 1, by omega, by go_num, ?_, Lib.hid hb2⟩
        unfold Hid Own
        rw [HST.out]
        simpa using hown'
      case measure => simp [intOf]; omega
    · obtain rfl : i = m := by omega
      obtain ⟨g, mm, cc, rfl⟩ := O2.out.form
      go_wp2
      go_ret
      exact ⟨_, rfl, O2.out, B2.out⟩

/-- How long a slice is. -/
def lenS : Value → Nat
  | .slice _ n _ => n
  | _ => 0

set_option maxRecDepth 100000 in
set_option maxHeartbeats 3200000 in
theorem implGreedy (n m : Int) (v : Value) (P : List Int) (w : World) (h : IntsAt w v P) (hm : P.length ≤ 1048576) :
    Calls Try.prog 18 #[.int .i64 n, v, .int .i64 m] w (GivesG (greedyR n P m) (roundsB n P m) w) := by
  obtain ⟨l0, hj0, hy0, hy1, hy2⟩ := info_parts infoLstI
  have CR := Lib.hid (implRoundsIn n m v P w h hm)
  have HG : Hid (greedyR n P m = if roundsB n P m = true then greedyF P m.toNat P.length else []) := rfl
  have HB : Hid (roundsB n P m = true → (1 ≤ m ∧ m ≤ 12) ∧ P.length ≤ 12 ∧ ∀ p ∈ P, 0 ≤ p ∧ p ≤ 1023) := fun h => ⟨(rounds_in h).2, (pools_in (rounds_in h).1).2⟩
  have HV := Lib.hid h
  obtain ⟨a, c, rfl, -⟩ := h
  unfold GivesG
  generalize greedyR n P m = G at HG ⊢
  generalize roundsB n P m = rb at CR HG HB ⊢
  cases rb with
  | false =>
    have HE : Hid (G = []) := HG.out
    go_enter Try.func18, Try.ntmps18
    go_wp2_with fail
    refine CR.out.mono ?_
    rintro e w1 ⟨rfl, rfl⟩
    go_wp2
    go_ret2
    rw [HE.out]
    exact ⟨_, [], rfl, GRow.nil _ _ _ (World.ownsRow_nil _ _ _ _), Below.refl _ _⟩
  | true =>
    obtain ⟨⟨m1, m12⟩, hl12, hin⟩ := HB.out rfl
    obtain ⟨M, hM⟩ : ∃ M : Nat, m.toNat = M := ⟨_, rfl⟩
    have hmM : m = (M : Int) := by omega
    subst hmM
    have hM1 : 1 ≤ M := by omega
    have HE : Hid (putA P M [] (List.range P.length) = G) := by
      unfold Hid
      rw [HG.out, if_pos rfl, hM, greedy_put]
    have HNIL := Lib.hid (fun k L => putA_nil P hM1 k L)
    have HLESS := Lib.hid (fun k L => fillC_less P hM1 k L)
    have HFI := Lib.hid (fun L => fillS_in P M L L.length (Nat.le_refl _))
    have HFA := Lib.hid (fun L => fillS_all P M L)
    have CF := Lib.hid (fun (L : List Nat) vi W (hW : IntsAt W (.slice a P.length c) P) (hi : IntsAt W vi (natL L)) (hLP : ∀ k ∈ L, k < P.length) (hl : L.length ≤ 12) => implFill (.slice a P.length c) vi P L M W hW hi hin hLP hl)
    have HRG : Hid (∀ k ∈ List.range P.length, k < P.length) := fun k hk => List.mem_range.1 hk
    have HRL : Hid ((List.range P.length).length ≤ 12) := by unfold Hid; rw [List.length_range]; exact hl12
    have CO := Lib.hid (implOverN P.length hl12 w)
    obtain ⟨p, hpl⟩ : ∃ p, P.length = p := ⟨_, rfl⟩
    have HP := Lib.hid hpl
    rw [hpl] at CO HV CR HE HRG HRL CF hl12 ⊢
    clear hin hM HG HB m1 hpl hm
    generalize List.range p = RG at CO HE HRG HRL
    have B0 := Lib.hid (Below.refl w.heap.size w)
    go_enter Try.func18, Try.ntmps18
    go_wp2_with fail
    refine CR.out.mono ?_
    rintro e w1 ⟨rfl, rfl⟩
    go_wp2_with fail
    refine CO.out.mono ?_
    rintro e w1 ⟨y0, rfl, oy0, by0⟩
    obtain ⟨ay0, ny0, cy0, rfl⟩ := oy0.form
    have OY0 := Lib.hid oy0
    have BY0 := Lib.hid by0
    have G0 := Lib.hid (GRow.nil w1 w.heap.size (.slice none 0 0) (World.ownsRow_nil _ _ _ _))
    clear oy0 by0
    go_wp2
    go_loopw [8, 9] (fun ov yv wr => ∃ (R : List (List Nat)) (L : List Nat) (us : List Value) (rl : Nat), rl + L.length ≤ 12 ∧ R.length = rl ∧ Hid (R ++ putA P M [] L = G) ∧ Hid (∀ k ∈ L, k < p) ∧ Hid (GRow wr w.heap.size ov R us) ∧ Hid (Own wr w.heap.size yv (natL L)) ∧ Hid (Below w.heap.size w wr)) (fun _ yv _ => lenS yv)
    case atStart => exact ⟨[], RG, [], 0, by simpa using HRL.out, rfl, by unfold Hid; rw [List.nil_append]; exact HE.out, HRG, G0, OY0, BY0⟩
    case round =>
      clear HE HRG HRL G0 OY0 BY0 B0
      obtain ⟨R, L, us, rl, hll, hrl, HE, HRG, HGR, HO, HBB⟩ := hrel
      obtain ⟨ay, cy, hyv, -⟩ := id HO.out.reads
      rw [natL_len] at hyv
      subst hyv
      obtain ⟨ao, co, hov, -⟩ := HGR.out.form
      rw [hrl] at hov
      subst hov
      cases L with
      | nil =>
        have HE2 : Hid (R = G) := by have := HE.out; unfold putA at this; unfold Hid; simpa using this
        rw [List.length_nil]
        go_wp2
        go_ret2
        rw [← HE2.out]
        exact ⟨_, us, rfl, HGR.out, HBB.out⟩
      | cons k L =>
        have hnil := HNIL.out k L
        have hless := HLESS.out k L
        have hfi := HFI.out (k :: L)
        rw [HFA.out (k :: L)] at hfi
        have C1 := Lib.hid (CF.out (k :: L) (.slice ay (k :: L).length cy) wr (HV.out.below HBB.out) HO.out.reads HRG.out (by omega))
        unfold Fills at C1
        generalize fillC P M [] (k :: L) = TF at hnil hless hfi C1
        obtain ⟨T, F⟩ := TF
        simp only at hnil hless hfi C1
        have HE2 : Hid ((R ++ [T]) ++ putA P M [] F = G) := by
          unfold Hid
          rw [← HE.out, hnil]
          simp
        have HRG2 : Hid (∀ x ∈ F, x < p) := fun x hx => HRG.out x (hfi.2.2 x hx)
        rw [List.length_cons] at hll C1 ⊢
        generalize L.length = ll at hll hless C1 ⊢
        have hpos : (0 : Int) < ((ll + 1 : Nat) : Int) := by omega
        have hlF : F.length ≤ ll := hless
        clear hnil hless hfi HE HRG
        go_wp2_with fail
        refine C1.out.mono ?_
        rintro e w1 ⟨x, y, rfl, ox, oy, b1⟩
        obtain ⟨ax, nx, cx, hxf⟩ := ox.form
        obtain ⟨ay2, cy2, hyf, -⟩ := id oy.reads
        rw [natL_len] at hyf
        subst hxf hyf
        have hsr : w.heap.size ≤ wr.heap.size := HBB.out.size
        have A4 := Lib.hid (alloc_below w1 (.cells #[.slice ax nx cx] 22))
        have HOX := Lib.hid ((HGR.out.below b1).below A4.out)
        have hx4 := (ox.below A4.out).lower hsr
        have hy4 := oy.below A4.out
        have hS1 : Hid (∀ i (h' : i < us.length), Sep us[i] (.slice ax nx cx)) := fun i h' b e1 e2 => by
          have h1 := ((HGR.out.own i (HGR.out.len ▸ h') h').blk b e1).2
          have h2 := (ox.blk b e2).1
          omega
        have hS2 : Hid (Sep (.slice ax nx cx) (.slice ao rl co)) := fun b e1 e2 => by
          have h1 := (owns_blk HGR.out.row b e2).2
          have h2 := (ox.blk b e1).1
          omega
        have hS3 : Hid (Sep (.slice ay2 F.length cy2) (.slice ao rl co)) := fun b e1 e2 => by
          have h1 := (owns_blk HGR.out.row b e2).2
          have h2 := (oy.blk b e1).1
          omega
        have HX4 := Lib.hid hx4
        have HY4 := Lib.hid (hy4.lower hsr)
        have OXR : Hid ((w1.alloc (.cells #[.slice ax nx cx] 22)).ownsRow w.heap.size 22 1 (.slice ao rl co) rl us) := by
          have := HOX.out.row
          rw [hrl] at this
          exact this
        have hb1 := Lib.hid (below_up HBB.out b1)
        have hsz2 : w.heap.size ≤ (w1.alloc (.cells #[.slice ax nx cx] 22)).heap.size := by have := hb1.out.size; simp; omega
        clear ox oy b1 hx4 hy4 HGR HO C1
        go_wp2_with (at_builtin; refine wpList_append_own_at _ rfl _ _ 23 rfl w.heap.size 22 l0 (.slice none 0 0) 1 24 Try.underlying23 hj0 hy0 hy1 hy2 rfl (by decide) (.slice ao rl co) rl us rfl OXR.out ⟨w1.heap.size, 0, none⟩ 1 1 [.slice ax nx cx] rfl rfl (one_cells6 (cell_at_alloc6 _ _ _ rfl)) (by simp [Value.oneCell']) (by unfold maxLen; omega) (by omega) hsz2 ?_; intro v5 w5 hown5 hg5 _ hat5; have HG5 := Lib.hid (show (w1.alloc (.cells #[.slice ax nx cx] 22)).grownBy w5 (Value.slice ao rl co).ownBlock from hg5); obtain ⟨a5, n5, c5, hv5⟩ := rowFormI hown5; subst hv5; have HO5 := Lib.hid hown5; have HA5 := Lib.hid hat5; clear hown5 hg5 hat5)
        have HO6 : Hid (GRow (w1.alloc (.cells #[.slice ax nx cx] 22)) w.heap.size (.slice ao rl co) R us) := HOX
        have R5 := Lib.hid (HO6.out.push (s := T) HX4.out hS1.out hS2.out HG5.out (by rw [hrl]; exact HO5.out) HA5.out)
        have B5 := Lib.hid (Below.grown (below_up hb1.out A4.out) HG5.out hsz2 (fun q hq => by have := (OXR.out.lt q hq).1; omega))
        have Y5 := Lib.hid (HY4.out.only (Only.of_grown HG5.out) (fun b e e2 => hS3.out b e e2))
        go_wp2
        go_roundw
        case rel => exact ⟨R ++ [T], F, _, rl + 1, by omega, by rw [List.length_append, hrl]; rfl, HE2, HRG2, R5, Y5, B5⟩
        case measure => simp [lenS]; omega
end Go.Proofs.Ythfnbnjajcigeaa

/- The contracts of slices.Max at integers, and of the program's DaysFor. Conditions: for slices.Max: a list with a number; else the slice reads as integers and is short enough to be counted. -/
namespace Go.Proofs.Ythfnbnjajcigeaa
open Go.RowKit

set_option maxRecDepth 100000 in
set_option maxHeartbeats 1600000 in
theorem implMax (v : Value) (L : List Int) (w : World) (h : IntsAt w v L) (h1 : 1 ≤ L.length) (hm : L.length ≤ 1000) :
    Calls Try.prog 49 #[v] w fun e w' => e = .returned (.int .i64 (mostF (L.getD 0 0) L L.length)) ∧ w = w' := by
  obtain ⟨a, c, rfl, h⟩ := h
  rcases h with h0 | ⟨b, o, rfl, hc⟩
  · rw [h0] at h1; simp at h1
  have e0 := hc 0 (by omega)
  have H := Lib.hid hc
  have hz : L.getD 0 0 = L[0] := getD_at 0 (by omega)
  rw [hz]
  have HS : Hid (∀ (i : Nat) (h : i < L.length), mostF L[0] L (i + 1) = if mostF L[0] L i < L[i] then L[i] else mostF L[0] L i) := fun i h => by
    rw [← getD_at 0 h]
    rfl
  have H1 : Hid (mostF L[0] L 1 = L[0]) := by
    have := HS.out 0 (by omega)
    rw [Nat.zero_add] at this
    rw [this]
    show (if L[0] < L[0] then _ else _) = _
    rw [if_neg (by omega)]
    rfl
  generalize L[0] = z at e0 HS H1 ⊢
  generalize mostF z L = f at HS H1 ⊢
  obtain ⟨n, hn⟩ : ∃ n, L.length = n := ⟨_, rfl⟩
  have HN := Lib.hid hn
  rw [hn] at h1 hm ⊢
  have n1 : ¬ (n : Int) < 1 := by omega
  rw [Nat.add_zero] at e0
  clear hc hn hz
  go_enter Try.func49, Try.ntmps49
  go_wp2
  clear n1
  go_loop [3, 4] (fun mv iv => ∃ (i : Nat) (m : Int), 1 ≤ i ∧ i ≤ n ∧ iv = .int .i64 (i : Int) ∧ mv = .int .i64 m ∧ Hid (f i = m)) (fun _ iv => n - (intOf iv).toNat)
  case atStart => exact ⟨1, z, Nat.le_refl _, h1, rfl, rfl, H1⟩
  case round =>
    clear H1 e0
    obtain ⟨i, m, i1, hi, rfl, rfl, HF⟩ := hrel
    by_cases hlt : i < n
    · have hil : i < L.length := by rw [HN.out]; exact hlt
      have e1 := H.out i hil
      have hs := HS.out i hil
      rw [HF.out] at hs
      generalize L[i] = x at e1 hs
      have HM := Lib.hid hs
      have i0' : (0 : Int) ≤ (i : Int) := by omega
      have i1' : (i : Int) < (n : Int) := by omega
      clear hil hs
      by_cases hmx : m < x
      · have HM2 : Hid (f (i + 1) = x) := by unfold Hid; rw [HM.out, if_pos hmx]
        go_wp2
        all_goals
          go_roundw
          case rel => exact ⟨i + 1, x, by omega, by omega, by go_num, by first | rfl | (simp; omega) | (congr 1; omega), HM2⟩
          case measure => simp [intOf]; omega
      · have HM2 : Hid (f (i + 1) = m) := by unfold Hid; rw [HM.out, if_neg hmx]
        go_wp2
        all_goals
          go_roundw
          case rel => exact ⟨i + 1, m, by omega, by omega, by go_num, by first | rfl | (simp; omega) | (congr 1; omega), HM2⟩
          case measure => simp [intOf]; omega
    · obtain rfl : i = n := by omega
      go_wp2
      go_ret
      exact ⟨ret_int HF.out.symm, rfl⟩

set_option maxRecDepth 100000 in
set_option maxHeartbeats 1600000 in
theorem implDays (n m d : Int) (v : Value) (P : List Int) (w : World) (h : IntsAt w v P) (hm : P.length ≤ 1048576) :
    Calls Try.prog 30 #[.int .i64 n, v, .int .i64 m, .int .i64 d] w fun e w' => e = .returned (.int .i64 (daysI n P m d)) ∧ Below w.heap.size w w' := by
  have CG := Lib.hid (implGreedy n m v P w h hm)
  have HD : Hid (daysI n P m d = if (roundsB n P m && (decide (1 ≤ d) && decide (d ≤ 24))) = true then ((ceilN (greedyR n P m).length d.toNat : Nat) : Int) else -1) := rfl
  have hg := greedyR_len n P m
  obtain ⟨a, c, rfl, -⟩ := h
  unfold GivesG at CG
  generalize daysI n P m d = r at HD ⊢
  generalize greedyR n P m = G at CG HD hg
  generalize roundsB n P m = rb at CG HD
  cases rb with
  | false =>
    have HE : Hid (-1 = r) := HD.out.symm
    go_enter Try.func30, Try.ntmps30
    go_wp2_with fail
    refine CG.out.mono ?_
    rintro e w1 ⟨ov, us, rfl, hgr, bb⟩
    have B1 := Lib.hid bb
    clear hgr bb
    go_wp2
    go_ret
    exact ⟨ret_int HE.out, B1.out⟩
  | true =>
    by_cases hd1 : d < 1
    · have HE : Hid (-1 = r) := by unfold Hid; rw [HD.out, decide_eq_false (show ¬ 1 ≤ d by omega)]; rfl
      have q1 : decide (d < 1) = true := decide_eq_true hd1
      go_enter Try.func30, Try.ntmps30
      go_wp2_with fail
      refine CG.out.mono ?_
      rintro e w1 ⟨ov, us, rfl, hgr, bb⟩
      have B1 := Lib.hid bb
      clear hgr bb
      go_wp2
      go_ret
      exact ⟨ret_int HE.out, B1.out⟩
    · have q1 : decide (d < 1) = false := decide_eq_false hd1
      by_cases hd2 : 24 < d
      · have HE : Hid (-1 = r) := by unfold Hid; rw [HD.out, decide_eq_false (show ¬ d ≤ 24 by omega), Bool.and_false]; rfl
        have q2 : decide (24 < d) = true := decide_eq_true hd2
        go_enter Try.func30, Try.ntmps30
        go_wp2_with fail
        refine CG.out.mono ?_
        rintro e w1 ⟨ov, us, rfl, hgr, bb⟩
        have B1 := Lib.hid bb
        clear hgr bb
        go_wp2
        go_ret
        exact ⟨ret_int HE.out, B1.out⟩
      · have q2 : decide (24 < d) = false := decide_eq_false hd2
        obtain ⟨D, hD⟩ : ∃ D : Nat, d = (D : Int) := ⟨d.toNat, by omega⟩
        subst hD
        have HE : Hid ((ceilN G.length D : Int) = r) := by
          unfold Hid
          rw [HD.out, decide_eq_true (show 1 ≤ (D : Int) by omega), decide_eq_true (show (D : Int) ≤ 24 by omega)]
          rfl
        have CC := Lib.hid (fun W => implCeil G.length D (by omega) (by omega) (by omega) W)
        clear HD
        go_enter Try.func30, Try.ntmps30
        go_wp2_with fail
        refine CG.out.mono ?_
        rintro e w1 ⟨ov, us, rfl, hgr, bb⟩
        have B1 := Lib.hid bb
        obtain ⟨ao, co, rfl, -⟩ := hgr.form
        clear hgr bb
        go_wp2_with fail
        refine (CC.out _).mono ?_
        rintro e w2 ⟨rfl, rfl⟩
        go_wp2
        go_ret
        exact ⟨ret_int HE.out, B1.out⟩
end Go.Proofs.Ythfnbnjajcigeaa

/- The contract of the program's UsesOf. Condition: the slice reads as integers and is short enough to be counted. -/
namespace Go.Proofs.Ythfnbnjajcigeaa
open Go.RowKit Go.Shelf
attribute [local go_sem] Oper.semAt_some

set_option maxRecDepth 100000 in
set_option maxHeartbeats 2000000 in
theorem itemsB_in (F : Fence) (n : Nat) (hf : F.fn 61) (hf2 : F.fn 40) (hro : F.round = none) (hn : 1 ≤ n) (l b : Nat) (s : Int) (hs : s ≤ 9223372036854775807) (J Jx : List Nat → World → Prop)
    (hY : ∀ pre x W, J pre W → s.toNat.testBit x = true → pre.length < 63 → YieldAt F (n - 1) Try.prog l #[.int .i64 (x : Nat)] W fun e W' =>
      (e = .returned (.bool true) ∧ J (pre ++ [x]) W' ∧ SameBlk b W W') ∨ (e = .returned (.bool false) ∧ Jx (pre ++ [x]) W'))
    (W : World) (hb : Boxed W b 3 (.int .i64 s)) (h0 : J [] W) :
    CallsIn F n Try.prog 61 #[.func (.yield l) #[] #[], .pointer (some ⟨b, 0, none⟩)] W fun e W' => (∃ v, e = .returned v) ∧
      ((∃ ys, ys = itsL s ∧ J ys W') ∨ (∃ pre, pre <+: itsL s ∧ Jx pre W')) := by
  have hc0 := hb.cell
  refine callsIn_of_wp Try.func61 rfl hf ?_ hro
  simp only [Try.ntmps61, List.size_toArray, List.length_cons, List.length_nil, Nat.reduceAdd, Nat.reduceSub, Array.replicate_succ, Array.replicate_zero, List.push_toArray, List.append_toArray, List.nil_append, List.cons_append]
  gi_wp2
  gi_loopw [3] (fun v wr => ∃ i : Nat, v = .int .i64 i ∧ i ≤ 63 ∧ Boxed wr b 3 (.int .i64 s) ∧ J (itsK s i) wr) (fun v _ => 63 - (intOf v).toNat)
  case atStart => exact ⟨0, rfl, by omega, hb, h0⟩
  case round =>
    obtain ⟨i, rfl, hi, hbi, hJ⟩ := hrel
    have hci := hbi.cell
    have y0 : (0 : Int) ≤ i := by omega
    have y1 : (i : Int) ≤ 64 := by omega
    by_cases hpos : 0 < s / 2 ^ i
    · obtain ⟨s0, hi2⟩ := shr_in hs hi hpos
      have HH := Lib.hid (fun W => hasItem_in F (n - 1) hf2 hro s i s0 hs hi2 W)
      cases hbit : s.toNat.testBit i with
      | true =>
        obtain ⟨fn, tmps, assign, body, hy, hR⟩ := hY _ i _ hJ hbit (Nat.lt_of_le_of_lt (itsK_len s i) (by omega))
        rw [hbit] at HH
        gi_wp2_with (gi_at_call 40; refine (HH.out _).mono ?_; rintro e w' ⟨rfl, rfl⟩)
        refine hR.mono ?_
        rintro e W3 (⟨rfl, hJ3, hk3⟩ | ⟨rfl, hJx3⟩)
        · gi_wp2
          go_roundw
          case rel => exact ⟨i + 1, by go_num, by omega, Eq.trans hk3 hbi, by rw [itsK_yes hbit]; exact hJ3⟩
          case measure => simp [intOf]; omega
        · gi_wp2
          refine bodyPost_ret (results_none rfl _ _ _) rfl ?_
          exact ⟨⟨_, rfl⟩, .inr ⟨_, by rw [← itsK_yes hbit]; exact itsK_pre (by omega), hJx3⟩⟩
      | false =>
        rw [hbit] at HH
        gi_wp2_with (gi_at_call 40; refine (HH.out _).mono ?_; rintro e w' ⟨rfl, rfl⟩)
        refine ⟨fun _ h => (by cases h), ?_⟩
        gi_wp2
        go_roundw
        case rel => exact ⟨i + 1, by go_num, by omega, hbi, by rw [itsK_no hbit]; exact hJ⟩
        case measure => simp [intOf]; omega
    · have HA := Lib.hid (itsK_all hi hpos)
      gi_wp2
      go_end0
      exact ⟨⟨_, rfl⟩, .inl (by rw [← HA.out]; exact hJ)⟩

/-- An item of a set. -/
abbrev ItemOf (s : Int) := { x : Nat // s.toNat.testBit x = true }
def items0 {s : Int} (l : List (ItemOf s)) : List Nat := l.map (·.1)
theorem items0_snoc {s : Int} (l : List (ItemOf s)) (x : ItemOf s) : items0 (l ++ [x]) = items0 l ++ [x.1] := by simp [items0]
theorem items0_len {s : Int} (l : List (ItemOf s)) : (items0 l).length = l.length := by simp [items0]

/-- The value that itemsOf returns yields the items of the set and no others, in their order. -/
theorem itemsB_stops (F : Fence) (n : Nat) (hf : F.fn 61) (hf2 : F.fn 40) (hro : F.round = none) (hn : 1 ≤ n) (b : Nat) (s : Int) (hs : s ≤ 9223372036854775807) (w : World) (hb : Boxed w b 3 (.int .i64 s)) :
    SeqStopsK F n Try.prog 61 #[.pointer (some ⟨b, 0, none⟩)] (fun x : ItemOf s => #[Value.int .i64 (x.1 : Nat)]) (SameBlk b) (fun ys => items0 ys = itsL s) (fun pre => items0 pre <+: itsL s) 63 w := fun l J Jx W hW _ _ hY h0 => by
  refine (itemsB_in F n hf hf2 hro hn l b s hs (fun pre V => ∃ q : List (ItemOf s), items0 q = pre ∧ J q V) (fun pre V => ∃ q : List (ItemOf s), items0 q = pre ∧ Jx q V) ?_ W ((hW.block b hb.lt).trans hb) ⟨[], rfl, h0⟩).mono ?_
  · rintro pre x V ⟨q, rfl, hj⟩ hx hl
    rw [items0_len] at hl
    refine (hY q ⟨x, hx⟩ V hj hl).mono ?_
    rintro e V' (⟨he, hj', hk⟩ | ⟨he, hj'⟩)
    · exact .inl ⟨he, ⟨_, items0_snoc _ _, hj'⟩, hk⟩
    · exact .inr ⟨he, ⟨_, items0_snoc _ _, hj'⟩⟩
  · rintro e V ⟨hv, (⟨ys, rfl, q, hq, hj⟩ | ⟨pre, hp, q, rfl, hj⟩)⟩
    · exact ⟨hv, .inl ⟨q, hq, hj⟩⟩
    · exact ⟨hv, .inr ⟨q, hp, hj⟩⟩

/-! ### the marks that ranges over functions leave among the deferred calls -/
def markOf (D : Nat) : Deferred := { target := .collected D, args := #[] }
/-- A function that has ranged over functions leaves: what holds of all worlds on the way holds at the end. -/
theorem leaves_marks {F : Fence} {n : Nat} {P : Program} {fn : Func} {tmps : Array Value} {R : Ending → World → Prop} (B : Nat) (I : World → Prop)
    (hI : ∀ (W : World) (D : Nat), B ≤ D → I W → W.heap[D]? = some (.deferred (some [])) → I (W.putObj D (.deferred none)))
    (hend : ∀ W, I W → ∃ v, (results fn tmps).run P W = .ok v W ∧ R (.returned v) W) :
    ∀ (Ds : List Nat) (W : World), Ds.Nodup → (∀ D ∈ Ds, B ≤ D ∧ W.heap[D]? = some (.deferred (some []))) → I W → LeavesInM F n P fn tmps R (Ds.map markOf) .returning W
  | [], W, _, _, h => hend W h
  | D :: Ds, W, hn, hD, h => by
    have h0 := hD D (by simp)
    rw [List.nodup_cons] at hn
    refine ⟨by simp, .inl ⟨D, _, rfl, run_takeDeferred h0.2, ?_⟩⟩
    refine leaves_marks B I hI hend Ds _ hn.2 (fun D' hD' => ⟨(hD D' (by simp [hD'])).1, ?_⟩) (hI W D h0.1 h h0.2)
    have hne : D' ≠ D := fun e => hn.1 (e ▸ hD')
    rw [World.putObj_heap_other (by omega)]
    exact (hD D' (by simp [hD'])).2

theorem wpListIn_make_all {F : Fence} {n : Nat} {P : Program} (w : World) {ops : Array Oper} {rest : List Oper} {o : Oper} {a : Act} {Q : Exit → Act → World → Prop}
    (hg : o.guard = none) (l c : Operand) (t : TypeId) (hop : o.op = Op.makeSlice t l c)
    (base : Nat) (e : TypeId) (i : TypeInfo) (z : Value) (size : Nat) (h1 : P.underlying t = some (.slice e)) (h2 : P.info? e = some i) (h3 : i.zero = some z) (h4 : i.size = size)
    (kl kc : IntKind) (L C : Int) (m : Nat) (hl : a.eval l = .int kl L) (hc : a.eval c = .int kc C) (hL : L = (m : Int)) (hC : C = (m : Int)) (b2 : i.bytes * m ≤ 281474976710656) (b3 : m ≤ maxLen) (b4 : base ≤ w.heap.size)
    (hK : ∀ w', w'.ownsRow base e size (.slice (some ⟨w.heap.size, 0, none⟩) m m) m (madeCells z.cells (m * size)).toList → w.grownBy w' none → wpListIn F n P ops Q rest (a.put o.dst (.slice (some ⟨w.heap.size, 0, none⟩) m m)) w') :
    wpListIn F n P ops Q (o :: rest) a w := by
  refine wpListIn_plain hg fun K hK' => ?_
  obtain ⟨w', hrun, r1, r2⟩ := run_make_full (P := P) w base t e i z size h1 h2 h3 h4 kl kc m b2 b3 b4
  subst hL
  subst hC
  unfold Oper.wpIn
  refine ⟨?_, ?_⟩
  · simp [Oper.about, hop]
  · rw [Oper.semAt_plain F _ _ (by rw [hop]; intro c hc'; cases hc')]
    simp [execOp, hop, hl, hc, hrun, Result.andThen]
    exact hK' _ _ (hK w' r1 r2)

/-- What the loops keep: the variable with the list of uses, which the call owns. -/
def UsesI (w : World) (b N : Nat) (L : List Int) (V : World) : Prop :=
  (∃ v, Boxed V b 22 v ∧ V.ownsRow w.heap.size 3 1 v L.length (L.map (Value.int .i64)) ∧ (v = .slice (some ⟨w.heap.size, 0, none⟩) N N ∧ L.length = N)) ∧ Below w.heap.size w V
theorem usesI_own {β : Type} {w : World} {b N : Nat} {f : β → List Int} {B : Nat} (hB : w.heap.size ≤ B) : OwnFrom B (fun (s : β) V => UsesI w b N (f s) V) :=
  OwnFrom.and (_root_.Go.Own.from (holdsRow_own w.heap.size b 22 3 1 (fun s => (f s).length) (fun s => (f s).map (Value.int .i64)) (fun s v => v = .slice (some ⟨w.heap.size, 0, none⟩) N N ∧ (f s).length = N)) _) (ownFrom_below (Nat.le_refl _) hB)
theorem UsesI.mark {w : World} {b N D : Nat} {L : List Int} {W : World} (h : UsesI w b N L W) (hD : w.heap.size ≤ D) (h0 : W.heap[D]? = some (.deferred (some []))) : UsesI w b N L (W.putObj D (.deferred none)) :=
  usesI_own (β := Unit) (f := fun _ => L) (Nat.le_refl _) () W _ (some D) h (grownBy_putObj' W D (.deferred none)) (fun r e => by cases e; exact ⟨hD, _, h0, rfl⟩)

set_option maxRecDepth 100000 in
set_option maxHeartbeats 4000000 in
theorem usesYes (n : Int) (v : Value) (P : List Int) (w : World) (h : IntsAt w v P) (hm : P.length ≤ 1048576) (hp : poolsB n P = true) :
    CallsIn Fence.wide 6 Try.prog 23 #[.int .i64 n, v] w (ListI (usesL n.toNat P) w) := by
  obtain ⟨i0, hi, hz0, hz1, hz2⟩ := info_parts infoIntA
  have CP := Lib.hid (callsIn_wide (n := 5) |>.2 (implPoolsOk n v P w h (by unfold maxLen; omega)))
  rw [hp] at CP
  obtain ⟨N, hN⟩ : ∃ N : Nat, n = (N : Int) := ⟨n.toNat, by have := (pools_in hp).1; omega⟩
  subst hN
  obtain ⟨⟨n1, n10⟩, hl12, hin⟩ := pools_in hp
  have H := Lib.hid h
  obtain ⟨a, c, rfl, -⟩ := h
  rw [Int.toNat_natCast]
  obtain ⟨p, hpl⟩ : ∃ p, P.length = p := ⟨_, rfl⟩
  rw [hpl] at H CP hl12 ⊢
  refine callsIn_of_wp_marks Try.func23 rfl trivial ?_ rfl
  simp only [Try.ntmps23, List.size_toArray, List.length_cons, List.length_nil, Nat.reduceAdd, Nat.reduceSub, Array.replicate_succ, Array.replicate_zero, List.push_toArray, List.append_toArray, List.nil_append, List.cons_append]
  gi_wp2_with (first
    | (refine ⟨trivial, ?_⟩; gi_at_call 46; refine CP.out.mono ?_; rintro e w1 ⟨rfl, rfl⟩)
    | (gi_at_make; refine wpListIn_make_all _ rfl _ _ 22 rfl w.heap.size 3 i0 (.int .i64 0) 1 Try.underlying22 hi hz0 hz1 .i64 .i64 _ _ N rfl rfl rfl rfl (by rw [hz2]; omega) (by unfold maxLen; omega) (Nat.le_refl _) ?_; intro w1 hown hg))
  have hw1 := (hown.lt w.heap.size rfl).2
  have hB1 : Below w.heap.size w w1 := Below.grown (Below.refl _ _) hg (Nat.le_refl _) (fun k e => by cases e)
  have bx := Boxed.new w1 22 (.slice (some ⟨w.heap.size, 0, none⟩) N N)
  have hrow : w1.ownsRow w.heap.size 3 1 (.slice (some ⟨w.heap.size, 0, none⟩) N N) (usesAt P N 0).length ((usesAt P N 0).map (Value.int .i64)) := by
    have : (madeCells (Value.int .i64 0).cells (N * 1)).toList = (usesAt P N 0).map (Value.int .i64) := by
      rw [usesAt_zero]
      simp [madeCells, Value.cells, Nat.mod_one]
      apply List.ext_getElem <;> simp
    rw [← this, usesAt_len]
    exact hown
  have HI0 : UsesI w w1.heap.size N (usesAt P N 0) (w1.alloc (.cells #[.slice (some ⟨w.heap.size, 0, none⟩) N N] 22)) := ⟨⟨_, bx, owns_below hrow (alloc_below _ _), rfl, usesAt_len _ _ _⟩, below_up hB1 (alloc_below _ _)⟩
  have HIT := Lib.hid (fun (j : Nat) (hj : j < P.length) => (show (0 ≤ P.getD j 0 ∧ P.getD j 0 ≤ 1023) ∧ P.getD j 0 < 2 ^ N by
    have hm : P.getD j 0 ∈ P := by rw [getD_at 0 hj]; exact List.getElem_mem hj
    refine ⟨hin _ hm, ?_⟩
    unfold poolsB at hp
    rw [Bool.and_eq_true, List.all_eq_true] at hp
    have := hp.2 _ hm
    unfold poolB topI at this
    rw [Int.toNat_natCast] at this
    simp only [Bool.and_eq_true, decide_eq_true_eq] at this
    omega))
  have HSTEP := Lib.hid (fun (j : Nat) (hj : j < P.length) => uses_step (P := P) (N := N) (j := j) (by omega) (HIT.out j hj).1.1 (HIT.out j hj).1.2)
  have HUB := Lib.hid (fun (j i : Nat) => useN_le P i j)
  have HALL := Lib.hid (usesAt_all P N)
  have HP := Lib.hid hpl
  rw [hpl] at HIT HSTEP
  clear hown hg hrow bx hB1 CP hp hin hpl
  refine wpIn_loop (fun a' V => ∃ (j : Nat) (Ds : List Nat) (u7 u8 u18 u19 u20 u21 u22 u23 u24 u25 u26 u27 u28 u29 u30 : Value), a' = { tmps := #[.int .i64 (N : Int), .slice a p c, undef, undef, .slice none 0 0, .pointer (some ⟨w1.heap.size, 0, none⟩), undef, u7, u8, .int .i64 (N : Int), .slice a p c, .bool true, .bool false, .int .i64 (N : Int), .slice (some ⟨w.heap.size, 0, none⟩) N N, .slice a p c, .int .i64 (p : Int), .int .i64 (j : Int), u18, u19, u20, u21, u22, u23, u24, u25, u26, u27, u28, u29, u30, undef], defers := Ds.map markOf } ∧ j ≤ p ∧ (Ds.Nodup ∧ ∀ D ∈ Ds, w.heap.size ≤ D ∧ V.heap[D]? = some (.deferred (some []))) ∧ UsesI w w1.heap.size N (usesAt P N j) V) (fun a' _ => p - (intOf (a'.tmps.getD 17 undef)).toNat) ?start ?round
  case start => exact ⟨0, [], undef, undef, undef, undef, undef, undef, undef, undef, undef, undef, undef, undef, undef, undef, undef, rfl, Nat.zero_le _, ⟨List.nodup_nil, fun D h => by cases h⟩, HI0⟩
  case round =>
    clear HI0
    rintro a' V ⟨j, Ds, u7, u8, u18, u19, u20, u21, u22, u23, u24, u25, u26, u27, u28, u29, u30, rfl, hj, hDs, hU⟩
    have HU := Lib.hid hU
    have HD := Lib.hid hDs
    clear hU hDs
    by_cases hjp : j < p
    · have j0 : (0 : Int) ≤ (j : Int) := by omega
      have j1 : (j : Int) < (p : Int) := by omega
      have hjP : j < P.length := by rw [HP.out]; exact hjp
      obtain ⟨⟨s0, s1⟩, sN⟩ := HIT.out j hjp
      have hst := HSTEP.out j hjp
      obtain ⟨a3, c3, hv3, hc3⟩ := H.out.below HU.out.2
      injection hv3 with ev1 ev2 ev3
      subst ev1 ev3
      rcases hc3 with hc3 | ⟨b3, o3, hb3, hc3⟩
      · rw [hc3] at hjP; simp at hjP
      subst hb3
      have e3 := hc3 j hjP
      have hgd : P.getD j 0 = P[j] := getD_at 0 hjP
      rw [hgd] at s0 s1 sN hst
      generalize P[j] = s at e3 s0 s1 sN hst
      have HST := Lib.hid hst
      clear hc3 hgd hst ev2 hjP
      gi_wp2_with (refine ⟨trivial, ?_⟩; gi_at_call 47; refine (itemsOf_in Fence.wide _ trivial rfl _ _).mono ?_; rintro e w' ⟨rfl, rfl⟩)
      have bI := Boxed.new V 3 (.int .i64 s)
      have HDV : Hid (∀ D ∈ Ds, D < V.heap.size ∧ D ≠ w.heap.size) := fun D hD => by
        have h1 := HD.out.2 D hD
        refine ⟨(Array.getElem?_eq_some_iff.1 h1.2).1, fun e => ?_⟩
        obtain ⟨v, -, hr, hv, -⟩ := HU.out.1
        subst hv
        rcases hr.2 with ⟨e2, -⟩ | ⟨g, cap, cur, e2, -, hgb, -⟩
        · cases e2
        · injection e2 with e3 e4 e5
          injection e3 with e3
          injection e3 with e3
          rw [← e3, ← e, h1.2] at hgb
          cases hgb
      have HUA : UsesI w w1.heap.size N (usesAt P N j) (V.alloc (.cells #[.int .i64 s] 3)) := usesI_own (β := Unit) (f := fun _ => usesAt P N j) (Nat.le_refl _) () V _ none HU.out (World.grownBy_alloc V _ none) (fun r e => by cases e)
      have hVs := HU.out.2.size
      have hbV : w1.heap.size < V.heap.size := by obtain ⟨v, hb, -⟩ := HU.out.1; exact hb.lt
      refine wpIn_rangeFunc_ownF rfl (by omega) (gf := 61) (lb := #[.pointer (some ⟨V.heap.size, 0, none⟩)]) rfl trivial (enters_of Try.func61 (by kernel_rfl) rfl)
        (itemsB_stops Fence.wide 5 trivial trivial rfl (by omega) V.heap.size s (by omega) _ bI) (fun h k => sameBlk_t h k) (sameBlk_b (by simp)) (Below.refl _ _) (fun _ => rfl)
        (fun pre W => UsesI w w1.heap.size N (addIts (usesAt P N j) (items0 pre)) W ∧ ∀ D ∈ Ds, w.heap.size ≤ D ∧ W.heap[D]? = some (.deferred (some [])))
        (fun _ _ _ => False)
        (OwnFrom.and (usesI_own (f := fun pre => addIts (usesAt P N j) (items0 pre)) (by simp; omega)) (fun _ X Y row hs hg hr D hD => ⟨(hs D hD).1, (hg.block D (Array.getElem?_eq_some_iff.1 (hs D hD).2).1 (fun e => by have := (hr D e.symm).1; have := (HDV.out D hD).1; simp at *; omega)).trans (hs D hD).2⟩))
        (fun _ _ _ _ _ hs _ _ => hs)
        ⟨HUA, fun D hD => ⟨(HD.out.2 D hD).1, ((alloc_below V _).block D (HDV.out D hD).1).trans (HD.out.2 D hD).2⟩⟩
        (fun x => { tmps := #[.int .i64 (N : Int), .slice (some ⟨b3, o3, none⟩) p c, undef, undef, .slice none 0 0, .pointer (some ⟨w1.heap.size, 0, none⟩), undef, .int .i64 s, .int .i64 (x.1 : Nat), .int .i64 (N : Int), .slice (some ⟨b3, o3, none⟩) p c, .bool true, .bool false, .int .i64 (N : Int), .slice (some ⟨w.heap.size, 0, none⟩) N N, .slice (some ⟨b3, o3, none⟩) p c, .int .i64 (p : Int), .int .i64 (j : Int), .bool true, .pointer (some ⟨b3, o3 + j, none⟩), .int .i64 s, .int .i64 s, .func (.func 61) #[] #[.pointer (some ⟨V.heap.size, 0, none⟩)], .int .i64 (x.1 : Nat), u24, u25, u26, u27, u28, u29, u30, undef], defers := [] }) ?assign ?body ?done ?stop
      case assign =>
        intro l x W K hK
        gi_wp2
        exact hK
      case body =>
        rintro l pre x W ⟨hU2, hD2⟩ hlen
        have HU2 := Lib.hid hU2
        have HD2 := Lib.hid hD2
        clear hU2 hD2
        obtain ⟨⟨v, bS, oS, hv, hL⟩, hB⟩ := HU2.out
        subst hv
        have hx := below_top s0 sN x.2
        have e0 := bS.cell
        have hLL : (addIts (usesAt P N j) (items0 pre)).length = N := hL
        have hat := addIts_at (items0 pre) (usesAt P N j) x.1 (by rw [usesAt_len]; exact hx)
        rw [usesAt_in P N j x.1 hx] at hat
        have hc1 := List.count_le_length (l := items0 pre) (a := x.1)
        rw [items0_len] at hc1
        have hu1 := HUB.out j x.1
        have HS := Lib.hid (show addIts (usesAt P N j) (items0 (pre ++ [x])) = (addIts (usesAt P N j) (items0 pre)).set x.1 ((addIts (usesAt P N j) (items0 pre)).getD x.1 0 + 1) by rw [items0_snoc, addIts_snoc]; rfl)
        generalize addIts (usesAt P N j) (items0 pre) = L at oS hLL hat HS HU2 hL
        rw [hLL] at oS
        have e1 : W.cell? ⟨w.heap.size, x.1, none⟩ = some (.int .i64 (L.getD x.1 0)) := by
          rw [oS.cellAt x.1 (by omega), List.getElem?_map, List.getElem?_eq_getElem (by omega), getD_at 0 (by omega)]
          rfl
        have f1 := oS.frozenAt x.1
        have OST := Lib.hid ((oS.stored x.1 (.int .i64 (L.getD x.1 0 + 1))).1)
        have HBS := Lib.hid bS
        have HBB := Lib.hid hB
        have x0 : (0 : Int) ≤ (x.1 : Int) := by omega
        have x1 : (x.1 : Int) < (N : Int) := by omega
        generalize L.getD x.1 0 = y at e1 hat HS OST
        have hw : IntKind.i64.wrap (y + 1) = y + 1 := by rw [IntKind.wrap_i64]; omega
        clear hat hc1 hu1 hB bS oS
        gi_wp2
        refine ⟨KeepsOthers.setCell _ _ _, Below.heap_setCell _ _ _ _ (by simp; omega), ?_, fun D hD => ⟨(HD2.out D hD).1, (KeepsOthers.setCell W ⟨w.heap.size, x.1, none⟩ (.int .i64 (y + 1))).same D _ (HD2.out D hD).2 rfl⟩⟩
        rw [HS.out]
        refine ⟨⟨_, HBS.out.kept (grown_one W w.heap.size x.1 (.int .i64 (y + 1))) (fun e => by injection e with e; omega), ?_, rfl, by rw [List.length_set]; exact hL⟩, HBB.out.setCell (p := ⟨w.heap.size, x.1, none⟩) (Nat.le_refl _) _⟩
        rw [List.length_set, hL, List.map_set]
        exact OST.out
      case done =>
        rintro D ys W hDl hys ⟨hU2, hD2⟩ hK
        have HU3 := Lib.hid hU2
        have HD3 := Lib.hid hD2
        have HK := Lib.hid hK
        have hjw : IntKind.i64.wrap ((j : Int) + 1) = (j : Int) + 1 := by rw [IntKind.wrap_i64]; omega
        clear hU2 hD2 hK
        gi_wp2
        have hcast : ((j + 1 : Nat) : Int) = (j : Int) + 1 := by omega
        refine ⟨⟨j + 1, D :: Ds, .int .i64 s, u8, .bool true, .pointer (some ⟨b3, o3 + j, none⟩), .int .i64 s, .int .i64 s, .func (.func 61) #[] #[.pointer (some ⟨V.heap.size, 0, none⟩)], u23, u24, u25, u26, u27, u28, u29, .int .i64 ((j : Int) + 1), by rw [hcast]; rfl, by omega, ⟨?_, ?_⟩, ?_⟩, ?_⟩
        · rw [List.nodup_cons]
          refine ⟨fun hm => ?_, HD.out.1⟩
          have h1 := (HDV.out D hm).1
          simp at hDl
          omega
        · intro D' hm
          rw [List.mem_cons] at hm
          rcases hm with rfl | hm
          · exact ⟨by simp at hDl; omega, HK.out⟩
          · exact HD3.out D' hm
        · rw [← HST.out, ← hys]
          exact HU3.out
        · simp [intOf]
          omega
      case stop =>
        rintro D c pre W _ _ h _
        exact h.elim
    · obtain rfl : j = p := by omega
      obtain ⟨⟨v, bS, oS, hv, hL⟩, hB⟩ := HU.out
      subst hv
      have e0 := bS.cell
      have HI := Lib.hid HU.out
      have HR := Lib.hid (usesAt_all P N)
      rw [HP.out] at HR
      gi_wp2
      refine leaves_marks w.heap.size (UsesI w w1.heap.size N (usesAt P N j)) (fun W D hD hW h0 => hW.mark hD h0) (fun W hW => ?_) Ds V HD.out.1 HD.out.2 HI.out
      obtain ⟨⟨v2, bS2, oS2, hv2, hL2⟩, hB2⟩ := hW
      subst hv2
      refine ⟨_, results_tmp rfl _ _ _, _, rfl, ?_, hB2⟩
      rw [← HR.out]
      exact oS2

theorem implUses (n : Int) (v : Value) (P : List Int) (w : World) (h : IntsAt w v P) (hm : P.length ≤ 1048576) : Calls Try.prog 23 #[.int .i64 n, v] w (ListI (usesR n P) w) := by
  by_cases hp : poolsB n P = true
  · have := (callsIn_wide (n := 6)).1 (usesYes n v P w h hm hp)
    unfold usesR
    rw [if_pos hp]
    exact this
  · have CP := Lib.hid (implPoolsOk n v P w h (by unfold maxLen; omega))
    have hp2 : poolsB n P = false := by simpa using hp
    have HR : Hid (usesR n P = []) := by unfold Hid usesR; rw [if_neg hp]
    rw [hp2] at CP
    unfold ListI
    obtain ⟨a, c, rfl, -⟩ := h
    generalize usesR n P = r at HR ⊢
    clear hp hp2
    go_enter Try.func23, Try.ntmps23
    go_wp2_with fail
    refine CP.out.mono ?_
    rintro e w1 ⟨rfl, rfl⟩
    go_wp2
    go_ret
    refine ⟨_, rfl, ?_, Below.refl _ _⟩
    rw [HR.out]
    exact Own.nil _ _
end Go.Proofs.Ythfnbnjajcigeaa

/- The contract of the program's RoundBound. Condition: the slice reads as integers and is short enough to be counted. -/
namespace Go.Proofs.Ythfnbnjajcigeaa
open Go.RowKit

set_option maxRecDepth 100000 in
set_option maxHeartbeats 1600000 in
theorem implBoundR (n m : Int) (v : Value) (P : List Int) (w : World) (h : IntsAt w v P) (hm : P.length ≤ 1048576) :
    Calls Try.prog 26 #[.int .i64 n, v, .int .i64 m] w fun e w' => e = .returned (.int .i64 (boundI n P m)) ∧ Below w.heap.size w w' := by
  have CR := Lib.hid (implRoundsIn n m v P w h hm)
  have CU := Lib.hid (implUses n v P w h hm)
  by_cases hr : roundsB n P m = true
  · obtain ⟨hp, m1, m12⟩ := rounds_in hr
    obtain ⟨⟨n1, n10⟩, hl12, hin⟩ := pools_in hp
    obtain ⟨M, hM⟩ : ∃ M : Nat, m = (M : Int) := ⟨m.toNat, by omega⟩
    subst hM
    obtain ⟨N, hN⟩ : ∃ N : Nat, n.toNat = N + 1 := ⟨n.toNat - 1, by omega⟩
    have HB : Hid (boundI n P M = mostF (ceilN P.length M) (usesL (N + 1) P) (N + 1)) := by
      unfold Hid boundI
      rw [if_pos hr, Int.toNat_natCast, hN]
    have hu : usesR n P = usesL (N + 1) P := by unfold usesR; rw [if_pos hp, hN]
    rw [hu] at CU
    rw [hr] at CR
    have hlen : (usesL (N + 1) P).length = N + 1 := usesL_len _ _
    have HMM := Lib.hid (mostF_max (ceilN P.length M) (usesL (N + 1) P) N)
    have CM := Lib.hid (fun vL W (hL : IntsAt W vL (usesL (N + 1) P)) => implMax vL (usesL (N + 1) P) W hL (by omega) (by omega))
    rw [hlen] at CM
    have CC := Lib.hid (fun W => implCeil P.length M (by omega) (by omega) (by omega) W)
    generalize boundI n P M = r at HB ⊢
    unfold ListI at CU
    generalize usesL (N + 1) P = U at HB CU HMM CM
    generalize mostF (U.getD 0 0) U (N + 1) = g at HMM CM
    generalize mostF (ceilN P.length M) U (N + 1) = k at HB HMM
    generalize ceilN P.length M = z at CC HMM
    obtain ⟨a, c, rfl, -⟩ := h
    clear hr hp hu hin hlen m1 hN n1 n10
    by_cases hzg : (z : Int) < g
    · have HE : Hid (g = r) := by unfold Hid; rw [HB.out, HMM.out, if_pos hzg]
      clear HB HMM
      go_enter Try.func26, Try.ntmps26
      go_wp2_with fail
      refine CR.out.mono ?_
      rintro e w1 ⟨rfl, rfl⟩
      go_wp2_with fail
      refine (CC.out _).mono ?_
      rintro e w1 ⟨rfl, rfl⟩
      go_wp2_with fail
      refine CU.out.mono ?_
      rintro e w2 ⟨u, rfl, ou, b2⟩
      have B2 := Lib.hid b2
      have C3 := Lib.hid (CM.out u w2 ou.reads)
      obtain ⟨ua, un, uc, rfl⟩ := ou.form
      clear ou b2
      go_wp2_with fail
      refine C3.out.mono ?_
      rintro e w3 ⟨rfl, rfl⟩
      go_wp2
      all_goals
        go_ret
        exact ⟨ret_int (by first | exact HE.out | (have := HE.out; omega)), B2.out⟩
    · have HE : Hid ((z : Int) = r) := by unfold Hid; rw [HB.out, HMM.out, if_neg hzg]
      clear HB HMM
      go_enter Try.func26, Try.ntmps26
      go_wp2_with fail
      refine CR.out.mono ?_
      rintro e w1 ⟨rfl, rfl⟩
      go_wp2_with fail
      refine (CC.out _).mono ?_
      rintro e w1 ⟨rfl, rfl⟩
      go_wp2_with fail
      refine CU.out.mono ?_
      rintro e w2 ⟨u, rfl, ou, b2⟩
      have B2 := Lib.hid b2
      have C3 := Lib.hid (CM.out u w2 ou.reads)
      obtain ⟨ua, un, uc, rfl⟩ := ou.form
      clear ou b2
      go_wp2_with fail
      refine C3.out.mono ?_
      rintro e w3 ⟨rfl, rfl⟩
      go_wp2
      all_goals
        go_ret
        exact ⟨ret_int (by first | exact HE.out | (have := HE.out; omega)), B2.out⟩
  · have hr2 : roundsB n P m = false := by simpa using hr
    have HE : Hid (-1 = boundI n P m) := by unfold Hid boundI; rw [if_neg hr]
    rw [hr2] at CR
    generalize boundI n P m = r at HE ⊢
    obtain ⟨a, c, rfl, -⟩ := h
    clear hr hr2 CU
    go_enter Try.func26, Try.ntmps26
    go_wp2_with fail
    refine CR.out.mono ?_
    rintro e w1 ⟨rfl, rfl⟩
    go_wp2
    go_ret
    exact ⟨ret_int HE.out, Below.refl _ _⟩
end Go.Proofs.Ythfnbnjajcigeaa

/- The contract of the program's without: a copy of a list without one of its numbers. Conditions: the slice reads as integers and has room for them; at most twelve. -/
namespace Go.Proofs.Ythfnbnjajcigeaa
open Go.RowKit

theorem row_of_cells {w : World} {B g n : Nat} {L : List Int} (hl : L.length = n) (hn : n ≤ 1000) (hB : B ≤ g) (h : w.heap[g]? = some (.cells (L.map (Value.int .i64)).toArray 3 (0, 0))) : Own w B (.slice (some ⟨g, 0, none⟩) n n) L :=
  ⟨by simp, .inr ⟨g, n, _, by rw [hl], hB, h, by omega, by unfold maxLen; omega, by simp [hl], by simp; rw [List.take_of_length_le (by simp)]⟩⟩
theorem cells_of_make {w : World} {B g n : Nat} {xs : List Value} (h : w.ownsRow B 3 1 (.slice (some ⟨g, 0, none⟩) n n) n xs) : w.heap[g]? = some (.cells xs.toArray 3 (0, 0)) := by
  rcases h.2 with ⟨e, -⟩ | ⟨g', cap, cur, e, -, hg, h1, -, hs, ht⟩
  · cases e
  · injection e with e1 e2 e3
    injection e1 with e1
    injection e1 with e1
    subst e1 e3
    have : cur.toList.length = n := by rw [Array.length_toList, hs, Nat.mul_one]
    rw [Nat.mul_one, List.take_of_length_le (by omega)] at ht
    rw [hg, ← ht]

theorem splice_two {xs C1 C2 : List Value} {i : Nat} (h1 : C1.length = i) (h2 : xs.length = i + C2.length) : splice (splice xs 0 C1) i C2 = C1 ++ C2 := by
  unfold splice
  subst h1
  simp only [List.take_zero, List.nil_append, Nat.zero_add]
  rw [List.take_left' rfl, List.drop_append, List.drop_of_length_le (by omega), List.nil_append, List.drop_drop, List.drop_of_length_le (by omega), List.append_nil]

set_option maxRecDepth 100000 in
set_option maxHeartbeats 1600000 in
theorem implWithout (v : Value) (L : List Int) (i : Nat) (w : World) (h : CapAt w v L) (hi : i < L.length) (hl : L.length ≤ 12) :
    Calls Try.prog 66 #[v, .int .i64 (i : Int)] w fun e w' => ∃ u, e = .returned u ∧ Own w' w.heap.size u (L.eraseIdx i) ∧ Below w.heap.size w w' := by
  obtain ⟨i0, hi0, hz0, hz1, hz2⟩ := info_parts infoIntA
  obtain ⟨a, c, rfl, hc, h⟩ := h
  obtain ⟨a2, c2, e, h⟩ := h
  injection e with e1 e2 e3
  subst e1 e3
  rcases h with h0 | ⟨b, o, rfl, hcell⟩
  · rw [h0] at hi; simp at hi
  have HC := Lib.hid hcell
  obtain ⟨n, hn⟩ : ∃ n, L.length = n := ⟨_, rfl⟩
  have HN := Lib.hid hn
  rw [hn] at hi hl hc ⊢
  have w1 : IntKind.i64.wrap ((i : Int) + 1) = ((i + 1 : Nat) : Int) := by rw [IntKind.wrap_i64]; omega
  have w2 : IntKind.i64.wrap ((i : Int) + ((n - (i + 1) : Nat) : Int)) = ((n - 1 : Nat) : Int) := by rw [IntKind.wrap_i64]; omega
  have b1 : (0 : Int) ≤ (i : Int) := by omega
  have b2 : (i : Int) ≤ (c : Int) := by omega
  have b3 : ((i + 1 : Nat) : Int) ≤ (n : Int) := by omega
  have b4 : (n : Int) ≤ (c : Int) := by omega
  have b5 : i ≤ c := by omega
  have b6 : i + 1 ≤ n := by omega
  have hsz : (Try.prog.info? 3).map (·.size) = some 1 := by rw [hi0]; simp [hz1]
  have hlt : b < w.heap.size := World.block_lt_of_cell? w _ (hcell i (by omega))
  obtain ⟨C1, hC1⟩ : ∃ C1, (L.take i).map (Value.int .i64) = C1 := ⟨_, rfl⟩
  obtain ⟨C2, hC2⟩ : ∃ C2, (L.drop (i + 1)).map (Value.int .i64) = C2 := ⟨_, rfl⟩
  have l1 : C1.length = i := by rw [← hC1, List.length_map, List.length_take]; omega
  have l2 : C2.length = n - (i + 1) := by rw [← hC2, List.length_map, List.length_drop]; omega
  have o1 : ∀ u ∈ C1, u.oneCell' = true := by intro u hu; rw [← hC1] at hu; obtain ⟨x, -, rfl⟩ := List.mem_map.1 hu; rfl
  have o2 : ∀ u ∈ C2, u.oneCell' = true := by intro u hu; rw [← hC2] at hu; obtain ⟨x, -, rfl⟩ := List.mem_map.1 hu; rfl
  have HS1 : Hid (∀ (W : World), Below w.heap.size w W → ∀ j u, C1[j]? = some u → W.cell? ((⟨b, o, none⟩ : Addr).add j) = some u) := fun W hW j u hu => by
    rw [← hC1, List.getElem?_map] at hu
    have hj : j < i := by
      rcases Nat.lt_or_ge j i with h | h
      · exact h
      · rw [List.getElem?_eq_none (by rw [List.length_take]; omega)] at hu
        cases hu
    rw [List.getElem?_take_of_lt hj, List.getElem?_eq_getElem (by omega)] at hu
    injection hu with hu
    rw [← hu, Addr.add_lit, hW.cell (p := ⟨b, o + j, none⟩) hlt]
    exact hcell j (by omega)
  have HS2 : Hid (∀ (W : World), Below w.heap.size w W → ∀ j u, C2[j]? = some u → W.cell? ((⟨b, o + (i + 1), none⟩ : Addr).add j) = some u) := fun W hW j u hu => by
    rw [← hC2, List.getElem?_map, List.getElem?_drop] at hu
    have hj : i + 1 + j < L.length := by
      rcases Nat.lt_or_ge (i + 1 + j) L.length with h | h
      · exact h
      · rw [List.getElem?_eq_none h] at hu
        cases hu
    rw [List.getElem?_eq_getElem hj] at hu
    injection hu with hu
    rw [← hu, Addr.add_lit, hW.cell (p := ⟨b, o + (i + 1) + j, none⟩) hlt]
    have := hcell (i + 1 + j) hj
    rw [← Nat.add_assoc] at this
    exact this
  have HCC : Hid ((L.eraseIdx i).map (Value.int .i64) = C1 ++ C2) := by
    unfold Hid
    rw [List.eraseIdx_eq_take_drop_succ, List.map_append, hC1, hC2]
  have HEL : Hid ((L.eraseIdx i).length = n - 1) := by unfold Hid; rw [List.length_eraseIdx, if_pos (by omega), hn]
  obtain ⟨Z, hZ⟩ : ∃ Z, n - 1 = Z := ⟨_, rfl⟩
  rw [hZ] at w2 HEL
  obtain ⟨A1, hA1, hA1'⟩ : ∃ A1 : Option Addr, (if c = i + 1 then some ⟨b, o, none⟩ else some ⟨b, o + (i + 1), none⟩) = A1 ∧ (0 < n - (i + 1) → A1 = some ⟨b, o + (i + 1), none⟩) := ⟨_, rfl, fun h => by rw [if_neg (by omega)]⟩
  have HA1 := Lib.hid hA1'
  have b7 : (i : Int) ≤ (Z : Int) := by omega
  have b8 : i ≤ Z := by omega
  have HZ := Lib.hid hZ
  clear hcell hn e2 hC1 hC2 hA1' hZ
  go_enter Try.func66, Try.ntmps66
  go_wp2
  go_quiet (fail)
  obtain ⟨X, hX⟩ : ∃ X, w.drewN nq = X := ⟨_, rfl⟩
  have hBX : Below w.heap.size w X := by rw [← hX]; exact below_drewN (Below.refl _ _) _
  rw [hX]
  have hXs := hBX.size
  obtain ⟨A2, hA2, hA2'⟩ : ∃ A2 : Option Addr, (if Z = i then some (⟨X.heap.size, 0, none⟩ : Addr) else some ⟨X.heap.size, i, none⟩) = A2 ∧ (0 < C2.length → A2 = some ⟨X.heap.size, i, none⟩) := ⟨_, rfl, fun h => by rw [if_neg (by have := HZ.out; omega)]⟩
  have HA2 := Lib.hid hA2'
  clear hX hA1 hA2'
  have hki : n - (i + 1) = Z - i := by have := HZ.out; omega
  have HKI := Lib.hid hki
  clear hki
  generalize n - (i + 1) = k at *
  go_wp2_with (first
    | (at_make; refine wpList_make_full _ rfl _ _ 22 rfl w.heap.size 3 i0 (.int .i64 0) 1 Try.underlying22 hi0 hz0 hz1 .i64 .i64 _ _ Z rfl rfl rfl rfl (by rw [hz2]; have := HZ.out; omega) (by unfold maxLen; have := HZ.out; omega) hXs ?_; intro w4 hown hg; have HB4 := Lib.hid (Below.grown hBX hg hXs (fun k e => by cases e)); have HG4 := Lib.hid (cells_of_make hown); have HL4 := Lib.hid hown.1; clear hown hg)
    | (refine wpList_copy_splice rfl _ _ 22 22 rfl 3 Try.underlying22 hsz _ _ _ _ _ _ rfl rfl X.heap.size 0 _ 3 HG4.out C1 (by rw [l1]; exact (Nat.min_eq_left b8).symm) (fun _ => ⟨rfl, _, rfl, HS1.out _ HB4.out⟩) (by rw [HL4.out]; omega) o1 w.heap.size w HB4.out hXs ?_; intro w5 HG5 hB5; have HB5 := Lib.hid hB5; clear hB5)
    | (refine wpList_copy_splice rfl _ _ 22 22 rfl 3 Try.underlying22 hsz _ _ _ _ _ _ rfl rfl X.heap.size i _ 3 HG5.out C2 (by rw [l2]; exact (Nat.min_eq_left (by have := HKI.out; omega)).symm) (fun h0 => ⟨HA2.out h0, _, HA1.out (by omega), HS2.out _ HB5.out⟩) (by rw [length_splice _ _ _ (by rw [HL4.out]; omega), HL4.out, l2]; have := HKI.out; omega) o2 w.heap.size w HB5.out hXs ?_; intro w6 HG6 hB6; have HB6 := Lib.hid hB6; clear hB6)
    | fail)
  have HO : Hid (Own w6 w.heap.size (.slice (some ⟨X.heap.size, 0, none⟩) Z Z) (L.eraseIdx i)) := by
    refine row_of_cells HEL.out (by have := HZ.out; omega) hXs ?_
    rw [HCC.out, ← splice_two l1 (by rw [HL4.out, l2]; have := HKI.out; omega)]
    exact HG6.out
  go_ret
  exact ⟨_, rfl, HO.out, HB6.out⟩
end Go.Proofs.Ythfnbnjajcigeaa

/- The contracts of the program's fewestFor and fewestAfter, by induction on the number of pools, and of FewestRounds. Conditions: valid pools; the slice has room for what it reads. -/
namespace Go.Proofs.Ythfnbnjajcigeaa
open Go.RowKit

theorem canV_all {m : Nat} (hm : 1 ≤ m) : ∀ (L : List Int), canV m L L.length
  | [] => ⟨[], rfl, fun r h => (by cases h), List.Perm.refl _⟩
  | x :: L => by
    obtain ⟨S, h1, h2, h3⟩ := canV_all hm L
    refine ⟨[x] :: S, by simp [h1], fun r hr => ?_, ?_⟩
    · rw [List.mem_cons] at hr
      rcases hr with rfl | hr
      · exact okR_one hm x
      · exact h2 r hr
    · rw [List.flatten_cons]
      exact h3.cons x
theorem isMin_le {m N : Nat} (hm : 1 ≤ m) {L : List Int} (h : IsMin m L N) : N ≤ L.length := h.2 _ (canV_all hm L)
theorem aftMin_le {m next N : Nat} (hm : 1 ≤ m) {r left : List Int} (hr : okR m r) (h : AftMin m r left next N) : N ≤ left.length :=
  h.2 [] left left.length (List.nil_sublist _) (List.Perm.refl _) (by rw [List.append_nil]; exact hr) (canV_all hm left)

/-- What fewestFor owes for the pools L. -/
def ForC (m : Nat) (L : List Int) : Prop := ∀ v W, CapAt W v L → Calls Try.prog 51 #[v, .int .i64 (m : Int)] W fun e w' => ∃ N : Nat, e = .returned (.int .i64 (N : Int)) ∧ IsMin m L N ∧ Below W.heap.size W w'
/-- What fewestAfter owes for a round and the pools that it leaves. -/
def AftC (m : Nat) (r left : List Int) (next : Nat) : Prop := ∀ v W, CapAt W v left → Calls Try.prog 62 #[rndV r.length (orV r), v, .int .i64 (next : Int), .int .i64 (m : Int)] W fun e w' => ∃ N : Nat, e = .returned (.int .i64 (N : Int)) ∧ AftMin m r left next N ∧ Below W.heap.size W w'

set_option maxRecDepth 100000 in
set_option maxHeartbeats 1600000 in
theorem implForNil (m : Nat) : ForC m [] := by
  intro v W h
  obtain ⟨a, c, rfl, hc, h⟩ := h
  rw [List.length_nil]
  have HM := Lib.hid (isMin_nil m)
  go_enter Try.func51, Try.ntmps51
  go_wp2
  go_ret
  exact ⟨0, rfl, HM.out, Below.refl _ _⟩

set_option maxRecDepth 100000 in
set_option maxHeartbeats 1600000 in
theorem implForCons (m : Nat) (hm : 1 ≤ m) (x : Int) (t : List Int) (ht : t.length ≤ 12) (hA : AftC m [x] t 0) : ForC m (x :: t) := by
  intro v W h
  have HA : Hid (∀ v W, CapAt W v t → Calls Try.prog 62 #[.agg #[.int .i64 1, .int .i64 (orI 0 x)], v, .int .i64 0, .int .i64 (m : Int)] W fun e w' => ∃ N : Nat, e = .returned (.int .i64 (N : Int)) ∧ AftMin m [x] t 0 N ∧ Below W.heap.size W w') := hA
  have CW : Hid (∀ W, Calls Try.prog 59 #[.agg #[.int .i64 0, .int .i64 0], .int .i64 x] W fun e w' => e = .returned (.agg #[.int .i64 1, .int .i64 (orI 0 x)]) ∧ Below W.heap.size W w') := fun W => implWith 0 0 x (by omega) W
  obtain ⟨a, c, rfl, hc, hI⟩ := h
  obtain ⟨a2, c2, e, hh⟩ := id hI
  injection e with e1 e2 e3
  subst e1 e3
  rcases hh with h0 | ⟨b, o, rfl, hcell⟩
  · cases h0
  have hlt : b < W.heap.size := World.block_lt_of_cell? W _ (hcell 0 (by simp))
  have e0 : W.cell? ⟨b, o, none⟩ = some (.int .i64 x) := by
    have := hcell 0 (by simp)
    rw [Nat.add_zero] at this
    exact this
  obtain ⟨A1, hA1, hA1'⟩ : ∃ A1 : Option Addr, (if c = 1 then some (⟨b, o, none⟩ : Addr) else some ⟨b, o + 1, none⟩) = A1 ∧ (0 < t.length → A1 = some ⟨b, o + 1, none⟩) := ⟨_, rfl, fun h => by rw [if_neg (by rw [List.length_cons] at hc; omega)]⟩
  have HCAP : Hid (∀ V, Below W.heap.size W V → CapAt V (.slice A1 t.length (c - 1)) t) := fun V hV => by
    refine ⟨A1, c - 1, rfl, by rw [List.length_cons] at hc; omega, A1, c - 1, rfl, ?_⟩
    rcases Nat.eq_zero_or_pos t.length with h0 | h0
    · exact .inl (List.eq_nil_of_length_eq_zero h0)
    · refine .inr ⟨b, o + 1, hA1' h0, fun i hi => ?_⟩
      rw [hV.cell (p := ⟨b, o + 1 + i, none⟩) hlt, show o + 1 + i = o + (i + 1) by omega]
      have := hcell (i + 1) (by rw [List.length_cons]; omega)
      rw [List.getElem_cons_succ] at this
      exact this
  have HMIN := Lib.hid (fun N (h : AftMin m [x] t 0 N) => (⟨isMin_cons h, aftMin_le hm (okR_one hm x) h⟩ : IsMin m (x :: t) (N + 1) ∧ N ≤ t.length))
  obtain ⟨n, hn⟩ : ∃ n, (x :: t).length = n := ⟨_, rfl⟩
  have hn1 : t.length = n - 1 := by rw [← hn]; simp
  rw [hn1] at HCAP
  rw [hn] at hc ⊢
  have n1 : (1 : Int) ≤ (n : Int) := by rw [← hn]; simp; omega
  have n2 : (n : Int) ≤ (c : Int) := by omega
  have n3 : ((n : Int) == 0) = false := by simp; omega
  have n4 : 1 ≤ n := by omega
  have n5 : (0 : Int) < (n : Int) := by omega
  have n6 : ¬ (n = 0) := by omega
  have n7 : 0 < n := by omega
  have HT := Lib.hid ht
  clear hcell hI hA hA1' e2 hn hn1 ht
  go_enter Try.func51, Try.ntmps51
  go_wp2_with fail
  go_region_held3 (fun w' => w'.cell? ⟨b, o, none⟩ = some (.int .i64 x))
      (first | exact G3.out | exact G2.out | exact e0)
      (first
        | (go_at_call 59; refine (CW.out _).mono ?_; rintro e w1 ⟨rfl, b1⟩; have BX := Lib.hid ((Below.refl W.heap.size W).drew.trans b1); have G2 : Hid (w1.cell? ⟨b, o, none⟩ = some (.int .i64 x)) := (BX.out.cell (p := ⟨b, o, none⟩) hlt).trans e0; clear b1)
        | (go_at_call 62; refine (HA.out _ _ (HCAP.out _ BX.out)).mono ?_; rintro e w2 ⟨N, rfl, hmin, b2⟩; have BY := Lib.hid (below_up BX.out b2); have G3 : Hid (w2.cell? ⟨b, o, none⟩ = some (.int .i64 x)) := (BY.out.cell (p := ⟨b, o, none⟩) hlt).trans e0; have HN := Lib.hid (HMIN.out N hmin); have hw : IntKind.i64.wrap (1 + (N : Int)) = 1 + (N : Int) := (by rw [IntKind.wrap_i64]; have := HN.out.2; have := HT.out; omega); clear hmin b2)
        | fail)
  all_goals
    go_wp2
    go_ret
    exact ⟨N + 1, ret_int (by omega), HN.out.1, BY.out⟩

set_option maxRecDepth 100000 in
set_option maxHeartbeats 3200000 in
theorem implAft (m : Nat) (hm : 1 ≤ m) (r left : List Int) (next : Nat) (hnx : next ≤ left.length) (hl : left.length ≤ 12) (hr : okR m r) (hrl : r.length ≤ 12) (hrin : ∀ x ∈ r, 0 ≤ x ∧ x ≤ 1023) (hlin : ∀ x ∈ left, 0 ≤ x ∧ x ≤ 1023)
    (hF : ForC m left) (hA : ∀ (y : Int) (i : Nat), i < left.length → y ∈ left → okR m (r ++ [y]) → AftC m (r ++ [y]) (left.eraseIdx i) i) : AftC m r left next := by
  intro v W h
  have V0 := Lib.hid (TwoAt.new W 66 (.int .i64 (r.length : Int)) (.int .i64 (orV r)))
  have B0 := Lib.hid (alloc_below W (.cells #[.int .i64 (r.length : Int), .int .i64 (orV r)] 66))
  have HV := Lib.hid (h.below B0.out)
  have HF := Lib.hid (hF v _ HV.out)
  have H := Lib.hid h
  have HST := Lib.hid (fun N (h : IsMin m left N) => (⟨loop_start (next := next) hr h, isMin_le hm h⟩ : LoopMin m r left next next N ∧ N ≤ left.length))
  have HEND := Lib.hid (fun N (h : LoopMin m r left next left.length N) => loop_end (Nat.le_refl _) h)
  have HSKIP := Lib.hid (fun i N (hi : i < left.length) hno (h : LoopMin m r left next i N) => loop_skip hi hno h)
  have HTAKE := Lib.hid (fun i N A (hi : i < left.length) (h : LoopMin m r left next i N) (ha : AftMin m (r ++ [left[i]]) (left.eraseIdx i) i A) => loop_take hi h ha)
  have HTV := Lib.hid (fun p hp => takesV (m := m) (p := p) hrin hp)
  have HOK := Lib.hid (fun p hp => okR_snoc (p := p) hr hp)
  have HA : Hid (∀ (y : Int) (i : Nat), i < left.length → y ∈ left → okR m (r ++ [y]) → ∀ v W, CapAt W v (left.eraseIdx i) → Calls Try.prog 62 #[.agg #[.int .i64 ((r.length : Int) + 1), .int .i64 (orI (orV r) y)], v, .int .i64 (i : Int), .int .i64 (m : Int)] W fun e w' => ∃ N : Nat, e = .returned (.int .i64 (N : Int)) ∧ AftMin m (r ++ [y]) (left.eraseIdx i) i N ∧ Below W.heap.size W w') := fun y i hi hy ho v W hW => by
    have := hA y i hi hy ho v W hW
    rw [orV_snoc, List.length_append] at this
    exact this
  have CT := Lib.hid (fun (p : Int) (hp : 0 ≤ p ∧ p ≤ 1023) W => implTakes r.length m (orV r) p hp.1 hp.2 (orV_in hrin).1 (orV_in hrin).2 W)
  have CW : Hid (∀ (p : Int) W, Calls Try.prog 59 #[.agg #[.int .i64 (r.length : Int), .int .i64 (orV r)], .int .i64 p] W fun e w' => e = .returned (.agg #[.int .i64 ((r.length : Int) + 1), .int .i64 (orI (orV r) p)]) ∧ Below W.heap.size W w') := fun p W => implWith r.length (orV r) p (by omega) W
  have CO := Lib.hid (fun v i W (hW : CapAt W v left) (hi : i < left.length) => implWithout v left i W hW hi hl)
  have HLIN := Lib.hid hlin
  obtain ⟨a, c, rfl, hc, -⟩ := h
  unfold rndV at CT ⊢
  generalize orV r = u at V0 B0 HV HF HA CT CW HTV ⊢
  generalize hrl2 : r.length = rl at V0 B0 HV HF HA CT CW HTV hrl ⊢
  have RL := Lib.hid hrl2
  clear hrl2
  obtain ⟨l, hll⟩ : ∃ l, left.length = l := ⟨_, rfl⟩
  have HL := Lib.hid hll
  rw [hll] at HV HF H HST HEND HA CO hl hc hnx ⊢
  clear hF hA hr hrin hlin hll hm
  obtain ⟨X, hX⟩ : ∃ X, W.alloc (.cells #[.int .i64 (rl : Int), .int .i64 u] 66) = X := ⟨_, rfl⟩
  rw [hX] at V0 B0 HV HF
  go_enter Try.func62, Try.ntmps62
  go_wp2_with fail
  refine HF.out.mono ?_
  rintro e w1 ⟨N0, rfl, hmin, b1⟩
  have V1 := Lib.hid (V0.out.below b1)
  have B1 := Lib.hid (below_up B0.out b1)
  have HST1 := Lib.hid (HST.out N0 hmin)
  clear hmin b1 V0 B0 HV HF HST hX
  go_wp2
  go_loopw [9, 10] (fun nv iv wr => ∃ i N : Nat, next ≤ i ∧ i ≤ l ∧ N ≤ l ∧ nv = .int .i64 (N : Int) ∧ iv = .int .i64 (i : Int) ∧ Hid (LoopMin m r left next i N) ∧ Hid (TwoAt wr W.heap.size (.int .i64 (rl : Int)) (.int .i64 u)) ∧ Hid (Below W.heap.size W wr)) (fun _ iv _ => l - (intOf iv).toNat)
  case atStart => exact ⟨next, N0, Nat.le_refl _, hnx, HST1.out.2, rfl, rfl, HST1.out.1, V1, B1⟩
  case round =>
    clear HST1 V1 B1
    obtain ⟨i, N, hni, hil, hN, rfl, rfl, HM, HT, HBB⟩ := hrel
    by_cases hlt : i < l
    · have hir : i < left.length := by rw [HL.out]; exact hlt
      have H3 := Lib.hid (H.out.below HBB.out)
      obtain ⟨a2, c2, e, hh⟩ := H3.out.reads
      injection e with e1 e2 e3
      subst e1 e3
      rcases hh with h0 | ⟨b, o, rfl, hcell⟩
      · rw [h0] at hir; simp at hir
      have e3 := hcell i hir
      have hin := HLIN.out left[i] (List.getElem_mem hir)
      have htv := HTV.out left[i] hin
      have C1 := CT.out left[i] hin wr.drew
      have HSK := Lib.hid (HSKIP.out i N hir)
      have HTK := Lib.hid (fun A => HTAKE.out i N A hir HM.out)
      have HOK1 := Lib.hid (HOK.out left[i])
      have HA1 := Lib.hid (HA.out left[i] i hlt (List.getElem_mem hir))
      obtain ⟨y, hy⟩ : ∃ y, left[i] = y := ⟨_, rfl⟩
      simp only [hy] at e3 htv C1 HSK HTK HOK1 HA1
      obtain ⟨f0, f1, hwlt⟩ := HT.out
      have i0' : (0 : Int) ≤ (i : Int) := by omega
      have i1' : (i : Int) < (l : Int) := by omega
      have K2 : Hid (b < wr.heap.size) := World.block_lt_of_cell? wr _ e3
      have CW1 := Lib.hid (CW.out y)
      have CO1 := Lib.hid (fun v W hW => CO.out v i W hW hlt)
      clear hcell hir e2 hin hy HSKIP HTAKE HOK HA CT CW CO HTV
      cases htk : (decide (rl < m) && !(andI y u != 0)) with
      | false =>
        have HM2 : Hid (LoopMin m r left next (i + 1) N) := HSK.out (fun h => by rw [htk] at htv; exact absurd (htv.2 (by rw [← RL.out]; exact h)) (by simp)) HM.out
        rw [htk] at C1
        have C2 := Lib.hid C1
        clear htk htv C1 HSK HTK HOK1 HA1
        go_wp2_with fail
        first | (go_region_held3 (fun w' => w'.cell? ⟨W.heap.size, 0, none⟩ = some (.int .i64 (rl : Int)) ∧ w'.cell? ⟨W.heap.size, 1, none⟩ = some (.int .i64 u) ∧ w'.cell? ⟨b, o + i, none⟩ = some (.int .i64 y))
            (first | exact ⟨G0.out, G1.out, G2.out⟩ | exact ⟨f0, f1, e3⟩)
            (first
              | (go_at_call 58; refine C2.out.mono ?_; rintro e w1 ⟨rfl, b1⟩; have BX := Lib.hid ((Below.refl wr.heap.size wr).drew.trans b1); have G0 : Hid (w1.cell? ⟨W.heap.size, 0, none⟩ = some (.int .i64 (rl : Int))) := (BX.out.cell (p := ⟨W.heap.size, 0, none⟩) hwlt).trans f0; have G1 : Hid (w1.cell? ⟨W.heap.size, 1, none⟩ = some (.int .i64 u)) := (BX.out.cell (p := ⟨W.heap.size, 1, none⟩) hwlt).trans f1; have G2 : Hid (w1.cell? ⟨b, o + i, none⟩ = some (.int .i64 y)) := (BX.out.cell (p := ⟨b, o + i, none⟩) K2.out).trans e3; have BY := Lib.hid (below_up HBB.out BX.out); have T1 := Lib.hid (HT.out.below BX.out); clear b1)
              | fail)) | fail
        all_goals
          go_wp2
          go_roundw
          case rel => exact ⟨i + 1, N, by omega, by omega, hN, rfl, by go_num, HM2, T1, BY⟩
          case measure => simp [intOf]; omega
      | true =>
        have HA2 := Lib.hid (HA1.out (HOK1.out (by rw [htk] at htv; have h := htv.1 rfl; rw [← RL.out] at h; exact h)))
        rw [htk] at C1
        have C2 := Lib.hid C1
        clear htk htv C1 HSK HOK1 HA1
        go_wp2_with fail
        first | (go_region_held3 (fun w' => w'.cell? ⟨W.heap.size, 0, none⟩ = some (.int .i64 (rl : Int)) ∧ w'.cell? ⟨W.heap.size, 1, none⟩ = some (.int .i64 u) ∧ w'.cell? ⟨b, o + i, none⟩ = some (.int .i64 y))
            (first | exact ⟨G0.out, G1.out, G2.out⟩ | exact ⟨f0, f1, e3⟩)
            (first
              | (go_at_call 58; refine C2.out.mono ?_; rintro e w1 ⟨rfl, b1⟩; have BX := Lib.hid ((Below.refl wr.heap.size wr).drew.trans b1); have G0 : Hid (w1.cell? ⟨W.heap.size, 0, none⟩ = some (.int .i64 (rl : Int))) := (BX.out.cell (p := ⟨W.heap.size, 0, none⟩) hwlt).trans f0; have G1 : Hid (w1.cell? ⟨W.heap.size, 1, none⟩ = some (.int .i64 u)) := (BX.out.cell (p := ⟨W.heap.size, 1, none⟩) hwlt).trans f1; have G2 : Hid (w1.cell? ⟨b, o + i, none⟩ = some (.int .i64 y)) := (BX.out.cell (p := ⟨b, o + i, none⟩) K2.out).trans e3; have BY := Lib.hid (below_up HBB.out BX.out); have T1 := Lib.hid (HT.out.below BX.out); have H4 := Lib.hid (H3.out.below BX.out); clear b1)
              | fail)) | fail
        obtain ⟨q0, q1, hw1⟩ := T1.out
        have q2 := G2.out
        have K3 : Hid (b < w1.heap.size) := World.block_lt_of_cell? w1 _ q2
        clear f0 f1 e3 hwlt G0 G1 G2 K2 HT BX C2 H3
        go_wp2_with fail
        go_region_held3 (fun w' => w'.cell? ⟨W.heap.size, 0, none⟩ = some (.int .i64 (rl : Int)) ∧ w'.cell? ⟨W.heap.size, 1, none⟩ = some (.int .i64 u) ∧ w'.cell? ⟨b, o + i, none⟩ = some (.int .i64 y))
            (first | exact ⟨S0.out, S1.out, S2.out⟩ | exact ⟨R0.out, R1.out, R2.out⟩ | exact ⟨G0.out, G1.out, G2.out⟩ | exact ⟨q0, q1, q2⟩)
            (first
              | (go_at_call 59; refine (CW1.out _).mono ?_; rintro e w2 ⟨rfl, b2'⟩; have BX := Lib.hid ((Below.refl w1.heap.size w1).drew.trans b2'); have G0 : Hid (w2.cell? ⟨W.heap.size, 0, none⟩ = some (.int .i64 (rl : Int))) := (BX.out.cell (p := ⟨W.heap.size, 0, none⟩) hw1).trans q0; have G1 : Hid (w2.cell? ⟨W.heap.size, 1, none⟩ = some (.int .i64 u)) := (BX.out.cell (p := ⟨W.heap.size, 1, none⟩) hw1).trans q1; have G2 : Hid (w2.cell? ⟨b, o + i, none⟩ = some (.int .i64 y)) := (BX.out.cell (p := ⟨b, o + i, none⟩) K3.out).trans q2; have H5 := Lib.hid (H4.out.below BX.out); clear b2')
              | (go_at_call 66; refine (CO1.out _ _ H5.out).mono ?_; rintro e w3 ⟨u3, rfl, o3, b3'⟩; have BX3 := Lib.hid (below_up BX.out b3'); have R0 : Hid (w3.cell? ⟨W.heap.size, 0, none⟩ = some (.int .i64 (rl : Int))) := (BX3.out.cell (p := ⟨W.heap.size, 0, none⟩) hw1).trans q0; have R1 : Hid (w3.cell? ⟨W.heap.size, 1, none⟩ = some (.int .i64 u)) := (BX3.out.cell (p := ⟨W.heap.size, 1, none⟩) hw1).trans q1; have R2 : Hid (w3.cell? ⟨b, o + i, none⟩ = some (.int .i64 y)) := (BX3.out.cell (p := ⟨b, o + i, none⟩) K3.out).trans q2; have O3 := Lib.hid o3.capAt; obtain ⟨g3, n3, c3, rfl⟩ := o3.form; clear o3 b3')
              | (go_at_call 62; refine (HA2.out _ _ O3.out).mono ?_; rintro e w4 ⟨Am, rfl, hAm, b4⟩; have BX4 := Lib.hid (below_up BX3.out b4); have S0 : Hid (w4.cell? ⟨W.heap.size, 0, none⟩ = some (.int .i64 (rl : Int))) := (BX4.out.cell (p := ⟨W.heap.size, 0, none⟩) hw1).trans q0; have S1 : Hid (w4.cell? ⟨W.heap.size, 1, none⟩ = some (.int .i64 u)) := (BX4.out.cell (p := ⟨W.heap.size, 1, none⟩) hw1).trans q1; have S2 : Hid (w4.cell? ⟨b, o + i, none⟩ = some (.int .i64 y)) := (BX4.out.cell (p := ⟨b, o + i, none⟩) K3.out).trans q2; have HAM := Lib.hid hAm; have T4 := Lib.hid (T1.out.below BX4.out); have B4 := Lib.hid (below_up BY.out BX4.out); clear hAm b4)
              | fail)
        have HM2 := Lib.hid (HTK.out Am HAM.out)
        obtain ⟨Q, hQ⟩ : ∃ Q, min N Am = Q := ⟨_, rfl⟩
        have hmin : (if Am < N then (Am : Int) else (N : Int)) = (Q : Int) := by rw [← hQ]; split <;> omega
        have hQl : Q ≤ l := by omega
        rw [hQ] at HM2
        rw [hmin]
        clear hmin hQ
        go_wp2
        go_roundw
        case rel => exact ⟨i + 1, Q, by omega, by omega, hQl, rfl, by go_num, HM2, T4, B4⟩
        case measure => simp [intOf]; omega
    · obtain rfl : i = l := by omega
      have HE := Lib.hid (HEND.out N HM.out)
      go_wp2
      go_ret
      exact ⟨N, rfl, HE.out, HBB.out⟩

theorem implFew (m : Nat) (hm : 1 ≤ m) : ∀ n, n ≤ 12 → (∀ L : List Int, L.length ≤ n → (∀ x ∈ L, 0 ≤ x ∧ x ≤ 1023) → ForC m L) ∧
    (∀ (left r : List Int) (next : Nat), left.length ≤ n → next ≤ left.length → okR m r → r.length + left.length ≤ 12 → (∀ x ∈ r, 0 ≤ x ∧ x ≤ 1023) → (∀ x ∈ left, 0 ≤ x ∧ x ≤ 1023) → AftC m r left next)
  | 0, _ => by
    have hF : ∀ L : List Int, L.length ≤ 0 → (∀ x ∈ L, 0 ≤ x ∧ x ≤ 1023) → ForC m L := fun L hL _ => by
      rw [List.eq_nil_of_length_eq_zero (by omega : L.length = 0)]
      exact implForNil m
    exact ⟨hF, fun left r next hl hn hr hs hri hli => implAft m hm r left next hn (by omega) hr (by omega) hri hli (hF left hl hli) (fun y i hi => by omega)⟩
  | n + 1, h12 => by
    obtain ⟨ihF, ihA⟩ := implFew m hm n (by omega)
    have hF : ∀ L : List Int, L.length ≤ n + 1 → (∀ x ∈ L, 0 ≤ x ∧ x ≤ 1023) → ForC m L := fun L hL hin => by
      cases L with
      | nil => exact implForNil m
      | cons x t =>
        have ht : t.length ≤ n := by simpa using hL
        exact implForCons m hm x t (by omega) (ihA t [x] 0 ht (Nat.zero_le _) (okR_one hm x) (by simp; omega) (fun y hy => by rw [List.mem_singleton] at hy; subst hy; exact hin y (by simp)) (fun y hy => hin y (by simp [hy])))
    refine ⟨hF, fun left r next hl hn hr hs hri hli => implAft m hm r left next hn (by omega) hr (by omega) hri hli (hF left hl hli) (fun y i hi hy ho => ?_)⟩
    have hel : (left.eraseIdx i).length = left.length - 1 := by rw [List.length_eraseIdx, if_pos hi]
    exact ihA _ _ i (by omega) (by omega) ho (by simp; omega) (fun x hx => by
      rw [List.mem_append, List.mem_singleton] at hx
      rcases hx with hx | rfl
      · exact hri x hx
      · exact hli x hy) (fun x hx => hli x (List.mem_of_mem_eraseIdx hx))

set_option maxRecDepth 100000 in
set_option maxHeartbeats 1600000 in
theorem implFewest (n m : Int) (v : Value) (P : List Int) (w : World) (h : CapAt w v P) (hm : P.length ≤ 1048576) :
    Calls Try.prog 28 #[.int .i64 n, v, .int .i64 m] w fun e w' => e = .returned (.int .i64 (fewRI n P m)) ∧ Below w.heap.size w w' := by
  have CR := Lib.hid (implRoundsIn n m v P w h.reads hm)
  have H := Lib.hid h
  have HF : Hid (fewRI n P m = if (roundsB n P m && decide (P.length ≤ 7)) = true then (fewK n P m : Int) else -1) := rfl
  by_cases hr : roundsB n P m = true
  · obtain ⟨hp, m1, m12⟩ := rounds_in hr
    obtain ⟨-, hl12, hin⟩ := pools_in hp
    obtain ⟨M, hM⟩ : ∃ M : Nat, m = (M : Int) := ⟨m.toNat, by omega⟩
    subst hM
    rw [hr, Bool.true_and] at HF
    rw [hr] at CR
    by_cases h7 : P.length ≤ 7
    · have CF := Lib.hid ((implFew M (by omega) 12 (Nat.le_refl _)).1 P hl12 hin v w h)
      have HN := Lib.hid (fun N (hN : IsMin M P N) => few_least (n := n) (m := (M : Int)) hr (by rw [Int.toNat_natCast]; exact hN))
      have HE : Hid (fewRI n P M = (fewK n P M : Int)) := by unfold Hid; rw [HF.out, decide_eq_true h7, if_pos rfl]
      obtain ⟨a, c, rfl, hc, -⟩ := h
      generalize fewRI n P M = r at HE HF ⊢
      generalize fewK n P M = k at HE HF HN
      have h7' : decide (7 < (P.length : Int)) = false := decide_eq_false (by omega)
      have h7n : decide (7 < P.length) = false := decide_eq_false (by omega)
      clear HF hp hin hr m1 m12
      go_enter Try.func28, Try.ntmps28
      go_wp2_with fail
      refine CR.out.mono ?_
      rintro e w1 ⟨rfl, rfl⟩
      go_wp2_with fail
      refine CF.out.mono ?_
      rintro e w2 ⟨N, rfl, hN, b2⟩
      have B2 := Lib.hid b2
      have HK := Lib.hid (HN.out N hN)
      clear hN b2
      go_wp2
      go_ret
      exact ⟨ret_int (by rw [HE.out, HK.out]), B2.out⟩
    · have HE : Hid (-1 = fewRI n P M) := by unfold Hid; rw [HF.out, decide_eq_false h7]; rfl
      obtain ⟨a, c, rfl, hc, -⟩ := h
      generalize fewRI n P M = r at HE HF ⊢
      have h7' : decide (7 < (P.length : Int)) = true := decide_eq_true (by omega)
      have h7n : decide (7 < P.length) = true := decide_eq_true (by omega)
      clear HF hp hin hr m1 m12 h7
      go_enter Try.func28, Try.ntmps28
      go_wp2_with fail
      refine CR.out.mono ?_
      rintro e w1 ⟨rfl, rfl⟩
      go_wp2
      go_ret
      exact ⟨ret_int HE.out, Below.refl _ _⟩
  · have hr2 : roundsB n P m = false := by simpa using hr
    have HE : Hid (-1 = fewRI n P m) := by unfold Hid; rw [HF.out, hr2]; rfl
    rw [hr2] at CR
    obtain ⟨a, c, rfl, hc, -⟩ := h
    generalize fewRI n P m = r at HE HF ⊢
    clear HF hr hr2
    go_enter Try.func28, Try.ntmps28
    go_wp2_with fail
    refine CR.out.mono ?_
    rintro e w1 ⟨rfl, rfl⟩
    go_wp2
    go_ret
    exact ⟨ret_int HE.out, Below.refl _ _⟩
end Go.Proofs.Ythfnbnjajcigeaa

/- The walks of stage 14's laws: RoundsOk, GreedyRounds, UsesOf, RoundBound, FewestRounds and DaysFor return what the model says, and FnRounds returns true. Condition: the slices that came in read as what they are. -/
namespace Go.Proofs.Ythfnbnjajcigeaa
open Go.RowKit

theorem implGreedyLs (n m : Int) (v : Value) (P : List Int) (w : World) (h : IntsAt w v P) (hm : P.length ≤ 1048576) : Calls Try.prog 18 #[.int .i64 n, v, .int .i64 m] w (GivesLs (gS n P m) (roundsB n P m) w) :=
  (implGreedy n m v P w h hm).mono fun _ _ h => h.ls
theorem walkFnExactRoundsOk (w : World) (n : Int) (_ : (Lit.int .i64 n).wf = true) (v : Value) (P : List Int) (cp : CameInts w v P) (m : Int) (_ : (Lit.int .i64 m).wf = true) (vs : Value) (S : List (List Int)) (cs : CameLs w vs S) :
    Calls Try.prog 3 #[.int .i64 n, v, .int .i64 m, vs] w fun e w' => e = .returned (.bool true) ∧ Below w.heap.size w w' :=
  lawRoundsOk n m P S w v vs cp.1 cs.1 cs.2.1 (fun d hd => (cs.2.2 d hd).1) fun hm hmS W _ _ h hS => implRoundsOk n m _ _ P S W h hS hm hmS
theorem walkFnExactGreedyRounds (w : World) (n : Int) (_ : (Lit.int .i64 n).wf = true) (v : Value) (P : List Int) (cp : CameInts w v P) (m : Int) (_ : (Lit.int .i64 m).wf = true) :
    Calls Try.prog 4 #[.int .i64 n, v, .int .i64 m] w fun e w' => e = .returned (.bool true) ∧ Below w.heap.size w w' :=
  lawGreedyRounds n P m w v cp.1 fun hm W _ h => implGreedyLs n m _ P W h hm
theorem walkFnExactUsesOf (w : World) (n : Int) (_ : (Lit.int .i64 n).wf = true) (v : Value) (P : List Int) (cp : CameInts w v P) :
    Calls Try.prog 5 #[.int .i64 n, v] w fun e w' => e = .returned (.bool true) ∧ Below w.heap.size w w' :=
  lawUsesOf n P w v cp.1 fun hm W _ h => implUses n _ P W h hm
theorem walkFnExactRoundBound (w : World) (n : Int) (_ : (Lit.int .i64 n).wf = true) (v : Value) (P : List Int) (cp : CameInts w v P) (m : Int) (_ : (Lit.int .i64 m).wf = true) :
    Calls Try.prog 6 #[.int .i64 n, v, .int .i64 m] w fun e w' => e = .returned (.bool true) ∧ Below w.heap.size w w' :=
  lawRoundBound n P m w v cp.1 fun hm W _ h => implBoundR n m _ P W h hm
theorem walkFnExactFewestRounds (w : World) (n : Int) (_ : (Lit.int .i64 n).wf = true) (v : Value) (P : List Int) (cp : CameInts w v P) (m : Int) (_ : (Lit.int .i64 m).wf = true) :
    Calls Try.prog 7 #[.int .i64 n, v, .int .i64 m] w fun e w' => e = .returned (.bool true) ∧ Below w.heap.size w w' :=
  lawFewestRounds n P m w v cp.1 fun hm W _ h => implFewest n m _ P W h hm
theorem walkFnExactDaysFor (w : World) (n : Int) (_ : (Lit.int .i64 n).wf = true) (v : Value) (P : List Int) (cp : CameInts w v P) (m : Int) (_ : (Lit.int .i64 m).wf = true) (d : Int) (_ : (Lit.int .i64 d).wf = true) :
    Calls Try.prog 8 #[.int .i64 n, v, .int .i64 m, .int .i64 d] w fun e w' => e = .returned (.bool true) ∧ Below w.heap.size w w' :=
  lawDaysFor n P m d w v cp.1 fun hm W _ h => implDays n m d _ P W h hm
end Go.Proofs.Ythfnbnjajcigeaa
