/- The walk of the model's draw of a plan. Condition: from 2 to 13 coins. -/
import Derived.Test.YtipbjioghicmlaaPlanRow
namespace Go.Proofs.Ytipbjioghicmlaa
open Go.RowKit

theorem FiveVar.put2 {w : World} {b : Nat} {x y : Value} {p q r : Int} (h : FiveVar w b x y p q r) (z : Int) : FiveVar (w.setCell ⟨b, 2, none⟩ (.int .i64 z)) b x y z q r := by
  obtain ⟨⟨e0, e1, e2, e3, e4, hlt⟩, f0, f1, f2, f3, f4⟩ := h
  have key : ∀ o, o ≠ 2 → (w.setCell ⟨b, 2, none⟩ (.int .i64 z)).cell? ⟨b, o, none⟩ = w.cell? ⟨b, o, none⟩ := fun o ho =>
    World.cell?_setCell_other (w := w) (a := ⟨b, 2, none⟩) (b := ⟨b, o, none⟩) (v := .int .i64 z) (fun e' => ho (congrArg Addr.off e').symm)
  exact ⟨⟨by rw [key _ (by decide)]; exact e0, by rw [key _ (by decide)]; exact e1, World.cell?_setCell_same (w := w) (a := ⟨b, 2, none⟩) (v := .int .i64 z) e2, by rw [key _ (by decide)]; exact e3, by rw [key _ (by decide)]; exact e4, by simpa [World.setCell] using hlt⟩, by simpa using f0, by simpa using f1, by simpa using f2, by simpa using f3, by simpa using f4⟩
theorem FiveVar.put3 {w : World} {b : Nat} {x y : Value} {p q r : Int} (h : FiveVar w b x y p q r) (z : Int) : FiveVar (w.setCell ⟨b, 3, none⟩ (.int .i64 z)) b x y p z r := by
  obtain ⟨⟨e0, e1, e2, e3, e4, hlt⟩, f0, f1, f2, f3, f4⟩ := h
  have key : ∀ o, o ≠ 3 → (w.setCell ⟨b, 3, none⟩ (.int .i64 z)).cell? ⟨b, o, none⟩ = w.cell? ⟨b, o, none⟩ := fun o ho =>
    World.cell?_setCell_other (w := w) (a := ⟨b, 3, none⟩) (b := ⟨b, o, none⟩) (v := .int .i64 z) (fun e' => ho (congrArg Addr.off e').symm)
  exact ⟨⟨by rw [key _ (by decide)]; exact e0, by rw [key _ (by decide)]; exact e1, by rw [key _ (by decide)]; exact e2, World.cell?_setCell_same (w := w) (a := ⟨b, 3, none⟩) (v := .int .i64 z) e3, by rw [key _ (by decide)]; exact e4, by simpa [World.setCell] using hlt⟩, by simpa using f0, by simpa using f1, by simpa using f2, by simpa using f3, by simpa using f4⟩
theorem FiveVar.put4 {w : World} {b : Nat} {x y : Value} {p q r : Int} (h : FiveVar w b x y p q r) (z : Int) : FiveVar (w.setCell ⟨b, 4, none⟩ (.int .i64 z)) b x y p q z := by
  obtain ⟨⟨e0, e1, e2, e3, e4, hlt⟩, f0, f1, f2, f3, f4⟩ := h
  have key : ∀ o, o ≠ 4 → (w.setCell ⟨b, 4, none⟩ (.int .i64 z)).cell? ⟨b, o, none⟩ = w.cell? ⟨b, o, none⟩ := fun o ho =>
    World.cell?_setCell_other (w := w) (a := ⟨b, 4, none⟩) (b := ⟨b, o, none⟩) (v := .int .i64 z) (fun e' => ho (congrArg Addr.off e').symm)
  exact ⟨⟨by rw [key _ (by decide)]; exact e0, by rw [key _ (by decide)]; exact e1, by rw [key _ (by decide)]; exact e2, by rw [key _ (by decide)]; exact e3, World.cell?_setCell_same (w := w) (a := ⟨b, 4, none⟩) (v := .int .i64 z) e4, by simpa [World.setCell] using hlt⟩, by simpa using f0, by simpa using f1, by simpa using f2, by simpa using f3, by simpa using f4⟩
theorem only_set5o {T : Nat → Prop} {w w' : World} (h : Only T w w') {c : Nat} (hc : w.heap.size ≤ c) (o : Nat) (x y p q r : Value) : Only T w (set5o w' c o x y p q r) :=
  ((((h.setNew hc o x).setNew hc (o + 1) y).setNew hc (o + 2) p).setNew hc (o + 3) q).setNew hc (o + 4) r
theorem only_self {T : Nat → Prop} (w : World) : Only T w w := Only.fresh (Below.refl _ _)
theorem only_cell (w : World) (c o : Nat) (u : Value) : Only (fun k => k = c) w (w.setCell ⟨c, o, none⟩ u) := (Only.of_grown (grown_one w c o u)).mono fun k e => by simpa using e.symm
theorem plan_one {L R : List Int} {n : Int} (h : weighB L R n = true) : planB [⟨L, R, -1, -1, -1⟩] n = true := by
  obtain ⟨h1, h2, -⟩ := weigh_parts h
  refine planB_iff.2 ⟨⟨by simp, h1, h2⟩, fun k hk => ?_, fun j j0 j1 => ?_⟩
  · obtain rfl : k = 0 := by simpa using hk
    show (weighB L R n && (true && (true && true))) = true
    rw [h]; rfl
  · simp at j1; omega

/-- What the draw of a plan ends with. -/
def DrawsPlan (w : World) (b : Nat) (n : Int) (e : Ending) (w' : World) : Prop :=
  ∃ v, e = .returned v ∧ ∃ P us, PlanK w' w.heap.size v P us ∧ P ≠ [] ∧ planB P n = true ∧ Only (fun k => k = b) w w'

set_option maxRecDepth 100000 in
set_option maxHeartbeats 12800000 in
theorem specDrawPlan (W0 w : World) (b : Nat) (a : Option Addr) (len cap : Nat) (n : Int) (hB : BytesAt W0 a len) (hC : CurOk W0 w b a len cap) (hl : len ≤ 1048576) (n0 : 2 ≤ n) (n1 : n ≤ 13) :
    Calls Try.prog 42 #[.pointer (some ⟨b, 0, none⟩), .int .i64 n] w (DrawsPlan w b n) := by
  obtain ⟨i0, hi, hz0, hz1, hz2⟩ := info_parts infoNode
  have CD := Lib.hid (fun V h => specDraw W0 V b a len cap n hB h hl n0 n1)
  have C8 := Lib.hid (fun V h => below_any W0 V b a len cap 8 hB h hl (by omega) (by omega))
  have CM := Lib.hid (fun V (m : Int) (m0 : 0 < m) (m1 : m ≤ 256) h => below_any W0 V b a len cap m hB h hl m0 m1)
  have C2 := Lib.hid (fun V h => once_any W0 V b a len cap 2 hB h hl (by omega) (by omega))
  have hlt := hC.lt
  have hw0 := hC.2.1
  have K0 := Lib.hid hC
  clear hB hC
  unfold DrawsPlan
  go_enter Try.func42, Try.ntmps42
  go_wp2_with fail
  refine (CD.out w K0.out).mono ?_
  rintro e w1 ⟨_, L, R, rfl, ⟨vl, vr, rfl, A1, A2, -, D1, D2⟩, hv, hcur, hg⟩
  obtain ⟨ga, na, ca, rfl⟩ := D1
  obtain ⟨gb, nb, cb, rfl⟩ := D2
  have T1 : Only (fun k => k = b) w w1 := (Only.of_grown hg).mono fun k e => by simpa using e.symm
  have P1 := Lib.hid (plan_one hv)
  have hs1 : w.heap.size ≤ w1.heap.size := T1.size
  have A0 := alloc_below w1 (.cells #[.slice (some ⟨ga, 0, none⟩) na ca, .slice (some ⟨gb, 0, none⟩) nb cb, .int .i64 (-1), .int .i64 (-1), .int .i64 (-1)] 39)
  have R1 : Hid (PlanK (w1.alloc (.cells #[.slice (some ⟨ga, 0, none⟩) na ca, .slice (some ⟨gb, 0, none⟩) nb cb, .int .i64 (-1), .int .i64 (-1), .int .i64 (-1)] 39)) w.heap.size (.slice (some ⟨w1.heap.size, 0, none⟩) 1 1) [⟨L, R, -1, -1, -1⟩] [(.slice (some ⟨ga, 0, none⟩) na ca, .slice (some ⟨gb, 0, none⟩) nb cb)]) := by
    refine ⟨rfl, World.ownsRow_lit (base := w.heap.size) (e := 39) (size := 5) w1 #[.slice (some ⟨ga, 0, none⟩) na ca, .slice (some ⟨gb, 0, none⟩) nb cb, .int .i64 (-1), .int .i64 (-1), .int .i64 (-1)] 1 hs1 (by unfold maxLen; omega) rfl, fun i h1 h2 => ?_⟩
    obtain rfl : i = 0 := by simpa using h1
    refine ⟨⟨A1.reads.below A0, fun q e => ?_⟩, ⟨A2.reads.below A0, fun q e => ?_⟩⟩
    · have := A1.blk q e
      exact ⟨by intro e2; simp [Value.ownBlock] at e2; omega, this.1, by simp; omega⟩
    · have := A2.blk q e
      exact ⟨by intro e2; simp [Value.ownBlock] at e2; omega, this.1, by simp; omega⟩
  have K1 := Lib.hid (hcur.only (Only.fresh (T := fun _ => False) A0) fun k h => h.elim)
  have O1 := Lib.hid (T1.trans (Only.fresh A0))
  clear A1 A2 hcur hg T1 A0 hv
  go_wp2_with fail
  generalize hX1 : w1.alloc (.cells #[.slice (some ⟨ga, 0, none⟩) na ca, .slice (some ⟨gb, 0, none⟩) nb cb, .int .i64 (-1), .int .i64 (-1), .int .i64 (-1)] 39) = X1 at R1 K1 O1 ⊢
  refine (C8.out X1 K1.out).mono ?_
  rintro e w2 ⟨x8, rfl, x0, x1, hc, hg⟩
  have T2 : Only (fun k => k = b) X1 w2 := (Only.of_grown hg).mono fun k e => by simpa using e.symm
  have R2 := Lib.hid (R1.out.only T2 fun k e => by omega)
  have K2 := Lib.hid hc
  have O2 := Lib.hid (O1.out.trans T2)
  clear hc hg T2 R1 K1 O1 hX1
  go_wp2
  go_loopw [5, 6, 7, 8, 9, 31, 41, 51] (fun pv kv _ _ _ _ _ _ wr => ∃ (kk : Int) (P : List ND) (us : List (Value × Value)), kv = .int .i64 kk ∧ 0 ≤ kk ∧ P.length + kk ≤ 8 ∧ Hid (P ≠ []) ∧ Hid (planB P n = true) ∧ Hid (PlanK wr w.heap.size pv P us) ∧ Hid (CurOk W0 wr b a len cap) ∧ Hid (Only (fun k => k = b) w wr)) (fun _ kv _ _ _ _ _ _ _ => (intOf kv).toNat)
  case atStart => exact ⟨x8, _, _, rfl, x0, by simp; omega, by simp [Hid], P1, R2, K2, O2⟩
  case round =>
    clear R2 K2 O2 P1
    obtain ⟨kk, P, us, rfl, kk0, hlen, HP, HV, HK, HC, HO⟩ := hrel
    by_cases hpos : 0 < kk
    · obtain ⟨g, cp, hpv, hg0, hg1⟩ := HK.out.form HP.out
      obtain ⟨m, hm⟩ : ∃ m, P.length = m := ⟨_, rfl⟩
      have HM := Lib.hid hm
      have hm0 : 0 < m := by
        have := List.length_pos_iff.2 HP.out
        omega
      rw [hm] at hpv hlen
      subst hpv
      have hm8 : (m : Int) + kk ≤ 8 := hlen
      clear hm hlen
      go_wp2_with fail
      refine (CM.out wr (m : Int) (by omega) (by omega) HC.out).mono ?_
      rintro e w3 ⟨x, rfl, y0, y1, hc, hgr⟩
      have T3 : Only (fun k => k = b) wr w3 := (Only.of_grown hgr).mono fun k e => by simpa using e.symm
      have K3 := Lib.hid (HK.out.only T3 fun k e => by omega)
      have C3 := Lib.hid hc
      have O3 := Lib.hid (HO.out.trans T3)
      have hg3 : g < w3.heap.size := Nat.lt_of_lt_of_le hg1 T3.size
      have hs3 : w.heap.size ≤ w3.heap.size := Nat.le_trans HO.out.size T3.size
      clear hc hgr T3 HK HC HO hg1
      obtain ⟨i, rfl⟩ : ∃ i : Nat, x = (i : Int) := ⟨x.toNat, by omega⟩
      have hil : i < P.length := by rw [HM.out]; omega
      have hiu : i < us.length := by rw [K3.out.1]; exact hil
      have KN := K3.out.2.2 i hil hiu
      have KC := ncells_at K3.out.1 i hil hiu
      have KR : w3.ownsRow w.heap.size 39 5 (.slice (some ⟨g, 0, none⟩) m cp) m (ncells P us) := by
        have := K3.out.2.1
        rw [HM.out] at this
        exact this
      have q0 := KR.cellAt (i * 5) (by omega)
      have q1 := KR.cellAt (i * 5 + 1) (by omega)
      have q2 := KR.cellAt (i * 5 + 2) (by omega)
      have q3 := KR.cellAt (i * 5 + 3) (by omega)
      have q4 := KR.cellAt (i * 5 + 4) (by omega)
      rw [KC.1] at q0
      rw [KC.2.1] at q1
      rw [KC.2.2.1] at q2
      rw [KC.2.2.2.1] at q3
      rw [KC.2.2.2.2] at q4
      obtain ⟨⟨uL, uR⟩, hu⟩ : ∃ u, us[i] = u := ⟨_, rfl⟩
      have HU := Lib.hid hu
      obtain ⟨d, hd⟩ : ∃ d, P[i] = d := ⟨_, rfl⟩
      have HD := Lib.hid hd
      rw [hu] at q0 q1 KN
      rw [hd] at q2 q3 q4 KN
      obtain ⟨LL, RR, qa, qb, qc⟩ := d
      dsimp only at q0 q1 q2 q3 q4 KN
      obtain ⟨al, nl, cl, rfl⟩ := KN.1.1.form
      obtain ⟨ar, nr, cr, rfl⟩ := KN.2.1.form
      clear KN KC KR hu hd
      have F4 := Lib.hid (FiveVar.new w3 39 (.slice al nl cl) (.slice ar nr cr) qa qb qc)
      have A3 := alloc_below w3 (.cells #[.slice al nl cl, .slice ar nr cr, .int .i64 qa, .int .i64 qb, .int .i64 qc] 39)
      have T4 : Hid (Only (fun k => k = b) w3 (w3.alloc (.cells #[.slice al nl cl, .slice ar nr cr, .int .i64 qa, .int .i64 qb, .int .i64 qc] 39))) := Only.fresh A3
      have C4 := Lib.hid (C3.out.only (Only.fresh (T := fun _ => False) A3) fun k h => h.elim)
      have hnb : ¬ w3.heap.size = b := by omega
      have HNB := Lib.hid hnb
      have j0 : (0 : Int) ≤ (i : Int) := by omega
      have j1 : (i : Int) < (m : Int) := by omega
      generalize hX4 : w3.alloc (.cells #[.slice al nl cl, .slice ar nr cr, .int .i64 qa, .int .i64 qb, .int .i64 qc] 39) = X4 at F4 T4 C4
      clear A3 hnb C3
      obtain ⟨⟨e0, e1, e2, e3, e4, e5⟩, f0, f1, f2, f3, f4⟩ := F4.out

      by_cases ha : qa < 0
      · skip
        go_wp2_with fail
        refine (C2.out _ C4.out).mono ?_
        rintro e V5 ⟨t, rfl, hc, hgr⟩
        have TN : Only (fun k => k = b) X4 V5 := (Only.of_grown hgr).mono fun k e => by simpa using e.symm
        have G5 := Lib.hid (F4.out.only TN HNB.out)
        have S5 := Lib.hid (T4.out.trans TN)
        have Q5 := Lib.hid hc
        clear hc hgr TN e0 e1 e2 e3 e4 e5 f0 f1 f2 f3 f4
        obtain ⟨⟨e0, e1, e2, e3, e4, e5⟩, f0, f1, f2, f3, f4⟩ := G5.out
        cases t with
        | true =>
          have F9 := Lib.hid (G5.out.put2 (m : Int))
          have T9 := Lib.hid (S5.out.setNew (Nat.le_refl w3.heap.size) 2 (.int .i64 (m : Int)))
          have C9 := Lib.hid (Q5.out.only (only_cell V5 w3.heap.size 2 (.int .i64 (m : Int))) fun k e => by have := HNB.out; omega)
          have K9 : Hid (PlanK (V5.setCell ⟨w3.heap.size, 2, none⟩ (.int .i64 (m : Int))) w.heap.size (.slice (some ⟨g, 0, none⟩) P.length cp) P us) := by
            unfold Hid
            rw [HM.out]
            exact K3.out.only T9.out fun k e => by omega
          have KR := K9.out.2.1
          have KC := ncells_at K9.out.1 i hil hiu
          have r0 := (KR.cellAt (i * 5) (by omega)).trans KC.1
          have r1 := (KR.cellAt (i * 5 + 1) (by omega)).trans KC.2.1
          have r2 := (KR.cellAt (i * 5 + 2) (by omega)).trans KC.2.2.1
          have r3 := (KR.cellAt (i * 5 + 3) (by omega)).trans KC.2.2.2.1
          have r4 := (KR.cellAt (i * 5 + 4) (by omega)).trans KC.2.2.2.2
          rw [HU.out] at r0 r1
          rw [HD.out] at r2 r3 r4
          have z0 := KR.frozenAt (i * 5)
          have z1 := KR.frozenAt (i * 5 + 1)
          have z2 := KR.frozenAt (i * 5 + 2)
          have z3 := KR.frozenAt (i * 5 + 3)
          have z4 := KR.frozenAt (i * 5 + 4)
          have KT := K9.out.turn hil hiu (d := ⟨LL, RR, (m : Int), qb, qc⟩) (by rw [HD.out]) (by rw [HD.out])
          rw [HU.out, HM.out] at KT
          dsimp only at r0 r1 r2 r3 r4 KT
          have TT := Lib.hid (O3.out.trans (T9.out))
          obtain ⟨U, hU⟩ : ∃ U, set5o (V5.setCell ⟨w3.heap.size, 2, none⟩ (.int .i64 (m : Int))) g (i * 5) (.slice al nl cl) (.slice ar nr cr) (.int .i64 (m : Int)) (.int .i64 qb) (.int .i64 qc) = U := ⟨_, rfl⟩
          have OU := Lib.hid (only_set5o TT.out (c := g) (by omega) (i * 5) (.slice al nl cl) (.slice ar nr cr) (.int .i64 (m : Int)) (.int .i64 qb) (.int .i64 qc))
          rw [hU] at KT OU
          have KU := Lib.hid KT.1
          have CU := Lib.hid (C9.out.only KT.2 fun k e => by omega)
          unfold set5o at hU
          have HW : Hid (∀ L' R' : List Int, weighB L' R' n = true → planB (P.set i (⟨LL, RR, (m : Int), qb, qc⟩ : ND) ++ [⟨L', R', -1, -1, -1⟩]) n = true) := fun L' R' hw => plan_grow HV.out hil (by rw [HM.out]; omega) (by rw [HD.out, HM.out]; exact ⟨rfl, rfl, .inl ⟨ha, rfl, rfl, rfl⟩⟩) hw
          obtain ⟨⟨a0, a1, a2, a3, a4, a5⟩, b0, b1, b2, b3, b4⟩ := F9.out
          clear KR KC KT
          go_wp2_with fail
          clear q0 q1 q2 q3 q4 hU r0 r1 r2 r3 r4 z0 z1 z2 z3 z4 a0 a1 a2 a3 a4 a5 b0 b1 b2 b3 b4 e0 e1 e2 e3 e4 e5 f0 f1 f2 f3 f4
          refine (CD.out U CU.out).mono ?_
          rintro e w7 ⟨_, L', R', rfl, ⟨vl', vr', rfl, A1, A2, -, D1, D2⟩, hv', hcur, hgr⟩
          obtain ⟨ga', na', ca', rfl⟩ := D1
          obtain ⟨gb', nb', cb', rfl⟩ := D2
          have T7 : Only (fun k => k = b) U w7 := (Only.of_grown hgr).mono fun k e => by simpa using e.symm
          have K7 := Lib.hid (KU.out.only T7 fun k e => by omega)
          have hsu : w.heap.size ≤ U.heap.size := OU.out.size
          have hs7 : w.heap.size ≤ w7.heap.size := Nat.le_trans hsu T7.size
          have hgU : g < U.heap.size := (KU.out.2.1.lt g rfl).2
          have KR7 := Lib.hid K7.out.2.1
          have O7 := Lib.hid (OU.out.trans T7)
          have A0 := Lib.hid (alloc_below w7 (.cells #[.slice (some ⟨ga', 0, none⟩) na' ca', .slice (some ⟨gb', 0, none⟩) nb' cb', .int .i64 (-1), .int .i64 (-1), .int .i64 (-1)] 39))
          have I1 := Lib.hid (A1.reads.below A0.out)
          have I2 := Lib.hid (A2.reads.below A0.out)
          have BL1 := Lib.hid A1.blk
          have BL2 := Lib.hid A2.blk
          have C7 := Lib.hid (hcur.only (Only.fresh (T := fun _ => False) A0.out) fun k h => h.elim)
          have HVN := Lib.hid (HW.out _ _ hv')
          have hlm : (P.set i (⟨LL, RR, (m : Int), qb, qc⟩ : ND)).length = m := by rw [List.length_set]; exact HM.out
          have HLM := Lib.hid hlm
          clear A1 A2 hcur hgr hv' T7 hlm
          have KR8 : Hid (w7.ownsRow w.heap.size 39 5 (.slice (some ⟨g, 0, none⟩) m cp) m (ncells (P.set i (⟨LL, RR, (m : Int), qb, qc⟩ : ND)) us)) := by
            have := KR7.out
            rw [HLM.out] at this
            exact this
          go_wp2_with (at_builtin; refine wpList_append_own_at _ rfl _ _ 26 rfl w.heap.size 39 i0 (.agg #[.slice none 0 0, .slice none 0 0, .int .i64 0, .int .i64 0, .int .i64 0]) 5 72 Try.underlying26 hi hz0 hz1 hz2 rfl (by decide) _ _ _ rfl (KR8.out.alloc _) ⟨w7.heap.size, 0, none⟩ 1 1 [.slice (some ⟨ga', 0, none⟩) na' ca', .slice (some ⟨gb', 0, none⟩) nb' cb', .int .i64 (-1), .int .i64 (-1), .int .i64 (-1)] rfl rfl (cell_five_new _ _ _ _ _ _ _) (by simp [Value.oneCell']) (by unfold maxLen; omega) (by omega) (by simp; omega) ?_; intro v8 w8 hown' hg8 _ hat)
          have hg9 : (w7.alloc (.cells #[.slice (some ⟨ga', 0, none⟩) na' ca', .slice (some ⟨gb', 0, none⟩) nb' cb', .int .i64 (-1), .int .i64 (-1), .int .i64 (-1)] 39)).grownBy w8 (some g) := hg8
          have hat9 : v8.ownBlock = some g ∨ v8.ownBlock = some (w7.alloc (.cells #[.slice (some ⟨ga', 0, none⟩) na' ca', .slice (some ⟨gb', 0, none⟩) nb' cb', .int .i64 (-1), .int .i64 (-1), .int .i64 (-1)] 39)).heap.size := hat
          have T8 := Only.of_grown hg9
          have KP := (K7.out.below A0.out).push (d := ⟨L', R', -1, -1, -1⟩) hg9 (by rw [HLM.out]; exact hown') hat9 I1.out (fun q e => by have := BL1.out q e; exact ⟨by intro e2; simp [Value.ownBlock] at e2; omega, by omega, by simp; omega⟩) I2.out (fun q e => by have := BL2.out q e; exact ⟨by intro e2; simp [Value.ownBlock] at e2; omega, by omega, by simp; omega⟩)
          have K8 := Lib.hid KP
          have C8' := Lib.hid (C7.out.only T8 fun k e => by have e' : g = k := (by simpa using e); omega)
          have O8 : Hid (Only (fun k => k = b) w w8) := by
            have h1 := O7.out.trans (Only.fresh A0.out)
            refine ⟨T8.os.trans h1.os, T8.tape.trans h1.tape, T8.output.trans h1.output, Nat.le_trans h1.size T8.size, fun q hq hn => ?_⟩
            rw [T8.block q (by have := h1.size; omega) (fun e => by have e' : g = q := (by simpa using e); omega)]
            exact h1.block q hq hn
          clear KP hown' hg8 hat hg9 hat9 T8
          go_wp2
          go_roundw
          case rel => exact ⟨kk - 1, _, _, by go_num, by omega, by rw [List.length_append, HLM.out]; simp; omega, by simp [Hid], HVN, K8, C8', O8⟩
          case measure => simp [intOf]; omega
        | false =>
          by_cases hb : qb < 0
          · skip
            go_wp2_with fail
            refine (C2.out _ Q5.out).mono ?_
            rintro e V6 ⟨t, rfl, hc, hgr⟩
            have TN : Only (fun k => k = b) V5 V6 := (Only.of_grown hgr).mono fun k e => by simpa using e.symm
            have G6 := Lib.hid (G5.out.only TN HNB.out)
            have S6 := Lib.hid (S5.out.trans TN)
            have Q6 := Lib.hid hc
            clear hc hgr TN e0 e1 e2 e3 e4 e5 f0 f1 f2 f3 f4
            obtain ⟨⟨e0, e1, e2, e3, e4, e5⟩, f0, f1, f2, f3, f4⟩ := G6.out
            cases t with
            | true =>
              have F9 := Lib.hid (G6.out.put3 (m : Int))
              have T9 := Lib.hid (S6.out.setNew (Nat.le_refl w3.heap.size) 3 (.int .i64 (m : Int)))
              have C9 := Lib.hid (Q6.out.only (only_cell V6 w3.heap.size 3 (.int .i64 (m : Int))) fun k e => by have := HNB.out; omega)
              have K9 : Hid (PlanK (V6.setCell ⟨w3.heap.size, 3, none⟩ (.int .i64 (m : Int))) w.heap.size (.slice (some ⟨g, 0, none⟩) P.length cp) P us) := by
                unfold Hid
                rw [HM.out]
                exact K3.out.only T9.out fun k e => by omega
              have KR := K9.out.2.1
              have KC := ncells_at K9.out.1 i hil hiu
              have r0 := (KR.cellAt (i * 5) (by omega)).trans KC.1
              have r1 := (KR.cellAt (i * 5 + 1) (by omega)).trans KC.2.1
              have r2 := (KR.cellAt (i * 5 + 2) (by omega)).trans KC.2.2.1
              have r3 := (KR.cellAt (i * 5 + 3) (by omega)).trans KC.2.2.2.1
              have r4 := (KR.cellAt (i * 5 + 4) (by omega)).trans KC.2.2.2.2
              rw [HU.out] at r0 r1
              rw [HD.out] at r2 r3 r4
              have z0 := KR.frozenAt (i * 5)
              have z1 := KR.frozenAt (i * 5 + 1)
              have z2 := KR.frozenAt (i * 5 + 2)
              have z3 := KR.frozenAt (i * 5 + 3)
              have z4 := KR.frozenAt (i * 5 + 4)
              have KT := K9.out.turn hil hiu (d := ⟨LL, RR, qa, (m : Int), qc⟩) (by rw [HD.out]) (by rw [HD.out])
              rw [HU.out, HM.out] at KT
              dsimp only at r0 r1 r2 r3 r4 KT
              have TT := Lib.hid (O3.out.trans (T9.out))
              obtain ⟨U, hU⟩ : ∃ U, set5o (V6.setCell ⟨w3.heap.size, 3, none⟩ (.int .i64 (m : Int))) g (i * 5) (.slice al nl cl) (.slice ar nr cr) (.int .i64 qa) (.int .i64 (m : Int)) (.int .i64 qc) = U := ⟨_, rfl⟩
              have OU := Lib.hid (only_set5o TT.out (c := g) (by omega) (i * 5) (.slice al nl cl) (.slice ar nr cr) (.int .i64 qa) (.int .i64 (m : Int)) (.int .i64 qc))
              rw [hU] at KT OU
              have KU := Lib.hid KT.1
              have CU := Lib.hid (C9.out.only KT.2 fun k e => by omega)
              unfold set5o at hU
              have HW : Hid (∀ L' R' : List Int, weighB L' R' n = true → planB (P.set i (⟨LL, RR, qa, (m : Int), qc⟩ : ND) ++ [⟨L', R', -1, -1, -1⟩]) n = true) := fun L' R' hw => plan_grow HV.out hil (by rw [HM.out]; omega) (by rw [HD.out, HM.out]; exact ⟨rfl, rfl, .inr (.inl ⟨hb, rfl, rfl, rfl⟩)⟩) hw
              obtain ⟨⟨a0, a1, a2, a3, a4, a5⟩, b0, b1, b2, b3, b4⟩ := F9.out
              clear KR KC KT
              go_wp2_with fail
              clear q0 q1 q2 q3 q4 hU r0 r1 r2 r3 r4 z0 z1 z2 z3 z4 a0 a1 a2 a3 a4 a5 b0 b1 b2 b3 b4 e0 e1 e2 e3 e4 e5 f0 f1 f2 f3 f4
              refine (CD.out U CU.out).mono ?_
              rintro e w7 ⟨_, L', R', rfl, ⟨vl', vr', rfl, A1, A2, -, D1, D2⟩, hv', hcur, hgr⟩
              obtain ⟨ga', na', ca', rfl⟩ := D1
              obtain ⟨gb', nb', cb', rfl⟩ := D2
              have T7 : Only (fun k => k = b) U w7 := (Only.of_grown hgr).mono fun k e => by simpa using e.symm
              have K7 := Lib.hid (KU.out.only T7 fun k e => by omega)
              have hsu : w.heap.size ≤ U.heap.size := OU.out.size
              have hs7 : w.heap.size ≤ w7.heap.size := Nat.le_trans hsu T7.size
              have hgU : g < U.heap.size := (KU.out.2.1.lt g rfl).2
              have KR7 := Lib.hid K7.out.2.1
              have O7 := Lib.hid (OU.out.trans T7)
              have A0 := Lib.hid (alloc_below w7 (.cells #[.slice (some ⟨ga', 0, none⟩) na' ca', .slice (some ⟨gb', 0, none⟩) nb' cb', .int .i64 (-1), .int .i64 (-1), .int .i64 (-1)] 39))
              have I1 := Lib.hid (A1.reads.below A0.out)
              have I2 := Lib.hid (A2.reads.below A0.out)
              have BL1 := Lib.hid A1.blk
              have BL2 := Lib.hid A2.blk
              have C7 := Lib.hid (hcur.only (Only.fresh (T := fun _ => False) A0.out) fun k h => h.elim)
              have HVN := Lib.hid (HW.out _ _ hv')
              have hlm : (P.set i (⟨LL, RR, qa, (m : Int), qc⟩ : ND)).length = m := by rw [List.length_set]; exact HM.out
              have HLM := Lib.hid hlm
              clear A1 A2 hcur hgr hv' T7 hlm
              have KR8 : Hid (w7.ownsRow w.heap.size 39 5 (.slice (some ⟨g, 0, none⟩) m cp) m (ncells (P.set i (⟨LL, RR, qa, (m : Int), qc⟩ : ND)) us)) := by
                have := KR7.out
                rw [HLM.out] at this
                exact this
              go_wp2_with (at_builtin; refine wpList_append_own_at _ rfl _ _ 26 rfl w.heap.size 39 i0 (.agg #[.slice none 0 0, .slice none 0 0, .int .i64 0, .int .i64 0, .int .i64 0]) 5 72 Try.underlying26 hi hz0 hz1 hz2 rfl (by decide) _ _ _ rfl (KR8.out.alloc _) ⟨w7.heap.size, 0, none⟩ 1 1 [.slice (some ⟨ga', 0, none⟩) na' ca', .slice (some ⟨gb', 0, none⟩) nb' cb', .int .i64 (-1), .int .i64 (-1), .int .i64 (-1)] rfl rfl (cell_five_new _ _ _ _ _ _ _) (by simp [Value.oneCell']) (by unfold maxLen; omega) (by omega) (by simp; omega) ?_; intro v8 w8 hown' hg8 _ hat)
              have hg9 : (w7.alloc (.cells #[.slice (some ⟨ga', 0, none⟩) na' ca', .slice (some ⟨gb', 0, none⟩) nb' cb', .int .i64 (-1), .int .i64 (-1), .int .i64 (-1)] 39)).grownBy w8 (some g) := hg8
              have hat9 : v8.ownBlock = some g ∨ v8.ownBlock = some (w7.alloc (.cells #[.slice (some ⟨ga', 0, none⟩) na' ca', .slice (some ⟨gb', 0, none⟩) nb' cb', .int .i64 (-1), .int .i64 (-1), .int .i64 (-1)] 39)).heap.size := hat
              have T8 := Only.of_grown hg9
              have KP := (K7.out.below A0.out).push (d := ⟨L', R', -1, -1, -1⟩) hg9 (by rw [HLM.out]; exact hown') hat9 I1.out (fun q e => by have := BL1.out q e; exact ⟨by intro e2; simp [Value.ownBlock] at e2; omega, by omega, by simp; omega⟩) I2.out (fun q e => by have := BL2.out q e; exact ⟨by intro e2; simp [Value.ownBlock] at e2; omega, by omega, by simp; omega⟩)
              have K8 := Lib.hid KP
              have C8' := Lib.hid (C7.out.only T8 fun k e => by have e' : g = k := (by simpa using e); omega)
              have O8 : Hid (Only (fun k => k = b) w w8) := by
                have h1 := O7.out.trans (Only.fresh A0.out)
                refine ⟨T8.os.trans h1.os, T8.tape.trans h1.tape, T8.output.trans h1.output, Nat.le_trans h1.size T8.size, fun q hq hn => ?_⟩
                rw [T8.block q (by have := h1.size; omega) (fun e => by have e' : g = q := (by simpa using e); omega)]
                exact h1.block q hq hn
              clear KP hown' hg8 hat hg9 hat9 T8
              go_wp2
              go_roundw
              case rel => exact ⟨kk - 1, _, _, by go_num, by omega, by rw [List.length_append, HLM.out]; simp; omega, by simp [Hid], HVN, K8, C8', O8⟩
              case measure => simp [intOf]; omega
            | false =>
              by_cases hc : qc < 0
              · skip
                have F9 := Lib.hid (G6.out.put4 (m : Int))
                have T9 := Lib.hid (S6.out.setNew (Nat.le_refl w3.heap.size) 4 (.int .i64 (m : Int)))
                have C9 := Lib.hid (Q6.out.only (only_cell V6 w3.heap.size 4 (.int .i64 (m : Int))) fun k e => by have := HNB.out; omega)
                have K9 : Hid (PlanK (V6.setCell ⟨w3.heap.size, 4, none⟩ (.int .i64 (m : Int))) w.heap.size (.slice (some ⟨g, 0, none⟩) P.length cp) P us) := by
                  unfold Hid
                  rw [HM.out]
                  exact K3.out.only T9.out fun k e => by omega
                have KR := K9.out.2.1
                have KC := ncells_at K9.out.1 i hil hiu
                have r0 := (KR.cellAt (i * 5) (by omega)).trans KC.1
                have r1 := (KR.cellAt (i * 5 + 1) (by omega)).trans KC.2.1
                have r2 := (KR.cellAt (i * 5 + 2) (by omega)).trans KC.2.2.1
                have r3 := (KR.cellAt (i * 5 + 3) (by omega)).trans KC.2.2.2.1
                have r4 := (KR.cellAt (i * 5 + 4) (by omega)).trans KC.2.2.2.2
                rw [HU.out] at r0 r1
                rw [HD.out] at r2 r3 r4
                have z0 := KR.frozenAt (i * 5)
                have z1 := KR.frozenAt (i * 5 + 1)
                have z2 := KR.frozenAt (i * 5 + 2)
                have z3 := KR.frozenAt (i * 5 + 3)
                have z4 := KR.frozenAt (i * 5 + 4)
                have KT := K9.out.turn hil hiu (d := ⟨LL, RR, qa, qb, (m : Int)⟩) (by rw [HD.out]) (by rw [HD.out])
                rw [HU.out, HM.out] at KT
                dsimp only at r0 r1 r2 r3 r4 KT
                have TT := Lib.hid (O3.out.trans (T9.out))
                obtain ⟨U, hU⟩ : ∃ U, set5o (V6.setCell ⟨w3.heap.size, 4, none⟩ (.int .i64 (m : Int))) g (i * 5) (.slice al nl cl) (.slice ar nr cr) (.int .i64 qa) (.int .i64 qb) (.int .i64 (m : Int)) = U := ⟨_, rfl⟩
                have OU := Lib.hid (only_set5o TT.out (c := g) (by omega) (i * 5) (.slice al nl cl) (.slice ar nr cr) (.int .i64 qa) (.int .i64 qb) (.int .i64 (m : Int)))
                rw [hU] at KT OU
                have KU := Lib.hid KT.1
                have CU := Lib.hid (C9.out.only KT.2 fun k e => by omega)
                unfold set5o at hU
                have HW : Hid (∀ L' R' : List Int, weighB L' R' n = true → planB (P.set i (⟨LL, RR, qa, qb, (m : Int)⟩ : ND) ++ [⟨L', R', -1, -1, -1⟩]) n = true) := fun L' R' hw => plan_grow HV.out hil (by rw [HM.out]; omega) (by rw [HD.out, HM.out]; exact ⟨rfl, rfl, .inr (.inr ⟨hc, rfl, rfl, rfl⟩)⟩) hw
                obtain ⟨⟨a0, a1, a2, a3, a4, a5⟩, b0, b1, b2, b3, b4⟩ := F9.out
                clear KR KC KT
                go_wp2_with fail
                clear q0 q1 q2 q3 q4 hU r0 r1 r2 r3 r4 z0 z1 z2 z3 z4 a0 a1 a2 a3 a4 a5 b0 b1 b2 b3 b4 e0 e1 e2 e3 e4 e5 f0 f1 f2 f3 f4
                refine (CD.out U CU.out).mono ?_
                rintro e w7 ⟨_, L', R', rfl, ⟨vl', vr', rfl, A1, A2, -, D1, D2⟩, hv', hcur, hgr⟩
                obtain ⟨ga', na', ca', rfl⟩ := D1
                obtain ⟨gb', nb', cb', rfl⟩ := D2
                have T7 : Only (fun k => k = b) U w7 := (Only.of_grown hgr).mono fun k e => by simpa using e.symm
                have K7 := Lib.hid (KU.out.only T7 fun k e => by omega)
                have hsu : w.heap.size ≤ U.heap.size := OU.out.size
                have hs7 : w.heap.size ≤ w7.heap.size := Nat.le_trans hsu T7.size
                have hgU : g < U.heap.size := (KU.out.2.1.lt g rfl).2
                have KR7 := Lib.hid K7.out.2.1
                have O7 := Lib.hid (OU.out.trans T7)
                have A0 := Lib.hid (alloc_below w7 (.cells #[.slice (some ⟨ga', 0, none⟩) na' ca', .slice (some ⟨gb', 0, none⟩) nb' cb', .int .i64 (-1), .int .i64 (-1), .int .i64 (-1)] 39))
                have I1 := Lib.hid (A1.reads.below A0.out)
                have I2 := Lib.hid (A2.reads.below A0.out)
                have BL1 := Lib.hid A1.blk
                have BL2 := Lib.hid A2.blk
                have C7 := Lib.hid (hcur.only (Only.fresh (T := fun _ => False) A0.out) fun k h => h.elim)
                have HVN := Lib.hid (HW.out _ _ hv')
                have hlm : (P.set i (⟨LL, RR, qa, qb, (m : Int)⟩ : ND)).length = m := by rw [List.length_set]; exact HM.out
                have HLM := Lib.hid hlm
                clear A1 A2 hcur hgr hv' T7 hlm
                have KR8 : Hid (w7.ownsRow w.heap.size 39 5 (.slice (some ⟨g, 0, none⟩) m cp) m (ncells (P.set i (⟨LL, RR, qa, qb, (m : Int)⟩ : ND)) us)) := by
                  have := KR7.out
                  rw [HLM.out] at this
                  exact this
                go_wp2_with (at_builtin; refine wpList_append_own_at _ rfl _ _ 26 rfl w.heap.size 39 i0 (.agg #[.slice none 0 0, .slice none 0 0, .int .i64 0, .int .i64 0, .int .i64 0]) 5 72 Try.underlying26 hi hz0 hz1 hz2 rfl (by decide) _ _ _ rfl (KR8.out.alloc _) ⟨w7.heap.size, 0, none⟩ 1 1 [.slice (some ⟨ga', 0, none⟩) na' ca', .slice (some ⟨gb', 0, none⟩) nb' cb', .int .i64 (-1), .int .i64 (-1), .int .i64 (-1)] rfl rfl (cell_five_new _ _ _ _ _ _ _) (by simp [Value.oneCell']) (by unfold maxLen; omega) (by omega) (by simp; omega) ?_; intro v8 w8 hown' hg8 _ hat)
                have hg9 : (w7.alloc (.cells #[.slice (some ⟨ga', 0, none⟩) na' ca', .slice (some ⟨gb', 0, none⟩) nb' cb', .int .i64 (-1), .int .i64 (-1), .int .i64 (-1)] 39)).grownBy w8 (some g) := hg8
                have hat9 : v8.ownBlock = some g ∨ v8.ownBlock = some (w7.alloc (.cells #[.slice (some ⟨ga', 0, none⟩) na' ca', .slice (some ⟨gb', 0, none⟩) nb' cb', .int .i64 (-1), .int .i64 (-1), .int .i64 (-1)] 39)).heap.size := hat
                have T8 := Only.of_grown hg9
                have KP := (K7.out.below A0.out).push (d := ⟨L', R', -1, -1, -1⟩) hg9 (by rw [HLM.out]; exact hown') hat9 I1.out (fun q e => by have := BL1.out q e; exact ⟨by intro e2; simp [Value.ownBlock] at e2; omega, by omega, by simp; omega⟩) I2.out (fun q e => by have := BL2.out q e; exact ⟨by intro e2; simp [Value.ownBlock] at e2; omega, by omega, by simp; omega⟩)
                have K8 := Lib.hid KP
                have C8' := Lib.hid (C7.out.only T8 fun k e => by have e' : g = k := (by simpa using e); omega)
                have O8 : Hid (Only (fun k => k = b) w w8) := by
                  have h1 := O7.out.trans (Only.fresh A0.out)
                  refine ⟨T8.os.trans h1.os, T8.tape.trans h1.tape, T8.output.trans h1.output, Nat.le_trans h1.size T8.size, fun q hq hn => ?_⟩
                  rw [T8.block q (by have := h1.size; omega) (fun e => by have e' : g = q := (by simpa using e); omega)]
                  exact h1.block q hq hn
                clear KP hown' hg8 hat hg9 hat9 T8
                go_wp2
                go_roundw
                case rel => exact ⟨kk - 1, _, _, by go_num, by omega, by rw [List.length_append, HLM.out]; simp; omega, by simp [Hid], HVN, K8, C8', O8⟩
                case measure => simp [intOf]; omega
              · skip
                have K9 := Lib.hid (K3.out.only S6.out fun k e => by omega)
                have O9 := Lib.hid (O3.out.trans S6.out)
                go_wp2
                go_roundw
                case rel => exact ⟨kk - 1, P, us, by go_num, by omega, by have := HM.out; omega, HP, HV, K9, Q6, O9⟩
                case measure => simp [intOf]; omega
          · skip
            by_cases hc : qc < 0
            · skip
              have F9 := Lib.hid (G5.out.put4 (m : Int))
              have T9 := Lib.hid (S5.out.setNew (Nat.le_refl w3.heap.size) 4 (.int .i64 (m : Int)))
              have C9 := Lib.hid (Q5.out.only (only_cell V5 w3.heap.size 4 (.int .i64 (m : Int))) fun k e => by have := HNB.out; omega)
              have K9 : Hid (PlanK (V5.setCell ⟨w3.heap.size, 4, none⟩ (.int .i64 (m : Int))) w.heap.size (.slice (some ⟨g, 0, none⟩) P.length cp) P us) := by
                unfold Hid
                rw [HM.out]
                exact K3.out.only T9.out fun k e => by omega
              have KR := K9.out.2.1
              have KC := ncells_at K9.out.1 i hil hiu
              have r0 := (KR.cellAt (i * 5) (by omega)).trans KC.1
              have r1 := (KR.cellAt (i * 5 + 1) (by omega)).trans KC.2.1
              have r2 := (KR.cellAt (i * 5 + 2) (by omega)).trans KC.2.2.1
              have r3 := (KR.cellAt (i * 5 + 3) (by omega)).trans KC.2.2.2.1
              have r4 := (KR.cellAt (i * 5 + 4) (by omega)).trans KC.2.2.2.2
              rw [HU.out] at r0 r1
              rw [HD.out] at r2 r3 r4
              have z0 := KR.frozenAt (i * 5)
              have z1 := KR.frozenAt (i * 5 + 1)
              have z2 := KR.frozenAt (i * 5 + 2)
              have z3 := KR.frozenAt (i * 5 + 3)
              have z4 := KR.frozenAt (i * 5 + 4)
              have KT := K9.out.turn hil hiu (d := ⟨LL, RR, qa, qb, (m : Int)⟩) (by rw [HD.out]) (by rw [HD.out])
              rw [HU.out, HM.out] at KT
              dsimp only at r0 r1 r2 r3 r4 KT
              have TT := Lib.hid (O3.out.trans (T9.out))
              obtain ⟨U, hU⟩ : ∃ U, set5o (V5.setCell ⟨w3.heap.size, 4, none⟩ (.int .i64 (m : Int))) g (i * 5) (.slice al nl cl) (.slice ar nr cr) (.int .i64 qa) (.int .i64 qb) (.int .i64 (m : Int)) = U := ⟨_, rfl⟩
              have OU := Lib.hid (only_set5o TT.out (c := g) (by omega) (i * 5) (.slice al nl cl) (.slice ar nr cr) (.int .i64 qa) (.int .i64 qb) (.int .i64 (m : Int)))
              rw [hU] at KT OU
              have KU := Lib.hid KT.1
              have CU := Lib.hid (C9.out.only KT.2 fun k e => by omega)
              unfold set5o at hU
              have HW : Hid (∀ L' R' : List Int, weighB L' R' n = true → planB (P.set i (⟨LL, RR, qa, qb, (m : Int)⟩ : ND) ++ [⟨L', R', -1, -1, -1⟩]) n = true) := fun L' R' hw => plan_grow HV.out hil (by rw [HM.out]; omega) (by rw [HD.out, HM.out]; exact ⟨rfl, rfl, .inr (.inr ⟨hc, rfl, rfl, rfl⟩)⟩) hw
              obtain ⟨⟨a0, a1, a2, a3, a4, a5⟩, b0, b1, b2, b3, b4⟩ := F9.out
              clear KR KC KT
              go_wp2_with fail
              clear q0 q1 q2 q3 q4 hU r0 r1 r2 r3 r4 z0 z1 z2 z3 z4 a0 a1 a2 a3 a4 a5 b0 b1 b2 b3 b4 e0 e1 e2 e3 e4 e5 f0 f1 f2 f3 f4
              refine (CD.out U CU.out).mono ?_
              rintro e w7 ⟨_, L', R', rfl, ⟨vl', vr', rfl, A1, A2, -, D1, D2⟩, hv', hcur, hgr⟩
              obtain ⟨ga', na', ca', rfl⟩ := D1
              obtain ⟨gb', nb', cb', rfl⟩ := D2
              have T7 : Only (fun k => k = b) U w7 := (Only.of_grown hgr).mono fun k e => by simpa using e.symm
              have K7 := Lib.hid (KU.out.only T7 fun k e => by omega)
              have hsu : w.heap.size ≤ U.heap.size := OU.out.size
              have hs7 : w.heap.size ≤ w7.heap.size := Nat.le_trans hsu T7.size
              have hgU : g < U.heap.size := (KU.out.2.1.lt g rfl).2
              have KR7 := Lib.hid K7.out.2.1
              have O7 := Lib.hid (OU.out.trans T7)
              have A0 := Lib.hid (alloc_below w7 (.cells #[.slice (some ⟨ga', 0, none⟩) na' ca', .slice (some ⟨gb', 0, none⟩) nb' cb', .int .i64 (-1), .int .i64 (-1), .int .i64 (-1)] 39))
              have I1 := Lib.hid (A1.reads.below A0.out)
              have I2 := Lib.hid (A2.reads.below A0.out)
              have BL1 := Lib.hid A1.blk
              have BL2 := Lib.hid A2.blk
              have C7 := Lib.hid (hcur.only (Only.fresh (T := fun _ => False) A0.out) fun k h => h.elim)
              have HVN := Lib.hid (HW.out _ _ hv')
              have hlm : (P.set i (⟨LL, RR, qa, qb, (m : Int)⟩ : ND)).length = m := by rw [List.length_set]; exact HM.out
              have HLM := Lib.hid hlm
              clear A1 A2 hcur hgr hv' T7 hlm
              have KR8 : Hid (w7.ownsRow w.heap.size 39 5 (.slice (some ⟨g, 0, none⟩) m cp) m (ncells (P.set i (⟨LL, RR, qa, qb, (m : Int)⟩ : ND)) us)) := by
                have := KR7.out
                rw [HLM.out] at this
                exact this
              go_wp2_with (at_builtin; refine wpList_append_own_at _ rfl _ _ 26 rfl w.heap.size 39 i0 (.agg #[.slice none 0 0, .slice none 0 0, .int .i64 0, .int .i64 0, .int .i64 0]) 5 72 Try.underlying26 hi hz0 hz1 hz2 rfl (by decide) _ _ _ rfl (KR8.out.alloc _) ⟨w7.heap.size, 0, none⟩ 1 1 [.slice (some ⟨ga', 0, none⟩) na' ca', .slice (some ⟨gb', 0, none⟩) nb' cb', .int .i64 (-1), .int .i64 (-1), .int .i64 (-1)] rfl rfl (cell_five_new _ _ _ _ _ _ _) (by simp [Value.oneCell']) (by unfold maxLen; omega) (by omega) (by simp; omega) ?_; intro v8 w8 hown' hg8 _ hat)
              have hg9 : (w7.alloc (.cells #[.slice (some ⟨ga', 0, none⟩) na' ca', .slice (some ⟨gb', 0, none⟩) nb' cb', .int .i64 (-1), .int .i64 (-1), .int .i64 (-1)] 39)).grownBy w8 (some g) := hg8
              have hat9 : v8.ownBlock = some g ∨ v8.ownBlock = some (w7.alloc (.cells #[.slice (some ⟨ga', 0, none⟩) na' ca', .slice (some ⟨gb', 0, none⟩) nb' cb', .int .i64 (-1), .int .i64 (-1), .int .i64 (-1)] 39)).heap.size := hat
              have T8 := Only.of_grown hg9
              have KP := (K7.out.below A0.out).push (d := ⟨L', R', -1, -1, -1⟩) hg9 (by rw [HLM.out]; exact hown') hat9 I1.out (fun q e => by have := BL1.out q e; exact ⟨by intro e2; simp [Value.ownBlock] at e2; omega, by omega, by simp; omega⟩) I2.out (fun q e => by have := BL2.out q e; exact ⟨by intro e2; simp [Value.ownBlock] at e2; omega, by omega, by simp; omega⟩)
              have K8 := Lib.hid KP
              have C8' := Lib.hid (C7.out.only T8 fun k e => by have e' : g = k := (by simpa using e); omega)
              have O8 : Hid (Only (fun k => k = b) w w8) := by
                have h1 := O7.out.trans (Only.fresh A0.out)
                refine ⟨T8.os.trans h1.os, T8.tape.trans h1.tape, T8.output.trans h1.output, Nat.le_trans h1.size T8.size, fun q hq hn => ?_⟩
                rw [T8.block q (by have := h1.size; omega) (fun e => by have e' : g = q := (by simpa using e); omega)]
                exact h1.block q hq hn
              clear KP hown' hg8 hat hg9 hat9 T8
              go_wp2
              go_roundw
              case rel => exact ⟨kk - 1, _, _, by go_num, by omega, by rw [List.length_append, HLM.out]; simp; omega, by simp [Hid], HVN, K8, C8', O8⟩
              case measure => simp [intOf]; omega
            · skip
              have K9 := Lib.hid (K3.out.only S5.out fun k e => by omega)
              have O9 := Lib.hid (O3.out.trans S5.out)
              go_wp2
              go_roundw
              case rel => exact ⟨kk - 1, P, us, by go_num, by omega, by have := HM.out; omega, HP, HV, K9, Q5, O9⟩
              case measure => simp [intOf]; omega
      · skip
        by_cases hb : qb < 0
        · skip
          go_wp2_with fail
          refine (C2.out _ C4.out).mono ?_
          rintro e V6 ⟨t, rfl, hc, hgr⟩
          have TN : Only (fun k => k = b) X4 V6 := (Only.of_grown hgr).mono fun k e => by simpa using e.symm
          have G6 := Lib.hid (F4.out.only TN HNB.out)
          have S6 := Lib.hid (T4.out.trans TN)
          have Q6 := Lib.hid hc
          clear hc hgr TN e0 e1 e2 e3 e4 e5 f0 f1 f2 f3 f4
          obtain ⟨⟨e0, e1, e2, e3, e4, e5⟩, f0, f1, f2, f3, f4⟩ := G6.out
          cases t with
          | true =>
            have F9 := Lib.hid (G6.out.put3 (m : Int))
            have T9 := Lib.hid (S6.out.setNew (Nat.le_refl w3.heap.size) 3 (.int .i64 (m : Int)))
            have C9 := Lib.hid (Q6.out.only (only_cell V6 w3.heap.size 3 (.int .i64 (m : Int))) fun k e => by have := HNB.out; omega)
            have K9 : Hid (PlanK (V6.setCell ⟨w3.heap.size, 3, none⟩ (.int .i64 (m : Int))) w.heap.size (.slice (some ⟨g, 0, none⟩) P.length cp) P us) := by
              unfold Hid
              rw [HM.out]
              exact K3.out.only T9.out fun k e => by omega
            have KR := K9.out.2.1
            have KC := ncells_at K9.out.1 i hil hiu
            have r0 := (KR.cellAt (i * 5) (by omega)).trans KC.1
            have r1 := (KR.cellAt (i * 5 + 1) (by omega)).trans KC.2.1
            have r2 := (KR.cellAt (i * 5 + 2) (by omega)).trans KC.2.2.1
            have r3 := (KR.cellAt (i * 5 + 3) (by omega)).trans KC.2.2.2.1
            have r4 := (KR.cellAt (i * 5 + 4) (by omega)).trans KC.2.2.2.2
            rw [HU.out] at r0 r1
            rw [HD.out] at r2 r3 r4
            have z0 := KR.frozenAt (i * 5)
            have z1 := KR.frozenAt (i * 5 + 1)
            have z2 := KR.frozenAt (i * 5 + 2)
            have z3 := KR.frozenAt (i * 5 + 3)
            have z4 := KR.frozenAt (i * 5 + 4)
            have KT := K9.out.turn hil hiu (d := ⟨LL, RR, qa, (m : Int), qc⟩) (by rw [HD.out]) (by rw [HD.out])
            rw [HU.out, HM.out] at KT
            dsimp only at r0 r1 r2 r3 r4 KT
            have TT := Lib.hid (O3.out.trans (T9.out))
            obtain ⟨U, hU⟩ : ∃ U, set5o (V6.setCell ⟨w3.heap.size, 3, none⟩ (.int .i64 (m : Int))) g (i * 5) (.slice al nl cl) (.slice ar nr cr) (.int .i64 qa) (.int .i64 (m : Int)) (.int .i64 qc) = U := ⟨_, rfl⟩
            have OU := Lib.hid (only_set5o TT.out (c := g) (by omega) (i * 5) (.slice al nl cl) (.slice ar nr cr) (.int .i64 qa) (.int .i64 (m : Int)) (.int .i64 qc))
            rw [hU] at KT OU
            have KU := Lib.hid KT.1
            have CU := Lib.hid (C9.out.only KT.2 fun k e => by omega)
            unfold set5o at hU
            have HW : Hid (∀ L' R' : List Int, weighB L' R' n = true → planB (P.set i (⟨LL, RR, qa, (m : Int), qc⟩ : ND) ++ [⟨L', R', -1, -1, -1⟩]) n = true) := fun L' R' hw => plan_grow HV.out hil (by rw [HM.out]; omega) (by rw [HD.out, HM.out]; exact ⟨rfl, rfl, .inr (.inl ⟨hb, rfl, rfl, rfl⟩)⟩) hw
            obtain ⟨⟨a0, a1, a2, a3, a4, a5⟩, b0, b1, b2, b3, b4⟩ := F9.out
            clear KR KC KT
            go_wp2_with fail
            clear q0 q1 q2 q3 q4 hU r0 r1 r2 r3 r4 z0 z1 z2 z3 z4 a0 a1 a2 a3 a4 a5 b0 b1 b2 b3 b4 e0 e1 e2 e3 e4 e5 f0 f1 f2 f3 f4
            refine (CD.out U CU.out).mono ?_
            rintro e w7 ⟨_, L', R', rfl, ⟨vl', vr', rfl, A1, A2, -, D1, D2⟩, hv', hcur, hgr⟩
            obtain ⟨ga', na', ca', rfl⟩ := D1
            obtain ⟨gb', nb', cb', rfl⟩ := D2
            have T7 : Only (fun k => k = b) U w7 := (Only.of_grown hgr).mono fun k e => by simpa using e.symm
            have K7 := Lib.hid (KU.out.only T7 fun k e => by omega)
            have hsu : w.heap.size ≤ U.heap.size := OU.out.size
            have hs7 : w.heap.size ≤ w7.heap.size := Nat.le_trans hsu T7.size
            have hgU : g < U.heap.size := (KU.out.2.1.lt g rfl).2
            have KR7 := Lib.hid K7.out.2.1
            have O7 := Lib.hid (OU.out.trans T7)
            have A0 := Lib.hid (alloc_below w7 (.cells #[.slice (some ⟨ga', 0, none⟩) na' ca', .slice (some ⟨gb', 0, none⟩) nb' cb', .int .i64 (-1), .int .i64 (-1), .int .i64 (-1)] 39))
            have I1 := Lib.hid (A1.reads.below A0.out)
            have I2 := Lib.hid (A2.reads.below A0.out)
            have BL1 := Lib.hid A1.blk
            have BL2 := Lib.hid A2.blk
            have C7 := Lib.hid (hcur.only (Only.fresh (T := fun _ => False) A0.out) fun k h => h.elim)
            have HVN := Lib.hid (HW.out _ _ hv')
            have hlm : (P.set i (⟨LL, RR, qa, (m : Int), qc⟩ : ND)).length = m := by rw [List.length_set]; exact HM.out
            have HLM := Lib.hid hlm
            clear A1 A2 hcur hgr hv' T7 hlm
            have KR8 : Hid (w7.ownsRow w.heap.size 39 5 (.slice (some ⟨g, 0, none⟩) m cp) m (ncells (P.set i (⟨LL, RR, qa, (m : Int), qc⟩ : ND)) us)) := by
              have := KR7.out
              rw [HLM.out] at this
              exact this
            go_wp2_with (at_builtin; refine wpList_append_own_at _ rfl _ _ 26 rfl w.heap.size 39 i0 (.agg #[.slice none 0 0, .slice none 0 0, .int .i64 0, .int .i64 0, .int .i64 0]) 5 72 Try.underlying26 hi hz0 hz1 hz2 rfl (by decide) _ _ _ rfl (KR8.out.alloc _) ⟨w7.heap.size, 0, none⟩ 1 1 [.slice (some ⟨ga', 0, none⟩) na' ca', .slice (some ⟨gb', 0, none⟩) nb' cb', .int .i64 (-1), .int .i64 (-1), .int .i64 (-1)] rfl rfl (cell_five_new _ _ _ _ _ _ _) (by simp [Value.oneCell']) (by unfold maxLen; omega) (by omega) (by simp; omega) ?_; intro v8 w8 hown' hg8 _ hat)
            have hg9 : (w7.alloc (.cells #[.slice (some ⟨ga', 0, none⟩) na' ca', .slice (some ⟨gb', 0, none⟩) nb' cb', .int .i64 (-1), .int .i64 (-1), .int .i64 (-1)] 39)).grownBy w8 (some g) := hg8
            have hat9 : v8.ownBlock = some g ∨ v8.ownBlock = some (w7.alloc (.cells #[.slice (some ⟨ga', 0, none⟩) na' ca', .slice (some ⟨gb', 0, none⟩) nb' cb', .int .i64 (-1), .int .i64 (-1), .int .i64 (-1)] 39)).heap.size := hat
            have T8 := Only.of_grown hg9
            have KP := (K7.out.below A0.out).push (d := ⟨L', R', -1, -1, -1⟩) hg9 (by rw [HLM.out]; exact hown') hat9 I1.out (fun q e => by have := BL1.out q e; exact ⟨by intro e2; simp [Value.ownBlock] at e2; omega, by omega, by simp; omega⟩) I2.out (fun q e => by have := BL2.out q e; exact ⟨by intro e2; simp [Value.ownBlock] at e2; omega, by omega, by simp; omega⟩)
            have K8 := Lib.hid KP
            have C8' := Lib.hid (C7.out.only T8 fun k e => by have e' : g = k := (by simpa using e); omega)
            have O8 : Hid (Only (fun k => k = b) w w8) := by
              have h1 := O7.out.trans (Only.fresh A0.out)
              refine ⟨T8.os.trans h1.os, T8.tape.trans h1.tape, T8.output.trans h1.output, Nat.le_trans h1.size T8.size, fun q hq hn => ?_⟩
              rw [T8.block q (by have := h1.size; omega) (fun e => by have e' : g = q := (by simpa using e); omega)]
              exact h1.block q hq hn
            clear KP hown' hg8 hat hg9 hat9 T8
            go_wp2
            go_roundw
            case rel => exact ⟨kk - 1, _, _, by go_num, by omega, by rw [List.length_append, HLM.out]; simp; omega, by simp [Hid], HVN, K8, C8', O8⟩
            case measure => simp [intOf]; omega
          | false =>
            by_cases hc : qc < 0
            · skip
              have F9 := Lib.hid (G6.out.put4 (m : Int))
              have T9 := Lib.hid (S6.out.setNew (Nat.le_refl w3.heap.size) 4 (.int .i64 (m : Int)))
              have C9 := Lib.hid (Q6.out.only (only_cell V6 w3.heap.size 4 (.int .i64 (m : Int))) fun k e => by have := HNB.out; omega)
              have K9 : Hid (PlanK (V6.setCell ⟨w3.heap.size, 4, none⟩ (.int .i64 (m : Int))) w.heap.size (.slice (some ⟨g, 0, none⟩) P.length cp) P us) := by
                unfold Hid
                rw [HM.out]
                exact K3.out.only T9.out fun k e => by omega
              have KR := K9.out.2.1
              have KC := ncells_at K9.out.1 i hil hiu
              have r0 := (KR.cellAt (i * 5) (by omega)).trans KC.1
              have r1 := (KR.cellAt (i * 5 + 1) (by omega)).trans KC.2.1
              have r2 := (KR.cellAt (i * 5 + 2) (by omega)).trans KC.2.2.1
              have r3 := (KR.cellAt (i * 5 + 3) (by omega)).trans KC.2.2.2.1
              have r4 := (KR.cellAt (i * 5 + 4) (by omega)).trans KC.2.2.2.2
              rw [HU.out] at r0 r1
              rw [HD.out] at r2 r3 r4
              have z0 := KR.frozenAt (i * 5)
              have z1 := KR.frozenAt (i * 5 + 1)
              have z2 := KR.frozenAt (i * 5 + 2)
              have z3 := KR.frozenAt (i * 5 + 3)
              have z4 := KR.frozenAt (i * 5 + 4)
              have KT := K9.out.turn hil hiu (d := ⟨LL, RR, qa, qb, (m : Int)⟩) (by rw [HD.out]) (by rw [HD.out])
              rw [HU.out, HM.out] at KT
              dsimp only at r0 r1 r2 r3 r4 KT
              have TT := Lib.hid (O3.out.trans (T9.out))
              obtain ⟨U, hU⟩ : ∃ U, set5o (V6.setCell ⟨w3.heap.size, 4, none⟩ (.int .i64 (m : Int))) g (i * 5) (.slice al nl cl) (.slice ar nr cr) (.int .i64 qa) (.int .i64 qb) (.int .i64 (m : Int)) = U := ⟨_, rfl⟩
              have OU := Lib.hid (only_set5o TT.out (c := g) (by omega) (i * 5) (.slice al nl cl) (.slice ar nr cr) (.int .i64 qa) (.int .i64 qb) (.int .i64 (m : Int)))
              rw [hU] at KT OU
              have KU := Lib.hid KT.1
              have CU := Lib.hid (C9.out.only KT.2 fun k e => by omega)
              unfold set5o at hU
              have HW : Hid (∀ L' R' : List Int, weighB L' R' n = true → planB (P.set i (⟨LL, RR, qa, qb, (m : Int)⟩ : ND) ++ [⟨L', R', -1, -1, -1⟩]) n = true) := fun L' R' hw => plan_grow HV.out hil (by rw [HM.out]; omega) (by rw [HD.out, HM.out]; exact ⟨rfl, rfl, .inr (.inr ⟨hc, rfl, rfl, rfl⟩)⟩) hw
              obtain ⟨⟨a0, a1, a2, a3, a4, a5⟩, b0, b1, b2, b3, b4⟩ := F9.out
              clear KR KC KT
              go_wp2_with fail
              clear q0 q1 q2 q3 q4 hU r0 r1 r2 r3 r4 z0 z1 z2 z3 z4 a0 a1 a2 a3 a4 a5 b0 b1 b2 b3 b4 e0 e1 e2 e3 e4 e5 f0 f1 f2 f3 f4
              refine (CD.out U CU.out).mono ?_
              rintro e w7 ⟨_, L', R', rfl, ⟨vl', vr', rfl, A1, A2, -, D1, D2⟩, hv', hcur, hgr⟩
              obtain ⟨ga', na', ca', rfl⟩ := D1
              obtain ⟨gb', nb', cb', rfl⟩ := D2
              have T7 : Only (fun k => k = b) U w7 := (Only.of_grown hgr).mono fun k e => by simpa using e.symm
              have K7 := Lib.hid (KU.out.only T7 fun k e => by omega)
              have hsu : w.heap.size ≤ U.heap.size := OU.out.size
              have hs7 : w.heap.size ≤ w7.heap.size := Nat.le_trans hsu T7.size
              have hgU : g < U.heap.size := (KU.out.2.1.lt g rfl).2
              have KR7 := Lib.hid K7.out.2.1
              have O7 := Lib.hid (OU.out.trans T7)
              have A0 := Lib.hid (alloc_below w7 (.cells #[.slice (some ⟨ga', 0, none⟩) na' ca', .slice (some ⟨gb', 0, none⟩) nb' cb', .int .i64 (-1), .int .i64 (-1), .int .i64 (-1)] 39))
              have I1 := Lib.hid (A1.reads.below A0.out)
              have I2 := Lib.hid (A2.reads.below A0.out)
              have BL1 := Lib.hid A1.blk
              have BL2 := Lib.hid A2.blk
              have C7 := Lib.hid (hcur.only (Only.fresh (T := fun _ => False) A0.out) fun k h => h.elim)
              have HVN := Lib.hid (HW.out _ _ hv')
              have hlm : (P.set i (⟨LL, RR, qa, qb, (m : Int)⟩ : ND)).length = m := by rw [List.length_set]; exact HM.out
              have HLM := Lib.hid hlm
              clear A1 A2 hcur hgr hv' T7 hlm
              have KR8 : Hid (w7.ownsRow w.heap.size 39 5 (.slice (some ⟨g, 0, none⟩) m cp) m (ncells (P.set i (⟨LL, RR, qa, qb, (m : Int)⟩ : ND)) us)) := by
                have := KR7.out
                rw [HLM.out] at this
                exact this
              go_wp2_with (at_builtin; refine wpList_append_own_at _ rfl _ _ 26 rfl w.heap.size 39 i0 (.agg #[.slice none 0 0, .slice none 0 0, .int .i64 0, .int .i64 0, .int .i64 0]) 5 72 Try.underlying26 hi hz0 hz1 hz2 rfl (by decide) _ _ _ rfl (KR8.out.alloc _) ⟨w7.heap.size, 0, none⟩ 1 1 [.slice (some ⟨ga', 0, none⟩) na' ca', .slice (some ⟨gb', 0, none⟩) nb' cb', .int .i64 (-1), .int .i64 (-1), .int .i64 (-1)] rfl rfl (cell_five_new _ _ _ _ _ _ _) (by simp [Value.oneCell']) (by unfold maxLen; omega) (by omega) (by simp; omega) ?_; intro v8 w8 hown' hg8 _ hat)
              have hg9 : (w7.alloc (.cells #[.slice (some ⟨ga', 0, none⟩) na' ca', .slice (some ⟨gb', 0, none⟩) nb' cb', .int .i64 (-1), .int .i64 (-1), .int .i64 (-1)] 39)).grownBy w8 (some g) := hg8
              have hat9 : v8.ownBlock = some g ∨ v8.ownBlock = some (w7.alloc (.cells #[.slice (some ⟨ga', 0, none⟩) na' ca', .slice (some ⟨gb', 0, none⟩) nb' cb', .int .i64 (-1), .int .i64 (-1), .int .i64 (-1)] 39)).heap.size := hat
              have T8 := Only.of_grown hg9
              have KP := (K7.out.below A0.out).push (d := ⟨L', R', -1, -1, -1⟩) hg9 (by rw [HLM.out]; exact hown') hat9 I1.out (fun q e => by have := BL1.out q e; exact ⟨by intro e2; simp [Value.ownBlock] at e2; omega, by omega, by simp; omega⟩) I2.out (fun q e => by have := BL2.out q e; exact ⟨by intro e2; simp [Value.ownBlock] at e2; omega, by omega, by simp; omega⟩)
              have K8 := Lib.hid KP
              have C8' := Lib.hid (C7.out.only T8 fun k e => by have e' : g = k := (by simpa using e); omega)
              have O8 : Hid (Only (fun k => k = b) w w8) := by
                have h1 := O7.out.trans (Only.fresh A0.out)
                refine ⟨T8.os.trans h1.os, T8.tape.trans h1.tape, T8.output.trans h1.output, Nat.le_trans h1.size T8.size, fun q hq hn => ?_⟩
                rw [T8.block q (by have := h1.size; omega) (fun e => by have e' : g = q := (by simpa using e); omega)]
                exact h1.block q hq hn
              clear KP hown' hg8 hat hg9 hat9 T8
              go_wp2
              go_roundw
              case rel => exact ⟨kk - 1, _, _, by go_num, by omega, by rw [List.length_append, HLM.out]; simp; omega, by simp [Hid], HVN, K8, C8', O8⟩
              case measure => simp [intOf]; omega
            · skip
              have K9 := Lib.hid (K3.out.only S6.out fun k e => by omega)
              have O9 := Lib.hid (O3.out.trans S6.out)
              go_wp2
              go_roundw
              case rel => exact ⟨kk - 1, P, us, by go_num, by omega, by have := HM.out; omega, HP, HV, K9, Q6, O9⟩
              case measure => simp [intOf]; omega
        · skip
          by_cases hc : qc < 0
          · skip
            have F9 := Lib.hid (F4.out.put4 (m : Int))
            have T9 := Lib.hid (T4.out.setNew (Nat.le_refl w3.heap.size) 4 (.int .i64 (m : Int)))
            have C9 := Lib.hid (C4.out.only (only_cell X4 w3.heap.size 4 (.int .i64 (m : Int))) fun k e => by have := HNB.out; omega)
            have K9 : Hid (PlanK (X4.setCell ⟨w3.heap.size, 4, none⟩ (.int .i64 (m : Int))) w.heap.size (.slice (some ⟨g, 0, none⟩) P.length cp) P us) := by
              unfold Hid
              rw [HM.out]
              exact K3.out.only T9.out fun k e => by omega
            have KR := K9.out.2.1
            have KC := ncells_at K9.out.1 i hil hiu
            have r0 := (KR.cellAt (i * 5) (by omega)).trans KC.1
            have r1 := (KR.cellAt (i * 5 + 1) (by omega)).trans KC.2.1
            have r2 := (KR.cellAt (i * 5 + 2) (by omega)).trans KC.2.2.1
            have r3 := (KR.cellAt (i * 5 + 3) (by omega)).trans KC.2.2.2.1
            have r4 := (KR.cellAt (i * 5 + 4) (by omega)).trans KC.2.2.2.2
            rw [HU.out] at r0 r1
            rw [HD.out] at r2 r3 r4
            have z0 := KR.frozenAt (i * 5)
            have z1 := KR.frozenAt (i * 5 + 1)
            have z2 := KR.frozenAt (i * 5 + 2)
            have z3 := KR.frozenAt (i * 5 + 3)
            have z4 := KR.frozenAt (i * 5 + 4)
            have KT := K9.out.turn hil hiu (d := ⟨LL, RR, qa, qb, (m : Int)⟩) (by rw [HD.out]) (by rw [HD.out])
            rw [HU.out, HM.out] at KT
            dsimp only at r0 r1 r2 r3 r4 KT
            have TT := Lib.hid (O3.out.trans (T9.out))
            obtain ⟨U, hU⟩ : ∃ U, set5o (X4.setCell ⟨w3.heap.size, 4, none⟩ (.int .i64 (m : Int))) g (i * 5) (.slice al nl cl) (.slice ar nr cr) (.int .i64 qa) (.int .i64 qb) (.int .i64 (m : Int)) = U := ⟨_, rfl⟩
            have OU := Lib.hid (only_set5o TT.out (c := g) (by omega) (i * 5) (.slice al nl cl) (.slice ar nr cr) (.int .i64 qa) (.int .i64 qb) (.int .i64 (m : Int)))
            rw [hU] at KT OU
            have KU := Lib.hid KT.1
            have CU := Lib.hid (C9.out.only KT.2 fun k e => by omega)
            unfold set5o at hU
            have HW : Hid (∀ L' R' : List Int, weighB L' R' n = true → planB (P.set i (⟨LL, RR, qa, qb, (m : Int)⟩ : ND) ++ [⟨L', R', -1, -1, -1⟩]) n = true) := fun L' R' hw => plan_grow HV.out hil (by rw [HM.out]; omega) (by rw [HD.out, HM.out]; exact ⟨rfl, rfl, .inr (.inr ⟨hc, rfl, rfl, rfl⟩)⟩) hw
            obtain ⟨⟨a0, a1, a2, a3, a4, a5⟩, b0, b1, b2, b3, b4⟩ := F9.out
            clear KR KC KT
            go_wp2_with fail
            clear q0 q1 q2 q3 q4 hU r0 r1 r2 r3 r4 z0 z1 z2 z3 z4 a0 a1 a2 a3 a4 a5 b0 b1 b2 b3 b4 e0 e1 e2 e3 e4 e5 f0 f1 f2 f3 f4
            refine (CD.out U CU.out).mono ?_
            rintro e w7 ⟨_, L', R', rfl, ⟨vl', vr', rfl, A1, A2, -, D1, D2⟩, hv', hcur, hgr⟩
            obtain ⟨ga', na', ca', rfl⟩ := D1
            obtain ⟨gb', nb', cb', rfl⟩ := D2
            have T7 : Only (fun k => k = b) U w7 := (Only.of_grown hgr).mono fun k e => by simpa using e.symm
            have K7 := Lib.hid (KU.out.only T7 fun k e => by omega)
            have hsu : w.heap.size ≤ U.heap.size := OU.out.size
            have hs7 : w.heap.size ≤ w7.heap.size := Nat.le_trans hsu T7.size
            have hgU : g < U.heap.size := (KU.out.2.1.lt g rfl).2
            have KR7 := Lib.hid K7.out.2.1
            have O7 := Lib.hid (OU.out.trans T7)
            have A0 := Lib.hid (alloc_below w7 (.cells #[.slice (some ⟨ga', 0, none⟩) na' ca', .slice (some ⟨gb', 0, none⟩) nb' cb', .int .i64 (-1), .int .i64 (-1), .int .i64 (-1)] 39))
            have I1 := Lib.hid (A1.reads.below A0.out)
            have I2 := Lib.hid (A2.reads.below A0.out)
            have BL1 := Lib.hid A1.blk
            have BL2 := Lib.hid A2.blk
            have C7 := Lib.hid (hcur.only (Only.fresh (T := fun _ => False) A0.out) fun k h => h.elim)
            have HVN := Lib.hid (HW.out _ _ hv')
            have hlm : (P.set i (⟨LL, RR, qa, qb, (m : Int)⟩ : ND)).length = m := by rw [List.length_set]; exact HM.out
            have HLM := Lib.hid hlm
            clear A1 A2 hcur hgr hv' T7 hlm
            have KR8 : Hid (w7.ownsRow w.heap.size 39 5 (.slice (some ⟨g, 0, none⟩) m cp) m (ncells (P.set i (⟨LL, RR, qa, qb, (m : Int)⟩ : ND)) us)) := by
              have := KR7.out
              rw [HLM.out] at this
              exact this
            go_wp2_with (at_builtin; refine wpList_append_own_at _ rfl _ _ 26 rfl w.heap.size 39 i0 (.agg #[.slice none 0 0, .slice none 0 0, .int .i64 0, .int .i64 0, .int .i64 0]) 5 72 Try.underlying26 hi hz0 hz1 hz2 rfl (by decide) _ _ _ rfl (KR8.out.alloc _) ⟨w7.heap.size, 0, none⟩ 1 1 [.slice (some ⟨ga', 0, none⟩) na' ca', .slice (some ⟨gb', 0, none⟩) nb' cb', .int .i64 (-1), .int .i64 (-1), .int .i64 (-1)] rfl rfl (cell_five_new _ _ _ _ _ _ _) (by simp [Value.oneCell']) (by unfold maxLen; omega) (by omega) (by simp; omega) ?_; intro v8 w8 hown' hg8 _ hat)
            have hg9 : (w7.alloc (.cells #[.slice (some ⟨ga', 0, none⟩) na' ca', .slice (some ⟨gb', 0, none⟩) nb' cb', .int .i64 (-1), .int .i64 (-1), .int .i64 (-1)] 39)).grownBy w8 (some g) := hg8
            have hat9 : v8.ownBlock = some g ∨ v8.ownBlock = some (w7.alloc (.cells #[.slice (some ⟨ga', 0, none⟩) na' ca', .slice (some ⟨gb', 0, none⟩) nb' cb', .int .i64 (-1), .int .i64 (-1), .int .i64 (-1)] 39)).heap.size := hat
            have T8 := Only.of_grown hg9
            have KP := (K7.out.below A0.out).push (d := ⟨L', R', -1, -1, -1⟩) hg9 (by rw [HLM.out]; exact hown') hat9 I1.out (fun q e => by have := BL1.out q e; exact ⟨by intro e2; simp [Value.ownBlock] at e2; omega, by omega, by simp; omega⟩) I2.out (fun q e => by have := BL2.out q e; exact ⟨by intro e2; simp [Value.ownBlock] at e2; omega, by omega, by simp; omega⟩)
            have K8 := Lib.hid KP
            have C8' := Lib.hid (C7.out.only T8 fun k e => by have e' : g = k := (by simpa using e); omega)
            have O8 : Hid (Only (fun k => k = b) w w8) := by
              have h1 := O7.out.trans (Only.fresh A0.out)
              refine ⟨T8.os.trans h1.os, T8.tape.trans h1.tape, T8.output.trans h1.output, Nat.le_trans h1.size T8.size, fun q hq hn => ?_⟩
              rw [T8.block q (by have := h1.size; omega) (fun e => by have e' : g = q := (by simpa using e); omega)]
              exact h1.block q hq hn
            clear KP hown' hg8 hat hg9 hat9 T8
            go_wp2
            go_roundw
            case rel => exact ⟨kk - 1, _, _, by go_num, by omega, by rw [List.length_append, HLM.out]; simp; omega, by simp [Hid], HVN, K8, C8', O8⟩
            case measure => simp [intOf]; omega
          · skip
            have K9 := Lib.hid (K3.out.only T4.out fun k e => by omega)
            have O9 := Lib.hid (O3.out.trans T4.out)
            go_wp2
            go_roundw
            case rel => exact ⟨kk - 1, P, us, by go_num, by omega, by have := HM.out; omega, HP, HV, K9, C4, O9⟩
            case measure => simp [intOf]; omega
    · go_wp2
      go_ret
      exact ⟨_, rfl, P, ⟨us, HK.out⟩, HP.out, HV.out, HO.out⟩
end Go.Proofs.Ytipbjioghicmlaa
