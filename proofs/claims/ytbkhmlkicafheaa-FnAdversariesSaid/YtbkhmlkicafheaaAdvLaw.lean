/- The walk of FnAdversaries: it returns true for every code. No condition. -/
import Derived.Test.YtbkhmlkicafheaaCasesLeft
import Derived.Test.YtbkhmlkicafheaaWorstOut
import Derived.Test.YtbkhmlkicafheaaPickMade
import Derived.Test.YtbkhmlkicafheaaPlayRows
import Derived.Test.YtbkhmlkicafheaaFindsDone
namespace Go.Proofs.Ytbkhmlkicafheaa
open Go.RowKit

theorem zero_num : ∀ y ∈ zeroP.list, I64 y := by
  intro y hy
  have : y = 0 := by simpa [zeroP, PD.list] using hy
  subst this
  unfold I64
  omega
theorem lost_nonneg {s : SD} {p : PD} (h : pickB s p = true) : 0 ≤ lostI s p ∧ (countS s + 2) / 3 ≤ countS (afterS s p (worstI s p)) := by
  have h1 := worst_third s p
  have h2 := (count_in (stateB_iff.2 (pick_in h).1)).1
  unfold lostI
  rw [if_pos h, Int.tdiv_eq_ediv_of_nonneg (by omega)]
  omega
/-- What is kept between two weighings of the adversary. -/
structure Adv (s : SD) (P : List PD) (t : SD) (L : List Int) : Prop where
  play : playO s P = some (L, t)
  nums : ∀ p ∈ P, ∀ y ∈ p.list, I64 y
theorem Adv.push {s t : SD} {P : List PD} {L : List Int} {p : PD} (h : Adv s P t L) (hv : pickB t p = true) : Adv s (P ++ [p]) (afterS t p (worstI t p)) (L ++ [worstI t p]) := by
  refine ⟨?_, fun q hq => ?_⟩
  · rw [playO_snoc, h.play]
    simp only [Option.bind_some]
    rw [if_pos hv]
  · rcases List.mem_append.1 hq with hq | hq
    · exact h.nums q hq
    · rw [List.mem_singleton.1 hq]
      exact pick_num hv
theorem Adv.end_ {s t : SD} {P : List PD} {L : List Int} (h : Adv s P t L) (hs : stateB s = true) (hl : P.length ≤ 10) : playR s P = some (L, t) ∧ L.length = P.length ∧ stateB t = true ∧ countS s ≤ 3 ^ P.length * countS t ∧ casesLeftI s P = countS t := by
  obtain ⟨h1, h2, h3⟩ := playO_valid hs h.play
  have hr : playR s P = some (L, t) := by
    unfold playR
    rw [hs, decide_eq_true hl]
    exact h.play
  refine ⟨hr, h2, h1, h3, ?_⟩
  unfold casesLeftI
  rw [hr]
theorem RowP.set4s {w : World} {lo c : Nat} {v : Value} {P : List PD} (h : RowP w lo v P) (hN : ∀ g, v.ownBlock = some g → g ≠ c ∧ lo - 1 < g ∧ g < w.heap.size) (q : SD) : RowP (Go.Proofs.Ytbkhmlkicafheaa.set4s w c q) lo v P :=
  owns_only (T := fun k => k = c) h ((((Only.of_setC _ _ 0 _).trans (Only.of_setC _ _ 1 _)).trans (Only.of_setC _ _ 2 _)).trans (Only.of_setC _ _ 3 _)) (fun g hg e => (hN g hg).1 e)
theorem StateAt.drewA {w : World} {b : Nat} {s : SD} (h : StateAt w b s) : StateAt w.drew b s := h.below (Below.refl _ _).drew
theorem StateAt.onlyA {T : Nat → Prop} {w w' : World} {b : Nat} {s : SD} (h : StateAt w b s) (ho : Only T w w') (hb : ¬ T b) : StateAt w' b s := h.onlyC ho hb

set_option maxRecDepth 100000 in
set_option maxHeartbeats 16000000 in
theorem walkAdversaries (w : World) (a : Option Addr) (len cap : Nat) (hB : BytesAt w a len) :
    Calls Try.prog 11 #[.slice a len cap] w fun e w' => e = .returned (.bool true) ∧ Below w.heap.size w w' := by
  by_cases hbig : (1048576 : Int) < (len : Int)
  · go_enter Try.func11, Try.ntmps11
    go_wp2
    go_ret
    exact ⟨rfl, Below.refl _ _⟩
  have hl : len ≤ 1048576 := by omega
  obtain ⟨i0, hi, hz0, hz1, hz2⟩ := info_parts infoPick
  have C1 := Lib.hid (specMakeState w w a len cap hB (Below.refl _ _) hl)
  have CM := Lib.hid (fun V h => makeNum_any w V a len cap 3 hB h hl (by omega) (by omega))
  have CP := Lib.hid (fun V n t h h0 h1 ht => specMakePick1 w V a len cap n t hB h hl h0 h1 ht)
  clear hB
  go_enter Try.func11, Try.ntmps11
  go_wp2_with fail
  refine C1.out.mono ?_
  rintro e w1 ⟨s, rfl, hs, -, b1⟩
  have CC := Lib.hid (fun (t : SD) (ht : stateB t = true) (V : World) => by
    have := implCountCases t V
    unfold casesS at this
    rwa [ht] at this)
  have CO : Hid (∀ W, Calls Try.prog 38 #[.agg #[.int .i64 s.b, .int .i64 s.h, .int .i64 s.l, .int .i64 s.g]] W fun e w' => e = .returned (.bool true) ∧ Below W.heap.size W w') := fun W => by
    have := implStateOk s W
    rwa [hs] at this
  have HS := Lib.hid hs
  have CS : Hid (∀ W, Calls Try.prog 36 #[.agg #[.int .i64 s.b, .int .i64 s.h, .int .i64 s.l, .int .i64 s.g]] W fun e w' => e = .returned (.int .i64 (countS s)) ∧ Below W.heap.size W w') := CC.out s hs
  have hc0 := count_in hs
  obtain ⟨cs, hcs⟩ : ∃ cs, countS s = cs := ⟨_, rfl⟩
  have HCS := Lib.hid hcs
  rw [hcs] at CS hc0
  clear hs hcs hbig hl C1
  have P2 := StateAt.new w1 32 s
  have A2 := alloc_below w1 (.cells #[.int .i64 s.b, .int .i64 s.h, .int .i64 s.l, .int .i64 s.g] 32)
  have s2 : (w1.alloc (.cells #[.int .i64 s.b, .int .i64 s.h, .int .i64 s.l, .int .i64 s.g] 32)).heap.size = w1.heap.size + 1 := by simp
  generalize hX2 : w1.alloc (.cells #[.int .i64 s.b, .int .i64 s.h, .int .i64 s.l, .int .i64 s.g] 32) = X2 at P2 A2 s2
  have A3 := alloc_below X2 (.cells #[] 34)
  have R3 : RowP (X2.alloc (.cells #[] 34)) (w1.heap.size + 1) (.slice (some ⟨X2.heap.size, 0, none⟩) 0 0) [] :=
    World.ownsRow_lit (base := w1.heap.size + 1) (e := 34) (size := 8) X2 #[] 0 (by omega) (by unfold maxLen; omega) rfl
  rw [s2] at R3
  have s3 : (X2.alloc (.cells #[] 34)).heap.size = w1.heap.size + 2 := by simp [s2]
  generalize hX3 : X2.alloc (.cells #[] 34) = X3 at A3 R3 s3
  have A4 := alloc_below X3 (.cells #[.int .i64 s.b, .int .i64 s.h, .int .i64 s.l, .int .i64 s.g] 32)
  have V4 := FourVar.new X3 32 s
  rw [s3] at V4
  generalize hX4 : X3.alloc (.cells #[.int .i64 s.b, .int .i64 s.h, .int .i64 s.l, .int .i64 s.g] 32) = X4 at A4 V4
  have PX := Lib.hid ((P2.below A3).below A4)
  have RX := Lib.hid (R3.below A4)
  have VX := Lib.hid V4
  have BX := Lib.hid (below_up (below_up (below_up b1 A2) A3) A4)
  have D1 : Hid (w.heap.size ≤ w1.heap.size) := b1.size
  obtain ⟨e0, e1, e2, e3, -⟩ := PX.out
  obtain ⟨h0, h1, h2, h3, -⟩ := P2.below A3
  clear P2 A2 A3 R3 A4 V4 b1
  unfold stateV
  go_wp2_with fail
  refine (CS.out _).mono ?_
  rintro e w5 ⟨rfl, bb⟩
  have P5 := Lib.hid (PX.out.below bb)
  have R5 := Lib.hid (RX.out.below bb)
  have V5 := Lib.hid (VX.out.below bb)
  have B5 := Lib.hid (below_up BX.out bb)
  clear bb e0 e1 e2 e3 h0 h1 h2 h3 hX2 hX3 hX4 s2 s3 PX RX VX BX
  go_wp2_with fail
  refine (CM.out _ B5.out).mono ?_
  rintro e w6 ⟨m, rfl, m0, m1, bb⟩
  have P6 := Lib.hid (P5.out.below bb)
  have R6 := Lib.hid (R5.out.below bb)
  have V6 := Lib.hid (V5.out.below bb)
  have B6 := Lib.hid (below_up B5.out bb)
  clear bb P5 R5 V5 B5 CM
  have m4 : 0 ≤ m % 4 ∧ m % 4 ≤ 3 := by omega
  have HA0 : Hid (Adv s [] s []) := ⟨rfl, by simp⟩
  go_wp2_with fail
  go_loopw [4, 6, 7] (fun pv cv kv wr => ∃ (k c : Int) (P : List PD) (t : SD) (L : List Int), kv = .int .i64 k ∧ cv = .int .i64 c ∧ 0 ≤ k ∧ k ≤ 3 ∧ 0 ≤ c ∧ c ≤ 26 ∧ Hid ((P.length : Int) + k ≤ 3) ∧ Hid (countS t = c) ∧ Hid (stateB t = true) ∧ Hid (Adv s P t L) ∧ Hid (RowP wr (w1.heap.size + 1) pv P) ∧ Hid (∀ g, pv.ownBlock = some g → g ≠ w1.heap.size + 2 ∧ w1.heap.size < g ∧ g < wr.heap.size) ∧ Hid (StateAt wr w1.heap.size s) ∧ Hid (FourVar wr (w1.heap.size + 2) t) ∧ Hid (Below w.heap.size w wr)) (fun _ _ kv _ => (intOf kv).toNat)
  case atStart =>
    refine ⟨m % 4, cs, [], s, [], by first | rfl | trivial, rfl, m4.1, m4.2, hc0.1, hc0.2, Lib.hid (by simp; omega), HCS, HS, HA0, R6, Lib.hid ?_, P6, V6, B6⟩
    intro g hg
    have hv := V6.out.1.2.2.2.2
    simp [Value.ownBlock] at hg
    omega
  case round =>
    clear P6 R6 V6 B6 HA0 m0 m1 m4
    obtain ⟨k, c, P, t, L, rfl, rfl, k0, k3, c0, c26, HLK, HCT, HVT, HA, R7, N7, P7, V7, B7⟩ := hrel
    obtain ⟨ap, cp, rfl, -⟩ := R7.out.reads
    obtain ⟨n, hn⟩ : ∃ n, P.length = n := ⟨_, rfl⟩
    rw [hn] at HLK R7 N7 ⊢
    have HN := Lib.hid hn
    clear hn
    by_cases hk : 0 < k
    · obtain ⟨⟨f0, f1, f2, f3, -⟩, -⟩ := V7.out
      have CP1 := Lib.hid (CP.out wr (20 + 10 * k) t B7.out (by omega) (by omega) HVT.out)
      unfold stateV at CP1
      go_wp2_with fail
      refine CP1.out.mono ?_
      rintro e w8 ⟨p, rfl, hp, bb⟩
      have A9 := alloc_below w8 (.cells #[.int .i64 p.bl, .int .i64 p.br, .int .i64 p.hl, .int .i64 p.hr, .int .i64 p.ll, .int .i64 p.lr, .int .i64 p.gl, .int .i64 p.gr] 34)
      have Q9 := Lib.hid (PickAt.new w8 34 p)
      have P9 := Lib.hid ((P7.out.below bb).below A9)
      have R9 := Lib.hid ((R7.out.below bb).below A9)
      have V9 := Lib.hid ((V7.out.below bb).below A9)
      have B9 := Lib.hid (below_up (below_up B7.out bb) A9)
      have L9 : Hid (wr.heap.size ≤ w8.heap.size) := bb.size
      unfold pickV
      generalize hX9 : w8.alloc (.cells #[.int .i64 p.bl, .int .i64 p.br, .int .i64 p.hl, .int .i64 p.hr, .int .i64 p.ll, .int .i64 p.lr, .int .i64 p.gl, .int .i64 p.gr] 34) = X9 at Q9 P9 R9 V9 B9
      clear bb A9 f0 f1 f2 f3 P7 R7 V7 B7 CP1
      have HPN : Hid (∀ y ∈ p.list, I64 y) := by
        rcases hp with h | h
        · exact pick_num h
        · rw [h]; exact zero_num
      have CK := Lib.hid (fun V => implPickOk t p HPN.out V)
      have CW := Lib.hid (implWorstOutcome t p HPN.out)
      unfold WorstOutcomeIs at CW
      unfold stateV pickV at CK CW
      obtain ⟨⟨f0, f1, f2, f3, -⟩, -⟩ := V9.out
      obtain ⟨q0, q1, q2, q3, q4, q5, q6, q7, -⟩ := Q9.out
      by_cases hv : pickB t p = true
      · have HV := Lib.hid hv
        have HWO : worstO t p = some (worstI t p) := by unfold worstO; rw [if_pos hv]
        rw [hv] at CK
        rw [HWO] at CW
        have CA : Hid (∀ W, Calls Try.prog 42 #[.agg #[.int .i64 t.b, .int .i64 t.h, .int .i64 t.l, .int .i64 t.g], .agg #[.int .i64 p.bl, .int .i64 p.br, .int .i64 p.hl, .int .i64 p.hr, .int .i64 p.ll, .int .i64 p.lr, .int .i64 p.gl, .int .i64 p.gr], .int .i64 (worstI t p)] W fun e w' => e = .returned (.tuple #[stateV (afterS t p (worstI t p)), .bool true]) ∧ Below W.heap.size W w') := fun W => by
          have := implAfterPick t p (worstI t p) HPN.out W
          have h4 : afterO t p (worstI t p) = some (afterS t p (worstI t p)) := by
            unfold afterO
            rw [hv, decide_eq_true (worst_in t p).1, decide_eq_true (worst_in t p).2]
            rfl
          rw [h4] at this
          exact this
        have CL := Lib.hid (implLostCases t p HPN.out)
        unfold LostCasesIs at CL
        unfold stateV pickV at CL
        have hvq : stateB (afterS t p (worstI t p)) = true := stateB_iff.2 (after_in (pick_in hv).1 (pick_in hv).2)
        have CQ := Lib.hid (CC.out (afterS t p (worstI t p)) hvq)
        have HVQ := Lib.hid hvq
        have hln := lost_nonneg hv
        rw [HCT.out] at hln
        have hcq := count_in hvq
        have HA2 := Lib.hid (HA.out.push hv)
        replace CW : Hid (∀ W, Calls Try.prog 20 #[.agg #[.int .i64 t.b, .int .i64 t.h, .int .i64 t.l, .int .i64 t.g], .agg #[.int .i64 p.bl, .int .i64 p.br, .int .i64 p.hl, .int .i64 p.hr, .int .i64 p.ll, .int .i64 p.lr, .int .i64 p.gl, .int .i64 p.gr]] W fun e w' => e = .returned (.tuple #[.int .i64 (worstI t p), .bool true]) ∧ Below W.heap.size W w') := CW
        clear HWO hvq hv hp HA
        generalize lostI t p = li at CL hln
        generalize afterS t p (worstI t p) = q at CA CQ HVQ hln hcq HA2
        generalize worstI t p = x at CW CA HA2
        unfold stateV at CA CQ
        obtain ⟨cq, hcqe⟩ : ∃ cq, countS q = cq := ⟨_, rfl⟩
        have HCQ := Lib.hid hcqe
        rw [hcqe] at CQ hln hcq
        clear hcqe
        have li0 : ¬ li < 0 := by omega
        have hthird : ¬ cq < (c + 2) / 3 := by omega
        obtain ⟨cq0, cq26⟩ := hcq
        clear hln
        go_wp2_with fail
        refine (CW.out _).mono ?_
        rintro e wA ⟨rfl, bb⟩
        have QA := Lib.hid (Q9.out.below bb)
        have PA := Lib.hid (P9.out.below bb)
        have RA := Lib.hid (R9.out.below bb)
        have VA := Lib.hid (V9.out.below bb)
        have BA := Lib.hid (below_up B9.out bb)
        clear bb hX9 f0 f1 f2 f3 q0 q1 q2 q3 q4 q5 q6 q7 Q9 P9 R9 V9 B9
        obtain ⟨⟨f0, f1, f2, f3, -⟩, -⟩ := VA.out
        obtain ⟨q0, q1, q2, q3, q4, q5, q6, q7, -⟩ := QA.out
        go_wp2_with fail
        refine (CK.out _).mono ?_
        rintro e wC ⟨rfl, bb⟩
        have QC := Lib.hid (QA.out.below bb)
        have PC := Lib.hid (PA.out.below bb)
        have RC := Lib.hid (RA.out.below bb)
        have VC := Lib.hid (VA.out.below bb)
        have BC := Lib.hid (below_up BA.out bb)
        clear bb f0 f1 f2 f3 q0 q1 q2 q3 q4 q5 q6 q7 QA PA RA VA BA CW CK
        obtain ⟨⟨f0, f1, f2, f3, -⟩, -⟩ := VC.out
        obtain ⟨q0, q1, q2, q3, q4, q5, q6, q7, -⟩ := QC.out
        go_wp2_with fail
        refine (CA.out _).mono ?_
        rintro e wD ⟨rfl, bb⟩
        have AE := alloc_below wD (.cells #[.int .i64 q.b, .int .i64 q.h, .int .i64 q.l, .int .i64 q.g] 32)
        have YE := Lib.hid (StateAt.new wD 32 q)
        have QE := Lib.hid ((QC.out.below bb).below AE)
        have PE := Lib.hid ((PC.out.below bb).below AE)
        have RE := Lib.hid ((RC.out.below bb).below AE)
        have VE := Lib.hid ((VC.out.below bb).below AE)
        have BE := Lib.hid (below_up (below_up BC.out bb) AE)
        have LE : Hid (w8.heap.size < wD.heap.size) := by have := QC.out.lt; have := bb.size; unfold Hid; omega
        generalize hXE : wD.alloc (.cells #[.int .i64 q.b, .int .i64 q.h, .int .i64 q.l, .int .i64 q.g] 32) = XE at YE QE PE RE VE BE
        clear bb AE f0 f1 f2 f3 q0 q1 q2 q3 q4 q5 q6 q7 QC PC RC VC BC CA
        obtain ⟨⟨f0, f1, f2, f3, -⟩, -⟩ := VE.out
        obtain ⟨q0, q1, q2, q3, q4, q5, q6, q7, -⟩ := QE.out
        go_wp2_with fail
        refine (CL.out _).mono ?_
        rintro e wF ⟨rfl, bb⟩
        have YF := Lib.hid (YE.out.below bb)
        have QF := Lib.hid (QE.out.below bb)
        have PF := Lib.hid (PE.out.below bb)
        have RF := Lib.hid (RE.out.below bb)
        have VF := Lib.hid (VE.out.below bb)
        have BF := Lib.hid (below_up BE.out bb)
        clear bb f0 f1 f2 f3 q0 q1 q2 q3 q4 q5 q6 q7 YE QE PE RE VE BE CL hXE
        obtain ⟨y0, y1, y2, y3, -⟩ := YF.out
        go_wp2_with fail
        refine (CQ.out _).mono ?_
        rintro e wG ⟨rfl, bb⟩
        have YG := Lib.hid (YF.out.below bb)
        have QG := Lib.hid (QF.out.below bb)
        have PG := Lib.hid (PF.out.below bb)
        have RG := Lib.hid (RF.out.below bb)
        have VG := Lib.hid (VF.out.below bb)
        have BG := Lib.hid (below_up BF.out bb)
        clear bb y0 y1 y2 y3 YF QF PF RF VF BF
        obtain ⟨q0, q1, q2, q3, q4, q5, q6, q7, -⟩ := QG.out
        have hrow := RG.out
        unfold RowP at hrow
        rw [HN.out] at hrow
        have hlk := HLK.out
        have hbw : w1.heap.size + 1 ≤ wG.heap.size := by have := VG.out.1.2.2.2.2; omega
        go_wp2_with (at_builtin; refine wpList_append_own_at _ rfl _ _ 42 rfl (w1.heap.size + 1) 34 i0 (.agg #[.int .i64 0, .int .i64 0, .int .i64 0, .int .i64 0, .int .i64 0, .int .i64 0, .int .i64 0, .int .i64 0]) 8 64 Try.underlying42 hi hz0 hz1 hz2 rfl (by decide) _ _ _ rfl (hrow.alloc _) ⟨wG.heap.size, 0, none⟩ 1 1 [.int .i64 p.bl, .int .i64 p.br, .int .i64 p.hl, .int .i64 p.hr, .int .i64 p.ll, .int .i64 p.lr, .int .i64 p.gl, .int .i64 p.gr] rfl rfl (cell_eight_new _ _ _ _ _ _ _ _ _ _) (by simp [Value.oneCell']) (by unfold maxLen; omega) (by omega) (by simp; omega) ?_; intro v' wH hown' hg1 _ hat; have hO := Only.of_grown hg1; have PH := Lib.hid ((PG.out.below (alloc_below _ _)).onlyA hO (fun e => by have := (N7.out _ e).2.1; omega)); have YH := Lib.hid ((YG.out.below (alloc_below _ _)).onlyA hO (fun e => by have := (N7.out _ e).2.2; have := LE.out; have := L9.out; omega)); have VH := Lib.hid ((VG.out.below (alloc_below _ _)).only hO (fun e => (N7.out _ e).1 rfl)); have BH := Lib.hid (Below.grown ((below_up BG.out (alloc_below _ _))) hg1 (by have := D1.out; simp; omega) (fun j hj => by have := (N7.out _ hj).2.1; have := D1.out; omega)); obtain ⟨y0, y1, y2, y3, -⟩ := YH.out)
        have RH : Hid (RowP wH (w1.heap.size + 1) v' (P ++ [p])) := by
          unfold Hid RowP
          rw [List.length_append, HN.out, cellsP_app]
          exact hown'
        have NH : Hid (∀ g, v'.ownBlock = some g → g ≠ w1.heap.size + 2 ∧ w1.heap.size < g ∧ g < wH.heap.size) := by
          intro g hg
          have hlt := hown'.lt g hg
          have hvs := VG.out.1.2.2.2.2
          refine ⟨?_, by omega, hlt.2⟩
          rcases hat with h | h
          · rw [h] at hg
            exact (N7.out g hg).1
          · rw [h] at hg
            simp at hg
            omega
        clear hown' hg1 hat hO hrow q0 q1 q2 q3 q4 q5 q6 q7 YG QG PG RG VG BG
        refine (CQ.out _).mono ?_
        rintro e wI ⟨rfl, bb⟩
        have YI := Lib.hid (YH.out.below bb)
        have PI := Lib.hid (PH.out.below bb)
        have RI := Lib.hid (RH.out.below bb)
        have VI := Lib.hid (VH.out.below bb)
        have BI := Lib.hid (below_up BH.out bb)
        have NI : Hid (∀ g, v'.ownBlock = some g → g ≠ w1.heap.size + 2 ∧ w1.heap.size < g ∧ g < wI.heap.size) := fun g hg => ⟨(NH.out g hg).1, (NH.out g hg).2.1, Nat.lt_of_lt_of_le (NH.out g hg).2.2 bb.size⟩
        clear bb y0 y1 y2 y3 YH PH RH VH BH NH
        obtain ⟨y0, y1, y2, y3, -⟩ := YI.out
        obtain ⟨⟨f0, f1, f2, f3, -⟩, g0, g1, g2, g3⟩ := VI.out
        go_wp2
        go_roundw
        case rel =>
          refine ⟨k - 1, cq, P ++ [p], q, L ++ [x], by go_num, rfl, by omega, by omega, cq0, cq26, ?_, HCQ, HVQ, HA2, ?_, ?_, ?_, Lib.hid (VI.out.set4s q), ?_⟩
          · unfold Hid
            rw [List.length_append, HN.out]
            simp
            omega
          · exact Lib.hid (RowP.set4s RI.out (NI.out) q)
          · intro g hg
            have := NI.out g hg
            simp only [setCell_size]
            exact this
          · exact Lib.hid ((((PI.out.setFarS (Nat.lt_add_of_pos_right (by omega)) 0 _).setFarS (Nat.lt_add_of_pos_right (by omega)) 1 _).setFarS (Nat.lt_add_of_pos_right (by omega)) 2 _).setFarS (Nat.lt_add_of_pos_right (by omega)) 3 _)
          · exact Lib.hid (below_set4s BI.out (by have := D1.out; omega) q)
        case measure => simp [intOf]; omega
      · have HWO : worstO t p = none := by unfold worstO; rw [if_neg hv]
        rw [Bool.eq_false_iff.2 hv] at CK
        rw [HWO] at CW
        replace CW : Hid (∀ W, Calls Try.prog 20 #[.agg #[.int .i64 t.b, .int .i64 t.h, .int .i64 t.l, .int .i64 t.g], .agg #[.int .i64 p.bl, .int .i64 p.br, .int .i64 p.hl, .int .i64 p.hr, .int .i64 p.ll, .int .i64 p.lr, .int .i64 p.gl, .int .i64 p.gr]] W fun e w' => e = .returned (.tuple #[.int .i64 0, .bool false]) ∧ Below W.heap.size W w') := CW
        clear HWO hv hp
        go_wp2_with fail
        refine (CW.out _).mono ?_
        rintro e wA ⟨rfl, bb⟩
        have QA := Lib.hid (Q9.out.below bb)
        have PA := Lib.hid (P9.out.below bb)
        have RA := Lib.hid (R9.out.below bb)
        have VA := Lib.hid (V9.out.below bb)
        have BA := Lib.hid (below_up B9.out bb)
        clear bb hX9 f0 f1 f2 f3 q0 q1 q2 q3 q4 q5 q6 q7 Q9 P9 R9 V9 B9
        obtain ⟨⟨f0, f1, f2, f3, -⟩, -⟩ := VA.out
        obtain ⟨q0, q1, q2, q3, q4, q5, q6, q7, -⟩ := QA.out
        go_wp2_with fail
        refine (CK.out _).mono ?_
        rintro e wC ⟨rfl, bb⟩
        have PZ := Lib.hid (PA.out.below bb)
        have RZ := Lib.hid (RA.out.below bb)
        have VZ := Lib.hid (VA.out.below bb)
        have BZ := Lib.hid (below_up BA.out bb)
        clear bb f0 f1 f2 f3 q0 q1 q2 q3 q4 q5 q6 q7 QA PA RA VA BA CW CK CC CP
        obtain ⟨hr, hll, -, hcc, hcl⟩ := HA.out.end_ HS.out (by have := HLK.out; rw [HN.out]; omega)
        rw [HCS.out, HCT.out, HN.out] at hcc
        rw [HCT.out] at hcl
        rw [HN.out] at hll
        have CY := Lib.hid (fun V v h => implPlay s v P V h HA.out.nums)
        rw [hr] at CY
        have CL := Lib.hid (implCasesLeft s P HA.out.nums)
        unfold CasesLeftIs at CL
        rw [hcl] at CL
        have CW := Lib.hid (powerL n (by have := HLK.out; omega))
        have hpw := pow_in n (by have := HLK.out; omega)
        have hp27 : (3 : Int) ^ n ≤ 27 := by
          have := HLK.out
          rcases (show n = 0 ∨ n = 1 ∨ n = 2 ∨ n = 3 by omega) with h | h | h | h <;> rw [h] <;> decide
        have hc1 : c * (3 : Int) ^ n ≤ 26 * 27 := Int.mul_le_mul c26 hp27 (by omega) (by omega)
        have hc2 : 0 ≤ c * (3 : Int) ^ n := Int.mul_nonneg c0 (by omega)
        rw [Int.mul_comm] at hcc
        obtain ⟨pw, hpwe⟩ : ∃ pw, (3 : Int) ^ n = pw := ⟨_, rfl⟩
        rw [hpwe] at CW hcc hc1 hc2
        clear hpwe hpw hp27 hr hcl
        unfold Plays at CY
        simp only [lastR, outsR, Option.isSome_some] at CY
        have vw : IntKind.i64.wrap (c * pw) = c * pw := by rw [IntKind.wrap_i64]; omega
        unfold stateV at CY CL
        obtain ⟨e0, e1, e2, e3, -⟩ := PZ.out
        go_wp2_with fail
        refine (CY.out _ _ RZ.out.reads).mono ?_
        rintro e wY ⟨u, rfl, ou, bb⟩
        obtain ⟨gu, cu, hu, -⟩ := ou.reads
        rw [hll] at hu
        subst hu
        have AZ := alloc_below wY (.cells #[.int .i64 t.b, .int .i64 t.h, .int .i64 t.l, .int .i64 t.g] 32)
        have TY := Lib.hid (StateAt.new wY 32 t)
        have PY := Lib.hid ((PZ.out.below bb).below AZ)
        have RY := Lib.hid ((RZ.out.below bb).below AZ)
        have VY := Lib.hid ((VZ.out.1.below bb).below AZ)
        have BY := Lib.hid (below_up (below_up BZ.out bb) AZ)
        obtain ⟨dy, hdy⟩ : ∃ dy, wY.heap.size = dy := ⟨_, rfl⟩
        rw [hdy] at TY
        clear e0 e1 e2 e3 ou bb AZ PZ RZ VZ BZ CY hll
        generalize hXY : wY.alloc (.cells #[.int .i64 t.b, .int .i64 t.h, .int .i64 t.l, .int .i64 t.g] 32) = XY at TY PY RY VY BY
        go_wp2_with fail
        clear hXY hdy
        have R0 := Lib.hid RY.out.reads
        first
          | (go_region_held3 (fun w' => (w'.cell? ⟨w1.heap.size, 0, none⟩ = some (.int .i64 s.b) ∧ w'.cell? ⟨w1.heap.size, 1, none⟩ = some (.int .i64 s.h) ∧ w'.cell? ⟨w1.heap.size, 2, none⟩ = some (.int .i64 s.l) ∧ w'.cell? ⟨w1.heap.size, 3, none⟩ = some (.int .i64 s.g) ∧ w1.heap.size < w'.heap.size) ∧ (w'.cell? ⟨dy, 0, none⟩ = some (.int .i64 t.b) ∧ w'.cell? ⟨dy, 1, none⟩ = some (.int .i64 t.h) ∧ w'.cell? ⟨dy, 2, none⟩ = some (.int .i64 t.l) ∧ w'.cell? ⟨dy, 3, none⟩ = some (.int .i64 t.g) ∧ dy < w'.heap.size) ∧ (w'.cell? ⟨w1.heap.size + 2, 0, none⟩ = some (.int .i64 t.b) ∧ w'.cell? ⟨w1.heap.size + 2, 1, none⟩ = some (.int .i64 t.h) ∧ w'.cell? ⟨w1.heap.size + 2, 2, none⟩ = some (.int .i64 t.l) ∧ w'.cell? ⟨w1.heap.size + 2, 3, none⟩ = some (.int .i64 t.g) ∧ w1.heap.size + 2 < w'.heap.size))
              (first | with_reducible exact ⟨PK4.out.cells, TK4.out.cells, VK4.out.cells⟩ | with_reducible exact ⟨PK3.out.cells, TK3.out.cells, VK3.out.cells⟩ | with_reducible exact ⟨PK2.out.cells, TK2.out.cells, VK2.out.cells⟩ | with_reducible exact ⟨PK1.out.cells, TK1.out.cells, VK1.out.cells⟩ | with_reducible exact ⟨PY.out.drewT.cells, TY.out.drewT.cells, VY.out.drewT.cells⟩ | fail)
              (first
                | (go_at_call 38; refine (CO.out _).mono ?_; rintro e wK1 ⟨rfl, bb⟩; have BK1 := Lib.hid (below_up BY.out.drew bb); have PK1 := Lib.hid (PY.out.drewT.below bb); have TK1 := Lib.hid (TY.out.drewT.below bb); have VK1 := Lib.hid (VY.out.drewT.below bb); have RK1 := Lib.hid ((R0.out.below (Below.refl _ _).drew).below bb); clear bb)
                | (go_at_call 32; refine (CL.out _ _ RK1.out).mono ?_; rintro e wK2 ⟨rfl, bb⟩; have BK2 := Lib.hid (below_up BK1.out bb); have PK2 := Lib.hid (PK1.out.below bb); have TK2 := Lib.hid (TK1.out.below bb); have VK2 := Lib.hid (VK1.out.below bb); clear bb)
                | (go_at_call 46; refine (CW.out _).mono ?_; rintro e wK3 ⟨rfl, hw3⟩; subst hw3)
                | (go_at_call 36; refine (CS.out _).mono ?_; rintro e wK4 ⟨rfl, bb⟩; have BK4 := Lib.hid (below_up BK2.out bb); have PK4 := Lib.hid (PK2.out.below bb); have TK4 := Lib.hid (TK2.out.below bb); have VK4 := Lib.hid (VK2.out.below bb); clear bb)
                | fail))
          | fail
        all_goals
          go_wp2
          go_ret
          exact ⟨ret_bool (by first | rfl | exact decide_eq_true hcc), BK4.out⟩
    · have RZ := R7
      have PZ := P7
      have VZ := V7
      have BZ := B7
      clear R7 P7 V7 B7 CC CP
      obtain ⟨hr, hll, -, hcc, hcl⟩ := HA.out.end_ HS.out (by have := HLK.out; rw [HN.out]; omega)
      rw [HCS.out, HCT.out, HN.out] at hcc
      rw [HCT.out] at hcl
      rw [HN.out] at hll
      have CY := Lib.hid (fun V v h => implPlay s v P V h HA.out.nums)
      rw [hr] at CY
      have CL := Lib.hid (implCasesLeft s P HA.out.nums)
      unfold CasesLeftIs at CL
      rw [hcl] at CL
      have CW := Lib.hid (powerL n (by have := HLK.out; omega))
      have hpw := pow_in n (by have := HLK.out; omega)
      have hp27 : (3 : Int) ^ n ≤ 27 := by
        have := HLK.out
        rcases (show n = 0 ∨ n = 1 ∨ n = 2 ∨ n = 3 by omega) with h | h | h | h <;> rw [h] <;> decide
      have hc1 : c * (3 : Int) ^ n ≤ 26 * 27 := Int.mul_le_mul c26 hp27 (by omega) (by omega)
      have hc2 : 0 ≤ c * (3 : Int) ^ n := Int.mul_nonneg c0 (by omega)
      rw [Int.mul_comm] at hcc
      obtain ⟨pw, hpwe⟩ : ∃ pw, (3 : Int) ^ n = pw := ⟨_, rfl⟩
      rw [hpwe] at CW hcc hc1 hc2
      clear hpwe hpw hp27 hr hcl
      unfold Plays at CY
      simp only [lastR, outsR, Option.isSome_some] at CY
      have vw : IntKind.i64.wrap (c * pw) = c * pw := by rw [IntKind.wrap_i64]; omega
      unfold stateV at CY CL
      obtain ⟨e0, e1, e2, e3, -⟩ := PZ.out
      go_wp2_with fail
      refine (CY.out _ _ RZ.out.reads).mono ?_
      rintro e wY ⟨u, rfl, ou, bb⟩
      obtain ⟨gu, cu, hu, -⟩ := ou.reads
      rw [hll] at hu
      subst hu
      have AZ := alloc_below wY (.cells #[.int .i64 t.b, .int .i64 t.h, .int .i64 t.l, .int .i64 t.g] 32)
      have TY := Lib.hid (StateAt.new wY 32 t)
      have PY := Lib.hid ((PZ.out.below bb).below AZ)
      have RY := Lib.hid ((RZ.out.below bb).below AZ)
      have VY := Lib.hid ((VZ.out.1.below bb).below AZ)
      have BY := Lib.hid (below_up (below_up BZ.out bb) AZ)
      obtain ⟨dy, hdy⟩ : ∃ dy, wY.heap.size = dy := ⟨_, rfl⟩
      rw [hdy] at TY
      clear e0 e1 e2 e3 ou bb AZ PZ RZ VZ BZ CY hll
      generalize hXY : wY.alloc (.cells #[.int .i64 t.b, .int .i64 t.h, .int .i64 t.l, .int .i64 t.g] 32) = XY at TY PY RY VY BY
      go_wp2_with fail
      clear hXY hdy
      have R0 := Lib.hid RY.out.reads
      first
        | (go_region_held3 (fun w' => (w'.cell? ⟨w1.heap.size, 0, none⟩ = some (.int .i64 s.b) ∧ w'.cell? ⟨w1.heap.size, 1, none⟩ = some (.int .i64 s.h) ∧ w'.cell? ⟨w1.heap.size, 2, none⟩ = some (.int .i64 s.l) ∧ w'.cell? ⟨w1.heap.size, 3, none⟩ = some (.int .i64 s.g) ∧ w1.heap.size < w'.heap.size) ∧ (w'.cell? ⟨dy, 0, none⟩ = some (.int .i64 t.b) ∧ w'.cell? ⟨dy, 1, none⟩ = some (.int .i64 t.h) ∧ w'.cell? ⟨dy, 2, none⟩ = some (.int .i64 t.l) ∧ w'.cell? ⟨dy, 3, none⟩ = some (.int .i64 t.g) ∧ dy < w'.heap.size) ∧ (w'.cell? ⟨w1.heap.size + 2, 0, none⟩ = some (.int .i64 t.b) ∧ w'.cell? ⟨w1.heap.size + 2, 1, none⟩ = some (.int .i64 t.h) ∧ w'.cell? ⟨w1.heap.size + 2, 2, none⟩ = some (.int .i64 t.l) ∧ w'.cell? ⟨w1.heap.size + 2, 3, none⟩ = some (.int .i64 t.g) ∧ w1.heap.size + 2 < w'.heap.size))
            (first | with_reducible exact ⟨PK4.out.cells, TK4.out.cells, VK4.out.cells⟩ | with_reducible exact ⟨PK3.out.cells, TK3.out.cells, VK3.out.cells⟩ | with_reducible exact ⟨PK2.out.cells, TK2.out.cells, VK2.out.cells⟩ | with_reducible exact ⟨PK1.out.cells, TK1.out.cells, VK1.out.cells⟩ | with_reducible exact ⟨PY.out.drewT.cells, TY.out.drewT.cells, VY.out.drewT.cells⟩ | fail)
            (first
              | (go_at_call 38; refine (CO.out _).mono ?_; rintro e wK1 ⟨rfl, bb⟩; have BK1 := Lib.hid (below_up BY.out.drew bb); have PK1 := Lib.hid (PY.out.drewT.below bb); have TK1 := Lib.hid (TY.out.drewT.below bb); have VK1 := Lib.hid (VY.out.drewT.below bb); have RK1 := Lib.hid ((R0.out.below (Below.refl _ _).drew).below bb); clear bb)
              | (go_at_call 32; refine (CL.out _ _ RK1.out).mono ?_; rintro e wK2 ⟨rfl, bb⟩; have BK2 := Lib.hid (below_up BK1.out bb); have PK2 := Lib.hid (PK1.out.below bb); have TK2 := Lib.hid (TK1.out.below bb); have VK2 := Lib.hid (VK1.out.below bb); clear bb)
              | (go_at_call 46; refine (CW.out _).mono ?_; rintro e wK3 ⟨rfl, hw3⟩; subst hw3)
              | (go_at_call 36; refine (CS.out _).mono ?_; rintro e wK4 ⟨rfl, bb⟩; have BK4 := Lib.hid (below_up BK2.out bb); have PK4 := Lib.hid (PK2.out.below bb); have TK4 := Lib.hid (TK2.out.below bb); have VK4 := Lib.hid (VK2.out.below bb); clear bb)
              | fail))
        | fail
      all_goals
        go_wp2
        go_ret
        exact ⟨ret_bool (by first | rfl | exact decide_eq_true hcc), BK4.out⟩
end Go.Proofs.Ytbkhmlkicafheaa
