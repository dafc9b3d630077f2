/- The contract of the program's canFind round the contract of firstPick, and of leadsOn round the contract of canFind. Conditions: valid states, at most three weighings, a map each entry of which is right. -/
import Derived.Test.YtfabcaodiohmaaaCanImpl
import Derived.Deep.RegionHeld3
namespace Go.Proofs.Ytfabcaodiohmaaa
open Go.RowKit

theorem MapBox.cells {w : World} {b m : Nat} (h : MapBox w b m) : w.cell? ⟨b, 0, none⟩ = some (.map (some m)) ∧ b < w.heap.size := h
theorem canS_ways (k : Nat) (s : SD) : (countS s ≤ 1 → canS k s = true) ∧ (¬ countS s ≤ 1 → (3 : Int) ^ k < countS s → canS k s = false) ∧ (¬ countS s ≤ 1 → ¬ (3 : Int) ^ k < countS s → 1 ≤ k ∧ canS k s = (firstK k s).isSome) := by
  cases k with
  | zero =>
    unfold canS
    refine ⟨fun h => decide_eq_true h, fun h _ => decide_eq_false h, fun h h2 => ?_⟩
    exact absurd (show (3 : Int) ^ 0 < countS s by simp; omega) h2
  | succ j =>
    unfold canS firstK
    refine ⟨fun h => by rw [decide_eq_true h]; rfl, fun h h2 => ?_, fun h h2 => ⟨by omega, ?_⟩⟩
    · rw [decide_eq_false h, decide_eq_false (by omega)]; rfl
    · rw [decide_eq_false h, decide_eq_true (by omega)]; simp

set_option maxRecDepth 100000 in
set_option maxHeartbeats 3200000 in
theorem implCan (k : Nat) (hk : k ≤ 3) (HF : 1 ≤ k → FirstC k) : CanC k := by
  intro s hs m W hN
  have CC := Lib.hid (fun W => implCountCases s W)
  have HCS : Hid (casesS s = countS s) := by unfold Hid casesS; rw [if_pos (stateB_iff.2 hs)]
  have CM := Lib.hid (fun W => implMost k hk W)
  have HR := Lib.hid (canS_ways k s)
  have CL : Hid (1 ≤ k → canS k s = (firstK k s).isSome → ∀ b0 b1 b2 W3, NoteAt W3 m → MapBox W3 b0 m → StateAt W3 b1 s → NumBox W3 b2 k →
      Calls Try.prog 44 #[.agg #[.map (some m)], goalV s k, .func (.func 45) #[] #[.pointer (some ⟨b0, 0, none⟩), .pointer (some ⟨b1, 0, none⟩), .pointer (some ⟨b2, 0, none⟩)]] W3 fun e W' => e = .returned (.bool (canS k s)) ∧ NoteAt W' m ∧ JustMap m W3 W') := by
    intro h1 h2 b0 b1 b2 W3 hN3 hM3 hS3 hK3
    refine implLookUp m s k hs hk _ _ _ W3 hN3 fun W1 hN1 hb => ?_
    rw [h2]
    exact implFound k s hs (HF h1) m b0 b1 b2 W1 (hM3.below hb) (hS3.below hb) (hK3.below hb) hN1
  have hm := hN.lt
  have M0 := MapBox.new W 53 m
  have B0 := alloc_below W (.cells #[.map (some m)] 53)
  have s0 : (W.alloc (.cells #[.map (some m)] 53)).heap.size = W.heap.size + 1 := by simp
  generalize hX0 : W.alloc (.cells #[.map (some m)] 53) = X0 at M0 B0 s0
  have P0 := StateAt.new X0 25 s
  have B1 := alloc_below X0 (.cells #[.int .i64 s.b, .int .i64 s.h, .int .i64 s.l, .int .i64 s.g] 25)
  have s1 : (X0.alloc (.cells #[.int .i64 s.b, .int .i64 s.h, .int .i64 s.l, .int .i64 s.g] 25)).heap.size = W.heap.size + 2 := by simp [s0]
  rw [s0] at P0
  generalize hX1 : X0.alloc (.cells #[.int .i64 s.b, .int .i64 s.h, .int .i64 s.l, .int .i64 s.g] 25) = X1 at P0 B1 s1
  have K0 := NumBox.new X1 3 k
  have B2 := alloc_below X1 (.cells #[.int .i64 k] 3)
  rw [s1] at K0
  generalize hX2 : X1.alloc (.cells #[.int .i64 k] 3) = X2 at K0 B2
  have M2 := Lib.hid ((M0.below B1).below B2)
  have P2 := Lib.hid (P0.below B2)
  have K2 := Lib.hid K0
  have BX := Lib.hid (below_up (below_up B0 B1) B2)
  have HN := Lib.hid hN
  clear M0 P0 K0 B0 B1 B2 HF hs hk hN
  generalize canS k s = r at HR CL ⊢
  generalize (firstK k s).isSome = ok at HR CL
  unfold searchV
  unfold stateV at CC ⊢
  unfold goalV at CL
  obtain ⟨e0, e1, e2, e3, -⟩ := P2.out
  go_enter Try.func38, Try.ntmps38
  go_wp2_with fail
  refine (CC.out _).mono ?_
  rintro e w1 ⟨rfl, b1⟩
  rw [HCS.out]
  have B1 := Lib.hid (below_up BX.out b1)
  have M1 := Lib.hid (M2.out.below b1)
  have P1 := Lib.hid (P2.out.below b1)
  have K1 := Lib.hid (K2.out.below b1)
  clear b1 e0 e1 e2 e3 M2 P2 K2 BX hX0 hX1 hX2 s0 s1 HCS
  generalize countS s = n at HR
  by_cases h1 : n ≤ 1
  · have HE : Hid (true = r) := (HR.out.1 h1).symm
    clear HR CL
    go_wp2
    go_ret
    exact ⟨ret_bool HE.out, HN.out.below B1.out, Only.fresh B1.out⟩
  · have HR2 := Lib.hid (HR.out.2.1 (by omega))
    have HR3 := Lib.hid (HR.out.2.2 (by omega))
    clear HR
    obtain ⟨k0, -⟩ := K1.out
    go_wp2_with fail
    refine (CM.out _).mono ?_
    rintro e w2 ⟨rfl, rfl⟩
    generalize (3 : Int) ^ k = q at HR2 HR3
    by_cases h2 : q < n
    · have HE : Hid (false = r) := (HR2.out h2).symm
      clear HR2 HR3 CL
      go_wp2
      go_ret
      exact ⟨ret_bool HE.out, HN.out.below B1.out, Only.fresh B1.out⟩
    · obtain ⟨hk1, he⟩ := HR3.out (by omega)
      have CL2 := Lib.hid (CL.out hk1 he _ _ _ w1 (HN.out.below B1.out) M1.out P1.out K1.out)
      clear HR2 HR3 CL hk1 he
      obtain ⟨m0, -⟩ := M1.out
      obtain ⟨e0, e1, e2, e3, -⟩ := P1.out
      go_wp2_with fail
      refine (CL2.out).mono ?_
      rintro e w3 ⟨rfl, hN3, hJ3⟩
      have HN3 := Lib.hid hN3
      have HJ3 : Hid (JustMap m W w3) := (Only.fresh B1.out).trans hJ3
      clear hN3 hJ3 CL2
      go_wp2
      go_ret
      exact ⟨rfl, HN3.out, HJ3.out⟩

/-- Whether one weighing fewer is enough after each outcome, in the program's order. -/
def leadsB (k : Nat) (s : SD) (p : PD) : Bool := ([-1, 0, 1] : List Int).all fun x => canS k (afterS s p x)
theorem leads_step {f : Int → Bool} {i : Nat} (h : i < 3) : (([-1, 0, 1] : List Int).drop i).all f = (f ((i : Int) - 1) && (([-1, 0, 1] : List Int).drop (i + 1)).all f) := by
  rcases i with _ | _ | _ | i
  · rfl
  · rfl
  · rfl
  · omega

set_option maxRecDepth 100000 in
set_option maxHeartbeats 6400000 in
theorem implLeads (j : Nat) (hj : j ≤ 2) (HC : CanC j) (K : Int) (hK : K = (j : Int) + 1) (s : SD) (p : PD) (hs : SIn s) (hp : PIn s p) (m : Nat) (W : World) (hN : NoteAt W m) :
    Calls Try.prog 48 #[searchV m, stateV s, pickV p, .int .i64 K] W fun e W' => e = .returned (.bool (leadsB j s p)) ∧ NoteAt W' m ∧ JustMap m W W' := by
  have CA : Hid (∀ x, -1 ≤ x ∧ x ≤ 1 → ∀ W, Calls Try.prog 34 #[stateV s, pickV p, .int .i64 x] W fun e w' => e = .returned (stateV (afterS s p x)) ∧ Below W.heap.size W w') := fun x hx W => implStateAfter s p x hx hs hp W
  have CF : Hid (∀ x W, NoteAt W m → Calls Try.prog 38 #[searchV m, stateV (afterS s p x), .int .i64 j] W fun e W' => e = .returned (.bool (canS j (afterS s p x))) ∧ NoteAt W' m ∧ JustMap m W W') := fun x W h => HC _ (after_in hs hp) m W h
  have hwj : IntKind.i64.wrap (K - 1) = (j : Int) := by rw [IntKind.wrap_i64]; omega
  have HX : Hid (leadsB j s p = (([-1, 0, 1] : List Int).drop 0).all (fun x => canS j (afterS s p x))) := rfl
  have hm := hN.lt
  have M0 := MapBox.new W 53 m
  have B0 := alloc_below W (.cells #[.map (some m)] 53)
  have s0 : (W.alloc (.cells #[.map (some m)] 53)).heap.size = W.heap.size + 1 := by simp
  generalize hX0 : W.alloc (.cells #[.map (some m)] 53) = X0 at M0 B0 s0
  have P0 := StateAt.new X0 25 s
  have B1 := alloc_below X0 (.cells #[.int .i64 s.b, .int .i64 s.h, .int .i64 s.l, .int .i64 s.g] 25)
  have s1 : (X0.alloc (.cells #[.int .i64 s.b, .int .i64 s.h, .int .i64 s.l, .int .i64 s.g] 25)).heap.size = W.heap.size + 2 := by simp [s0]
  rw [s0] at P0
  generalize hX1 : X0.alloc (.cells #[.int .i64 s.b, .int .i64 s.h, .int .i64 s.l, .int .i64 s.g] 25) = X1 at P0 B1 s1
  have Q0 := PickAt.new X1 32 p
  have B2 := alloc_below X1 (.cells #[.int .i64 p.bl, .int .i64 p.br, .int .i64 p.hl, .int .i64 p.hr, .int .i64 p.ll, .int .i64 p.lr, .int .i64 p.gl, .int .i64 p.gr] 32)
  rw [s1] at Q0
  generalize hX2 : X1.alloc (.cells #[.int .i64 p.bl, .int .i64 p.br, .int .i64 p.hl, .int .i64 p.hr, .int .i64 p.ll, .int .i64 p.lr, .int .i64 p.gl, .int .i64 p.gr] 32) = X2 at Q0 B2
  have M2 := Lib.hid ((M0.below B1).below B2)
  have P2 := Lib.hid (P0.below B2)
  have Q2 := Lib.hid Q0
  have BX := Lib.hid (below_up (below_up B0 B1) B2)
  have N2 := Lib.hid (hN.below BX.out)
  clear M0 P0 Q0 B0 B1 B2 hs hp hN HC hK
  generalize leadsB j s p = r at HX ⊢
  unfold searchV at CF ⊢
  unfold stateV at CA CF ⊢
  unfold pickV at CA ⊢
  go_enter Try.func48, Try.ntmps48
  go_wp2
  go_loopw [9] (fun v wr => ∃ i : Nat, i ≤ 3 ∧ v = .int .i64 ((i : Int) - 1) ∧ Hid (r = (([-1, 0, 1] : List Int).drop i).all (fun x => canS j (afterS s p x))) ∧ Hid (NoteAt wr m) ∧ Hid (JustMap m X2 wr)) (fun v _ => 3 - (intOf v + 1).toNat)
  case atStart => exact ⟨0, by omega, rfl, HX, N2, Only.refl _ _⟩
  case round =>
    clear HX
    obtain ⟨i, hi, rfl, HR, NR, JR⟩ := hrel
    by_cases hlt : i < 3
    · have HT := Lib.hid (leads_step (f := fun x => canS j (afterS s p x)) hlt)
      obtain ⟨x, hx⟩ : ∃ x : Int, (i : Int) - 1 = x := ⟨_, rfl⟩
      have x1 : x ≤ 1 := by omega
      have x2 : -1 ≤ x := by omega
      have hwx : IntKind.i64.wrap (x + 1) = ((i + 1 : Nat) : Int) - 1 := by rw [IntKind.wrap_i64]; omega
      rw [hx] at HT ⊢
      have HX := Lib.hid hx
      clear hx
      have CAx := Lib.hid (CA.out x ⟨x2, x1⟩)
      have CFx := Lib.hid (CF.out x)
      generalize afterS s p x = sx at CAx CFx HT
      have M3 := Lib.hid (M2.out.only JR.out (by omega))
      have P3 := Lib.hid (P2.out.only JR.out (by omega))
      have Q3 := Lib.hid (Q2.out.only JR.out (by omega))
      obtain ⟨m0, ml⟩ := M3.out
      obtain ⟨e0, e1, e2, e3, -⟩ := P3.out
      obtain ⟨q0, q1, q2, q3, q4, q5, q6, q7, -⟩ := Q3.out
      have D3 : Hid (Below wr.heap.size wr wr.drew) := (Below.refl _ _).drew
      go_upto_region 4 with fail
      go_region_held3 (fun w' => (w'.cell? ⟨W.heap.size, 0, none⟩ = some (.map (some m)) ∧ W.heap.size < w'.heap.size) ∧ (w'.cell? ⟨W.heap.size + 1, 0, none⟩ = some (.int .i64 s.b) ∧ w'.cell? ⟨W.heap.size + 1, 1, none⟩ = some (.int .i64 s.h) ∧ w'.cell? ⟨W.heap.size + 1, 2, none⟩ = some (.int .i64 s.l) ∧ w'.cell? ⟨W.heap.size + 1, 3, none⟩ = some (.int .i64 s.g) ∧ W.heap.size + 1 < w'.heap.size) ∧ (w'.cell? ⟨W.heap.size + 2, 0, none⟩ = some (.int .i64 p.bl) ∧ w'.cell? ⟨W.heap.size + 2, 1, none⟩ = some (.int .i64 p.br) ∧ w'.cell? ⟨W.heap.size + 2, 2, none⟩ = some (.int .i64 p.hl) ∧ w'.cell? ⟨W.heap.size + 2, 3, none⟩ = some (.int .i64 p.hr) ∧ w'.cell? ⟨W.heap.size + 2, 4, none⟩ = some (.int .i64 p.ll) ∧ w'.cell? ⟨W.heap.size + 2, 5, none⟩ = some (.int .i64 p.lr) ∧ w'.cell? ⟨W.heap.size + 2, 6, none⟩ = some (.int .i64 p.gl) ∧ w'.cell? ⟨W.heap.size + 2, 7, none⟩ = some (.int .i64 p.gr) ∧ W.heap.size + 2 < w'.heap.size))
        (first | with_reducible exact ⟨M5.out.cells, P5.out.cells, Q5.out.cells⟩ | with_reducible exact ⟨M4.out.cells, P4.out.cells, Q4.out.cells⟩ | with_reducible exact ⟨(M3.out.below D3.out).cells, P3.out.drewT.cells, Q3.out.drewT.cells⟩ | fail)
        (first
          | (go_at_call 34; refine (CAx.out _).mono ?_; rintro e w4 ⟨rfl, b4⟩; have D4 := Lib.hid (D3.out.trans b4); have M4 := Lib.hid (M3.out.below D4.out); have P4 := Lib.hid (P3.out.below D4.out); have Q4 := Lib.hid (Q3.out.below D4.out); have N4 := Lib.hid (NR.out.below D4.out); have J4 := Lib.hid (JR.out.trans (Only.fresh D4.out)); clear b4)
          | (go_at_call 38; refine (CFx.out _ N4.out).mono ?_; rintro e w5 ⟨rfl, hN5, hJ5⟩; have M5 := Lib.hid (M4.out.only hJ5 (by omega)); have P5 := Lib.hid (P4.out.only hJ5 (by omega)); have Q5 := Lib.hid (Q4.out.only hJ5 (by omega)); have N5 := Lib.hid hN5; have J5 := Lib.hid (J4.out.trans hJ5); clear hN5 hJ5)
          | fail)
      cases hcan : canS j sx with
      | true =>
        have HF : Hid (r = (([-1, 0, 1] : List Int).drop (i + 1)).all (fun x => canS j (afterS s p x))) := by unfold Hid; rw [HR.out, HT.out, hcan, Bool.true_and]
        clear HR HT hcan
        go_wp2
        go_roundw
        case rel => exact ⟨i + 1, by omega, by first | rfl | trivial | go_num, HF, N5, J5⟩
        case measure =>
          have hx := HX.out
          simp [intOf]; omega
      | false =>
        have HF : Hid (false = r) := by unfold Hid; rw [HR.out, HT.out, hcan]; rfl
        clear HR HT hcan
        go_wp2
        go_ret
        exact ⟨ret_bool HF.out, N5.out, (Only.fresh BX.out).trans J5.out⟩
    · have HF : Hid (true = r) := by unfold Hid; rw [HR.out, List.drop_of_length_le (by simp; omega)]; rfl
      obtain rfl : i = 3 := by omega
      clear HR
      go_wp2
      go_ret
      exact ⟨ret_bool HF.out, NR.out, (Only.fresh BX.out).trans JR.out⟩
end Go.Proofs.Ytfabcaodiohmaaa
