/- The contracts of the program's CanFind, FewestFor and FirstPick, and the walks of their exact laws: each returns true for every argument. No condition. -/
import Derived.Test.YtbkhmlkicafheaaFirstPlain
import Derived.Test.YtbkhmlkicafheaaGFinds
import Derived.Defers
namespace Go.Proofs.Ytbkhmlkicafheaa
open Go.RowKit Go.MapKept
open Go.ChangeMaps (setBlock)

theorem firstC (j : Nat) (hj : j ≤ 2) (HC : CanC j) : FirstC (j + 1) := by
  intro s hs m W hN
  obtain ⟨b, h, l, g⟩ := s
  have h0 := hs
  unfold SIn sumS at h0
  simp only [] at h0
  obtain ⟨nb, rfl⟩ := Int.eq_ofNat_of_zero_le h0.1
  obtain ⟨nh, rfl⟩ := Int.eq_ofNat_of_zero_le h0.2.1
  obtain ⟨nl, rfl⟩ := Int.eq_ofNat_of_zero_le h0.2.2.1
  obtain ⟨ng, rfl⟩ := Int.eq_ofNat_of_zero_le h0.2.2.2.1
  have C := callsIn_wide.1 (firstN j hj HC ((j + 1 : Nat) : Int) (by omega) nb nh nl ng hs 30 (by omega) m W hN)
  rw [find_first hs] at C
  unfold firstK
  simpa [searchV, stateV] using C
theorem canC : ∀ k : Nat, k ≤ 3 → CanC k
  | 0, _ => implCan 0 (by omega) (fun h => absurd h (by omega))
  | j + 1, hk => implCan (j + 1) hk (fun _ => firstC j (by omega) (canC j (by omega)))
theorem firstKC (k : Nat) (h1 : 1 ≤ k) (h3 : k ≤ 3) : FirstC k := by
  obtain ⟨j, rfl⟩ : ∃ j, k = j + 1 := ⟨k - 1, by omega⟩
  exact firstC j (by omega) (canC j (by omega))

theorem NoteAt.clear {w : World} {m : Nat} (h : NoteAt w m) : ∃ w', (∀ ty, (Builtin.clear_ #[90] ty #[.map (some m)]).run Try.prog w = .ok (.tuple #[]) w') ∧ JustMap m w w' := by
  have ht := Try.underlying90
  obtain ⟨es, clock, hb, -⟩ := h
  refine ⟨setBlock w m (.map #[] clock), fun ty => ?_, ⟨rfl, rfl, rfl, by simp [setBlock], fun j _ hj => by simp [setBlock, Array.getElem?_setIfInBounds]; intro e; exact absurd e.symm hj⟩⟩
  simp [Builtin.clear_, run_underlying ht, MapKept.run_getObj_map hb, MapKept.run_setObj_map _ hb, Result.andThen, setBlock]

set_option maxHeartbeats 1600000 in
theorem wipeD (m : Nat) (u : FrameMode) (w : World) (hN : NoteAt w m) :
    CallsD Try.prog 68 #[.agg #[.map (some m)]] u w fun e u' w' => u' = u ∧ (e = .returned (.tuple #[]) ∧ JustMap m w w') := by
  have B0 := alloc_below w (.cells #[.map (some m)] 92)
  obtain ⟨X', hc, hO⟩ := (hN.below B0).clear
  have HO : Hid (JustMap m w X') := (Only.fresh B0).trans hO
  clear B0 hO
  go_enter_d Try.func68, Try.ntmps68
  go_wp2
  go_end0
  exact ⟨rfl, HO.out⟩

set_option maxRecDepth 100000 in
set_option maxHeartbeats 3200000 in
theorem implCanFind (s : SD) (k : Int) : CanFindIs 39 s k := by
  intro W
  have C1 := Lib.hid (fun V => implStateOk s V)
  have CN := Lib.hid (fun V => implNewSearch V)
  have CC : Hid (stateB s = true → 0 ≤ k → k ≤ 3 → ∀ m V, NoteAt V m → Calls Try.prog 69 #[.agg #[.map (some m)], .agg #[.int .i64 s.b, .int .i64 s.h, .int .i64 s.l, .int .i64 s.g], .int .i64 k] V fun e W' => e = .returned (.bool (canS k.toNat s)) ∧ NoteAt W' m ∧ JustMap m V W') := by
    intro hs h0 h3 m V hN
    obtain ⟨j, rfl⟩ := Int.eq_ofNat_of_zero_le h0
    exact canC j (by omega) s (stateB_iff.1 hs) m V hN
  have HW := Lib.hid (fun m u V (h : NoteAt V m) => wipeD m u V h)
  have HR : Hid (findB s k = (stateB s && ((decide (0 ≤ k) && decide (k ≤ 3)) && canS k.toNat s))) := rfl
  generalize findB s k = r at HR ⊢
  generalize canS k.toNat s = cs at HR CC
  generalize stateB s = sb at C1 CC HR
  have P0 := Lib.hid (StateAt.new W 32 s)
  have B0 := Lib.hid (alloc_below W (.cells #[.int .i64 s.b, .int .i64 s.h, .int .i64 s.l, .int .i64 s.g] 32))
  generalize hX0 : W.alloc (.cells #[.int .i64 s.b, .int .i64 s.h, .int .i64 s.l, .int .i64 s.g] 32) = X0 at P0 B0
  unfold stateV at C1 ⊢
  obtain ⟨e0, e1, e2, e3, -⟩ := P0.out
  go_enter_defers Try.func39, Try.ntmps39
  go_wp2_with fail
  refine (C1.out _).mono ?_
  rintro e w1 ⟨rfl, b1⟩
  have B1 := Lib.hid (below_up B0.out b1)
  have P1 := Lib.hid (P0.out.below b1)
  clear b1 e0 e1 e2 e3 B0 P0 hX0 C1
  have hbad : (sb = true ∧ 0 ≤ k ∧ k ≤ 3) ∨ (sb = false) ∨ (sb = true ∧ k < 0) ∨ (sb = true ∧ ¬ k < 0 ∧ 3 < k) := by
    cases sb
    · exact .inr (.inl rfl)
    · simp only [true_and, Bool.true_eq_false, false_or]; omega
  rcases hbad with ⟨rfl, h0, h3⟩ | rfl | ⟨rfl, hx⟩ | ⟨rfl, hx0, hx⟩
  · have HF : Hid (cs = r) := by unfold Hid; rw [HR.out, decide_eq_true h0, decide_eq_true h3]; rfl
    have CD := Lib.hid (CC.out (by first | rfl | trivial) h0 h3)
    clear CC
    have k0 : ¬ k < 0 := by omega
    have k3 : ¬ 3 < k := by omega
    clear HR h0 h3
    go_wp2_with fail
    refine (CN.out _).mono ?_
    rintro e w2 ⟨m, rfl, hm, hN, b2⟩
    have B2 := Lib.hid (below_up B1.out b2)
    have P2 := P1.out.below b2
    have hmw : W.heap.size ≤ m := Nat.le_trans B1.out.size hm
    have a3 := alloc_below w2 (.cells #[.map (some m)] 94)
    have M3 := Lib.hid (MapBox.new w2 94 m)
    have P3 := Lib.hid (P2.below a3)
    have N3 := Lib.hid (hN.below a3)
    have B3 := Lib.hid (below_up B2.out a3)
    have CE := Lib.hid (CD.out m _ N3.out)
    clear CD
    generalize hX3 : w2.alloc (.cells #[.map (some m)] 94) = X3 at M3 P3 N3 B3 CE
    obtain ⟨m0, -⟩ := M3.out
    obtain ⟨e0, e1, e2, e3, -⟩ := P3.out
    clear b2 P2 a3 hN hm CN B1 B2 P1
    go_wp2_with fail
    refine (CE.out).mono ?_
    rintro e w4 ⟨rfl, hN4, hJ4⟩
    have HN := Lib.hid hN4
    have HJ := Lib.hid hJ4
    clear hN4 hJ4 CE m0 e0 e1 e2 e3 M3 P3 N3 hX3
    go_wp2
    refine leaves_cons (f := 68) (args := #[.agg #[.map (some m)]]) (by simp) (by simp [go_sem]) ?_
    refine (HW.out m .returning _ HN.out).mono ?_
    rintro e u' w5 ⟨rfl, rfl, hJ5⟩
    refine ⟨_, results_tmp rfl _ _ _, ?_, ?_⟩
    · exact ret_bool HF.out
    · exact B3.out.trans ((HJ.out.trans hJ5).below B3.out.size (fun k e => by omega))
  all_goals
    have HF : Hid (false = r) := by
      unfold Hid
      first
        | (rw [HR.out]; rfl)
        | (rw [HR.out, decide_eq_false (by omega : ¬ (0 ≤ k))]; rfl)
        | (rw [HR.out, decide_eq_false (by omega : ¬ (k ≤ 3)), Bool.and_false]; rfl)
    clear HR CC
    go_wp2
    refine ⟨_, results_tmp rfl _ _ _, ?_, ?_⟩
    · exact ret_bool HF.out
    · exact B1.out

set_option maxHeartbeats 1600000 in
theorem implFewest (s : SD) : FewestIs 37 s := by
  intro W
  have C := Lib.hid (fun k V => implCanFind s k V)
  have HR : Hid (fewestI s = if findB s 0 = true then 0 else if findB s 1 = true then 1 else if findB s 2 = true then 2 else if findB s 3 = true then 3 else -1) := rfl
  generalize fewestI s = r at HR ⊢
  have P0 := Lib.hid (StateAt.new W 32 s)
  have B0 := Lib.hid (alloc_below W (.cells #[.int .i64 s.b, .int .i64 s.h, .int .i64 s.l, .int .i64 s.g] 32))
  generalize hX0 : W.alloc (.cells #[.int .i64 s.b, .int .i64 s.h, .int .i64 s.l, .int .i64 s.g] 32) = X0 at P0 B0
  unfold stateV at C ⊢
  go_enter Try.func37, Try.ntmps37
  go_wp2
  go_loopw [4] (fun v wr => ∃ i : Nat, i ≤ 4 ∧ v = .int .i64 i ∧ Hid (Below X0.heap.size X0 wr) ∧ Hid (∀ j : Nat, j < i → findB s j = false)) (fun v _ => 4 - (intOf v).toNat)
  case atStart => exact ⟨0, by omega, rfl, Below.refl _ _, fun j h => absurd h (by omega)⟩
  case round =>
    obtain ⟨i, hi, rfl, BR, HI⟩ := hrel
    by_cases hlt : i < 4
    · have i1 : (i : Int) < 4 := by omega
      have Ci := Lib.hid (C.out i)
      obtain ⟨e0, e1, e2, e3, -⟩ := P0.out.below BR.out
      have HX : Hid (findB s (i : Int) = true → (i : Int) = r) := by
        intro h
        rw [HR.out]
        have f := HI.out
        rcases i with _ | _ | _ | _ | i
        · rw [if_pos (by simpa using h)]; rfl
        · rw [if_neg (by rw [show (0 : Int) = ((0 : Nat) : Int) from rfl, f 0 (by omega)]; simp), if_pos (by simpa using h)]; rfl
        · rw [if_neg (by rw [show (0 : Int) = ((0 : Nat) : Int) from rfl, f 0 (by omega)]; simp), if_neg (by rw [show (1 : Int) = ((1 : Nat) : Int) from rfl, f 1 (by omega)]; simp), if_pos (by simpa using h)]; rfl
        · rw [if_neg (by rw [show (0 : Int) = ((0 : Nat) : Int) from rfl, f 0 (by omega)]; simp), if_neg (by rw [show (1 : Int) = ((1 : Nat) : Int) from rfl, f 1 (by omega)]; simp), if_neg (by rw [show (2 : Int) = ((2 : Nat) : Int) from rfl, f 2 (by omega)]; simp), if_pos (by simpa using h)]; rfl
        · omega
      have HY : Hid (findB s (i : Int) = false → ∀ j : Nat, j < i + 1 → findB s j = false) := by
        intro h j hj
        by_cases e : j = i
        · subst e; exact h
        · exact HI.out j (by omega)
      generalize findB s (i : Int) = fb at Ci HX HY
      go_wp2_with fail
      refine (Ci.out _).mono ?_
      rintro e w1 ⟨rfl, b1⟩
      have B1 := Lib.hid (below_up BR.out b1)
      clear b1 e0 e1 e2 e3 Ci HR
      cases fb with
      | true =>
        have HE := Lib.hid (HX.out rfl)
        clear HX HY
        go_wp2
        go_ret
        exact ⟨ret_int HE.out, below_up B0.out B1.out⟩
      | false =>
        have HE := Lib.hid (HY.out rfl)
        clear HX HY
        go_wp2
        go_roundw
        case rel => exact ⟨i + 1, by omega, by go_num, B1, HE⟩
        case measure => simp [intOf]; omega
    · obtain rfl : i = 4 := by omega
      have HE : Hid ((-1 : Int) = r) := by
        have f := HI.out
        unfold Hid
        rw [HR.out, if_neg (by rw [show (0 : Int) = ((0 : Nat) : Int) from rfl, f 0 (by omega)]; simp), if_neg (by rw [show (1 : Int) = ((1 : Nat) : Int) from rfl, f 1 (by omega)]; simp), if_neg (by rw [show (2 : Int) = ((2 : Nat) : Int) from rfl, f 2 (by omega)]; simp), if_neg (by rw [show (3 : Int) = ((3 : Nat) : Int) from rfl, f 3 (by omega)]; simp)]
      clear HR
      go_wp2
      go_ret
      exact ⟨ret_int HE.out, below_up B0.out BR.out⟩

set_option maxRecDepth 100000 in
set_option maxHeartbeats 3200000 in
theorem implFirstPick (s : SD) (k : Int) : FirstPickIs 40 s k := by
  intro W
  have C1 := Lib.hid (fun V => implStateOk s V)
  have CN := Lib.hid (fun V => implNewSearch V)
  have CC : Hid (stateB s = true → 1 ≤ k → k ≤ 3 → ∀ m V, NoteAt V m → Calls Try.prog 70 #[.agg #[.map (some m)], .agg #[.int .i64 s.b, .int .i64 s.h, .int .i64 s.l, .int .i64 s.g], .int .i64 k] V fun e W' => e = .returned (.tuple #[pickV ((firstK k.toNat s).getD zeroP), .bool (firstK k.toNat s).isSome]) ∧ NoteAt W' m ∧ JustMap m V W') := by
    intro hs h0 h3 m V hN
    obtain ⟨j, rfl⟩ := Int.eq_ofNat_of_zero_le (by omega : 0 ≤ k)
    exact firstKC j (by omega) (by omega) s (stateB_iff.1 hs) m V hN
  have HW := Lib.hid (fun m u V (h : NoteAt V m) => wipeD m u V h)
  have HR : Hid (pickO s k = if (stateB s && (decide (1 ≤ k) && decide (k ≤ 3))) = true then firstK k.toNat s else none) := rfl
  generalize pickO s k = r at HR ⊢
  generalize firstK k.toNat s = fk at HR CC
  generalize stateB s = sb at C1 CC HR
  have P0 := StateAt.new W 32 s
  have B0 := alloc_below W (.cells #[.int .i64 s.b, .int .i64 s.h, .int .i64 s.l, .int .i64 s.g] 32)
  have s0 : (W.alloc (.cells #[.int .i64 s.b, .int .i64 s.h, .int .i64 s.l, .int .i64 s.g] 32)).heap.size = W.heap.size + 1 := by simp
  generalize hX0 : W.alloc (.cells #[.int .i64 s.b, .int .i64 s.h, .int .i64 s.l, .int .i64 s.g] 32) = X0 at P0 B0 s0
  have E0 := EightVar.new X0 34 zeroP
  have B1 := alloc_below X0 (.cells #[.int .i64 0, .int .i64 0, .int .i64 0, .int .i64 0, .int .i64 0, .int .i64 0, .int .i64 0, .int .i64 0] 34)
  rw [s0] at E0
  change EightVar (X0.alloc (.cells #[.int .i64 0, .int .i64 0, .int .i64 0, .int .i64 0, .int .i64 0, .int .i64 0, .int .i64 0, .int .i64 0] 34)) _ _ at E0
  generalize hX1 : X0.alloc (.cells #[.int .i64 0, .int .i64 0, .int .i64 0, .int .i64 0, .int .i64 0, .int .i64 0, .int .i64 0, .int .i64 0] 34) = X1 at E0 B1
  have P1 := Lib.hid (P0.below B1)
  have E1 := Lib.hid E0
  have BX := Lib.hid (below_up B0 B1)
  clear P0 B0 B1 E0
  unfold stateV at C1 ⊢
  unfold pickV at CC ⊢
  obtain ⟨e0, e1, e2, e3, -⟩ := P1.out
  go_enter_defers Try.func40, Try.ntmps40
  go_wp2_with fail
  refine (C1.out _).mono ?_
  rintro e w1 ⟨rfl, b1⟩
  have B1 := Lib.hid (below_up BX.out b1)
  have P2 := Lib.hid (P1.out.below b1)
  have E2 := Lib.hid (E1.out.below b1)
  clear b1 e0 e1 e2 e3 P1 E1 BX hX0 hX1 s0 C1
  have hbad : (sb = true ∧ 1 ≤ k ∧ k ≤ 3) ∨ (sb = false) ∨ (sb = true ∧ k < 1) ∨ (sb = true ∧ ¬ k < 1 ∧ 3 < k) := by
    cases sb
    · exact .inr (.inl rfl)
    · simp only [true_and, Bool.true_eq_false, false_or]; omega
  rcases hbad with ⟨rfl, h0, h3⟩ | rfl | ⟨rfl, hx⟩ | ⟨rfl, hx0, hx⟩
  · have HF : Hid (r = fk) := by unfold Hid; rw [HR.out, decide_eq_true h0, decide_eq_true h3]; rfl
    have CD := Lib.hid (CC.out (by first | rfl | trivial) h0 h3)
    clear CC
    have k0 : ¬ k < 1 := by omega
    have k3 : ¬ 3 < k := by omega
    clear HR h0 h3
    go_wp2_with fail
    refine (CN.out _).mono ?_
    rintro e w2 ⟨m, rfl, hm, hN, b2⟩
    have B2 := Lib.hid (below_up B1.out b2)
    have P3 := P2.out.below b2
    have E3 := E2.out.below b2
    have hmw : W.heap.size + 1 < m := Nat.lt_of_lt_of_le E2.out.1.lt hm
    have a3 := alloc_below w2 (.cells #[.map (some m)] 94)
    have M4 := Lib.hid (MapBox.new w2 94 m)
    have P4 := Lib.hid (P3.below a3)
    have E4 := Lib.hid (E3.below a3)
    have N4 := Lib.hid (hN.below a3)
    have B4 := Lib.hid (below_up B2.out a3)
    have CE := Lib.hid (CD.out m _ N4.out)
    clear CD
    generalize hX3 : w2.alloc (.cells #[.map (some m)] 94) = X3 at M4 P4 E4 N4 B4 CE
    obtain ⟨m0, -⟩ := M4.out
    obtain ⟨e0, e1, e2, e3, -⟩ := P4.out
    clear b2 P3 E3 a3 hN hm CN B1 B2 P2 E2
    generalize hg : fk.getD zeroP = g at CE
    have HG : Hid (r.getD zeroP = g) := by unfold Hid; rw [HF.out]; exact hg
    clear hg
    go_wp2_with fail
    refine (CE.out).mono ?_
    rintro e w4 ⟨rfl, hN5, hJ5⟩
    have HN := Lib.hid hN5
    have HJ := Lib.hid hJ5
    have E5 := E4.out.only hJ5 (by omega)
    have F5 := Lib.hid (E5.fill g)
    have O5 := Lib.hid (fill_only w4 (W.heap.size + 1) g)
    obtain ⟨⟨q0, q1, q2, q3, q4, q5, q6, q7, -⟩, g0, g1, g2, g3, g4, g5, g6, g7⟩ := E5
    clear hN5 hJ5 CE m0 e0 e1 e2 e3 M4 P4 E4 N4 hX3
    go_wp2
    refine leaves_cons (f := 68) (args := #[.agg #[.map (some m)]]) (by simp) (by simp [go_sem]) ?_
    refine (HW.out m .returning _ (HN.out.same (O5.out.block m HN.out.lt (by omega)))).mono ?_
    rintro e u' w5 ⟨rfl, rfl, hJ6⟩
    obtain ⟨⟨c0, c1, c2, c3, c4, c5, c6, c7, -⟩, -⟩ := F5.out.only hJ6 (by omega)
    refine ⟨.tuple #[.agg #[.int .i64 g.bl, .int .i64 g.br, .int .i64 g.hl, .int .i64 g.hr, .int .i64 g.ll, .int .i64 g.lr, .int .i64 g.gl, .int .i64 g.gr], .bool fk.isSome], ?_, ?_, ?_⟩
    · simp [results, Try.f40, go_sem, c0, c1, c2, c3, c4, c5, c6, c7]
    · rw [HG.out, HF.out]
    · exact B4.out.trans ((((HJ.out.mono fun k e => show W.heap.size ≤ k by omega).trans (O5.out.mono fun k e => show W.heap.size ≤ k by omega)).trans (hJ6.mono fun k e => show W.heap.size ≤ k by omega)).below B4.out.size (fun k e => e))
  all_goals
    have HF : Hid (r = none) := by
      unfold Hid
      first
        | (rw [HR.out]; rfl)
        | (rw [HR.out, decide_eq_false (by omega : ¬ (1 ≤ k))]; rfl)
        | (rw [HR.out, decide_eq_false (by omega : ¬ (k ≤ 3)), Bool.and_false]; rfl)
    clear HR CC
    have B5 := Lib.hid (below_fill B1.out (b := W.heap.size + 1) (Nat.le_succ _) zeroP)
    obtain ⟨⟨q0, q1, q2, q3, q4, q5, q6, q7, -⟩, g0, g1, g2, g3, g4, g5, g6, g7⟩ := E2.out
    go_wp2
    refine ⟨.tuple #[.agg #[.int .i64 0, .int .i64 0, .int .i64 0, .int .i64 0, .int .i64 0, .int .i64 0, .int .i64 0, .int .i64 0], .bool false], ?_, ?_, ?_⟩
    · simp [results, Try.f40, go_sem, q0, q1, q2, q3, q4, q5, q6, q7]
    · rw [HF.out]; rfl
    · exact B5.out

end Go.Proofs.Ytbkhmlkicafheaa
