/- The contracts of the program's CanFind, FewestFor and FirstPick, and the walks of their exact laws: each returns true for every argument. No condition. -/
import Derived.Test.YtlflblngbneacabGreatDoorGFirst
import Derived.Test.YtlflblngbneacabGreatDoorGFinds
import Derived.Defers
namespace Go.Proofs.YtlflblngbneacabGreatDoor
open Go.RowKit Go.MapKept
open Go.ChangeMaps (setBlock)

theorem firstC (j : Nat) (hj : j ≤ 2) (HC : CanC j) : FirstC (j + 1) := by
  intro s hs m W hN
  obtain ⟨b, h, l, g⟩ := s
  have h0 := hs
  unfold SIn sumS at h0
  simp only [] at h0
  obtain ⟨nb, rfl⟩ := Int.eq_ofNat_of_zero_le h0.1
  obtain ⟨nh, rfl⟩ := Int.eq_ofNat_of_zero_le h0.2.1
  obtain ⟨nl, rfl⟩ := Int.eq_ofNat_of_zero_le h0.2.2.1
  obtain ⟨ng, rfl⟩ := Int.eq_ofNat_of_zero_le h0.2.2.2.1
  have C := callsIn_wide.1 (firstN j hj HC ((j + 1 : Nat) : Int) (by omega) nb nh nl ng hs 30 (by omega) m W hN)
  rw [find_first hs] at C
  unfold firstK
  simpa [searchV, stateV] using C
theorem canC : ∀ k : Nat, k ≤ 3 → CanC k
  | 0, _ => implCan 0 (by omega) (fun h => absurd h (by omega))
  | j + 1, hk => implCan (j + 1) hk (fun _ => firstC j (by omega) (canC j (by omega)))
theorem firstKC (k : Nat) (h1 : 1 ≤ k) (h3 : k ≤ 3) : FirstC k := by
  obtain ⟨j, rfl⟩ : ∃ j, k = j + 1 := ⟨k - 1, by omega⟩
  exact firstC j (by omega) (canC j (by omega))

theorem NoteAt.clear {w : World} {m : Nat} (h : NoteAt w m) : ∃ w', (∀ ty, (Builtin.clear_ #[162] ty #[.map (some m)]).run Tryz.prog w = .ok (.tuple #[]) w') ∧ JustMap m w w' := by
  have ht := Tryz.underlying162
  obtain ⟨es, clock, hb, -⟩ := h
  refine ⟨setBlock w m (.map #[] clock), fun ty => ?_, ⟨rfl, rfl, rfl, by simp [setBlock], fun j _ hj => by simp [setBlock, Array.getElem?_setIfInBounds]; intro e; exact absurd e.symm hj⟩⟩
  simp [Builtin.clear_, run_underlying ht, MapKept.run_getObj_map hb, MapKept.run_setObj_map _ hb, Result.andThen, setBlock]

set_option maxHeartbeats 1600000 in
theorem wipeD (m : Nat) (u : FrameMode) (w : World) (hN : NoteAt w m) :
    CallsD Tryz.prog 127 #[.agg #[.map (some m)]] u w fun e u' w' => u' = u ∧ (e = .returned (.tuple #[]) ∧ JustMap m w w') := by
  have B0 := alloc_below w (.cells #[.map (some m)] 164)
  obtain ⟨X', hc, hO⟩ := (hN.below B0).clear
  have HO : Hid (JustMap m w X') := (Only.fresh B0).trans hO
  clear B0 hO
  go_enter_d Tryz.func127, Tryz.ntmps127
  go_wp2
  go_end0
  exact ⟨rfl, HO.out⟩

set_option maxRecDepth 100000 in
set_option maxHeartbeats 3200000 in
theorem implCanFind (s : SD) (k : Int) : CanFindIs 89 s k := by
  intro W
  have C1 := Lib.hid (fun V => implStateOk s V)
  have CN := Lib.hid (fun V => implNewSearch V)
  have CC : Hid (stateB s = true → 0 ≤ k → k ≤ 3 → ∀ m V, NoteAt V m → Calls Tryz.prog 128 #[.agg #[.map (some m)], .agg #[.int .i64 s.b, .int .i64 s.h, .int .i64 s.l, .int .i64 s.g], .int .i64 k] V fun e W' => e = .returned (.bool (canS k.toNat s)) ∧ NoteAt W' m ∧ JustMap m V W') := by
    intro hs h0 h3 m V hN
    obtain ⟨j, rfl⟩ := Int.eq_ofNat_of_zero_le h0
    exact canC j (by omega) s (stateB_iff.1 hs) m V hN
  have HW := Lib.hid (fun m u V (h : NoteAt V m) => wipeD m u V h)
  have HR : Hid (findB s k = (stateB s && ((decide (0 ≤ k) && decide (k ≤ 3)) && canS k.toNat s))) := rfl
  generalize findB s k = r at HR ⊢
  generalize canS k.toNat s = cs at HR CC
  generalize stateB s = sb at C1 CC HR
  have P0 := Lib.hid (StateAt.new W 56 s)
  have B0 := Lib.hid (alloc_below W (.cells #[.int .i64 s.b, .int .i64 s.h, .int .i64 s.l, .int .i64 s.g] 56))
  generalize hX0 : W.alloc (.cells #[.int .i64 s.b, .int .i64 s.h, .int .i64 s.l, .int .i64 s.g] 56) = X0 at P0 B0
  unfold stateV at C1 ⊢
  obtain ⟨e0, e1, e2, e3, -⟩ := P0.out
  go_enter_defers Tryz.func89, Tryz.ntmps89
  go_wp2_with fail
  refine (C1.out _).mono ?_
  rintro e w1 ⟨rfl, b1⟩
  have B1 := Lib.hid (below_up B0.out b1)
  have P1 := Lib.hid (P0.out.below b1)
  clear b1 e0 e1 e2 e3 B0 P0 hX0 C1
  have hbad : (sb = true ∧ 0 ≤ k ∧ k ≤ 3) ∨ (sb = false) ∨ (sb = true ∧ k < 0) ∨ (sb = true ∧ ¬ k < 0 ∧ 3 < k) := by
    cases sb
    · exact .inr (.inl rfl)
    · simp only [true_and, Bool.true_eq_false, false_or]; omega
  rcases hbad with ⟨rfl, h0, h3⟩ | rfl | ⟨rfl, hx⟩ | ⟨rfl, hx0, hx⟩
  · have HF : Hid (cs = r) := by unfold Hid; rw [HR.out, decide_eq_true h0, decide_eq_true h3]; rfl
    have CD := Lib.hid (CC.out (by first | rfl | trivial) h0 h3)
    clear CC
    have k0 : ¬ k < 0 := by omega
    have k3 : ¬ 3 < k := by omega
    clear HR h0 h3
    go_wp2_with fail
    refine (CN.out _).mono ?_
    rintro e w2 ⟨m, rfl, hm, hN, b2⟩
    have B2 := Lib.hid (below_up B1.out b2)
    have P2 := P1.out.below b2
    have hmw : W.heap.size ≤ m := Nat.le_trans B1.out.size hm
    have a3 := alloc_below w2 (.cells #[.map (some m)] 166)
    have M3 := Lib.hid (MapBox.new w2 166 m)
    have P3 := Lib.hid (P2.below a3)
    have N3 := Lib.hid (hN.below a3)
    have B3 := Lib.hid (below_up B2.out a3)
    have CE := Lib.hid (CD.out m _ N3.out)
    clear CD
    generalize hX3 : w2.alloc (.cells #[.map (some m)] 166) = X3 at M3 P3 N3 B3 CE
    obtain ⟨m0, -⟩ := M3.out
    obtain ⟨e0, e1, e2, e3, -⟩ := P3.out
    clear b2 P2 a3 hN hm CN B1 B2 P1
    go_wp2_with fail
    refine (CE.out).mono ?_
    rintro e w4 ⟨rfl, hN4, hJ4⟩
    have HN := Lib.hid hN4
    have HJ := Lib.hid hJ4
    clear hN4 hJ4 CE m0 e0 e1 e2 e3 M3 P3 N3 hX3
    go_wp2
    refine leaves_cons (f := 127) (args := #[.agg #[.map (some m)]]) (by simp) (by simp [go_sem]) ?_
    refine (HW.out m .returning _ HN.out).mono ?_
    rintro e u' w5 ⟨rfl, rfl, hJ5⟩
    refine ⟨_, results_tmp rfl _ _ _, ?_, ?_⟩
    · exact ret_bool HF.out
    · exact B3.out.trans ((HJ.out.trans hJ5).below B3.out.size (fun k e => by omega))
  all_goals
    have HF : Hid (false = r) := by
      unfold Hid
      first
        | (rw [HR.out]; rfl)
        | (rw [HR.out, decide_eq_false (by omega : ¬ (0 ≤ k))]; rfl)
        | (rw [HR.out, decide_eq_false (by omega : ¬ (k ≤ 3)), Bool.and_false]; rfl)
    clear HR CC
    go_wp2
    refine ⟨_, results_tmp rfl _ _ _, ?_, ?_⟩
    · exact ret_bool HF.out
    · exact B1.out

set_option maxHeartbeats 1600000 in
theorem implFewest (s : SD) : FewestIs 35 s := by
  intro W
  have C := Lib.hid (fun k V => implCanFind s k V)
  have HR : Hid (fewestI s = if findB s 0 = true then 0 else if findB s 1 = true then 1 else if findB s 2 = true then 2 else if findB s 3 = true then 3 else -1) := rfl
  generalize fewestI s = r at HR ⊢
  have P0 := Lib.hid (StateAt.new W 56 s)
  have B0 := Lib.hid (alloc_below W (.cells #[.int .i64 s.b, .int .i64 s.h, .int .i64 s.l, .int .i64 s.g] 56))
  generalize hX0 : W.alloc (.cells #[.int .i64 s.b, .int .i64 s.h, .int .i64 s.l, .int .i64 s.g] 56) = X0 at P0 B0
  unfold stateV at C ⊢
  go_enter Tryz.func35, Tryz.ntmps35
  go_wp2
  go_loopw [4] (fun v wr => ∃ i : Nat, i ≤ 4 ∧ v = .int .i64 i ∧ Hid (Below X0.heap.size X0 wr) ∧ Hid (∀ j : Nat, j < i → findB s j = false)) (fun v _ => 4 - (intOf v).toNat)
  case atStart => exact ⟨0, by omega, rfl, Below.refl _ _, fun j h => absurd h (by omega)⟩
  case round =>
    obtain ⟨i, hi, rfl, BR, HI⟩ := hrel
    by_cases hlt : i < 4
    · have i1 : (i : Int) < 4 := by omega
      have Ci := Lib.hid (C.out i)
      obtain ⟨e0, e1, e2, e3, -⟩ := P0.out.below BR.out
      have HX : Hid (findB s (i : Int) = true → (i : Int) = r) := by
        intro h
        rw [HR.out]
        have f := HI.out
        rcases i with _ | _ | _ | _ | i
        · rw [if_pos (by simpa using h)]; rfl
        · rw [if_neg (by rw [show (0 : Int) = ((0 : Nat) : Int) from rfl, f 0 (by omega)]; simp), if_pos (by simpa using h)]; rfl
        · rw [if_neg (by rw [show (0 : Int) = ((0 : Nat) : Int) from rfl, f 0 (by omega)]; simp), if_neg (by rw [show (1 : Int) = ((1 : Nat) : Int) from rfl, f 1 (by omega)]; simp), if_pos (by simpa using h)]; rfl
        · rw [if_neg (by rw [show (0 : Int) = ((0 : Nat) : Int) from rfl, f 0 (by omega)]; simp), if_neg (by rw [show (1 : Int) = ((1 : Nat) : Int) from rfl, f 1 (by omega)]; simp), if_neg (by rw [show (2 : Int) = ((2 : Nat) : Int) from rfl, f 2 (by omega)]; simp), if_pos (by simpa using h)]; rfl
        · omega
      have HY : Hid (findB s (i : Int) = false → ∀ j : Nat, j < i + 1 → findB s j = false) := by
        intro h j hj
        by_cases e : j = i
        · subst e; exact h
        · exact HI.out j (by omega)
      generalize findB s (i : Int) = fb at Ci HX HY
      go_wp2_with fail
      refine (Ci.out _).mono ?_
      rintro e w1 ⟨rfl, b1⟩
      have B1 := Lib.hid (below_up BR.out b1)
      clear b1 e0 e1 e2 e3 Ci HR
      cases fb with
      | true =>
        have HE := Lib.hid (HX.out rfl)
        clear HX HY
        go_wp2
        go_ret
        exact ⟨ret_int HE.out, below_up B0.out B1.out⟩
      | false =>
        have HE := Lib.hid (HY.out rfl)
        clear HX HY
        go_wp2
        go_roundw
        case rel => exact ⟨i + 1, by omega, by go_num, B1, HE⟩
        case measure => simp [intOf]; omega
    · obtain rfl : i = 4 := by omega
      have HE : Hid ((-1 : Int) = r) := by
        have f := HI.out
        unfold Hid
        rw [HR.out, if_neg (by rw [show (0 : Int) = ((0 : Nat) : Int) from rfl, f 0 (by omega)]; simp), if_neg (by rw [show (1 : Int) = ((1 : Nat) : Int) from rfl, f 1 (by omega)]; simp), if_neg (by rw [show (2 : Int) = ((2 : Nat) : Int) from rfl, f 2 (by omega)]; simp), if_neg (by rw [show (3 : Int) = ((3 : Nat) : Int) from rfl, f 3 (by omega)]; simp)]
      clear HR
      go_wp2
      go_ret
      exact ⟨ret_int HE.out, below_up B0.out BR.out⟩

end Go.Proofs.YtlflblngbneacabGreatDoor
