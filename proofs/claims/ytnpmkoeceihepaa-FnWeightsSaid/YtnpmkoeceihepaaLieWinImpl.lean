/- The contracts of the program's CanWin, FirstAsk and FewestAsks, and the walks of their exact laws and of WeightOf's: each returns true for every argument. No condition. -/
import Derived.Test.YtnpmkoeceihepaaLieCan
import Derived.Test.YtnpmkoeceihepaaLieLaws
import Derived.Defers
namespace Go.Proofs.Ytnpmkoeceihepaa
open Go.RowKit

theorem win_small : ∀ q a b : Nat, winB q a b = true → a * (q + 1) + b ≤ 2 ^ q
  | 0, a, b, h => by
    rw [winB_zero, decide_eq_true_eq] at h
    simpa using h
  | q + 1, a, b, h => by
    have h2 : q + 1 < 2 ^ (q + 1) := Nat.lt_two_pow_self
    rcases win_split h with h1 | ⟨h1, -⟩
    · rcases (show a = 0 ∨ (a = 1 ∧ b = 0) by omega) with rfl | ⟨rfl, rfl⟩
      · rw [Nat.zero_mul]; omega
      · rw [Nat.one_mul]; omega
    · exact h1
theorem ask_small (q a b : Nat) (p : Nat × Nat) (h : askP q a b = some p) : a * (q + 2) + b ≤ 2 ^ (q + 1) := by
  obtain ⟨x, y⟩ := p
  obtain ⟨⟨w1, w2⟩, hx, hy⟩ := askP_some h
  have s1 := win_small _ _ _ w1
  have s2 := win_small _ _ _ w2
  obtain ⟨z, rfl⟩ : ∃ z, a = x + z := ⟨a - x, by omega⟩
  rw [Nat.pow_succ, Nat.mul_add, Nat.add_mul]
  rw [show x + z - x = z by omega, Nat.mul_add] at s2
  rw [Nat.mul_add] at s1
  have e1 : (x + z) * q = x * q + z * q := Nat.add_mul _ _ _
  omega

set_option maxHeartbeats 1600000 in
theorem wipeP (m : Nat) (u : FrameMode) (w : World) (hN : WinsAt w m) :
    CallsD Try.prog 45 #[.agg #[.map (some m)]] u w fun e u' w' => u' = u ∧ (e = .returned (.tuple #[]) ∧ OnlyMap m w w') := by
  have B0 := alloc_below w (.cells #[.map (some m)] 51)
  obtain ⟨X', hc, hO⟩ := (hN.below B0).clear
  have HO : Hid (OnlyMap m w X') := (Only.fresh B0).trans hO
  clear B0 hO
  go_enter_d Try.func45, Try.ntmps45
  go_wp2
  go_end0
  exact ⟨rfl, HO.out⟩

set_option maxRecDepth 100000 in
set_option maxHeartbeats 3200000 in
theorem implCanWin (a b q : Int) : CanWinIs 26 a b q := by
  intro W
  have C1 := Lib.hid (fun V => implPosOk a b q V)
  have CN := Lib.hid (fun V => implNewContest V)
  have CC : Hid (liarIn a b q = true → ∀ m V, WinsAt V m → Calls Try.prog 46 #[.agg #[.map (some m)], .agg #[.int .i64 a, .int .i64 b, .int .i64 q]] V fun e W' => e = .returned (.bool (winB q.toNat a.toNat b.toNat)) ∧ WinsAt W' m ∧ OnlyMap m V W') := by
    intro hs m V hN
    obtain ⟨⟨a0, a1⟩, ⟨b0, b1⟩, q0, q1⟩ := liar_in hs
    obtain ⟨i, rfl⟩ := Int.eq_ofNat_of_zero_le a0
    obtain ⟨j, rfl⟩ := Int.eq_ofNat_of_zero_le b0
    obtain ⟨k, rfl⟩ := Int.eq_ofNat_of_zero_le q0
    exact winC k (by omega) i j (by omega) m V hN
  have HW := Lib.hid (fun m u V (h : WinsAt V m) => wipeP m u V h)
  have HR : Hid (canR a b q = (liarIn a b q && winB q.toNat a.toNat b.toNat)) := rfl
  generalize canR a b q = r at HR ⊢
  generalize winB q.toNat a.toNat b.toNat = cs at HR CC
  generalize liarIn a b q = sb at C1 CC HR
  go_enter_defers Try.func26, Try.ntmps26
  go_wp2_with fail
  refine (C1.out _).mono ?_
  rintro e w1 ⟨rfl, rfl⟩
  cases sb with
  | true =>
    have HF : Hid (cs = r) := HR.out.symm
    have CD := Lib.hid (CC.out rfl)
    clear CC HR
    go_wp2_with fail
    refine (CN.out _).mono ?_
    rintro e w2 ⟨m, rfl, hm, hN, b2⟩
    have a3 := alloc_below w2 (.cells #[.map (some m)] 53)
    have M3 := Lib.hid (MapIn.new w2 53 m)
    have N3 := Lib.hid (hN.below a3)
    have B3 := Lib.hid (below_up b2 a3)
    have CE := Lib.hid (CD.out m _ N3.out)
    clear CD
    generalize hX3 : w2.alloc (.cells #[.map (some m)] 53) = X3 at M3 N3 B3 CE
    obtain ⟨m0, -⟩ := M3.out
    clear b2 a3 hN CN
    go_wp2_with fail
    refine (CE.out).mono ?_
    rintro e w4 ⟨rfl, hN4, hJ4⟩
    have HN := Lib.hid hN4
    have HJ := Lib.hid hJ4
    clear hN4 hJ4 CE m0 M3 N3 hX3
    go_wp2
    refine leaves_cons (f := 45) (args := #[.agg #[.map (some m)]]) (by simp) (by simp [go_sem]) ?_
    refine (HW.out m .returning _ HN.out).mono ?_
    rintro e u' w5 ⟨rfl, rfl, hJ5⟩
    refine ⟨_, results_tmp rfl _ _ _, ?_, ?_⟩
    · exact ret_bool HF.out
    · exact B3.out.trans ((HJ.out.trans hJ5).below B3.out.size (fun k e => by omega))
  | false =>
    have HF : Hid (false = r) := HR.out.symm
    clear HR CC
    go_wp2
    refine ⟨_, results_tmp rfl _ _ _, ?_, ?_⟩
    · exact ret_bool HF.out
    · exact Below.refl _ _

set_option maxRecDepth 100000 in
set_option maxHeartbeats 3200000 in
theorem implFirstAsk (a b q : Int) : FirstAskIs 28 a b q := by
  intro W
  have C1 := Lib.hid (fun V => implPosOk a b q V)
  have CN := Lib.hid (fun V => implNewContest V)
  have CC : Hid (liarIn a b q = true → 1 ≤ q → ∀ m V, WinsAt V m → Calls Try.prog 48 #[.agg #[.map (some m)], .agg #[.int .i64 a, .int .i64 b, .int .i64 q]] V fun e W' => e = .returned (.tuple #[.int .i64 (fstO (askP (q.toNat - 1) a.toNat b.toNat)), .int .i64 (sndO (askP (q.toNat - 1) a.toNat b.toNat)), .bool (askP (q.toNat - 1) a.toNat b.toNat).isSome]) ∧ WinsAt W' m ∧ OnlyMap m V W') := by
    intro hs h1 m V hN
    obtain ⟨⟨a0, a1⟩, ⟨b0, b1⟩, q0, q1⟩ := liar_in hs
    obtain ⟨i, rfl⟩ := Int.eq_ofNat_of_zero_le a0
    obtain ⟨j, rfl⟩ := Int.eq_ofNat_of_zero_le b0
    obtain ⟨k, rfl⟩ := Int.eq_ofNat_of_zero_le q0
    obtain ⟨l, rfl⟩ : ∃ l, k = l + 1 := ⟨k - 1, by omega⟩
    exact askC l (by omega) (winC l (by omega)) i j (by omega) m V hN
  have HW := Lib.hid (fun m u V (h : WinsAt V m) => wipeP m u V h)
  have HB : Hid (liarIn a b q = true → (0 ≤ a ∧ a ≤ 8) ∧ (0 ≤ b ∧ b ≤ 16) ∧ 0 ≤ q ∧ q ≤ 8) := fun h => liar_in h
  have HR1 : Hid (liarIn a b q = false → askO a b q = none) := by
    intro h
    unfold askO askOk
    rw [h]
    rfl
  have HR2 : Hid (¬ (1 ≤ q ∧ 1 < a + b) → askO a b q = none) := by
    intro h
    refine askO_no ?_
    unfold askOk
    by_cases h1 : 1 ≤ q
    · rw [decide_eq_false (by omega : ¬ 1 < a + b), Bool.and_false]; rfl
    · rw [decide_eq_false h1, Bool.and_false]; rfl
  have HR3 : Hid (liarIn a b q = true → 1 ≤ q → 1 < a + b → askO a b q = askP (q.toNat - 1) a.toNat b.toNat) := by
    intro hs h1 h2
    obtain ⟨⟨a0, a1⟩, ⟨b0, b1⟩, q0, q1⟩ := liar_in hs
    unfold askO askOk
    rw [hs, decide_eq_true h1, decide_eq_true h2]
    simp only [Bool.true_and]
    obtain ⟨i, rfl⟩ := Int.eq_ofNat_of_zero_le a0
    obtain ⟨j, rfl⟩ := Int.eq_ofNat_of_zero_le b0
    obtain ⟨k, rfl⟩ := Int.eq_ofNat_of_zero_le q0
    obtain ⟨l, rfl⟩ : ∃ l, k = l + 1 := ⟨k - 1, by omega⟩
    have hn : ¬ i + j ≤ 1 := by omega
    show (if winB (l + 1) i j = true then askP l i j else none) = askP l i j
    rw [winB_succ, decide_eq_false hn, Bool.false_or]
    split
    · rfl
    · rename_i hw
      cases hk : askP l i j with
      | none => rfl
      | some p =>
        exfalso
        rw [hk] at hw
        simp only [Option.isSome_some, Bool.and_true, decide_eq_true_eq] at hw
        exact hw (ask_small l i j p hk)
  have HQ : Hid ((q == 0) = decide (q = 0)) := by
    unfold Hid
    by_cases h : q = 0
    · subst h; rfl
    · rw [decide_eq_false h]; exact beq_false_of_ne h
  generalize askO a b q = r at HR1 HR2 HR3 ⊢
  generalize askP (q.toNat - 1) a.toNat b.toNat = cs at HR3 CC
  generalize liarIn a b q = sb at C1 CC HR1 HR3 HB
  go_enter_defers Try.func28, Try.ntmps28
  go_wp2_with fail
  refine (C1.out _).mono ?_
  rintro e w1 ⟨rfl, rfl⟩
  cases sb with
  | true =>
    obtain ⟨⟨a0, a1⟩, ⟨b0, b1⟩, q0, q1⟩ := HB.out rfl
    have hq0 := HQ.out
    clear HQ HB HR1
    by_cases h1 : 1 ≤ q ∧ 1 < a + b
    · obtain ⟨h1, h2⟩ := h1
      have HF : Hid (r = cs) := HR3.out rfl h1 h2
      have CD := Lib.hid (CC.out rfl h1)
      clear CC HR2 HR3
      have t1 : (q == 0) = false := by rw [hq0]; exact decide_eq_false (by omega)
      have t2 : decide (a + b ≤ 1) = false := decide_eq_false (by omega)
      have t3 : IntKind.i64.wrap (a + b) = a + b := by rw [IntKind.wrap_i64]; omega
      clear hq0
      go_wp2_with fail
      refine (CN.out _).mono ?_
      rintro e w2 ⟨m, rfl, hm, hN, b2⟩
      have a3 := alloc_below w2 (.cells #[.map (some m)] 53)
      have M3 := Lib.hid (MapIn.new w2 53 m)
      have N3 := Lib.hid (hN.below a3)
      have B3 := Lib.hid (below_up b2 a3)
      have CE := Lib.hid (CD.out m _ N3.out)
      clear CD
      generalize hX3 : w2.alloc (.cells #[.map (some m)] 53) = X3 at M3 N3 B3 CE
      obtain ⟨m0, -⟩ := M3.out
      clear b2 a3 hN CN
      go_wp2_with fail
      refine (CE.out).mono ?_
      rintro e w4 ⟨rfl, hN4, hJ4⟩
      have HN := Lib.hid hN4
      have HJ := Lib.hid hJ4
      clear hN4 hJ4 CE m0 M3 N3 hX3
      go_wp2
      refine leaves_cons (f := 45) (args := #[.agg #[.map (some m)]]) (by simp) (by simp [go_sem]) ?_
      refine (HW.out m .returning _ HN.out).mono ?_
      rintro e u' w5 ⟨rfl, rfl, hJ5⟩
      refine ⟨.tuple #[.int .i64 (fstO cs), .int .i64 (sndO cs), .bool cs.isSome], ?_, ?_, ?_⟩
      · simp [results, Try.f28, go_sem]
      · rw [HF.out]
      · exact B3.out.trans ((HJ.out.trans hJ5).below B3.out.size (fun k e => by omega))
    · have HF : Hid (r = none) := HR2.out h1
      clear HR2 HR3 CC
      by_cases h2 : q = 0
      · have t1 : (q == 0) = true := by rw [hq0]; exact decide_eq_true h2
        clear h2 hq0
        go_wp2
        refine ⟨.tuple #[.int .i64 0, .int .i64 0, .bool false], ?_, ?_, ?_⟩
        · simp [results, Try.f28, go_sem]
        · rw [HF.out]; rfl
        · exact Below.refl _ _
      · have t1 : (q == 0) = false := by rw [hq0]; exact decide_eq_false h2
        have t2 : decide (a + b ≤ 1) = true := decide_eq_true (by omega)
        have t3 : IntKind.i64.wrap (a + b) = a + b := by rw [IntKind.wrap_i64]; omega
        clear h2 hq0
        go_wp2
        refine ⟨.tuple #[.int .i64 0, .int .i64 0, .bool false], ?_, ?_, ?_⟩
        · simp [results, Try.f28, go_sem]
        · rw [HF.out]; rfl
        · exact Below.refl _ _
  | false =>
    have HF : Hid (r = none) := HR1.out rfl
    clear HR1 HR2 HR3 CC HB HQ
    go_wp2
    refine ⟨.tuple #[.int .i64 0, .int .i64 0, .bool false], ?_, ?_, ?_⟩
    · simp [results, Try.f28, go_sem]
    · rw [HF.out]; rfl
    · exact Below.refl _ _

set_option maxRecDepth 100000 in
set_option maxHeartbeats 3200000 in
theorem implFewestAsks (n : Int) : FewestAsksIs 30 n := by
  intro W
  have C := Lib.hid (fun k V => implCanWin n 0 k V)
  by_cases h1 : n < 1
  · have HE : Hid (-1 = asksI n) := by
      unfold Hid asksI numsB
      rw [decide_eq_false (by omega : ¬ 1 ≤ n)]
      rfl
    generalize asksI n = r at HE ⊢
    go_enter Try.func30, Try.ntmps30
    go_wp2
    go_ret
    exact ⟨ret_int HE.out, Below.refl _ _⟩
  have HR : Hid (∀ i : Nat, i ≤ 9 → (∀ j : Nat, j < i → canR n 0 j = false) → (i < 9 → canR n 0 i = true → (i : Int) = asksI n) ∧ (i = 9 → -1 = asksI n)) := by
    intro i hi hj
    by_cases h8 : n ≤ 8
    · obtain ⟨k, rfl⟩ := Int.eq_ofNat_of_zero_le (by omega : 0 ≤ n)
      have hk1 : 1 ≤ k := by omega
      have hk8 : k ≤ 8 := by omega
      have hc : ∀ j : Nat, j ≤ 8 → canR (k : Int) 0 j = winB j k 0 := fun j hj => by
        unfold canR
        rw [liar_yes (by omega) (by omega) (by omega) (by omega) (by omega) (by omega)]
        rfl
      obtain ⟨lo, yes⟩ := asks_tab k hk8 hk1
      obtain ⟨v1, v2⟩ := asks_val k hk8
      have hv : asksI (k : Int) = ((([0, 0, 3, 5, 5, 6, 6, 6, 6] : List Nat).getD k 0 : Nat) : Int) := by
        rw [v1]
        unfold asksI numsB
        rw [decide_eq_true (by omega : (1 : Int) ≤ k), decide_eq_true (by omega : (k : Int) ≤ 8)]
        rfl
      generalize ([0, 0, 3, 5, 5, 6, 6, 6, 6] : List Nat).getD k 0 = q at lo yes v2 hv
      rw [hv]
      have hiq : i ≤ q := by
        apply Nat.le_of_not_lt
        intro hlt
        have := hj q hlt
        rw [hc q (by omega), yes] at this
        cases this
      refine ⟨fun h9 hy => ?_, fun h9 => by omega⟩
      rw [hc i (by omega)] at hy
      have : ¬ i < q := fun h => by
        rw [lo i h] at hy
        cases hy
      omega
    · have hv : asksI n = -1 := by
        unfold asksI numsB
        rw [decide_eq_false h8, Bool.and_false]
        rfl
      refine ⟨fun h9 hy => ?_, fun _ => hv.symm⟩
      exfalso
      unfold canR liarIn at hy
      rw [decide_eq_false h8, Bool.and_false] at hy
      cases hy
  generalize asksI n = r at HR ⊢
  go_enter Try.func30, Try.ntmps30
  go_wp2
  go_loopw [6] (fun v wr => ∃ i : Nat, i ≤ 9 ∧ v = .int .i64 i ∧ Hid (Below W.heap.size W wr) ∧ Hid (∀ j : Nat, j < i → canR n 0 j = false)) (fun v _ => 9 - (intOf v).toNat)
  case atStart => exact ⟨0, by omega, rfl, Below.refl _ _, fun j h => absurd h (by omega)⟩
  case round =>
    obtain ⟨i, hi, rfl, BR, HI⟩ := hrel
    by_cases hlt : i < 9
    · have i1 : (i : Int) < 9 := by omega
      have Ci := Lib.hid (C.out i)
      have HX := Lib.hid ((HR.out i hi HI.out).1 hlt)
      have HY : Hid (canR n 0 (i : Int) = false → ∀ j : Nat, j < i + 1 → canR n 0 j = false) := by
        intro h j hj
        by_cases e : j = i
        · subst e; exact h
        · exact HI.out j (by omega)
      generalize canR n 0 (i : Int) = fb at Ci HX HY
      go_wp2_with fail
      refine (Ci.out _).mono ?_
      rintro e w1 ⟨rfl, b1⟩
      have B1 := Lib.hid (below_up BR.out b1)
      clear b1 Ci
      cases fb with
      | true =>
        have HE := Lib.hid (HX.out rfl)
        clear HX HY
        go_wp2
        go_ret
        exact ⟨ret_int HE.out, B1.out⟩
      | false =>
        have HE := Lib.hid (HY.out rfl)
        clear HX HY
        go_wp2
        go_roundw
        case rel => exact ⟨i + 1, by omega, by go_num, B1, HE⟩
        case measure => simp [intOf]; omega
    · obtain rfl : i = 9 := by omega
      have HE := Lib.hid ((HR.out 9 hi HI.out).2 rfl)
      go_wp2
      go_ret
      exact ⟨ret_int HE.out, BR.out⟩
end Go.Proofs.Ytnpmkoeceihepaa
