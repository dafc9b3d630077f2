/- The contracts of the model's WeightOf, l13Win, l13First, CanWin, FirstAsk and FewestAsks. No condition. -/
import Derived.Test.YtnpmkoeceihepaaLiePlain
import Derived.Test.YtnpmkoeceihepaaHalfSpec
namespace Go.Proofs.Ytnpmkoeceihepaa
open Go.RowKit

set_option maxRecDepth 100000 in
set_option maxHeartbeats 800000 in
theorem specWeightOf (a b q : Int) (w : World) : Calls Try.prog 23 #[.int .i64 a, .int .i64 b, .int .i64 q] w fun e w' => e = .returned (.int .i64 (wtI a b q)) ∧ w = w' := by
  have CA := Lib.hid (fun W => l01In_is a 0 1000 W)
  have CB := Lib.hid (fun W => l01In_is b 0 1000 W)
  have CQ := Lib.hid (fun W => l01In_is q 0 40 W)
  have HR : Hid (wtI a b q = if (((decide (0 ≤ a) && decide (a ≤ 1000)) && (decide (0 ≤ b) && decide (b ≤ 1000))) && (decide (0 ≤ q) && decide (q ≤ 40))) = true then a * (q + 1) + b else -1) := rfl
  have HA : Hid ((decide (0 ≤ a) && decide (a ≤ 1000)) = true → 0 ≤ a ∧ a ≤ 1000) := fun h => by simpa using h
  have HB : Hid ((decide (0 ≤ b) && decide (b ≤ 1000)) = true → 0 ≤ b ∧ b ≤ 1000) := fun h => by simpa using h
  have HQ : Hid ((decide (0 ≤ q) && decide (q ≤ 40)) = true → 0 ≤ q ∧ q ≤ 40) := fun h => by simpa using h
  generalize wtI a b q = r at HR ⊢
  generalize (decide (0 ≤ a) && decide (a ≤ 1000)) = ia at CA HR HA
  generalize (decide (0 ≤ b) && decide (b ≤ 1000)) = ib at CB HR HB
  generalize (decide (0 ≤ q) && decide (q ≤ 40)) = iq at CQ HR HQ
  cases ia with
  | false =>
    have HE : Hid (r = -1) := HR.out
    go_enter Try.func23, Try.ntmps23
    go_wp2_with fail
    refine (CA.out _).mono ?_
    rintro e w1 ⟨rfl, rfl⟩
    go_wp2
    go_ret
    exact ⟨ret_int HE.out.symm, rfl⟩
  | true =>
    cases ib with
    | false =>
      have HE : Hid (r = -1) := HR.out
      go_enter Try.func23, Try.ntmps23
      go_wp2_with fail
      refine (CA.out _).mono ?_
      rintro e w1 ⟨rfl, rfl⟩
      go_wp2_with fail
      refine (CB.out _).mono ?_
      rintro e w1 ⟨rfl, rfl⟩
      go_wp2
      go_ret
      exact ⟨ret_int HE.out.symm, rfl⟩
    | true =>
      cases iq with
      | false =>
        have HE : Hid (r = -1) := HR.out
        go_enter Try.func23, Try.ntmps23
        go_wp2_with fail
        refine (CA.out _).mono ?_
        rintro e w1 ⟨rfl, rfl⟩
        go_wp2_with fail
        refine (CB.out _).mono ?_
        rintro e w1 ⟨rfl, rfl⟩
        go_wp2_with fail
        refine (CQ.out _).mono ?_
        rintro e w1 ⟨rfl, rfl⟩
        go_wp2
        go_ret
        exact ⟨ret_int HE.out.symm, rfl⟩
      | true =>
        have HE : Hid (r = a * (q + 1) + b) := HR.out
        obtain ⟨a0, a1⟩ := HA.out rfl
        obtain ⟨b0, b1⟩ := HB.out rfl
        obtain ⟨q0, q1⟩ := HQ.out rfl
        obtain ⟨q', hq'⟩ : ∃ q', q + 1 = q' := ⟨_, rfl⟩
        have hm0 : 0 ≤ a * q' := Int.mul_nonneg a0 (by omega)
        have hm1 : a * q' ≤ 1000 * 41 := Int.mul_le_mul a1 (by omega) (by omega) (by omega)
        have hw0 : IntKind.i64.wrap (q + 1) = q' := by rw [hq', IntKind.wrap_i64]; omega
        have hw1 : IntKind.i64.wrap (a * q') = a * q' := by rw [IntKind.wrap_i64]; omega
        have hw2 : IntKind.i64.wrap (a * q' + b) = a * q' + b := by rw [IntKind.wrap_i64]; omega
        rw [hq'] at HE
        rw [← hq'] at hw0
        rw [← hq'] at hw1 hw2 HE
        clear hm0 hm1 hq' HR HA HB HQ
        go_enter Try.func23, Try.ntmps23
        go_wp2_with fail
        refine (CA.out _).mono ?_
        rintro e w1 ⟨rfl, rfl⟩
        go_wp2_with fail
        refine (CB.out _).mono ?_
        rintro e w1 ⟨rfl, rfl⟩
        go_wp2_with fail
        refine (CQ.out _).mono ?_
        rintro e w1 ⟨rfl, rfl⟩
        go_wp2
        go_ret
        rw [HE.out]
        first | exact ⟨ret_int (by assumption), rfl⟩ | exact ⟨rfl, rfl⟩ | (simp [hw0, hw1, hw2])

/-- The first question and whether there is one. -/
def Asks (o : Option (Nat × Nat)) (w : World) (e : Ending) (w' : World) : Prop := e = .returned (.tuple #[.int .i64 (fstO o), .int .i64 (sndO o), .bool o.isSome]) ∧ w = w'
def WinAt (q : Nat) : Prop := ∀ a b : Nat, a + b ≤ 24 → ∀ W, Calls Try.prog 42 #[.int .i64 a, .int .i64 b, .int .i64 q] W fun e w' => e = .returned (.bool (winB q a b)) ∧ W = w'
def FirstAt (q : Nat) : Prop := ∀ a b : Nat, a + b ≤ 24 → ∀ W, Calls Try.prog 47 #[.int .i64 a, .int .i64 b, .int .i64 ((q : Int) + 1)] W (Asks (askP q a b) W)

set_option maxRecDepth 100000 in
set_option maxHeartbeats 3200000 in
theorem specFirstA (q : Nat) (hq : q ≤ 8) (HW : WinAt q) : FirstAt q := by
  intro a b hab w
  obtain ⟨f1, hf1⟩ : ∃ f : Nat → Nat → Bool, (fun x y => winB q x (y + a - x)) = f := ⟨_, rfl⟩
  obtain ⟨f2, hf2⟩ : ∃ f : Nat → Nat → Bool, (fun x y => winB q (a - x) (b - y + x)) = f := ⟨_, rfl⟩
  obtain ⟨F, hF⟩ : ∃ F : Nat → Nat → Bool, (fun x y => f1 x y && f2 x y) = F := ⟨_, rfl⟩
  have HP : Hid (askP q a b = firstXY F b (a + 1 - 0) 0) := by unfold Hid askP; rw [← hF, ← hf1, ← hf2]; rfl
  have HF : Hid (∀ x y, F x y = (f1 x y && f2 x y)) := fun x y => by rw [← hF]
  obtain ⟨Q, hQ⟩ : ∃ Q : Int, (q : Int) + 1 = Q := ⟨_, rfl⟩
  have C1 : Hid (∀ x y : Nat, x ≤ a → y ≤ b → ∀ W, Calls Try.prog 42 #[.int .i64 x, .int .i64 ((y : Int) + a - x), .int .i64 (Q - 1)] W fun e w' => e = .returned (.bool (f1 x y)) ∧ W = w') := fun x y hx hy W => by
    have := HW x (y + a - x) (by omega) W
    rw [show ((y : Int) + a - x) = ((y + a - x : Nat) : Int) by omega, show Q - 1 = (q : Int) by omega, ← hf1]
    exact this
  have C2 : Hid (∀ x y : Nat, x ≤ a → y ≤ b → ∀ W, Calls Try.prog 42 #[.int .i64 ((a : Int) - x), .int .i64 ((b : Int) - y + x), .int .i64 (Q - 1)] W fun e w' => e = .returned (.bool (f2 x y)) ∧ W = w') := fun x y hx hy W => by
    have := HW (a - x) (b - y + x) (by omega) W
    rw [show ((a : Int) - x) = ((a - x : Nat) : Int) by omega, show ((b : Int) - y + x) = ((b - y + x : Nat) : Int) by omega, show Q - 1 = (q : Int) by omega, ← hf2]
    exact this
  have hQ0 : 0 ≤ Q := by omega
  have hQ9 : Q ≤ 9 := by omega
  rw [hQ]
  unfold Asks
  generalize askP q a b = O at HP ⊢
  clear hF hf1 hf2 HW hQ hq
  go_enter Try.func47, Try.ntmps47
  go_wp2
  go_loopw [9] (fun xv wr => ∃ x : Nat, x ≤ a + 1 ∧ xv = .int .i64 x ∧ wr = w ∧ Hid (O = firstXY F b (a + 1 - x) x)) (fun xv _ => a + 1 - (intOf xv).toNat)
  case atStart => exact ⟨0, Nat.zero_le _, rfl, rfl, HP⟩
  case round =>
    clear HP
    obtain ⟨x, hx, rfl, hwx, HX⟩ := hrel
    obtain rfl := hwx.symm
    by_cases hxa : x ≤ a
    · have xa : (x : Int) ≤ (a : Int) := by omega
      have HS : Hid (O = match firstY (F x) (b + 1 - 0) 0 with | some y => some (x, y) | none => firstXY F b (a + 1 - (x + 1)) (x + 1)) := by
        unfold Hid
        rw [HX.out, firstXY_step _ _ (by omega)]
        rfl
      clear HX
      go_wp2
      go_loopw [10] (fun yv wr => ∃ y : Nat, y ≤ b + 1 ∧ yv = .int .i64 y ∧ wr = w ∧ Hid (O = match firstY (F x) (b + 1 - y) y with | some y => some (x, y) | none => firstXY F b (a + 1 - (x + 1)) (x + 1))) (fun yv _ => b + 1 - (intOf yv).toNat)
      case atStart => exact ⟨0, Nat.zero_le _, rfl, rfl, HS⟩
      case round =>
        clear HS
        obtain ⟨y, hy, rfl, hwx, HY⟩ := hrel
        obtain rfl := hwx.symm
        by_cases hyb : y ≤ b
        · have yb : (y : Int) ≤ (b : Int) := by omega
          have HT : Hid (O = match (if (f1 x y && f2 x y) = true then some y else firstY (F x) (b + 1 - (y + 1)) (y + 1)) with | some y => some (x, y) | none => firstXY F b (a + 1 - (x + 1)) (x + 1)) := by
            unfold Hid
            rw [HY.out, firstY_step _ (by omega), HF.out]
          have D1 := Lib.hid (C1.out x y hxa hyb)
          have D2 := Lib.hid (C2.out x y hxa hyb)
          clear HY
          generalize f1 x y = t1 at HT D1
          generalize f2 x y = t2 at HT D2
          cases t1 with
          | false =>
            have HZ : Hid (O = match firstY (F x) (b + 1 - (y + 1)) (y + 1) with | some y => some (x, y) | none => firstXY F b (a + 1 - (x + 1)) (x + 1)) := HT.out
            clear HT
            go_wp2_with fail
            refine (D1.out _).mono ?_
            rintro e w2 ⟨rfl, rfl⟩
            go_wp2
            go_roundw
            case rel => exact ⟨y + 1, by omega, by go_num, by first | rfl | trivial, HZ⟩
            case measure => simp [intOf]; omega
          | true =>
            cases t2 with
            | false =>
              have HZ : Hid (O = match firstY (F x) (b + 1 - (y + 1)) (y + 1) with | some y => some (x, y) | none => firstXY F b (a + 1 - (x + 1)) (x + 1)) := HT.out
              clear HT
              go_wp2_with fail
              refine (D1.out _).mono ?_
              rintro e w2 ⟨rfl, rfl⟩
              go_wp2_with fail
              refine (D2.out _).mono ?_
              rintro e w2 ⟨rfl, rfl⟩
              go_wp2
              go_roundw
              case rel => exact ⟨y + 1, by omega, by go_num, by first | rfl | trivial, HZ⟩
              case measure => simp [intOf]; omega
            | true =>
              have HZ : Hid (O = some (x, y)) := HT.out
              clear HT
              go_wp2_with fail
              refine (D1.out _).mono ?_
              rintro e w2 ⟨rfl, rfl⟩
              go_wp2_with fail
              refine (D2.out _).mono ?_
              rintro e w2 ⟨rfl, rfl⟩
              go_wp2
              go_ret3
              rw [HZ.out]
              exact ⟨rfl, rfl⟩
        · have HZ : Hid (O = firstXY F b (a + 1 - (x + 1)) (x + 1)) := by
            unfold Hid
            rw [HY.out, firstY_end _ _ (by omega)]
          clear HY
          have yb : ¬ (y : Int) ≤ (b : Int) := by omega
          go_wp2
          go_roundw
          case rel => exact ⟨x + 1, by omega, by go_num, by first | rfl | trivial, HZ⟩
          case measure => simp [intOf]; omega
    · have HZ : Hid (O = none) := by
        unfold Hid
        rw [HX.out, firstXY_end _ _ _ (by omega)]
      clear HX
      have xa : ¬ (x : Int) ≤ (a : Int) := by omega
      go_wp2
      go_ret3
      rw [HZ.out]
      exact ⟨rfl, rfl⟩

theorem pow9 : ∀ q : Nat, q ≤ 8 → 2 ^ (q + 1) ≤ 512 := by decide

set_option maxRecDepth 100000 in
set_option maxHeartbeats 3200000 in
theorem specWinZ : WinAt 0 := by
  intro a b hab w
  have HR : Hid (winB 0 a b = decide (a + b ≤ 1)) := rfl
  generalize winB 0 a b = r at HR ⊢
  rw [Int.natCast_zero]
  by_cases h1 : a + b ≤ 1
  · have hs : (a : Int) + (b : Int) ≤ 1 := by omega
    have HE : Hid (r = true) := by unfold Hid; rw [HR.out, decide_eq_true h1]
    clear HR
    go_enter Try.func42, Try.ntmps42
    go_wp2
    go_ret
    exact ⟨ret_bool HE.out.symm, rfl⟩
  · have hs : ¬ (a : Int) + (b : Int) ≤ 1 := by omega
    have HE : Hid (r = false) := by unfold Hid; rw [HR.out, decide_eq_false h1]
    clear HR
    go_enter Try.func42, Try.ntmps42
    go_wp2
    go_ret
    exact ⟨ret_bool HE.out.symm, rfl⟩

set_option maxRecDepth 100000 in
set_option maxHeartbeats 3200000 in
theorem specWinS (q : Nat) (hq : q ≤ 8) (HF : FirstAt q) : WinAt (q + 1) := by
  intro a b hab w
  have HR : Hid (winB (q + 1) a b = (decide (a + b ≤ 1) || (decide (a * (q + 2) + b ≤ 2 ^ (q + 1)) && (askP q a b).isSome))) := rfl
  have CF := Lib.hid (HF a b hab)
  obtain ⟨Q, hQ⟩ : ∃ Q : Int, (q : Int) + 1 = Q := ⟨_, rfl⟩
  rw [hQ] at CF
  unfold Asks at CF
  have hQ2 : ((q + 1 : Nat) : Int) = Q := by omega
  rw [hQ2]
  have hp := pow9 q hq
  have hQt : Q.toNat = q + 1 := by omega
  have hmN : a * (q + 2) ≤ 24 * 10 := Nat.mul_le_mul (by omega) (by omega)
  obtain ⟨M, hM⟩ : ∃ M : Nat, a * (q + 2) = M := ⟨_, rfl⟩
  obtain ⟨T, hT⟩ : ∃ T : Nat, 2 ^ (q + 1) = T := ⟨_, rfl⟩
  rw [hM, hT] at HR
  rw [hM] at hmN
  rw [hT] at hp
  have hmI : (a : Int) * (Q + 1) = (M : Int) := by
    rw [← hM, Int.natCast_mul, show ((q + 2 : Nat) : Int) = Q + 1 by omega]
  have hw1 : IntKind.i64.wrap (a * (Q + 1)) = (M : Int) := by rw [hmI, IntKind.wrap_i64]; omega
  have hw2 : IntKind.i64.wrap (Q + 1) = Q + 1 := by rw [IntKind.wrap_i64]; omega
  have hw3 : IntKind.i64.wrap ((M : Int) + (b : Int)) = (M : Int) + (b : Int) := by rw [IntKind.wrap_i64]; omega
  have hTI : (2 : Int) ^ Q.toNat = (T : Int) := by rw [hQt, ← hT]; exact_mod_cast rfl
  have hw4 : IntKind.i64.wrap ((2 : Int) ^ Q.toNat) = (T : Int) := by rw [hTI, IntKind.wrap_i64]; omega
  have hQ1 : ¬ Q < 1 := by omega
  have hQ0 : 0 ≤ Q := by omega
  have hQ9 : Q ≤ 9 := by omega
  generalize winB (q + 1) a b = r at HR ⊢
  generalize askP q a b = O at HR CF
  clear hQ hQ2 hQt hM hT hmI HF hq
  by_cases h1 : a + b ≤ 1
  · have hs : (a : Int) + (b : Int) ≤ 1 := by omega
    have HE : Hid (r = true) := by unfold Hid; rw [HR.out, decide_eq_true h1]; rfl
    clear HR
    go_enter Try.func42, Try.ntmps42
    go_wp2
    go_ret
    exact ⟨ret_bool HE.out.symm, rfl⟩
  · have hs : ¬ (a : Int) + (b : Int) ≤ 1 := by omega
    by_cases h2 : M + b ≤ T
    · have ht : ¬ (T : Int) < (M : Int) + (b : Int) := by omega
      have HE : Hid (r = O.isSome) := by unfold Hid; rw [HR.out, decide_eq_false h1, decide_eq_true h2]; simp
      clear HR
      go_enter Try.func42, Try.ntmps42
      go_wp2_with fail
      refine (CF.out _).mono ?_
      rintro e w1 ⟨rfl, rfl⟩
      go_wp2
      go_ret
      exact ⟨ret_bool HE.out.symm, rfl⟩
    · have ht : (T : Int) < (M : Int) + (b : Int) := by omega
      have HE : Hid (r = false) := by unfold Hid; rw [HR.out, decide_eq_false h1, decide_eq_false h2]; rfl
      clear HR
      go_enter Try.func42, Try.ntmps42
      go_wp2
      go_ret
      exact ⟨ret_bool HE.out.symm, rfl⟩

theorem specWin : ∀ q : Nat, q ≤ 9 → WinAt q
  | 0, _ => specWinZ
  | q + 1, h => specWinS q (by omega) (specFirstA q (by omega) (specWin q (by omega)))
theorem specFirst (q : Nat) (h : q ≤ 8) : FirstAt q := specFirstA q h (specWin q (by omega))

set_option maxRecDepth 100000 in
set_option maxHeartbeats 800000 in
theorem specLiarIn (a b q : Int) (w : World) : Calls Try.prog 41 #[.int .i64 a, .int .i64 b, .int .i64 q] w fun e w' => e = .returned (.bool (liarIn a b q)) ∧ w = w' := by
  have CA := Lib.hid (fun W => l01In_is a 0 8 W)
  have CB := Lib.hid (fun W => l01In_is b 0 16 W)
  have CQ := Lib.hid (fun W => l01In_is q 0 8 W)
  have HR : Hid (liarIn a b q = (((decide (0 ≤ a) && decide (a ≤ 8)) && (decide (0 ≤ b) && decide (b ≤ 16))) && (decide (0 ≤ q) && decide (q ≤ 8)))) := rfl
  generalize liarIn a b q = r at HR ⊢
  generalize (decide (0 ≤ a) && decide (a ≤ 8)) = ia at CA HR
  generalize (decide (0 ≤ b) && decide (b ≤ 16)) = ib at CB HR
  generalize (decide (0 ≤ q) && decide (q ≤ 8)) = iq at CQ HR
  cases ia with
  | false =>
    have HE : Hid (r = false) := HR.out
    go_enter Try.func41, Try.ntmps41
    go_wp2_with fail
    refine (CA.out _).mono ?_
    rintro e w1 ⟨rfl, rfl⟩
    go_wp2
    go_ret
    exact ⟨ret_bool HE.out.symm, rfl⟩
  | true =>
    cases ib with
    | false =>
      have HE : Hid (r = false) := HR.out
      go_enter Try.func41, Try.ntmps41
      go_wp2_with fail
      refine (CA.out _).mono ?_
      rintro e w1 ⟨rfl, rfl⟩
      go_wp2_with fail
      refine (CB.out _).mono ?_
      rintro e w1 ⟨rfl, rfl⟩
      go_wp2
      go_ret
      exact ⟨ret_bool HE.out.symm, rfl⟩
    | true =>
      have HE : Hid (r = iq) := by unfold Hid; rw [HR.out]; simp
      go_enter Try.func41, Try.ntmps41
      go_wp2_with fail
      refine (CA.out _).mono ?_
      rintro e w1 ⟨rfl, rfl⟩
      go_wp2_with fail
      refine (CB.out _).mono ?_
      rintro e w1 ⟨rfl, rfl⟩
      go_wp2_with fail
      refine (CQ.out _).mono ?_
      rintro e w1 ⟨rfl, rfl⟩
      go_wp2
      go_ret
      exact ⟨ret_bool HE.out.symm, rfl⟩
theorem liar_in {a b q : Int} (h : liarIn a b q = true) : (0 ≤ a ∧ a ≤ 8) ∧ (0 ≤ b ∧ b ≤ 16) ∧ 0 ≤ q ∧ q ≤ 8 := by
  unfold liarIn at h
  simp only [Bool.and_eq_true, decide_eq_true_eq] at h
  exact ⟨h.1.1, h.1.2, h.2⟩
theorem win_at {a b q : Int} (h : liarIn a b q = true) (W : World) : Calls Try.prog 42 #[.int .i64 a, .int .i64 b, .int .i64 q] W fun e w' => e = .returned (.bool (winB q.toNat a.toNat b.toNat)) ∧ W = w' := by
  obtain ⟨h1, h2, h3⟩ := liar_in h
  have := specWin q.toNat (by omega) a.toNat b.toNat (by omega) W
  rw [Int.toNat_of_nonneg h1.1, Int.toNat_of_nonneg h2.1, Int.toNat_of_nonneg h3.1] at this
  exact this

set_option maxRecDepth 100000 in
set_option maxHeartbeats 800000 in
theorem specCanWin (a b q : Int) (w : World) : Calls Try.prog 25 #[.int .i64 a, .int .i64 b, .int .i64 q] w fun e w' => e = .returned (.bool (canR a b q)) ∧ w = w' := by
  have CI := Lib.hid (fun W => specLiarIn a b q W)
  have CW : Hid (liarIn a b q = true → ∀ W, Calls Try.prog 42 #[.int .i64 a, .int .i64 b, .int .i64 q] W fun e w' => e = .returned (.bool (winB q.toNat a.toNat b.toNat)) ∧ W = w') := fun h W => win_at h W
  have HR : Hid (canR a b q = (liarIn a b q && winB q.toNat a.toNat b.toNat)) := rfl
  generalize canR a b q = r at HR ⊢
  generalize liarIn a b q = i at CI CW HR
  generalize winB q.toNat a.toNat b.toNat = t at CW HR
  cases i with
  | false =>
    have HE : Hid (r = false) := HR.out
    go_enter Try.func25, Try.ntmps25
    go_wp2_with fail
    refine (CI.out _).mono ?_
    rintro e w1 ⟨rfl, rfl⟩
    go_wp2
    go_ret
    exact ⟨ret_bool HE.out.symm, rfl⟩
  | true =>
    have HE : Hid (r = t) := by unfold Hid; rw [HR.out]; simp
    have CW1 := Lib.hid (CW.out rfl)
    go_enter Try.func25, Try.ntmps25
    go_wp2_with fail
    refine (CI.out _).mono ?_
    rintro e w1 ⟨rfl, rfl⟩
    go_wp2_with fail
    refine (CW1.out _).mono ?_
    rintro e w1 ⟨rfl, rfl⟩
    go_wp2
    go_ret
    exact ⟨ret_bool HE.out.symm, rfl⟩

theorem askO_no {a b q : Int} (h : askOk a b q = false) : askO a b q = none := by unfold askO; rw [h]; rfl

set_option maxRecDepth 100000 in
set_option maxHeartbeats 1600000 in
theorem specFirstAsk (a b q : Int) (w : World) : Calls Try.prog 27 #[.int .i64 a, .int .i64 b, .int .i64 q] w (Asks (askO a b q) w) := by
  have CI := Lib.hid (fun W => specLiarIn a b q W)
  unfold Asks
  by_cases hi : liarIn a b q = true
  · obtain ⟨⟨a0, a8⟩, ⟨b0, b16⟩, q0, q8⟩ := liar_in hi
    rw [hi] at CI
    by_cases h1 : 1 ≤ q
    · have t1 : ¬ q < 1 := by omega
      by_cases h2 : 1 < a + b
      · have t2 : ¬ a + b ≤ 1 := by omega
        have CW := Lib.hid (fun W => win_at hi W)
        have HO : Hid (askO a b q = if winB q.toNat a.toNat b.toNat = true then askP (q.toNat - 1) a.toNat b.toNat else none) := by
          unfold Hid askO askOk
          rw [hi, decide_eq_true h1, decide_eq_true h2]
          rfl
        have CF : Hid (∀ W, Calls Try.prog 47 #[.int .i64 a, .int .i64 b, .int .i64 q] W (Asks (askP (q.toNat - 1) a.toNat b.toNat) W)) := fun W => by
          have := specFirst (q.toNat - 1) (by omega) a.toNat b.toNat (by omega) W
          rw [Int.toNat_of_nonneg a0, Int.toNat_of_nonneg b0, show ((q.toNat - 1 : Nat) : Int) + 1 = q by omega] at this
          exact this
        unfold Asks at CF
        generalize askO a b q = O at HO ⊢
        generalize askP (q.toNat - 1) a.toNat b.toNat = O2 at HO CF
        generalize winB q.toNat a.toNat b.toNat = t at CW HO
        cases t with
        | false =>
          have HE : Hid (O = none) := HO.out
          clear h1 h2 hi HO
          go_enter Try.func27, Try.ntmps27
          go_wp2_with fail
          refine (CI.out _).mono ?_
          rintro e w1 ⟨rfl, rfl⟩
          go_wp2_with fail
          refine (CW.out _).mono ?_
          rintro e w1 ⟨rfl, rfl⟩
          go_wp2
          go_ret3
          rw [HE.out]
          exact ⟨rfl, rfl⟩
        | true =>
          have HE : Hid (O = O2) := HO.out
          clear h1 h2 hi HO
          go_enter Try.func27, Try.ntmps27
          go_wp2_with fail
          refine (CI.out _).mono ?_
          rintro e w1 ⟨rfl, rfl⟩
          go_wp2_with fail
          refine (CW.out _).mono ?_
          rintro e w1 ⟨rfl, rfl⟩
          go_wp2_with fail
          refine (CF.out _).mono ?_
          rintro e w1 ⟨rfl, rfl⟩
          go_wp2
          go_ret3
          rw [HE.out]
          exact ⟨rfl, rfl⟩
      · have t2 : a + b ≤ 1 := by omega
        have HE : Hid (askO a b q = none) := askO_no (by unfold askOk; rw [hi, decide_eq_false h2]; simp)
        generalize askO a b q = O at HE ⊢
        clear h1 h2 hi
        go_enter Try.func27, Try.ntmps27
        go_wp2_with fail
        refine (CI.out _).mono ?_
        rintro e w1 ⟨rfl, rfl⟩
        go_wp2
        go_ret3
        rw [HE.out]
        exact ⟨rfl, rfl⟩
    · have t1 : q < 1 := by omega
      have HE : Hid (askO a b q = none) := askO_no (by unfold askOk; rw [hi, decide_eq_false h1]; simp)
      generalize askO a b q = O at HE ⊢
      clear h1 hi
      go_enter Try.func27, Try.ntmps27
      go_wp2_with fail
      refine (CI.out _).mono ?_
      rintro e w1 ⟨rfl, rfl⟩
      go_wp2
      go_ret3
      rw [HE.out]
      exact ⟨rfl, rfl⟩
  · have hif : liarIn a b q = false := by simpa using hi
    rw [hif] at CI
    have HE : Hid (askO a b q = none) := askO_no (by unfold askOk; rw [hif]; simp)
    generalize askO a b q = O at HE ⊢
    clear hi hif
    go_enter Try.func27, Try.ntmps27
    go_wp2_with fail
    refine (CI.out _).mono ?_
    rintro e w1 ⟨rfl, rfl⟩
    go_wp2
    go_ret3
    rw [HE.out]
    exact ⟨rfl, rfl⟩

theorem asks_val : ∀ n : Nat, n ≤ 8 → ((([0, 0, 3, 5, 5, 6, 6, 6, 6] : List Nat).getD n 0 : Nat) : Int) = ([0, 0, 3, 5, 5, 6, 6, 6, 6] : List Int).getD n 0 ∧ ([0, 0, 3, 5, 5, 6, 6, 6, 6] : List Nat).getD n 0 ≤ 6 := by decide

set_option maxRecDepth 100000 in
set_option maxHeartbeats 1600000 in
theorem specFewestAsks (n : Int) (w : World) : Calls Try.prog 29 #[.int .i64 n] w fun e w' => e = .returned (.int .i64 (asksI n)) ∧ w = w' := by
  have CI : Hid (∀ W, Calls Try.prog 33 #[.int .i64 n, .int .i64 1, .int .i64 8] W fun e w' => e = .returned (.bool (numsB n)) ∧ W = w') := fun W => l01In_is n 1 8 W
  have HB : Hid (numsB n = true → 1 ≤ n ∧ n ≤ 8) := fun h => by unfold numsB at h; simpa using h
  have HR : Hid (asksI n = if numsB n = true then [0, 0, 3, 5, 5, 6, 6, 6, 6].getD n.toNat 0 else -1) := rfl
  generalize asksI n = r at HR ⊢
  generalize numsB n = ib at CI HB HR
  cases ib with
  | false =>
    have HE : Hid (r = -1) := HR.out
    go_enter Try.func29, Try.ntmps29
    go_wp2_with fail
    refine (CI.out _).mono ?_
    rintro e w1 ⟨rfl, rfl⟩
    go_wp2
    go_ret
    exact ⟨ret_int HE.out.symm, rfl⟩
  | true =>
    obtain ⟨n1, n8⟩ := HB.out rfl
    obtain ⟨N, hN⟩ : ∃ N : Nat, n.toNat = N := ⟨_, rfl⟩
    have hnN : n = (N : Int) := by omega
    subst hnN
    obtain ⟨tb1, tb2⟩ := asks_tab N (by omega) (by omega)
    obtain ⟨tv, t6⟩ := asks_val N (by omega)
    have HE : Hid (r = [0, 0, 3, 5, 5, 6, 6, 6, 6].getD N 0) := by unfold Hid; rw [HR.out, Int.toNat_natCast]; rfl
    unfold Hid at HE
    rw [← tv] at HE
    obtain ⟨t, ht⟩ : ∃ t : Nat, ([0, 0, 3, 5, 5, 6, 6, 6, 6] : List Nat).getD N 0 = t := ⟨_, rfl⟩
    rw [ht] at tb1 tb2 t6 HE
    replace HE := Lib.hid HE
    have CW : Hid (∀ q : Nat, q ≤ 6 → ∀ W, Calls Try.prog 42 #[.int .i64 N, .int .i64 0, .int .i64 q] W fun e w' => e = .returned (.bool (winB q N 0)) ∧ W = w') := fun q hq W => specWin q (by omega) N 0 (by omega) W
    have HT1 := Lib.hid tb1
    have HT2 := Lib.hid tb2
    clear tb1 tb2 tv ht HR HB hN
    go_enter Try.func29, Try.ntmps29
    go_wp2_with fail
    refine (CI.out _).mono ?_
    rintro e w1 ⟨rfl, rfl⟩
    go_wp2_with fail
    go_loopw [3] (fun qv wr => ∃ q : Nat, q ≤ t ∧ qv = .int .i64 q ∧ wr = w) (fun qv _ => t + 1 - (intOf qv).toNat)
    case atStart => exact ⟨0, Nat.zero_le _, rfl, rfl⟩
    case round =>
      obtain ⟨q, hq, rfl, rfl⟩ := hrel
      have CQ := Lib.hid (CW.out q (by omega))
      by_cases hlt : q < t
      · rw [HT1.out q hlt] at CQ
        go_wp2_with fail
        refine (CQ.out _).mono ?_
        rintro e w1 ⟨rfl, rfl⟩
        go_wp2
        go_roundw
        case rel => exact ⟨q + 1, by omega, by go_num, by first | rfl | trivial⟩
        case measure => simp [intOf]; omega
      · obtain rfl : q = t := by omega
        rw [HT2.out] at CQ
        go_wp2_with fail
        refine (CQ.out _).mono ?_
        rintro e w1 ⟨rfl, rfl⟩
        go_wp2
        go_ret
        exact ⟨ret_int HE.out.symm, rfl⟩
end Go.Proofs.Ytnpmkoeceihepaa
