/- The contracts of the program's lookUp, of canWin round the contract of firstAsk with as many questions, and of firstAsk round the contract of canWin with one fewer. Conditions: positions of a contest, a map each entry of which is right. -/
import Derived.Test.YtnpmkoeceihepaaLieImpl
import Derived.Test.YtnpmkoeceihepaaLieFacts
import Derived.Deep.RegionHeld3
import Derived.BigQuiet
namespace Go.Proofs.Ytnpmkoeceihepaa
open Go.RowKit

def bookV (m : Nat) : Value := .agg #[.map (some m)]
/-- canWin tells whether the number can always be found. -/
def WinC (q : Nat) : Prop := ∀ a b, a + b ≤ 24 → ∀ m W, WinsAt W m → Calls Try.prog 46 #[bookV m, posV a b q] W fun e W' => e = .returned (.bool (winB q a b)) ∧ WinsAt W' m ∧ OnlyMap m W W'
/-- The first question that wins, q + 1 questions being left. -/
def AskC (q : Nat) : Prop := ∀ a b, a + b ≤ 24 → ∀ m W, WinsAt W m → Calls Try.prog 48 #[bookV m, posV a b (q + 1)] W fun e W' => e = .returned (.tuple #[.int .i64 (fstO (askP q a b)), .int .i64 (sndO (askP q a b)), .bool (askP q a b).isSome]) ∧ WinsAt W' m ∧ OnlyMap m W W'

set_option maxRecDepth 100000 in
set_option maxHeartbeats 3200000 in
theorem implLookP (m a b q : Nat) (hp : PosIn a b q) (u v : Value) (W : World) (hN : WinsAt W m)
    (HF : ∀ W1, WinsAt W1 m → Below W.heap.size W W1 → Calls Try.prog 57 #[u, v] W1 fun e W2 => e = .returned (.bool (winB q a b)) ∧ WinsAt W2 m ∧ OnlyMap m W1 W2) :
    Calls Try.prog 56 #[.agg #[.map (some m)], posV a b q, .func (.func 57) #[] #[u, v]] W fun e W' => e = .returned (.bool (winB q a b)) ∧ WinsAt W' m ∧ OnlyMap m W W' := by
  have HP : Hid (∀ w, WinsAt w m → ∃ w', (Instr.mapUpdate 49 (.map (some m)) (posV a b q) (.bool (winB q a b))).run Try.prog w = .ok () w' ∧ WinsAt w' m ∧ OnlyMap m w w') := fun w h => h.put hp
  have hm := hN.lt
  have M0 := MapIn.new W 51 m
  have B0 := alloc_below W (.cells #[.map (some m)] 51)
  have s0 : (W.alloc (.cells #[.map (some m)] 51)).heap.size = W.heap.size + 1 := by simp
  generalize hX0 : W.alloc (.cells #[.map (some m)] 51) = X0 at M0 B0 s0
  have G0 := PosAt.new X0 56 a b q
  have B1 := alloc_below X0 (.cells #[.int .i64 a, .int .i64 b, .int .i64 q] 56)
  rw [s0] at G0
  generalize hX1 : X0.alloc (.cells #[.int .i64 a, .int .i64 b, .int .i64 q] 56) = X1 at G0 B1
  have M1 := Lib.hid (M0.below B1)
  have BX := Lib.hid (below_up B0 B1)
  have N1 := Lib.hid (hN.below BX.out)
  have G1 := Lib.hid G0
  have HC := Lib.hid (HF X1 N1.out BX.out)
  have look := N1.out.look hp
  have J1 : Hid (OnlyMap m W X1) := Only.fresh BX.out
  clear M0 B0 B1 G0 HF hp hN
  generalize winB q a b = r at HP HC look ⊢
  unfold posV at HP look ⊢
  obtain ⟨e0, e1, e2, -⟩ := G1.out
  obtain ⟨f0, -⟩ := M1.out
  rcases look with look | look
  · go_enter Try.func56, Try.ntmps56
    go_wp2_with fail
    refine (HC.out).mono ?_
    rintro e w2 ⟨rfl, hN2, hJ2⟩
    obtain ⟨w3, hput, hN3, hJ3⟩ := HP.out w2 hN2
    obtain ⟨g0, g1, g2, -⟩ := G1.out.only hJ2 (by omega)
    obtain ⟨h0, -⟩ := M1.out.only hJ2 (by omega)
    have HN := Lib.hid hN3
    have HJ := Lib.hid ((J1.out.trans hJ2).trans hJ3)
    clear hN2 hJ2 hN3 hJ3 look HC HP e0 e1 e2 f0 hX0 hX1 s0
    go_wp2
    go_ret
    exact ⟨rfl, HN.out, HJ.out⟩
  · clear HC HP
    go_enter Try.func56, Try.ntmps56
    go_wp2
    go_ret
    exact ⟨rfl, N1.out, J1.out⟩

set_option maxRecDepth 100000 in
set_option maxHeartbeats 3200000 in
theorem implWon (q a b : Nat) (hab : a + b ≤ 24) (HF : AskC q) (m b0 b1 : Nat) (W : World) (hM : MapIn W b0 m) (hS : PosAt W b1 a b (q + 1)) (hN : WinsAt W m) :
    Calls Try.prog 57 #[.pointer (some ⟨b0, 0, none⟩), .pointer (some ⟨b1, 0, none⟩)] W fun e W' => e = .returned (.bool (askP q a b).isSome) ∧ WinsAt W' m ∧ OnlyMap m W W' := by
  have C := Lib.hid (HF a b hab m W hN)
  generalize (askP q a b).isSome = ok at C ⊢
  generalize fstO (askP q a b) = x at C
  generalize sndO (askP q a b) = y at C
  unfold bookV posV at C
  obtain ⟨f0, -⟩ := hM
  obtain ⟨e0, e1, e2, -⟩ := hS
  go_enter Try.func57, Try.ntmps57
  go_wp2_with fail
  refine (C.out).mono ?_
  rintro e w1 ⟨rfl, hN1, hJ1⟩
  have HN := Lib.hid hN1
  have HJ := Lib.hid hJ1
  clear hN1 hJ1 f0 e0 e1 e2 C hN
  go_wp2
  go_ret
  exact ⟨rfl, HN.out, HJ.out⟩

theorem win_ways (q a b : Nat) (ha : a + b ≤ 24) (hq : q ≤ 8) : (a + b ≤ 1 → winB q a b = true) ∧ (¬ a + b ≤ 1 → (2 : Int) ^ q < wtI a b q → winB q a b = false) ∧ (¬ a + b ≤ 1 → ¬ (2 : Int) ^ q < wtI a b q → 1 ≤ q ∧ winB q a b = (askP (q - 1) a b).isSome) := by
  have hw : wtI a b q = a * (q + 1) + b := by
    unfold wtI wtIn
    rw [if_pos]
    simp
    omega
  rw [hw]
  cases q with
  | zero =>
    refine ⟨fun h => by rw [winB_zero]; exact decide_eq_true h, fun h _ => by rw [winB_zero]; exact decide_eq_false h, fun h h2 => ?_⟩
    refine absurd (show (2 : Int) ^ 0 < (a : Int) * ((0 : Nat) + 1) + b by simp; omega) h2
  | succ j =>
    have hc : (a : Int) * ((j + 1 : Nat) + 1) + b = ((a * (j + 2) + b : Nat) : Int) := by push_cast; rfl
    have hp : (2 : Int) ^ (j + 1) = ((2 ^ (j + 1) : Nat) : Int) := by push_cast; rfl
    rw [hc, hp]
    refine ⟨fun h => by rw [winB_succ, decide_eq_true h]; rfl, fun h h2 => ?_, fun h h2 => ⟨by omega, ?_⟩⟩
    · rw [winB_succ, decide_eq_false h, decide_eq_false (by omega)]; rfl
    · rw [winB_succ, decide_eq_false h, decide_eq_true (by omega)]; simp

set_option maxRecDepth 100000 in
set_option maxHeartbeats 3200000 in
theorem implCanP (q : Nat) (hq : q ≤ 8) (HF : ∀ j, q = j + 1 → AskC j) : WinC q := by
  intro a b hab m W hN
  have CW := Lib.hid (fun V => implWeight a b q V)
  have HR := Lib.hid (win_ways q a b hab hq)
  have hp2 : (0 : Int) < 2 ^ q ∧ (2 : Int) ^ q ≤ 256 := by
    have : ∀ k : Nat, k ≤ 8 → (0 : Int) < 2 ^ k ∧ (2 : Int) ^ k ≤ 256 := by decide
    exact this q hq
  have hw2 : IntKind.i64.wrap ((2 : Int) ^ q) = 2 ^ q := by rw [IntKind.wrap_i64]; omega
  have hqt : ((q : Nat) : Int).toNat = q := Int.toNat_natCast q
  have CL : Hid (1 ≤ q → winB q a b = (askP (q - 1) a b).isSome → ∀ b0 b1 W3, WinsAt W3 m → MapIn W3 b0 m → PosAt W3 b1 a b q →
      Calls Try.prog 56 #[.agg #[.map (some m)], posV a b q, .func (.func 57) #[] #[.pointer (some ⟨b0, 0, none⟩), .pointer (some ⟨b1, 0, none⟩)]] W3 fun e W' => e = .returned (.bool (winB q a b)) ∧ WinsAt W' m ∧ OnlyMap m W3 W') := by
    intro h1 h2 b0 b1 W3 hN3 hM3 hS3
    obtain ⟨j, rfl⟩ : ∃ j, q = j + 1 := ⟨q - 1, by omega⟩
    refine implLookP m a b (j + 1) ⟨hab, hq⟩ _ _ W3 hN3 fun W1 hN1 hb => ?_
    rw [h2]
    exact implWon j a b hab (HF j rfl) m b0 b1 W1 (hM3.below hb) (hS3.below hb) hN1
  have hm := hN.lt
  have M0 := MapIn.new W 53 m
  have B0 := alloc_below W (.cells #[.map (some m)] 53)
  have s0 : (W.alloc (.cells #[.map (some m)] 53)).heap.size = W.heap.size + 1 := by simp
  generalize hX0 : W.alloc (.cells #[.map (some m)] 53) = X0 at M0 B0 s0
  have P0 := PosAt.new X0 56 a b q
  have B1 := alloc_below X0 (.cells #[.int .i64 a, .int .i64 b, .int .i64 q] 56)
  rw [s0] at P0
  generalize hX1 : X0.alloc (.cells #[.int .i64 a, .int .i64 b, .int .i64 q] 56) = X1 at P0 B1
  have M1 := Lib.hid (M0.below B1)
  have P1 := Lib.hid P0
  have BX := Lib.hid (below_up B0 B1)
  have HN := Lib.hid hN
  clear M0 P0 B0 B1 HF hN
  generalize winB q a b = r at HR CL ⊢
  generalize (askP (q - 1) a b).isSome = ok at HR CL
  unfold bookV
  unfold posV at CL ⊢
  obtain ⟨e0, e1, e2, -⟩ := P1.out
  have hsum : IntKind.i64.wrap ((a : Int) + b) = (a : Int) + b := by rw [IntKind.wrap_i64]; omega
  go_enter Try.func46, Try.ntmps46
  by_cases h1 : a + b ≤ 1
  · have HE : Hid (true = r) := (HR.out.1 h1).symm
    have t1 : (a : Int) + b ≤ 1 := by omega
    clear HR CL
    go_wp2
    go_ret
    exact ⟨ret_bool HE.out, HN.out.below BX.out, Only.fresh BX.out⟩
  · have HR2 := Lib.hid (HR.out.2.1 h1)
    have HR3 := Lib.hid (HR.out.2.2 h1)
    clear HR
    have t1 : ¬ (a : Int) + b ≤ 1 := by omega
    generalize wtI a b q = z at CW HR2 HR3
    go_wp2_with fail
    go_quiet (first | (go_at_call 24; exact quiet_of (CW.out _)) | fail)
    have B2 := Lib.hid (below_drewN (Below.refl X1.heap.size X1) nq)
    generalize hX2 : X1.drewN nq = X2 at B2
    have M2 := Lib.hid (M1.out.below B2.out)
    have P2 := Lib.hid (P1.out.below B2.out)
    have BY := Lib.hid (below_up BX.out B2.out)
    clear M1 P1 BX B2 hX0 hX1 s0 e0 e1 e2 hX2
    by_cases h2 : (2 : Int) ^ q < z
    · have HE : Hid (false = r) := (HR2.out h2).symm
      clear HR2 HR3 CL
      go_wp2
      go_ret
      exact ⟨ret_bool HE.out, HN.out.below BY.out, Only.fresh BY.out⟩
    · obtain ⟨hk1, he⟩ := HR3.out (by omega)
      have CL2 := Lib.hid (CL.out hk1 he _ _ X2 (HN.out.below BY.out) M2.out P2.out)
      clear HR2 HR3 CL hk1 he
      obtain ⟨m0, -⟩ := M2.out
      obtain ⟨e0, e1, e2, -⟩ := P2.out
      go_wp2_with fail
      refine (CL2.out).mono ?_
      rintro e w3 ⟨rfl, hN3, hJ3⟩
      have HN3 := Lib.hid hN3
      have HJ3 : Hid (OnlyMap m W w3) := (Only.fresh BY.out).trans hJ3
      clear hN3 hJ3 CL2
      go_wp2
      go_ret
      exact ⟨rfl, HN3.out, HJ3.out⟩

set_option maxRecDepth 100000 in
set_option maxHeartbeats 6400000 in
theorem implAskP (q : Nat) (hq : q ≤ 7) (HW : WinC q) : AskC q := by
  intro a b hab m W hN
  obtain ⟨f1, hf1⟩ : ∃ f : Nat → Nat → Bool, (fun x y => winB q x (y + a - x)) = f := ⟨_, rfl⟩
  obtain ⟨f2, hf2⟩ : ∃ f : Nat → Nat → Bool, (fun x y => winB q (a - x) (b - y + x)) = f := ⟨_, rfl⟩
  obtain ⟨F, hF⟩ : ∃ F : Nat → Nat → Bool, (fun x y => f1 x y && f2 x y) = F := ⟨_, rfl⟩
  have HP : Hid (askP q a b = firstXY F b (a + 1 - 0) 0) := by unfold Hid askP; rw [← hF, ← hf1, ← hf2]; rfl
  have HF : Hid (∀ x y, F x y = (f1 x y && f2 x y)) := fun x y => by rw [← hF]
  have CD : Hid (∀ x y : Nat, x ≤ a → y ≤ b → ∀ W, Calls Try.prog 58 #[posV a b (q + 1), .int .i64 x, .int .i64 y] W fun e w' => e = .returned (.tuple #[posV x (y + a - x) q, posV (a - x) (b - y + x) q]) ∧ Below W.heap.size W w') := fun x y hx hy W => implLeft a b (q + 1) x y hab (by omega) (by omega) hx hy W
  have C1 : Hid (∀ x y : Nat, x ≤ a → y ≤ b → ∀ W, WinsAt W m → Calls Try.prog 46 #[bookV m, posV x (y + a - x) q] W fun e W' => e = .returned (.bool (f1 x y)) ∧ WinsAt W' m ∧ OnlyMap m W W') := fun x y hx hy W h => by
    rw [← hf1]
    exact HW x (y + a - x) (by omega) m W h
  have C2 : Hid (∀ x y : Nat, x ≤ a → y ≤ b → ∀ W, WinsAt W m → Calls Try.prog 46 #[bookV m, posV (a - x) (b - y + x) q] W fun e W' => e = .returned (.bool (f2 x y)) ∧ WinsAt W' m ∧ OnlyMap m W W') := fun x y hx hy W h => by
    rw [← hf2]
    exact HW (a - x) (b - y + x) (by omega) m W h
  have hm := hN.lt
  have M0 := MapIn.new W 53 m
  have B0 := alloc_below W (.cells #[.map (some m)] 53)
  have s0 : (W.alloc (.cells #[.map (some m)] 53)).heap.size = W.heap.size + 1 := by simp
  generalize hX0 : W.alloc (.cells #[.map (some m)] 53) = X0 at M0 B0 s0
  have P0 := PosAt.new X0 56 a b (q + 1)
  have B1 := alloc_below X0 (.cells #[.int .i64 a, .int .i64 b, .int .i64 ((q + 1 : Nat) : Int)] 56)
  rw [s0] at P0
  generalize hX1 : X0.alloc (.cells #[.int .i64 a, .int .i64 b, .int .i64 ((q + 1 : Nat) : Int)] 56) = X1 at P0 B1
  have M1 := Lib.hid (M0.below B1)
  have P1 := Lib.hid P0
  have BX := Lib.hid (below_up B0 B1)
  have N1 := Lib.hid (hN.below BX.out)
  have JX := Lib.hid (Only.fresh (T := fun j => j = m) BX.out)
  clear M0 P0 B0 B1 HW hN hF hf1 hf2
  generalize askP q a b = O at HP ⊢
  unfold bookV at C1 C2 ⊢
  unfold posV at CD C1 C2 ⊢
  generalize q + 1 = Q at *
  obtain ⟨e0, e1, e2, -⟩ := P1.out
  go_enter Try.func48, Try.ntmps48
  go_wp2
  clear e0 e1 e2
  go_loopw [14] (fun xv wr => ∃ x : Nat, x ≤ a + 1 ∧ xv = .int .i64 x ∧ Hid (WinsAt wr m) ∧ Hid (OnlyMap m X1 wr) ∧ Hid (O = firstXY F b (a + 1 - x) x)) (fun xv _ => a + 1 - (intOf xv).toNat)
  case atStart => exact ⟨0, Nat.zero_le _, rfl, N1, Only.refl _ _, HP⟩
  case round =>
    clear HP N1
    obtain ⟨x, hx, rfl, NX, JO, HX⟩ := hrel
    by_cases hxa : x ≤ a
    · have xa : (x : Int) < (a : Int) + 1 := by omega
      have HS : Hid (O = match firstY (F x) (b + 1 - 0) 0 with | some y => some (x, y) | none => firstXY F b (a + 1 - (x + 1)) (x + 1)) := by
        unfold Hid
        rw [HX.out, firstXY_step _ _ (by omega)]
        rfl
      clear HX
      obtain ⟨e0, e1, e2, -⟩ := P1.out.only JO.out (by omega)
      go_wp2
      clear e0 e1 e2
      go_loopw [20] (fun yv wr => ∃ y : Nat, y ≤ b + 1 ∧ yv = .int .i64 y ∧ Hid (WinsAt wr m) ∧ Hid (OnlyMap m X1 wr) ∧ Hid (O = match firstY (F x) (b + 1 - y) y with | some y => some (x, y) | none => firstXY F b (a + 1 - (x + 1)) (x + 1))) (fun yv _ => b + 1 - (intOf yv).toNat)
      case atStart => exact ⟨0, Nat.zero_le _, rfl, NX, JO, HS⟩
      case round =>
        clear HS NX JO
        obtain ⟨y, hy, rfl, NY, JY, HY⟩ := hrel
        by_cases hyb : y ≤ b
        · have yb : (y : Int) < (b : Int) + 1 := by omega
          have HT : Hid (O = match (if (f1 x y && f2 x y) = true then some y else firstY (F x) (b + 1 - (y + 1)) (y + 1)) with | some y => some (x, y) | none => firstXY F b (a + 1 - (x + 1)) (x + 1)) := by
            unfold Hid
            rw [HY.out, firstY_step _ (by omega), HF.out]
          have DD := Lib.hid (CD.out x y hxa hyb)
          have D1 := Lib.hid (C1.out x y hxa hyb)
          have D2 := Lib.hid (C2.out x y hxa hyb)
          clear HY
          generalize f1 x y = t1 at HT D1
          generalize f2 x y = t2 at HT D2
          generalize y + a - x = y1 at DD D1
          generalize a - x = x2 at DD D2
          generalize b - y + x = y2 at DD D2
          obtain ⟨e0, e1, e2, -⟩ := P1.out.only JY.out (by omega)
          go_wp2_with fail
          refine (DD.out _).mono ?_
          rintro e w2 ⟨rfl, b2⟩
          have N2 := Lib.hid (NY.out.below b2)
          have hmw2 : m < w2.heap.size := N2.out.lt
          have J2 := Lib.hid (JY.out.trans (Only.fresh b2))
          have P0 := PosAt.new w2 56 x y1 q
          have b3 := alloc_below w2 (.cells #[.int .i64 x, .int .i64 y1, .int .i64 q] 56)
          have s3 : (w2.alloc (.cells #[.int .i64 x, .int .i64 y1, .int .i64 q] 56)).heap.size = w2.heap.size + 1 := by simp
          have Q0 := PosAt.new (w2.alloc (.cells #[.int .i64 x, .int .i64 y1, .int .i64 q] 56)) 56 x2 y2 q
          have b4 := alloc_below (w2.alloc (.cells #[.int .i64 x, .int .i64 y1, .int .i64 q] 56)) (.cells #[.int .i64 x2, .int .i64 y2, .int .i64 q] 56)
          rw [s3] at Q0
          generalize hX4 : (w2.alloc (.cells #[.int .i64 x, .int .i64 y1, .int .i64 q] 56)).alloc (.cells #[.int .i64 x2, .int .i64 y2, .int .i64 q] 56) = X4 at Q0 b4
          have PX := Lib.hid (P0.below b4)
          have QX := Lib.hid Q0
          have b34 := below_up b3 b4
          have N4 := Lib.hid (N2.out.below b34)
          have J4 := Lib.hid (J2.out.trans (Only.fresh b34))
          clear P0 Q0 b3 b4 b34 N2 J2 b2 e0 e1 e2 DD NY JY s3
          obtain ⟨m0, -⟩ := M1.out.only J4.out (by omega)
          obtain ⟨p0, p1, p2, -⟩ := PX.out
          have D1x := Lib.hid (D1.out _ N4.out)
          clear D1
          go_wp2_with fail
          clear hX4
          refine (D1x.out).mono ?_
          rintro e w5 ⟨rfl, hN5, hJ5⟩
          have N5 := Lib.hid hN5
          have J5 := Lib.hid (J4.out.trans hJ5)
          have Q5 := Lib.hid (QX.out.only hJ5 (by omega))
          clear hN5 hJ5 N4 J4 QX PX m0 p0 p1 p2 D1x
          cases t1 with
          | false =>
            have HZ : Hid (O = match firstY (F x) (b + 1 - (y + 1)) (y + 1) with | some y => some (x, y) | none => firstXY F b (a + 1 - (x + 1)) (x + 1)) := HT.out
            clear HT
            go_wp2
            go_roundw
            case rel => exact ⟨y + 1, by omega, by go_num, N5, J5, HZ⟩
            case measure => simp [intOf]; omega
          | true =>
            obtain ⟨m0, -⟩ := M1.out.only J5.out (by omega)
            obtain ⟨q0, q1, q2, -⟩ := Q5.out
            have D2x := Lib.hid (D2.out _ N5.out)
            clear D2
            go_wp2_with fail
            refine (D2x.out).mono ?_
            rintro e w6 ⟨rfl, hN6, hJ6⟩
            have N6 := Lib.hid hN6
            have J6 := Lib.hid (J5.out.trans hJ6)
            clear hN6 hJ6 N5 J5 Q5 m0 q0 q1 q2 D2x
            cases t2 with
            | false =>
              have HZ : Hid (O = match firstY (F x) (b + 1 - (y + 1)) (y + 1) with | some y => some (x, y) | none => firstXY F b (a + 1 - (x + 1)) (x + 1)) := HT.out
              clear HT
              go_wp2
              go_roundw
              case rel => exact ⟨y + 1, by omega, by go_num, N6, J6, HZ⟩
              case measure => simp [intOf]; omega
            | true =>
              have HZ : Hid (O = some (x, y)) := HT.out
              clear HT
              go_wp2
              go_ret3
              rw [HZ.out]
              exact ⟨rfl, N6.out, JX.out.trans J6.out⟩
        · have HZ : Hid (O = firstXY F b (a + 1 - (x + 1)) (x + 1)) := by
            unfold Hid
            rw [HY.out, firstY_end _ _ (by omega)]
          clear HY
          have yb : ¬ (y : Int) < (b : Int) + 1 := by omega
          go_wp2
          go_roundw
          case rel => exact ⟨x + 1, by omega, by go_num, NY, JY, HZ⟩
          case measure => simp [intOf]; omega
    · have HZ : Hid (O = none) := by
        unfold Hid
        rw [HX.out, firstXY_end _ _ _ (by omega)]
      clear HX
      have xa : ¬ (x : Int) < (a : Int) + 1 := by omega
      go_wp2
      go_ret3
      rw [HZ.out]
      exact ⟨rfl, NX.out, JX.out.trans JO.out⟩

theorem askC (q : Nat) (hq : q ≤ 7) (HW : WinC q) : AskC q := implAskP q hq HW
theorem winC : ∀ q : Nat, q ≤ 8 → WinC q
  | 0, _ => implCanP 0 (by omega) (fun j h => absurd h (by omega))
  | q + 1, h => implCanP (q + 1) h (fun j e => by
    obtain rfl : q = j := by omega
    exact askC q (by omega) (winC q (by omega)))
end Go.Proofs.Ytnpmkoeceihepaa
