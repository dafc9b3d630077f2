/- The walk of the law of what is found, round the contracts of the program's functions: it returns true for every code. No condition. -/
import Derived.Test.YtbkhmlkicafheaaStateMade
import Derived.Test.YtbkhmlkicafheaaBoundLaws
import Derived.Test.YtbkhmlkicafheaaGFinds
import Derived.Test.YtbkhmlkicafheaaGBounds
namespace Go.Proofs.Ytbkhmlkicafheaa
open Go.RowKit

set_option maxRecDepth 100000 in
set_option maxHeartbeats 16000000 in
theorem lawFinds (MS : MakesState) (IC : ∀ s, CountCasesIs 36 s) (IF : ∀ s, FewestIs 37 s) (IOk : ∀ s, StateOkIs 38 s) (II : ∀ n, InfoBoundIs 14 n)
    (IA : ∀ s k, CanFindIs 39 s k) (IP : ∀ s k, FirstPickIs 40 s k) (IK : ∀ s p, pickB s p = true → PickOkIs 41 s p) (IX : ∀ s p x, pickB s p = true → AfterPickIs 42 s p x)
    (w : World) (a : Option Addr) (len cap : Nat) (hB : BytesAt w a len) :
    Calls Try.prog 9 #[.slice a len cap] w fun e w' => e = .returned (.bool true) ∧ Below w.heap.size w w' := by
  by_cases hbig : (1048576 : Int) < (len : Int)
  · go_enter Try.func9, Try.ntmps9
    go_wp2
    go_ret
    exact ⟨rfl, Below.refl _ _⟩
  have hl : len ≤ 1048576 := by omega
  have C1 := Lib.hid (MS w w a len cap hB (Below.refl _ _) hl)
  clear hB MS
  go_enter Try.func9, Try.ntmps9
  go_wp2_with fail
  refine C1.out.mono ?_
  rintro e w1 ⟨s, rfl, hs, -, b1⟩
  have PS := StateAt.new w1 32 s
  have BS := Lib.hid (below_up b1 (alloc_below w1 (.cells #[.int .i64 s.b, .int .i64 s.h, .int .i64 s.l, .int .i64 s.g] 32)))
  obtain ⟨f0, f1, f2⟩ := finds0 hs
  have F1 := Lib.hid (fun (i : Nat) (hi : i ≤ 3) => finds1 hs i hi)
  have F2 := Lib.hid (finds2 hs)
  have F3 := Lib.hid (finds3 hs)
  have FI := Lib.hid (fun (hn : 1 < countS s) (hk : 0 ≤ fewestI s) => every1 hs (by omega) hk)
  have FC : casesS s = countS s := by unfold casesS; rw [hs]; rfl
  have hn0 := (count_in hs).1
  have CC := Lib.hid (IC s)
  have CF := Lib.hid (IF s)
  have CO := Lib.hid (IOk s)
  have CI := Lib.hid (II (countS s))
  have CA := Lib.hid (IA s)
  have CP := Lib.hid (IP s)
  have CK := Lib.hid (IK s)
  have CX := Lib.hid (IX s)
  have CY := Lib.hid (fun (x : Int) (p : PD) (j : Int) => IA (afterS s p x) j)
  clear IC IF IOk II IA IP IK IX C1 b1 hbig hl
  unfold CountCasesIs at CC
  rw [FC] at CC
  unfold FewestIs at CF
  unfold StateOkIs at CO
  rw [hs] at CO
  unfold InfoBoundIs at CI
  unfold CanFindIs at CA CY
  unfold FirstPickIs at CP
  unfold PickOkIs at CK
  unfold AfterPickIs at CX
  clear FC hs
  generalize infoI (countS s) = ib at CI FI
  generalize countS s = n at CC CI f2 FI hn0
  obtain ⟨k, hk⟩ : ∃ k, fewestI s = k := ⟨_, rfl⟩
  rw [hk] at f0 f1 f2 CF FI
  simp only [hk] at F1 F2 F3
  clear hk
  obtain ⟨d, hd⟩ : ∃ d, w1.heap.size = d := ⟨_, rfl⟩
  rw [hd] at PS
  unfold stateV at CC CF CO CA CP CK CX ⊢
  generalize hX : w1.alloc (.cells #[.int .i64 s.b, .int .i64 s.h, .int .i64 s.l, .int .i64 s.g] 32) = X at PS BS
  have P1 := Lib.hid PS
  have B1 := BS
  clear PS BS
  obtain ⟨e0, e1, e2, e3, -⟩ := P1.out
  go_wp2_with fail
  clear hX hd
  refine (CC.out _).mono ?_
  rintro e w2 ⟨rfl, bb⟩
  have B2 := Lib.hid (below_up B1.out bb)
  have P2 := Lib.hid (P1.out.below bb)
  clear bb e0 e1 e2 e3
  obtain ⟨e0, e1, e2, e3, -⟩ := P2.out
  go_wp2_with fail
  refine (CF.out _).mono ?_
  rintro e w3 ⟨rfl, bb⟩
  have B3 := Lib.hid (below_up B2.out bb)
  have P3 := Lib.hid (P2.out.below bb)
  clear bb e0 e1 e2 e3
  obtain ⟨e0, e1, e2, e3, -⟩ := P3.out
  go_wp2_with fail
  refine (CO.out _).mono ?_
  rintro e w4 ⟨rfl, bb⟩
  have B4 := Lib.hid (below_up B3.out bb)
  have P4 := Lib.hid (P3.out.below bb)
  clear bb e0 e1 e2 e3
  clear CC CF CO P1 P2 P3 B1 B2 B3
  by_cases hk : 0 ≤ k
  · by_cases hn : 1 < n
    · have hib := FI.out hn hk
      clear f2
      go_wp2_with fail
      refine (CI.out _).mono ?_
      rintro e w5 ⟨rfl, bb⟩
      have B5 := Lib.hid (below_up B4.out bb)
      have P5 := Lib.hid (P4.out.below bb)
      clear bb P4 B4
      by_cases hk1 : 1 ≤ k
      · clear FI CI
        go_wp2_with fail
        go_loopw [6] (fun iv wr => ∃ i : Nat, i ≤ 4 ∧ iv = .int .i64 i ∧ Hid (Below w.heap.size w wr) ∧ Hid (StateAt wr d s)) (fun iv _ => 5 - (intOf iv).toNat)
        case atStart => exact ⟨0, by omega, rfl, B5, P5⟩
        case round =>
          clear B5 P5
          obtain ⟨i, hi, rfl, B6, P6⟩ := hrel
          by_cases hlt : i ≤ 3
          · have h1 := F1.out i hlt
            have i3 : (i : Int) ≤ 3 := by omega
            have i0 : (0 : Int) ≤ (i : Int) := by omega
            have CA1 := Lib.hid (CA.out i)
            rw [h1] at CA1
            clear h1
            obtain ⟨e0, e1, e2, e3, -⟩ := P6.out
            have hk0 : 0 ≤ k := by omega
            by_cases hki : 0 ≤ k ∧ k ≤ (i : Int)
            · rw [decide_eq_true hki] at CA1
              obtain ⟨-, hk2⟩ := hki
              go_wp2_with fail
              refine (CA1.out _).mono ?_
              rintro e w7 ⟨rfl, bb⟩
              have B7 := Lib.hid (below_up B6.out bb)
              have P7 := Lib.hid (P6.out.below bb)
              clear bb e0 e1 e2 e3
              go_wp2
              go_roundw
              case rel => exact ⟨i + 1, by omega, by go_num, B7, P7⟩
              case measure => simp [intOf]; omega
            · rw [decide_eq_false hki] at CA1
              have hk2 : ¬ k ≤ (i : Int) := fun h => hki ⟨hk0, h⟩
              clear hki
              go_wp2_with fail
              refine (CA1.out _).mono ?_
              rintro e w7 ⟨rfl, bb⟩
              have B7 := Lib.hid (below_up B6.out bb)
              have P7 := Lib.hid (P6.out.below bb)
              clear bb e0 e1 e2 e3
              go_wp2
              go_roundw
              case rel => exact ⟨i + 1, by omega, by go_num, B7, P7⟩
              case measure => simp [intOf]; omega
          · obtain rfl : i = 4 := by omega
            clear hi hlt CA F1
            obtain ⟨e0, e1, e2, e3, -⟩ := P6.out
            obtain ⟨p, h3, hp, hx⟩ := F3.out hk1
            have CP1 := Lib.hid (CP.out k)
            rw [h3] at CP1
            replace CP1 : Hid (∀ W, Calls Try.prog 40 #[.agg #[.int .i64 s.b, .int .i64 s.h, .int .i64 s.l, .int .i64 s.g], .int .i64 k] W fun e w' => e = .returned (.tuple #[.agg #[.int .i64 p.bl, .int .i64 p.br, .int .i64 p.hl, .int .i64 p.hr, .int .i64 p.ll, .int .i64 p.lr, .int .i64 p.gl, .int .i64 p.gr], .bool true]) ∧ Below W.heap.size W w') := CP1
            have CK1 := Lib.hid (CK.out p hp)
            rw [hp] at CK1
            have CX1 : Hid (∀ x : Int, -1 ≤ x → x ≤ 1 → ∀ W, Calls Try.prog 42 #[.agg #[.int .i64 s.b, .int .i64 s.h, .int .i64 s.l, .int .i64 s.g], pickV p, .int .i64 x] W fun e w' => e = .returned (.tuple #[stateV (afterS s p x), .bool true]) ∧ Below W.heap.size W w') := fun x h1 h2 W => by
              have := CX.out p x hp W
              have h4 : afterO s p x = some (afterS s p x) := by unfold afterO; rw [hp, decide_eq_true h1, decide_eq_true h2]; rfl
              rw [h4] at this
              exact this
            have CY1 : Hid (∀ x : Int, -1 ≤ x → x ≤ 1 → ∀ W, Calls Try.prog 39 #[stateV (afterS s p x), .int .i64 (k - 1)] W fun e w' => e = .returned (.bool true) ∧ Below W.heap.size W w') := fun x h1 h2 W => by
              have := CY.out x p (k - 1) W
              rw [hx x (by omega)] at this
              exact this
            unfold pickV at CK1 CX1
            clear F2 F3 CP CK CX CY h3 hp hx
            have hmax : ¬ k < 1 := by omega
            go_wp2_with fail
            all_goals
              first | (have hkk : k = 1 := by omega; subst hkk) | skip
              refine (CP1.out _).mono ?_
              rintro e w8 ⟨rfl, bb⟩
              have aa := alloc_below w8 (.cells #[.int .i64 p.bl, .int .i64 p.br, .int .i64 p.hl, .int .i64 p.hr, .int .i64 p.ll, .int .i64 p.lr, .int .i64 p.gl, .int .i64 p.gr] 34)
              have QQ := PickAt.new w8 34 p
              have B8 := Lib.hid (below_up (below_up B6.out bb) aa)
              have P8 := Lib.hid ((P6.out.below bb).below aa)
              obtain ⟨c, hc⟩ : ∃ c, w8.heap.size = c := ⟨_, rfl⟩
              rw [hc] at QQ
              have Q8 := Lib.hid QQ
              clear bb aa QQ e0 e1 e2 e3
              generalize hX8 : w8.alloc (.cells #[.int .i64 p.bl, .int .i64 p.br, .int .i64 p.hl, .int .i64 p.hr, .int .i64 p.ll, .int .i64 p.lr, .int .i64 p.gl, .int .i64 p.gr] 34) = X8 at B8 P8 Q8
              obtain ⟨e0, e1, e2, e3, -⟩ := P8.out
              obtain ⟨q0, q1, q2, q3, q4, q5, q6, q7, -⟩ := Q8.out
              go_wp2_with fail
              clear hX8 hc
              refine (CK1.out _).mono ?_
              rintro e w9 ⟨rfl, bb⟩
              have B9 := Lib.hid (below_up B8.out bb)
              have P9 := Lib.hid (P8.out.below bb)
              have Q9 := Lib.hid (Q8.out.below bb)
              clear bb e0 e1 e2 e3 q0 q1 q2 q3 q4 q5 q6 q7 B8 P8 Q8 B6 P6
              go_wp2_with fail
              go_loopw [9] (fun xv wr => ∃ x : Int, -1 ≤ x ∧ x ≤ 2 ∧ xv = .int .i64 x ∧ Hid (Below w.heap.size w wr) ∧ Hid (StateAt wr d s) ∧ Hid (PickAt wr c p)) (fun xv _ => (3 - intOf xv).toNat)
              case atStart => exact ⟨-1, by omega, by omega, rfl, B9, P9, Q9⟩
              case round =>
                clear B9 P9 Q9
                obtain ⟨x, x0, x2, rfl, B9, P9, Q9⟩ := hrel
                by_cases hlt : x ≤ 1
                · have CX2 := Lib.hid (CX1.out x x0 hlt)
                  have CY2 := Lib.hid (CY1.out x x0 hlt)
                  obtain ⟨t, ht⟩ : ∃ t, afterS s p x = t := ⟨_, rfl⟩
                  rw [ht] at CX2 CY2
                  clear ht
                  unfold stateV at CX2 CY2
                  obtain ⟨e0, e1, e2, e3, -⟩ := P9.out
                  obtain ⟨q0, q1, q2, q3, q4, q5, q6, q7, -⟩ := Q9.out
                  go_wp2_with fail
                  refine (CX2.out _).mono ?_
                  rintro e w10 ⟨rfl, bb⟩
                  have aa := alloc_below w10 (.cells #[.int .i64 t.b, .int .i64 t.h, .int .i64 t.l, .int .i64 t.g] 32)
                  have B10 := Lib.hid (below_up (below_up B9.out bb) aa)
                  have P10 := Lib.hid ((P9.out.below bb).below aa)
                  have Q10 := Lib.hid ((Q9.out.below bb).below aa)
                  clear bb aa e0 e1 e2 e3 q0 q1 q2 q3 q4 q5 q6 q7
                  go_wp2_with fail
                  refine (CY2.out _).mono ?_
                  rintro e w11 ⟨rfl, bb⟩
                  have B11 := Lib.hid (below_up B10.out bb)
                  have P11 := Lib.hid (P10.out.below bb)
                  have Q11 := Lib.hid (Q10.out.below bb)
                  clear bb
                  go_wp2
                  go_roundw
                  case rel => exact ⟨x + 1, by omega, by omega, by go_num, B11, P11, Q11⟩
                  case measure => simp [intOf]; omega
                · go_wp2
                  go_ret
                  exact ⟨rfl, B9.out⟩
      · obtain rfl : k = 0 := by omega
        clear FI CI
        go_wp2_with fail
        go_loopw [6] (fun iv wr => ∃ i : Nat, i ≤ 4 ∧ iv = .int .i64 i ∧ Hid (Below w.heap.size w wr) ∧ Hid (StateAt wr d s)) (fun iv _ => 5 - (intOf iv).toNat)
        case atStart => exact ⟨0, by omega, rfl, B5, P5⟩
        case round =>
          clear B5 P5
          obtain ⟨i, hi, rfl, B6, P6⟩ := hrel
          by_cases hlt : i ≤ 3
          · have h1 := F1.out i hlt
            have i3 : (i : Int) ≤ 3 := by omega
            have i0 : (0 : Int) ≤ (i : Int) := by omega
            have CA1 := Lib.hid (CA.out i)
            rw [h1] at CA1
            clear h1
            obtain ⟨e0, e1, e2, e3, -⟩ := P6.out
            have hki : (0 : Int) ≤ 0 ∧ (0 : Int) ≤ (i : Int) := ⟨by omega, i0⟩
            rw [decide_eq_true hki] at CA1
            clear hki
            go_wp2_with fail
            refine (CA1.out _).mono ?_
            rintro e w7 ⟨rfl, bb⟩
            have B7 := Lib.hid (below_up B6.out bb)
            have P7 := Lib.hid (P6.out.below bb)
            clear bb e0 e1 e2 e3
            go_wp2
            go_roundw
            case rel => exact ⟨i + 1, by omega, by go_num, B7, P7⟩
            case measure => simp [intOf]; omega
          · obtain rfl : i = 4 := by omega
            clear hi hlt CA F1
            obtain ⟨e0, e1, e2, e3, -⟩ := P6.out
            have CP1 := Lib.hid (CP.out 1)
            generalize (pickO s 1).getD zeroP = p at CP1
            generalize (pickO s 1).isSome = ok at CP1
            unfold pickV at CP1
            clear F2 F3 CP CK CX CY
            go_wp2_with fail
            refine (CP1.out _).mono ?_
            rintro e w8 ⟨rfl, bb⟩
            have B8 := Lib.hid (below_up (below_up B6.out bb) (alloc_below w8 (.cells #[.int .i64 p.bl, .int .i64 p.br, .int .i64 p.hl, .int .i64 p.hr, .int .i64 p.ll, .int .i64 p.lr, .int .i64 p.gl, .int .i64 p.gr] 34)))
            clear bb e0 e1 e2 e3
            go_wp2
            go_ret
            exact ⟨rfl, B8.out⟩
    · obtain rfl := f2 (by omega)
      have B5 := B4
      have P5 := P4
      clear P4 B4
      clear FI CI
      go_wp2_with fail
      go_loopw [6] (fun iv wr => ∃ i : Nat, i ≤ 4 ∧ iv = .int .i64 i ∧ Hid (Below w.heap.size w wr) ∧ Hid (StateAt wr d s)) (fun iv _ => 5 - (intOf iv).toNat)
      case atStart => exact ⟨0, by omega, rfl, B5, P5⟩
      case round =>
        clear B5 P5
        obtain ⟨i, hi, rfl, B6, P6⟩ := hrel
        by_cases hlt : i ≤ 3
        · have h1 := F1.out i hlt
          have i3 : (i : Int) ≤ 3 := by omega
          have i0 : (0 : Int) ≤ (i : Int) := by omega
          have CA1 := Lib.hid (CA.out i)
          rw [h1] at CA1
          clear h1
          obtain ⟨e0, e1, e2, e3, -⟩ := P6.out
          have hki : (0 : Int) ≤ 0 ∧ (0 : Int) ≤ (i : Int) := ⟨by omega, i0⟩
          rw [decide_eq_true hki] at CA1
          clear hki
          go_wp2_with fail
          refine (CA1.out _).mono ?_
          rintro e w7 ⟨rfl, bb⟩
          have B7 := Lib.hid (below_up B6.out bb)
          have P7 := Lib.hid (P6.out.below bb)
          clear bb e0 e1 e2 e3
          go_wp2
          go_roundw
          case rel => exact ⟨i + 1, by omega, by go_num, B7, P7⟩
          case measure => simp [intOf]; omega
        · obtain rfl : i = 4 := by omega
          clear hi hlt CA F1
          obtain ⟨e0, e1, e2, e3, -⟩ := P6.out
          have CP1 := Lib.hid (CP.out 1)
          generalize (pickO s 1).getD zeroP = p at CP1
          generalize (pickO s 1).isSome = ok at CP1
          unfold pickV at CP1
          clear F2 F3 CP CK CX CY
          go_wp2_with fail
          refine (CP1.out _).mono ?_
          rintro e w8 ⟨rfl, bb⟩
          have B8 := Lib.hid (below_up (below_up B6.out bb) (alloc_below w8 (.cells #[.int .i64 p.bl, .int .i64 p.br, .int .i64 p.hl, .int .i64 p.hr, .int .i64 p.ll, .int .i64 p.lr, .int .i64 p.gl, .int .i64 p.gr] 34)))
          clear bb e0 e1 e2 e3
          go_wp2
          go_ret
          exact ⟨rfl, B8.out⟩
  · obtain rfl : k = -1 := by omega
    have hn : 1 < n := by
      by_cases h : n ≤ 1
      · have := f2 h; omega
      · omega
    have B5 := B4
    have P5 := P4
    clear P4 B4 f2
    clear FI CI
    go_wp2_with fail
    go_loopw [6] (fun iv wr => ∃ i : Nat, i ≤ 4 ∧ iv = .int .i64 i ∧ Hid (Below w.heap.size w wr) ∧ Hid (StateAt wr d s)) (fun iv _ => 5 - (intOf iv).toNat)
    case atStart => exact ⟨0, by omega, rfl, B5, P5⟩
    case round =>
      clear B5 P5
      obtain ⟨i, hi, rfl, B6, P6⟩ := hrel
      by_cases hlt : i ≤ 3
      · have h1 := F1.out i hlt
        have i3 : (i : Int) ≤ 3 := by omega
        have i0 : (0 : Int) ≤ (i : Int) := by omega
        have CA1 := Lib.hid (CA.out i)
        rw [h1] at CA1
        clear h1
        obtain ⟨e0, e1, e2, e3, -⟩ := P6.out
        have hki : ¬ ((0 : Int) ≤ -1 ∧ (-1 : Int) ≤ (i : Int)) := by omega
        rw [decide_eq_false hki] at CA1
        clear hki
        go_wp2_with fail
        refine (CA1.out _).mono ?_
        rintro e w7 ⟨rfl, bb⟩
        have B7 := Lib.hid (below_up B6.out bb)
        have P7 := Lib.hid (P6.out.below bb)
        clear bb e0 e1 e2 e3
        go_wp2
        go_roundw
        case rel => exact ⟨i + 1, by omega, by go_num, B7, P7⟩
        case measure => simp [intOf]; omega
      · obtain rfl : i = 4 := by omega
        clear hi hlt CA F1
        obtain ⟨e0, e1, e2, e3, -⟩ := P6.out
        have h2 := F2.out (by first | rfl | trivial)
        have CP1 := Lib.hid (CP.out 1)
        rw [h2] at CP1
        replace CP1 : Hid (∀ W, Calls Try.prog 40 #[.agg #[.int .i64 s.b, .int .i64 s.h, .int .i64 s.l, .int .i64 s.g], .int .i64 1] W fun e w' => e = .returned (.tuple #[.agg #[.int .i64 0, .int .i64 0, .int .i64 0, .int .i64 0, .int .i64 0, .int .i64 0, .int .i64 0, .int .i64 0], .bool false]) ∧ Below W.heap.size W w') := CP1
        clear F2 F3 CP CK CX CY h2
        go_wp2_with fail
        refine (CP1.out _).mono ?_
        rintro e w8 ⟨rfl, bb⟩
        have B8 := Lib.hid (below_up (below_up B6.out bb) (alloc_below w8 (.cells #[.int .i64 0, .int .i64 0, .int .i64 0, .int .i64 0, .int .i64 0, .int .i64 0, .int .i64 0, .int .i64 0] 34)))
        clear bb e0 e1 e2 e3
        go_wp2
        go_ret
        exact ⟨rfl, B8.out⟩
end Go.Proofs.Ytbkhmlkicafheaa
