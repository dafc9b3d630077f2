/- The walk of the law of every state round the contracts of the program's functions: it returns true for every state. No condition. -/
import Derived.Test.YtbkhmlkicafheaaBoundLaws
import Derived.Test.YtbkhmlkicafheaaGFinds
import Derived.Test.YtbkhmlkicafheaaAfterLaw
import Derived.Test.YtbkhmlkicafheaaGBounds
import Derived.Deep.DeepCutAuto
import Derived.BigQuiet
import Derived.Deep.QuietTactic
namespace Go.Proofs.Ytbkhmlkicafheaa
open Go.RowKit

set_option maxRecDepth 100000 in
set_option maxHeartbeats 16000000 in
theorem lawEveryState (s : SD) (IOk : StateOkIs 38 s) (IF : ∀ s, FewestIs 37 s) (II : ∀ n, InfoBoundIs 14 n) (IM : ∀ k g W, Calls Try.prog 16 #[.int .i64 k, .bool g] W fun e w' => e = .returned (.int .i64 (mostI k g)) ∧ W = w') (w : World) :
    Calls Try.prog 10 #[stateV s] w fun e w' => e = .returned (.bool true) ∧ Below w.heap.size w w' := by
  have CO := Lib.hid IOk
  have CS := Lib.hid (specStateOk s)
  have CF := Lib.hid (IF s)
  have CT : Hid (∀ W, Calls Try.prog 43 #[.agg #[.int .i64 s.b, .int .i64 s.h, .int .i64 s.l, .int .i64 (s.g + 1)]] W fun e w' => e = .returned (.bool (stateB (s.more 1))) ∧ Below W.heap.size W w') := Lib.hid (specStateOk (s.more 1))
  have CG : Hid (∀ W, Calls Try.prog 37 #[.agg #[.int .i64 s.b, .int .i64 s.h, .int .i64 s.l, .int .i64 (s.g + 1)]] W fun e w' => e = .returned (.int .i64 (fewestI (s.more 1))) ∧ Below W.heap.size W w') := Lib.hid (IF (s.more 1))
  have CI := Lib.hid (II (countS s))
  have CM := Lib.hid IM
  clear IOk IF II IM
  unfold StateOkIs at CO
  unfold FewestIs at CF
  unfold InfoBoundIs at CI
  have E0 : Hid (stateB s = false → fewestI s = -1) := fewest_not
  have E1 : Hid (stateB s = true → countS s ≠ 0 → 0 ≤ fewestI s → infoI (countS s) ≤ fewestI s) := every1
  have E2 : Hid (stateB s = true → stateB (s.more 1) = true → 0 ≤ fewestI s → 0 ≤ fewestI (s.more 1) ∧ fewestI (s.more 1) ≤ fewestI s) := every2
  have E3 : Hid (stateB s = true → countS s ≠ 0 → s.b = 0 → (s.h = 0 ∨ s.l = 0) → 0 < s.g → fewestI s = infoI (countS s)) := every3
  have E5 : Hid (stateB s = true → countS s ≠ 0 → s.h = 0 → s.l = 0 → (fewestI s = -1 → mostI 3 (decide (0 < s.g)) < s.b ∨ (¬ 0 < s.g ∧ s.b < 3)) ∧ (fewestI s ≠ -1 → s.b ≤ mostI (fewestI s) (decide (0 < s.g)) ∧ mostI (fewestI s - 1) (decide (0 < s.g)) < s.b)) := every5
  have EK : Hid (stateB s = true → -1 ≤ fewestI s ∧ fewestI s ≤ 3) := by
    intro h
    rcases fewest_ways h with ⟨e, -⟩ | ⟨e, -⟩ | ⟨e, -⟩ | ⟨e, -⟩ | ⟨e, -⟩ <;> rw [e] <;> omega
  have EI : Hid (stateB s = true → (0 ≤ s.b ∧ s.b ≤ 13) ∧ (0 ≤ s.h ∧ s.h ≤ 13) ∧ (0 ≤ s.l ∧ s.l ≤ 13) ∧ (0 ≤ s.g ∧ s.g ≤ 13)) := fun h => by
    obtain ⟨h0, h1, h2, h3, -, -⟩ := stateB_in h
    exact ⟨h0, h1, h2, h3⟩
  have HCn : Hid (countS s = 2 * s.b + s.h + s.l) := rfl
  generalize fewestI (s.more 1) = kt at CG E2
  generalize stateB (s.more 1) = tb at CT E2
  generalize infoI (countS s) = ib at CI E1 E3
  generalize countS s = c at CI E1 E3 E5 HCn
  generalize fewestI s = k at CF E0 E1 E2 E3 E5 EK
  generalize stateB s = sb at CO CS E0 E1 E2 E3 E5 EK EI
  have P0 := Lib.hid (StateAt.new w 32 s)
  have B0 := Lib.hid (alloc_below w (.cells #[.int .i64 s.b, .int .i64 s.h, .int .i64 s.l, .int .i64 s.g] 32))
  unfold stateV at CO CS CF ⊢
  generalize hX : w.alloc (.cells #[.int .i64 s.b, .int .i64 s.h, .int .i64 s.l, .int .i64 s.g] 32) = X at P0 B0
  go_enter Try.func10, Try.ntmps10
  go_upto_region 1 with fail
  clear hX
  cases sb with
  | false =>
    have HK := E0.out rfl
    clear E0 E1 E2 E3 E5 EK EI
    go_region_held3 (fun w' => w'.cell? ⟨w.heap.size, 0, none⟩ = some (.int .i64 s.b) ∧ w'.cell? ⟨w.heap.size, 1, none⟩ = some (.int .i64 s.h) ∧ w'.cell? ⟨w.heap.size, 2, none⟩ = some (.int .i64 s.l) ∧ w'.cell? ⟨w.heap.size, 3, none⟩ = some (.int .i64 s.g) ∧ w.heap.size < w'.heap.size)
      (first | with_reducible exact P2.out.cells | with_reducible exact P1.out.cells | with_reducible exact P0.out.drewT.cells | fail)
      (first
        | (go_at_call 38; refine (CO.out _).mono ?_; rintro e w1 ⟨rfl, b1⟩; have B1 := Lib.hid (below_up B0.out.drew b1); have P1 := Lib.hid (P0.out.drewT.below b1); clear b1)
        | (go_at_call 43; refine (CS.out _).mono ?_; rintro e w2 ⟨rfl, b2⟩; have B2 := Lib.hid (below_up B1.out b2); have P2 := Lib.hid (P1.out.below b2); clear b2)
        | fail)
    all_goals
      obtain ⟨e0, e1, e2, e3, -⟩ := P2.out
      go_wp2_with fail
      refine (CF.out _).mono ?_
      rintro e w3 ⟨rfl, bb⟩
      have B3 := Lib.hid (below_up B2.out bb)
      have P3 := Lib.hid (P2.out.below bb)
      clear bb e0 e1 e2 e3
      obtain ⟨e0, e1, e2, e3, -⟩ := P3.out
      go_wp2_with fail
      refine (CS.out _).mono ?_
      rintro e w4 ⟨rfl, bb⟩
      have B4 := Lib.hid (below_up B3.out bb)
      have P4 := Lib.hid (P3.out.below bb)
      clear bb e0 e1 e2 e3
      subst HK
      go_wp2
      go_ret
      exact ⟨rfl, B4.out⟩
  | true =>
    obtain ⟨k0, k3⟩ := EK.out rfl
    obtain ⟨⟨sb0, sb1⟩, ⟨sh0, sh1⟩, ⟨sl0, sl1⟩, ⟨sg0, sg1⟩⟩ := EI.out rfl
    replace E1 := Lib.hid (E1.out rfl)
    replace E2 := Lib.hid (E2.out rfl)
    replace E3 := Lib.hid (E3.out rfl)
    replace E5 := Lib.hid (E5.out rfl)
    have v1 : IntKind.i64.wrap (2 * s.b) = 2 * s.b := by rw [IntKind.wrap_i64]; omega
    have v2 : IntKind.i64.wrap (2 * s.b + s.h) = 2 * s.b + s.h := by rw [IntKind.wrap_i64]; omega
    have v3 : IntKind.i64.wrap (2 * s.b + s.h + s.l) = 2 * s.b + s.h + s.l := by rw [IntKind.wrap_i64]; omega
    have v4 : IntKind.i64.wrap (s.g + 1) = s.g + 1 := by rw [IntKind.wrap_i64]; omega
    clear EK EI E0
    go_region_held3 (fun w' => w'.cell? ⟨w.heap.size, 0, none⟩ = some (.int .i64 s.b) ∧ w'.cell? ⟨w.heap.size, 1, none⟩ = some (.int .i64 s.h) ∧ w'.cell? ⟨w.heap.size, 2, none⟩ = some (.int .i64 s.l) ∧ w'.cell? ⟨w.heap.size, 3, none⟩ = some (.int .i64 s.g) ∧ w.heap.size < w'.heap.size)
      (first | with_reducible exact P2.out.cells | with_reducible exact P1.out.cells | with_reducible exact P0.out.drewT.cells | fail)
      (first
        | (go_at_call 38; refine (CO.out _).mono ?_; rintro e w1 ⟨rfl, b1⟩; have B1 := Lib.hid (below_up B0.out.drew b1); have P1 := Lib.hid (P0.out.drewT.below b1); clear b1)
        | (go_at_call 43; refine (CS.out _).mono ?_; rintro e w2 ⟨rfl, b2⟩; have B2 := Lib.hid (below_up B1.out b2); have P2 := Lib.hid (P1.out.below b2); clear b2)
        | fail)
    all_goals
      obtain ⟨e0, e1, e2, e3, -⟩ := P2.out
      go_wp2_with fail
      refine (CF.out _).mono ?_
      rintro e w3 ⟨rfl, bb⟩
      have B3 := Lib.hid (below_up B2.out bb)
      have P3 := Lib.hid (P2.out.below bb)
      clear bb e0 e1 e2 e3
      obtain ⟨e0, e1, e2, e3, -⟩ := P3.out
      go_wp2_with fail
      refine (CS.out _).mono ?_
      rintro e w4 ⟨rfl, bb⟩
      have B4 := Lib.hid (below_up B3.out bb)
      have P4 := Lib.hid (P3.out.below bb)
      clear bb e0 e1 e2 e3
      clear P0 P1 P2 P3 B0 B1 B2 B3 CO CS CF
      obtain ⟨e0, e1, e2, e3, -⟩ := P4.out
      by_cases hc : c = 0
      · have hc2 : 2 * s.b + s.h + s.l = 0 := by rw [← HCn.out]; exact hc
        clear hc
        go_wp2
        go_ret
        exact ⟨rfl, B4.out⟩
      · have hc2 : ¬ 2 * s.b + s.h + s.l = 0 := by rw [← HCn.out]; exact hc
        have HC := Lib.hid hc
        rw [HCn.out] at CI
        clear hc
        go_upto_region 9 with fail
        obtain ⟨n, hn⟩ : ∃ n, 2 * s.b + s.h + s.l = n := ⟨_, rfl⟩
        have HS := Lib.hid hn
        rw [hn] at CI hc2 ⊢
        clear hn v1 v2 v3 HCn
        go_cut [38] (fun v wx => v = .bool false ∧ Hid (Below w.heap.size w wx) ∧ Hid (StateAt wx w.heap.size s))
        case first =>
          by_cases hk : 0 ≤ k
          · have hib := E1.out HC.out hk
            go_wp2_with fail
            refine (CI.out _).mono ?_
            rintro e w5 ⟨rfl, bb⟩
            have B5 := Lib.hid (below_up B4.out bb)
            have P5 := Lib.hid (P4.out.below bb)
            clear bb e0 e1 e2 e3
            go_wp2
            go_meet
            case rel => exact ⟨by first | rfl | exact congrArg Value.bool (decide_eq_false (by omega)), B5, P5⟩
          · go_wp2
            go_meet
            case rel => exact ⟨rfl, B4, P4⟩
        case rest =>
          clear e0 e1 e2 e3 B4 P4 E1
          obtain ⟨rfl, B5, P5⟩ := hcut
          obtain ⟨e0, e1, e2, e3, -⟩ := P5.out
          have a6 := alloc_below wc (.cells #[.int .i64 s.b, .int .i64 s.h, .int .i64 s.l, .int .i64 (s.g + 1)] 32)
          have T6 : StateAt (wc.alloc (.cells #[.int .i64 s.b, .int .i64 s.h, .int .i64 s.l, .int .i64 (s.g + 1)] 32)) wc.heap.size ⟨s.b, s.h, s.l, s.g + 1⟩ := StateAt.new wc 32 ⟨s.b, s.h, s.l, s.g + 1⟩
          have B6 := Lib.hid (below_up B5.out a6)
          have P6 := Lib.hid (P5.out.below a6)
          go_wp2_with fail
          refine (CT.out _).mono ?_
          rintro e w7 ⟨rfl, b7⟩
          have B7 := Lib.hid (below_up B6.out b7)
          have P7 := Lib.hid (P6.out.below b7)
          have T7 := Lib.hid (T6.below b7)
          clear b7 T6 B6 P6 a6 e0 e1 e2 e3
          go_upto_if 45 with fail
          go_cut [] (fun wx => Hid (Below w.heap.size w wx) ∧ Hid (StateAt wx w.heap.size s))
          case first =>
            cases tb with
            | false =>
              go_wp2
              go_meet
              case rel => exact ⟨B7, P7⟩
            | true =>
              have hj := Lib.hid (E2.out rfl)
              obtain ⟨t0, t1, t2, t3, -⟩ := T7.out
              go_wp2_with fail
              refine (CG.out _).mono ?_
              rintro e w8 ⟨rfl, b8⟩
              have B9 := Lib.hid (below_up B7.out b8)
              have P9 := Lib.hid (P7.out.below b8)
              clear b8 t0 t1 t2 t3
              by_cases hk : 0 ≤ k
              · obtain ⟨j0, j1⟩ := hj.out hk
                go_wp2
                go_meet
                case rel => exact ⟨B9, P9⟩
              · go_wp2
                go_meet
                case rel => exact ⟨B9, P9⟩
          case rest =>
            clear B5 P5 B7 P7 T7 E2 CT CG
            obtain ⟨B9, P9⟩ := hcut
            obtain ⟨e0, e1, e2, e3, -⟩ := P9.out
            go_upto_region 17 with fail
            go_cut [82] (fun v wx => v = .bool false ∧ Hid (Below w.heap.size w wx) ∧ Hid (StateAt wx w.heap.size s))
            case first =>
              by_cases hb : s.b = 0
              · have kb : (s.b == 0) = true := by simp [hb]
                replace hb := Lib.hid hb
                by_cases hg : 0 < s.g
                · by_cases hh : s.h = 0
                  · have kh : (s.h == 0) = true := by simp [hh]
                    have HK2 := Lib.hid (E3.out HC.out hb.out (.inl hh) hg)
                    replace hh := Lib.hid hh
                    go_wp2_with fail
                    refine (CI.out _).mono ?_
                    rintro e w10 ⟨rfl, bb⟩
                    have B10 := Lib.hid (below_up B9.out bb)
                    have P10 := Lib.hid (P9.out.below bb)
                    clear bb
                    go_wp2
                    go_meet
                    case rel => exact ⟨by rw [← HK2.out]; simp, B10, P10⟩
                  · have kh : (s.h == 0) = false := beq_eq_false_iff_ne.2 hh
                    by_cases hl : s.l = 0
                    · have kl : (s.l == 0) = true := by simp [hl]
                      have HK2 := Lib.hid (E3.out HC.out hb.out (.inr hl) hg)
                      replace hl := Lib.hid hl
                      go_wp2_with fail
                      refine (CI.out _).mono ?_
                      rintro e w10 ⟨rfl, bb⟩
                      have B10 := Lib.hid (below_up B9.out bb)
                      have P10 := Lib.hid (P9.out.below bb)
                      clear bb
                      go_wp2
                      go_meet
                      case rel => exact ⟨by rw [← HK2.out]; simp, B10, P10⟩
                    · have kl : (s.l == 0) = false := beq_eq_false_iff_ne.2 hl
                      go_wp2
                      go_meet
                      case rel => exact ⟨rfl, B9, P9⟩
                · by_cases hh : s.h = 0
                  · have kh : (s.h == 0) = true := by simp [hh]
                    replace hh := Lib.hid hh
                    go_wp2
                    go_meet
                    case rel => exact ⟨rfl, B9, P9⟩
                  · have kh : (s.h == 0) = false := beq_eq_false_iff_ne.2 hh
                    by_cases hl : s.l = 0
                    · have kl : (s.l == 0) = true := by simp [hl]
                      replace hl := Lib.hid hl
                      go_wp2
                      go_meet
                      case rel => exact ⟨rfl, B9, P9⟩
                    · have kl : (s.l == 0) = false := beq_eq_false_iff_ne.2 hl
                      go_wp2
                      go_meet
                      case rel => exact ⟨rfl, B9, P9⟩
              · have kb : (s.b == 0) = false := beq_eq_false_iff_ne.2 hb
                go_wp2
                go_meet
                case rel => exact ⟨rfl, B9, P9⟩
            case rest =>
              clear e0 e1 e2 e3 B9 P9 E3 CI
              obtain ⟨rfl, B9, P9⟩ := hcut
              obtain ⟨e0, e1, e2, e3, -⟩ := P9.out
              by_cases hh : 0 < s.h
              · go_wp2
                go_ret
                exact ⟨rfl, B9.out⟩
              · by_cases hl : 0 < s.l
                · go_wp2
                  go_ret
                  exact ⟨rfl, B9.out⟩
                · obtain ⟨E6, E7⟩ := E5.out HC.out (by omega) (by omega)
                  replace E6 := Lib.hid E6
                  replace E7 := Lib.hid E7
                  have w1 : IntKind.i64.wrap (k - 1) = k - 1 := by rw [IntKind.wrap_i64]; omega
                  clear E5 HC HS hc2
                  by_cases hg : 0 < s.g
                  · rw [decide_eq_true hg] at E6 E7
                    have hgb : decide (0 < s.g) = true := decide_eq_true hg
                    by_cases hm : k = -1
                    · have h6 := E6.out hm
                      generalize hM : mostI 3 true = m3 at h6
                      have CM3 : Hid (∀ W, Calls Try.prog 16 #[.int .i64 3, .bool true] W fun e w' => e = .returned (.int .i64 m3) ∧ W = w') := by rw [← hM]; exact fun W => CM.out 3 true W
                      clear hM E6 E7 CM w1 k0 k3
                      subst hm
                      have h7 : m3 < s.b := h6.resolve_right fun h => by have := h.1; omega
                      clear h6
                      have hmb : decide (m3 < s.b) = true := decide_eq_true h7
                      go_upto_region 23 with fail
                      go_quiet (first | (go_at_call 16; exact quiet_of (CM3.out _)) | fail)
                      go_wp2
                      go_ret
                      exact ⟨rfl, below_drewN B9.out _⟩
                    · obtain ⟨h7, h8⟩ := E7.out hm
                      generalize hM : mostI k true = m1 at h7
                      generalize hN : mostI (k - 1) true = m2 at h8
                      have CM1 : Hid (∀ W, Calls Try.prog 16 #[.int .i64 k, .bool true] W fun e w' => e = .returned (.int .i64 m1) ∧ Below W.heap.size W w') := by rw [← hM]; exact fun W => (CM.out k true W).mono fun _ _ h => ⟨h.1, h.2 ▸ Below.refl _ _⟩
                      have CM2 : Hid (∀ W, Calls Try.prog 16 #[.int .i64 (k - 1), .bool true] W fun e w' => e = .returned (.int .i64 m2) ∧ Below W.heap.size W w') := by rw [← hN]; exact fun W => (CM.out (k - 1) true W).mono fun _ _ h => ⟨h.1, h.2 ▸ Below.refl _ _⟩
                      clear hM hN E6 E7 CM
                      have hma : decide (s.b ≤ m1) = true := decide_eq_true h7
                      have hmb : decide (m2 < s.b) = true := decide_eq_true h8
                      go_upto_region 24 with fail
                      first | (go_region_held3 (fun w' => w'.cell? ⟨w.heap.size, 0, none⟩ = some (.int .i64 s.b) ∧ w'.cell? ⟨w.heap.size, 1, none⟩ = some (.int .i64 s.h) ∧ w'.cell? ⟨w.heap.size, 2, none⟩ = some (.int .i64 s.l) ∧ w'.cell? ⟨w.heap.size, 3, none⟩ = some (.int .i64 s.g) ∧ w.heap.size < w'.heap.size)
                          (first | with_reducible exact P12.out.cells | with_reducible exact P11.out.cells | with_reducible exact P9.out.drewT.cells | fail)
                          (first
                            | (go_at_call 16; (first
                                | (have b12 := B11; clear b12; refine (CM2.out _).mono ?_; rintro e w12 ⟨rfl, b12⟩; have B12 := Lib.hid (below_up B11.out b12); have P12 := Lib.hid (P11.out.below b12); clear b12)
                                | (refine (CM1.out _).mono ?_; rintro e w11 ⟨rfl, b11⟩; have B11 := Lib.hid (below_up B9.out.drew b11); have P11 := Lib.hid (P9.out.drewT.below b11); clear b11)))
                            | fail)) | fail
                      all_goals
                        go_wp2
                        go_ret
                        exact ⟨rfl, B12.out⟩
                  · rw [decide_eq_false hg] at E6 E7
                    have hgb : decide (0 < s.g) = false := decide_eq_false hg
                    by_cases hm : k = -1
                    · have h6 := E6.out hm
                      generalize hM : mostI 3 false = m3 at h6
                      have CM3 : Hid (∀ W, Calls Try.prog 16 #[.int .i64 3, .bool false] W fun e w' => e = .returned (.int .i64 m3) ∧ W = w') := by rw [← hM]; exact fun W => CM.out 3 false W
                      clear hM E6 E7 CM w1 k0 k3
                      subst hm
                      by_cases h7 : m3 < s.b
                      · clear h6
                        have hmb : decide (m3 < s.b) = true := decide_eq_true h7
                        go_upto_region 23 with fail
                        go_quiet (first | (go_at_call 16; exact quiet_of (CM3.out _)) | fail)
                        go_wp2
                        go_ret
                        exact ⟨rfl, below_drewN B9.out _⟩
                      · have h8 : s.b < 3 := (h6.resolve_left h7).2
                        clear h6
                        have hmb : decide (m3 < s.b) = false := decide_eq_false h7
                        have hmc : decide (s.b < 3) = true := decide_eq_true h8
                        go_upto_region 23 with fail
                        go_quiet (first | (go_at_call 16; exact quiet_of (CM3.out _)) | fail)
                        go_wp2
                        go_ret
                        exact ⟨rfl, below_drewN B9.out _⟩
                    · obtain ⟨h7, h8⟩ := E7.out hm
                      generalize hM : mostI k false = m1 at h7
                      generalize hN : mostI (k - 1) false = m2 at h8
                      have CM1 : Hid (∀ W, Calls Try.prog 16 #[.int .i64 k, .bool false] W fun e w' => e = .returned (.int .i64 m1) ∧ Below W.heap.size W w') := by rw [← hM]; exact fun W => (CM.out k false W).mono fun _ _ h => ⟨h.1, h.2 ▸ Below.refl _ _⟩
                      have CM2 : Hid (∀ W, Calls Try.prog 16 #[.int .i64 (k - 1), .bool false] W fun e w' => e = .returned (.int .i64 m2) ∧ Below W.heap.size W w') := by rw [← hN]; exact fun W => (CM.out (k - 1) false W).mono fun _ _ h => ⟨h.1, h.2 ▸ Below.refl _ _⟩
                      clear hM hN E6 E7 CM
                      have hma : decide (s.b ≤ m1) = true := decide_eq_true h7
                      have hmb : decide (m2 < s.b) = true := decide_eq_true h8
                      go_upto_region 24 with fail
                      first | (go_region_held3 (fun w' => w'.cell? ⟨w.heap.size, 0, none⟩ = some (.int .i64 s.b) ∧ w'.cell? ⟨w.heap.size, 1, none⟩ = some (.int .i64 s.h) ∧ w'.cell? ⟨w.heap.size, 2, none⟩ = some (.int .i64 s.l) ∧ w'.cell? ⟨w.heap.size, 3, none⟩ = some (.int .i64 s.g) ∧ w.heap.size < w'.heap.size)
                          (first | with_reducible exact P12.out.cells | with_reducible exact P11.out.cells | with_reducible exact P9.out.drewT.cells | fail)
                          (first
                            | (go_at_call 16; (first
                                | (have b12 := B11; clear b12; refine (CM2.out _).mono ?_; rintro e w12 ⟨rfl, b12⟩; have B12 := Lib.hid (below_up B11.out b12); have P12 := Lib.hid (P11.out.below b12); clear b12)
                                | (refine (CM1.out _).mono ?_; rintro e w11 ⟨rfl, b11⟩; have B11 := Lib.hid (below_up B9.out.drew b11); have P11 := Lib.hid (P9.out.drewT.below b11); clear b11)))
                            | fail)) | fail
                      all_goals
                        go_wp2
                        go_ret
                        exact ⟨rfl, B12.out⟩
end Go.Proofs.Ytbkhmlkicafheaa
