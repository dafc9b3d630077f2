/- The contracts of the model's AsksOk, FitsAfter and IsFound. Conditions: the slices read as integers and as truth values. -/
import Derived.Test.YtnpmkoeceihepaaLiePlain
import Derived.Test.YtnpmkoeceihepaaSetsSpec
namespace Go.Proofs.Ytnpmkoeceihepaa
open Go.RowKit

set_option maxRecDepth 100000 in
set_option maxHeartbeats 3200000 in
theorem specAsksOk (n : Int) (v vr : Value) (P : List Int) (R : List Bool) (w : World) (h : IntsAt w v P) (hr : BoolsAt w vr R) (hm : P.length ≤ 1048576) (hm2 : R.length ≤ 1048576) :
    Calls Try.prog 13 #[.int .i64 n, v, vr] w fun e w' => e = .returned (.bool (asksB n P R)) ∧ w = w' := by
  have CI : Hid (∀ W, Calls Try.prog 33 #[.int .i64 n, .int .i64 1, .int .i64 8] W fun e w' => e = .returned (.bool (numsB n)) ∧ W = w') := fun W => l01In_is n 1 8 W
  have CT := Lib.hid (fun p W => l01In_is p 0 (topI n) W)
  have HP : Hid (asksB n P R = (((numsB n && decide (P.length ≤ 8)) && (R.length == P.length)) && P.all (poolB n))) := rfl
  have HB : Hid (numsB n = true → 1 ≤ n ∧ n ≤ 8) := fun h => by unfold numsB at h; simpa using h
  obtain ⟨a, c, rfl, h⟩ := h
  obtain ⟨a2, c2, rfl, -⟩ := hr
  have H := Lib.hid h
  clear h
  generalize asksB n P R = r at HP ⊢
  obtain ⟨m, hmm⟩ : ∃ m, P.length = m := ⟨_, rfl⟩
  obtain ⟨l, hll⟩ : ∃ l, R.length = l := ⟨_, rfl⟩
  rw [hmm, hll] at HP
  rw [hmm] at hm ⊢
  rw [hll] at hm2 ⊢
  have HN := Lib.hid hmm
  clear hmm hll
  generalize numsB n = ib at CI HP HB
  cases ib with
  | false =>
    have HE : Hid (r = false) := HP.out
    go_enter Try.func13, Try.ntmps13
    go_wp2_with fail
    refine (CI.out _).mono ?_
    rintro e w1 ⟨rfl, rfl⟩
    go_wp2
    go_ret
    exact ⟨ret_bool HE.out.symm, rfl⟩
  | true =>
    obtain ⟨n1, n10⟩ := HB.out rfl
    by_cases h12 : m ≤ 8
    · have k12 : ¬ (8 : Int) < (m : Int) := by omega
      by_cases hl : l = m
      · subst hl
        have HE : Hid (r = P.all (poolB n)) := by unfold Hid; rw [HP.out, decide_eq_true h12]; simp
        have hne : ((l : Int) == (l : Int)) = true := by simp
        obtain ⟨hs1, hs2, hs3, hs4⟩ := shl_top n1 (by omega)
        rw [hs2] at hs1
        clear HP HB
        go_enter Try.func13, Try.ntmps13
        go_wp2_with fail
        refine (CI.out _).mono ?_
        rintro e w1 ⟨rfl, rfl⟩
        go_wp2_with fail
        clear k12 hne
        go_loopw [26] (fun iv wr => ∃ i : Nat, i ≤ l ∧ iv = .int .i64 i ∧ wr = w ∧ Hid ((P.take i).all (poolB n) = true)) (fun iv _ => l - (intOf iv).toNat)
        case atStart => exact ⟨0, Nat.zero_le _, rfl, rfl, by unfold Hid; simp⟩
        case round =>
          obtain ⟨i, hi, rfl, rfl, HT⟩ := hrel
          by_cases hlt : i < l
          · have hil : i < P.length := by rw [HN.out]; exact hlt
            rcases H.out with h0 | ⟨b, o, rfl, hc⟩
            · rw [h0] at hil; simp at hil
            have e0 := hc i hil
            obtain ⟨p, hp⟩ : ∃ p, P[i] = p := ⟨_, rfl⟩
            rw [hp] at e0
            have HTS : Hid ((P.take (i + 1)).all (poolB n) = poolB n p) := by unfold Hid; rw [List.take_succ_eq_append_getElem hil, List.all_append, HT.out, hp]; simp
            have HNO : Hid (poolB n p = false → P.all (poolB n) = false) := fun hb => by
              rw [List.all_eq_false]
              exact ⟨P[i], List.getElem_mem hil, by rw [hp, hb]; simp⟩
            have CT1 : Hid (∀ W, Calls Try.prog 33 #[.int .i64 p, .int .i64 0, .int .i64 (topI n)] W fun e w' => e = .returned (.bool (poolB n p)) ∧ W = w') := CT.out p
            have i0 : (0 : Int) ≤ (i : Int) := by omega
            have i1 : (i : Int) < (l : Int) := by omega
            generalize poolB n p = pb at HTS HNO CT1
            clear hc hil hp CT
            generalize topI n = T at hs1 hs2 hs3 hs4 CT1
            cases pb with
            | false =>
              have HF : Hid (r = false) := by unfold Hid; rw [HE.out]; exact HNO.out rfl
              go_wp2_with fail
              refine (CT1.out _).mono ?_
              rintro e w2 ⟨rfl, rfl⟩
              go_wp2
              go_ret
              exact ⟨ret_bool HF.out.symm, rfl⟩
            | true =>
              go_wp2_with fail
              refine (CT1.out _).mono ?_
              rintro e w2 ⟨rfl, rfl⟩
              go_wp2
              go_roundw
              case rel => exact ⟨i + 1, by omega, by go_num, by first | rfl | trivial, HTS⟩
              case measure => simp [intOf]; omega
          · obtain rfl : i = l := by omega
            have HF : Hid (r = true) := by
              have := HT.out
              rw [List.take_of_length_le (by rw [HN.out]; omega)] at this
              unfold Hid
              rw [HE.out, this]
            go_wp2
            go_ret
            exact ⟨ret_bool HF.out.symm, rfl⟩
      · have hB : ((l : Int) != (m : Int)) = true := by simp; omega
        have kB : decide ((8 : Int) < (m : Int)) = false := decide_eq_false k12
        have HE : Hid (r = false) := by unfold Hid; rw [HP.out]; simp [hl]
        clear HP HB hl
        go_enter Try.func13, Try.ntmps13
        go_wp2_with fail
        refine (CI.out _).mono ?_
        rintro e w1 ⟨rfl, rfl⟩
        go_wp2
        go_ret
        exact ⟨ret_bool HE.out.symm, rfl⟩
    · have HE : Hid (r = false) := by unfold Hid; rw [HP.out, decide_eq_false h12]; rfl
      have k12 : (8 : Int) < (m : Int) := by omega
      go_enter Try.func13, Try.ntmps13
      go_wp2_with fail
      refine (CI.out _).mono ?_
      rintro e w1 ⟨rfl, rfl⟩
      go_wp2
      go_ret
      exact ⟨ret_bool HE.out.symm, rfl⟩

set_option maxRecDepth 100000 in
set_option maxHeartbeats 6400000 in
theorem specFits (n : Int) (v vr : Value) (P : List Int) (R : List Bool) (w : World) (h : IntsAt w v P) (hr : BoolsAt w vr R) (hm : P.length ≤ 1048576) (hm2 : R.length ≤ 1048576) :
    Calls Try.prog 19 #[.int .i64 n, v, vr] w fun e w' => e = .returned (.tuple #[.int .i64 (fitI n P R 0), .int .i64 (fitI n P R 1)]) ∧ Below w.heap.size w w' := by
  have CA := Lib.hid (specAsksOk n v vr P R w h hr hm hm2)
  have H0 : Hid (fitI n P R 0 = if asksB n P R = true then fitN P R 0 n.toNat else 0) := rfl
  have H1 : Hid (fitI n P R 1 = if asksB n P R = true then fitN P R 1 n.toNat else 0) := rfl
  have HB : Hid (asksB n P R = true → (1 ≤ n ∧ n ≤ 8) ∧ P.length ≤ 8 ∧ R.length = P.length) := fun h => ⟨(asks_in h).1, (asks_in h).2.1, (asks_in h).2.2.1⟩
  obtain ⟨a, c, rfl, h⟩ := h
  obtain ⟨a2, c2, rfl, hr⟩ := hr
  have H := Lib.hid h
  have HR := Lib.hid hr
  clear h hr
  generalize fitI n P R 0 = r0 at H0 ⊢
  generalize fitI n P R 1 = r1 at H1 ⊢
  generalize asksB n P R = pb at CA H0 H1 HB
  cases pb with
  | false =>
    have HE : Hid (r0 = 0) := H0.out
    have HE1 : Hid (r1 = 0) := H1.out
    go_enter Try.func19, Try.ntmps19
    go_wp2_with fail
    refine CA.out.mono ?_
    rintro e w1 ⟨rfl, rfl⟩
    go_wp2
    go_ret2
    rw [HE.out, HE1.out]
    exact ⟨rfl, Below.refl _ _⟩
  | true =>
    obtain ⟨⟨n1, n8⟩, hl8, hrl⟩ := HB.out rfl
    obtain ⟨N, hN⟩ : ∃ N : Nat, n.toNat = N := ⟨_, rfl⟩
    have hnN : n = (N : Int) := by omega
    subst hnN
    have HE : Hid (r0 = fitN P R 0 N) := by unfold Hid; rw [H0.out]; rfl
    have HE1 : Hid (r1 = fitN P R 1 N) := by unfold Hid; rw [H1.out]; rfl
    have N8 : N ≤ 8 := by omega
    rw [hrl] at CA ⊢
    have HRL := Lib.hid hrl
    obtain ⟨m, hmm⟩ : ∃ m, P.length = m := ⟨_, rfl⟩
    have HM := Lib.hid hmm
    rw [hmm] at CA hl8 HRL ⊢
    have HF : Hid (∀ c k, fitN P R c (k + 1) = if (liesF P R k m == c) = true then bits .or .i64 (fitN P R c k) (2 ^ k) else fitN P R c k) := fun c k => by rw [← hmm]; rfl
    clear hm hm2 hrl hmm H0 H1 HB hN
    go_enter Try.func19, Try.ntmps19
    go_wp2_with fail
    refine CA.out.mono ?_
    rintro e w1 ⟨rfl, rfl⟩
    go_wp2_with fail
    go_loopw [8, 9, 10] (fun nv ov kv wr => ∃ k d : Nat, k ≤ N ∧ kv = .int .i64 k ∧ nv = .int .i64 (fitN P R 0 k) ∧ ov = .int .i64 (fitN P R 1 k) ∧ wr = w.drewN d) (fun _ _ kv _ => N - (intOf kv).toNat)
    case atStart => exact ⟨0, 0, Nat.zero_le _, rfl, rfl, rfl, rfl⟩
    case round =>
      obtain ⟨k, d, hk, rfl, rfl, rfl, rfl⟩ := hrel
      by_cases hlt : k < N
      · have kN : (k : Int) < (N : Int) := by omega
        have F0 := Lib.hid (HF.out 0 k)
        have F1 := Lib.hid (HF.out 1 k)
        have kb := pow8 k (by omega)
        have kw : IntKind.i64.wrap (2 ^ k) = 2 ^ k := by rw [IntKind.wrap_i64]; omega
        have L0 : Hid (liesF P R k 0 = 0) := rfl
        have LS : Hid (∀ j, liesF P R k (j + 1) = if ((bits .and .i64 (P.getD j 0) (2 ^ k) != 0) != R.getD j false) = true then liesF P R k j + 1 else liesF P R k j) := fun _ => rfl
        have LB : Hid (∀ j, liesF P R k j ≤ j) := liesF_le P R k
        have ks : ((k : Nat) : Int).toNat = k := Int.toNat_natCast k
        obtain ⟨g0, hg0⟩ : ∃ g, fitN P R 0 k = g := ⟨_, rfl⟩
        obtain ⟨g1, hg1⟩ : ∃ g, fitN P R 1 k = g := ⟨_, rfl⟩
        rw [hg0] at F0 ⊢
        rw [hg1] at F1 ⊢
        clear hg0 hg1
        go_wp2
        go_loopw [11, 26] (fun lv iv wr => ∃ i d : Nat, i ≤ m ∧ iv = .int .i64 i ∧ lv = .int .i64 ((liesF P R k i : Nat) : Int) ∧ wr = w.drewN d) (fun _ iv _ => m - (intOf iv).toNat)
        case atStart => exact ⟨0, d, Nat.zero_le _, rfl, by rw [L0.out]; rfl, rfl⟩
        case round =>
          obtain ⟨i, d, hi, rfl, rfl, rfl⟩ := hrel
          by_cases hlt2 : i < m
          · have h1 : i < P.length := by rw [HM.out]; exact hlt2
            have h2 : i < R.length := by rw [HRL.out]; exact hlt2
            rcases H.out with h0 | ⟨b1, o1, rfl, c1⟩
            · rw [h0] at h1; simp at h1
            rcases HR.out with h0 | ⟨b2, o2, rfl, c2⟩
            · rw [h0] at h2; simp at h2
            have e1 := c1 i h1
            have e2 := c2 i h2
            have HS : Hid (liesF P R k (i + 1) = if ((bits .and .i64 P[i] (2 ^ k) != 0) != R[i]) = true then liesF P R k i + 1 else liesF P R k i) := by
              unfold Hid
              rw [LS.out, getD_at false h2, getD_at 0 h1]
            have hb := LB.out i
            generalize R[i] = x at e2 HS
            generalize P[i] = p at e1 HS
            have i0 : (0 : Int) ≤ (i : Int) := by omega
            have i1 : (i : Int) < (m : Int) := by omega
            clear c1 c2 h1 h2
            generalize liesF P R k i = q at HS hb ⊢
            by_cases hy0 : bits .and .i64 p (2 ^ k) = 0
            · have hyB : (bits .and .i64 p (2 ^ k) == 0) = true := by rw [hy0]; rfl
              have hyN : (bits .and .i64 p (2 ^ k) != 0) = false := by rw [hy0]; rfl
              rw [hyN] at HS
              cases x with
              | false =>
                have HS2 : Hid (liesF P R k (i + 1) = q) := HS.out
                clear HS
                go_wp2
                go_quiet (fail)
                go_wp2
                go_roundw
                case rel => exact ⟨i + 1, _, by omega, by go_num, by rw [HS2.out], rfl⟩
                case measure => simp [intOf]; omega
              | true =>
                have HS2 : Hid (liesF P R k (i + 1) = q + 1) := HS.out
                clear HS
                go_wp2
                go_quiet (fail)
                go_wp2
                go_roundw
                case rel => exact ⟨i + 1, _, by omega, by go_num, by rw [HS2.out]; go_num, rfl⟩
                case measure => simp [intOf]; omega
            · have hyB : (bits .and .i64 p (2 ^ k) == 0) = false := beq_eq_false_iff_ne.2 hy0
              have hyN : (bits .and .i64 p (2 ^ k) != 0) = true := by simpa using hy0
              rw [hyN] at HS
              cases x with
              | false =>
                have HS2 : Hid (liesF P R k (i + 1) = q + 1) := HS.out
                clear HS
                go_wp2
                go_quiet (fail)
                go_wp2
                go_roundw
                case rel => exact ⟨i + 1, _, by omega, by go_num, by rw [HS2.out]; go_num, rfl⟩
                case measure => simp [intOf]; omega
              | true =>
                have HS2 : Hid (liesF P R k (i + 1) = q) := HS.out
                clear HS
                go_wp2
                go_quiet (fail)
                go_wp2
                go_roundw
                case rel => exact ⟨i + 1, _, by omega, by go_num, by rw [HS2.out], rfl⟩
                case measure => simp [intOf]; omega
          · obtain rfl : i = m := by omega
            have hb := LB.out i
            clear L0 LS LB
            generalize liesF P R k i = q at F0 F1 hb ⊢
            by_cases q0 : q = 0
            · subst q0
              have Z0 : Hid (fitN P R 0 (k + 1) = bits .or .i64 g0 (2 ^ k)) := F0.out
              have Z1 : Hid (fitN P R 1 (k + 1) = g1) := F1.out
              clear F0 F1
              go_wp2
              go_roundw
              case rel => exact ⟨k + 1, _, by omega, by go_num, by rw [Z0.out], by rw [Z1.out], rfl⟩
              case measure => simp [intOf]; omega
            · by_cases q1 : q = 1
              · subst q1
                have Z0 : Hid (fitN P R 0 (k + 1) = g0) := F0.out
                have Z1 : Hid (fitN P R 1 (k + 1) = bits .or .i64 g1 (2 ^ k)) := F1.out
                clear F0 F1
                go_wp2
                go_roundw
                case rel => exact ⟨k + 1, _, by omega, by go_num, by rw [Z0.out], by rw [Z1.out], rfl⟩
                case measure => simp [intOf]; omega
              · have qB0 : ((q : Int) == 0) = false := beq_eq_false_iff_ne.2 (by omega)
                have qB1 : ((q : Int) == 1) = false := beq_eq_false_iff_ne.2 (by omega)
                have Z0 : Hid (fitN P R 0 (k + 1) = g0) := by unfold Hid; rw [F0.out, if_neg (by simpa using q0)]
                have Z1 : Hid (fitN P R 1 (k + 1) = g1) := by unfold Hid; rw [F1.out, if_neg (by simpa using q1)]
                clear F0 F1
                go_wp2
                go_roundw
                case rel => exact ⟨k + 1, _, by omega, by go_num, by rw [Z0.out], by rw [Z1.out], rfl⟩
                case measure => simp [intOf]; omega
      · obtain rfl : k = N := by omega
        go_wp2
        go_ret2
        rw [HE.out, HE1.out]
        exact ⟨rfl, below_drewN (Below.refl _ _) _⟩

set_option maxRecDepth 100000 in
set_option maxHeartbeats 1600000 in
theorem specFound (n : Int) (v vr : Value) (P : List Int) (R : List Bool) (w : World) (h : IntsAt w v P) (hr : BoolsAt w vr R) (hm : P.length ≤ 1048576) (hm2 : R.length ≤ 1048576) :
    Calls Try.prog 21 #[.int .i64 n, v, vr] w fun e w' => e = .returned (.bool (foundB n P R)) ∧ Below w.heap.size w w' := by
  have CF := Lib.hid (specFits n v vr P R w h hr hm hm2)
  have HB : Hid (foundB n P R = (cntI (fitI n P R 0) + cntI (fitI n P R 1) == 1)) := rfl
  have h0 := fitI_in n P R 0
  have h1 := fitI_in n P R 1
  obtain ⟨a, c, rfl, -⟩ := h
  obtain ⟨a2, c2, rfl, -⟩ := hr
  generalize foundB n P R = r at HB ⊢
  generalize fitI n P R 0 = x at CF HB h0
  generalize fitI n P R 1 = y at CF HB h1
  have C0 := Lib.hid (fun W => specCount x (by omega) W)
  have C1 := Lib.hid (fun W => specCount y (by omega) W)
  have b0 := cnt_in x
  have b1 := cnt_in y
  generalize cntI x = p at C0 HB b0
  generalize cntI y = q at C1 HB b1
  clear hm hm2
  go_enter Try.func21, Try.ntmps21
  go_wp2_with fail
  refine CF.out.mono ?_
  rintro e w1 ⟨rfl, bb⟩
  have B1 := Lib.hid bb
  clear bb
  have hs : IntKind.i64.wrap (p + q) = p + q := by rw [IntKind.wrap_i64]; omega
  go_wp2_with fail
  refine (C0.out _).mono ?_
  rintro e w1 ⟨rfl, rfl⟩
  go_wp2_with fail
  refine (C1.out _).mono ?_
  rintro e w1 ⟨rfl, rfl⟩
  go_wp2
  go_ret
  exact ⟨ret_bool HB.out.symm, B1.out⟩
end Go.Proofs.Ytnpmkoeceihepaa
