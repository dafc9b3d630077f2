/- The contracts of the model's SuspectsOf, IsClear, CountArrayTests, ArraySets and WorstArray. Condition: the slices read as truth values. -/
import Derived.Test.YtljodgdnimiliaaArrSpec
namespace Go.Proofs.Ytljodgdnimiliaa
open Go.RowKit

set_option maxHeartbeats 1600000 in
theorem specFits (r c : Int) (vr vc : Value) (R C : List Bool) (w : World) (hr : BoolsAt w vr R) (hc : BoolsAt w vc C) :
    Calls Try.prog 36 #[.int .i64 r, .int .i64 c, vr, vc] w fun e w' => e = .returned (.bool (fitA r c R C)) ∧ w = w' := by
  have CO := Lib.hid (specArrayOk r c w)
  have HB : Hid (fitA r c R C = (okArr r c && (decide ((R.length : Int) = r) && decide ((C.length : Int) = c)))) := rfl
  obtain ⟨a, ca, rfl, -⟩ := hr
  obtain ⟨b, cb, rfl, -⟩ := hc
  generalize fitA r c R C = f at HB ⊢
  generalize okArr r c = o at CO HB
  generalize R.length = m at HB ⊢
  generalize C.length = n at HB ⊢
  cases o with
  | false =>
    have HE : Hid (f = false) := HB.out
    go_enter Try.func36, Try.ntmps36
    go_wp2_with fail
    refine CO.out.mono ?_
    rintro e w1 ⟨rfl, rfl⟩
    go_wp2
    go_ret
    exact ⟨ret_bool HE.out.symm, rfl⟩
  | true =>
    by_cases h1 : (m : Int) = r
    · obtain ⟨q, hq⟩ : ∃ q, ((n : Int) == c) = q := ⟨_, rfl⟩
      have HE : Hid (f = q) := by
        unfold Hid
        rw [HB.out, decide_eq_true h1, ← hq]
        simp [Bool.beq_eq_decide_eq]
      have h1B : ((m : Int) == r) = true := by simpa using h1
      go_enter Try.func36, Try.ntmps36
      go_wp2_with fail
      refine CO.out.mono ?_
      rintro e w1 ⟨rfl, rfl⟩
      go_wp2
      go_ret
      exact ⟨ret_bool HE.out.symm, rfl⟩
    · have HE : Hid (f = false) := by unfold Hid; rw [HB.out, decide_eq_false h1]; rfl
      have h1B : ((m : Int) == r) = false := by simpa using h1
      go_enter Try.func36, Try.ntmps36
      go_wp2_with fail
      refine CO.out.mono ?_
      rintro e w1 ⟨rfl, rfl⟩
      go_wp2
      go_ret
      exact ⟨ret_bool HE.out.symm, rfl⟩

theorem fit_nat {r c : Int} {R C : List Bool} (h : fitA r c R C = true) : ∃ m n : Nat, r = (m : Int) ∧ c = (n : Int) ∧ 1 ≤ m ∧ m ≤ 4 ∧ 1 ≤ n ∧ n ≤ 4 ∧ R.length = m ∧ C.length = n := by
  unfold fitA at h
  simp only [Bool.and_eq_true, decide_eq_true_eq] at h
  obtain ⟨h0, h1, h2⟩ := h
  have h3 := okArr_in h0
  exact ⟨R.length, C.length, h1.symm, h2.symm, by omega, by omega, by omega, by omega, rfl, rfl⟩
theorem bools_cell {w : World} {a : Option Addr} {n c : Nat} {L : List Bool} (h : BoolsAt w (.slice a n c) L) {i : Nat} (hi : i < L.length) : ∃ b o, a = some ⟨b, o, none⟩ ∧ w.cell? ⟨b, o + i, none⟩ = some (.bool (L.getD i false)) := by
  obtain ⟨a', c', hv, hr⟩ := h
  cases hv
  rcases hr with h0 | ⟨b, o, rfl, hc⟩
  · rw [h0] at hi; simp at hi
  · refine ⟨b, o, rfl, ?_⟩
    rw [hc i hi, List.getD_eq_getElem?_getD, List.getElem?_eq_getElem hi]
    rfl

set_option maxRecDepth 100000 in
set_option maxHeartbeats 1600000 in
theorem specSuspects (r c : Int) (vr vc : Value) (R C : List Bool) (w : World) (hr : BoolsAt w vr R) (hc : BoolsAt w vc C) :
    Calls Try.prog 18 #[.int .i64 r, .int .i64 c, vr, vc] w fun e w' => e = .returned (.int .i64 (suspA r c R C)) ∧ w = w' := by
  have CF := Lib.hid (specFits r c vr vc R C w hr hc)
  by_cases hf : fitA r c R C = true
  · have HE : Hid (suspA r c R C = suspF c.toNat R C (r.toNat * c.toNat)) := by unfold Hid suspA; rw [if_pos hf]
    rw [hf] at CF
    obtain ⟨m, n, rfl, rfl, m1, m4, n1, n4, hm, hn⟩ := fit_nat hf
    rw [Int.toNat_natCast, Int.toNat_natCast] at HE
    have HS : Hid (∀ k, suspF n R C (k + 1) = if (R.getD (k / n) false && C.getD (k % n) false) = true then bits .or .i64 (suspF n R C k) (2 ^ k) else suspF n R C k) := fun _ => rfl
    have HI := Lib.hid (suspF_in n R C)
    have H0 : Hid (suspF n R C 0 = 0) := rfl
    have HR : Hid (BoolsAt w vr R) := hr
    have HC : Hid (BoolsAt w vc C) := hc
    obtain ⟨a, ca, rfl, -⟩ := hr
    obtain ⟨b, cb, rfl, -⟩ := hc
    have HAT : Hid (∀ k, k < m * n → k / n < m ∧ k % n < n) := fun k hk => item_at n1 hk
    obtain ⟨m16, hmul⟩ := mul_arr (R := m) (C := n) (by omega) (by omega)
    generalize m * n = M at m16 hmul HE HAT
    generalize suspF n R C = F at HE HS HI H0
    generalize suspA (m : Int) (n : Int) R C = res at HE ⊢
    have HRL := Lib.hid hm
    have HCL := Lib.hid hn
    rw [hm] at HR CF ⊢
    rw [hn] at HC CF ⊢
    have c0 : ¬ (n : Int) = 0 := by omega
    have c9 : ((n : Int) == 0) = false := by rw [beq_eq_false_iff_ne]; exact c0
    have cN : ¬ n = 0 := by omega
    clear hf hm hn
    go_enter Try.func18, Try.ntmps18
    go_wp2_with fail
    refine CF.out.mono ?_
    rintro e w1 ⟨rfl, rfl⟩
    go_wp2
    go_loopw [9, 10] (fun sv kv wr => ∃ k : Nat, k ≤ M ∧ kv = .int .i64 k ∧ sv = .int .i64 (F k) ∧ wr = w) (fun _ kv _ => M - (intOf kv).toNat)
    case atStart => exact ⟨0, Nat.zero_le _, rfl, by rw [H0.out], rfl⟩
    case round =>
      obtain ⟨k, hk, rfl, rfl, rfl⟩ := hrel
      by_cases hlt : k < M
      · have HST := Lib.hid (HS.out k)
        obtain ⟨a1, a2⟩ := HAT.out k hlt
        obtain ⟨b1, o1, rfl, e1⟩ := bools_cell HR.out (i := k / n) (by rw [HRL.out]; exact a1)
        obtain ⟨b2, o2, rfl, e2⟩ := bools_cell HC.out (i := k % n) (by rw [HCL.out]; exact a2)
        have D := Lib.hid (item_go (C := n) (k := k) (by omega))
        obtain ⟨f0, f1⟩ := HI.out k (by omega)
        have k1 : (k : Int) < (M : Int) := by omega
        have hs1 := (pow_in16 (k := k) (by omega)).1
        generalize k / n = x at a1 e1 D HST
        generalize k % n = y at a2 e2 D HST
        have x0 : (0 : Int) ≤ (x : Int) := by omega
        have x1 : (x : Int) < (m : Int) := by omega
        have y0 : (0 : Int) ≤ (y : Int) := by omega
        have y1 : (y : Int) < (n : Int) := by omega
        generalize R.getD x false = p at e1 HST
        generalize C.getD y false = q at e2 HST
        generalize F k = f at HST f0 f1 ⊢
        clear HAT HS HI HR HC
        cases p with
        | false =>
          have HS2 : Hid (F (k + 1) = f) := HST.out
          obtain ⟨d1, d2⟩ := D.out
          go_wp2
          clear d1 d2
          go_roundw
          case rel => exact ⟨k + 1, by omega, by go_num, by rw [HS2.out], by first | rfl | trivial⟩
          case measure => simp [intOf]; omega
        | true =>
          cases q with
          | false =>
            have HS2 : Hid (F (k + 1) = f) := HST.out
            obtain ⟨d1, d2⟩ := D.out
            go_wp2
            clear d1 d2
            go_roundw
            case rel => exact ⟨k + 1, by omega, by go_num, by rw [HS2.out], by first | rfl | trivial⟩
            case measure => simp [intOf]; omega
          | true =>
            have HS2 : Hid (F (k + 1) = bits .or .i64 f (2 ^ k)) := HST.out
            obtain ⟨d1, d2⟩ := D.out
            go_wp2
            clear d1 d2
            go_roundw
            case rel => exact ⟨k + 1, by omega, by go_num, by rw [HS2.out], by first | rfl | trivial⟩
            case measure => simp [intOf]; omega
      · obtain rfl : k = M := by omega
        go_wp2
        go_ret
        exact ⟨ret_int HE.out.symm, rfl⟩
  · have HE : Hid (suspA r c R C = 0) := by unfold Hid suspA; rw [if_neg hf]
    have hf2 : fitA r c R C = false := by simpa using hf
    rw [hf2] at CF
    generalize suspA r c R C = res at HE ⊢
    obtain ⟨a, ca, rfl, -⟩ := hr
    obtain ⟨b, cb, rfl, -⟩ := hc
    clear hf hf2
    go_enter Try.func18, Try.ntmps18
    go_wp2_with fail
    refine CF.out.mono ?_
    rintro e w1 ⟨rfl, rfl⟩
    go_wp2
    go_ret
    exact ⟨ret_int HE.out.symm, rfl⟩

set_option maxHeartbeats 800000 in
theorem specTrues (v : Value) (L : List Bool) (w : World) (h : BoolsAt w v L) (hm : L.length ≤ 1048576) :
    Calls Try.prog 39 #[v] w fun e w' => e = .returned (.int .i64 (trueF L L.length)) ∧ w = w' := by
  have HS : Hid (∀ k, trueF L (k + 1) = if L.getD k false = true then trueF L k + 1 else trueF L k) := fun _ => rfl
  have HI := Lib.hid (trueF_in L)
  have H0 : Hid (trueF L 0 = 0) := rfl
  have H : Hid (BoolsAt w v L) := h
  obtain ⟨a, c, rfl, -⟩ := h
  obtain ⟨n, hn⟩ : ∃ n, L.length = n := ⟨_, rfl⟩
  have HN := Lib.hid hn
  rw [hn] at H hm ⊢
  generalize trueF L = F at HS HI H0 ⊢
  clear hn
  go_enter Try.func39, Try.ntmps39
  go_wp2
  go_loopw [3, 8] (fun sv kv wr => ∃ k : Nat, k ≤ n ∧ kv = .int .i64 k ∧ sv = .int .i64 (F k) ∧ wr = w) (fun _ kv _ => n - (intOf kv).toNat)
  case atStart => exact ⟨0, Nat.zero_le _, rfl, by rw [H0.out], rfl⟩
  case round =>
    obtain ⟨k, hk, rfl, rfl, rfl⟩ := hrel
    by_cases hlt : k < n
    · have HST := Lib.hid (HS.out k)
      obtain ⟨b1, o1, rfl, e1⟩ := bools_cell H.out (i := k) (by rw [HN.out]; exact hlt)
      obtain ⟨f0, f1⟩ := HI.out k
      have k0 : (0 : Int) ≤ (k : Int) := by omega
      have k1 : (k : Int) < (n : Int) := by omega
      generalize L.getD k false = p at e1 HST
      generalize F k = f at HST f0 f1 ⊢
      cases p with
      | false =>
        have HS2 : Hid (F (k + 1) = f) := HST.out
        go_wp2
        go_roundw
        case rel => exact ⟨k + 1, by omega, by go_num, by rw [HS2.out], by first | rfl | trivial⟩
        case measure => simp [intOf]; omega
      | true =>
        have HS2 : Hid (F (k + 1) = f + 1) := HST.out
        have hw : IntKind.i64.wrap (f + 1) = f + 1 := by rw [IntKind.wrap_i64]; omega
        go_wp2
        go_roundw
        case rel => exact ⟨k + 1, by omega, by go_num, by rw [HS2.out], by first | rfl | trivial⟩
        case measure => simp [intOf]; omega
    · obtain rfl : k = n := by omega
      go_wp2
      go_ret
      exact ⟨rfl, rfl⟩

set_option maxRecDepth 100000 in
set_option maxHeartbeats 1600000 in
theorem specIsClear (r c : Int) (vr vc : Value) (R C : List Bool) (w : World) (hr : BoolsAt w vr R) (hc : BoolsAt w vc C) :
    Calls Try.prog 21 #[.int .i64 r, .int .i64 c, vr, vc] w fun e w' => e = .returned (.bool (clearA r c R C)) ∧ w = w' := by
  have CF := Lib.hid (specFits r c vr vc R C w hr hc)
  by_cases hf : fitA r c R C = true
  · obtain ⟨m, n, rfl, rfl, m1, m4, n1, n4, hm, hn⟩ := fit_nat hf
    have C1 := Lib.hid (specTrues vr R w hr (by omega))
    have C2 := Lib.hid (specTrues vc C w hc (by omega))
    have HE : Hid (clearA (m : Int) (n : Int) R C = ((decide (0 < trueF R R.length) == decide (0 < trueF C C.length)) && (decide (trueF R R.length ≤ 1) || decide (trueF C C.length ≤ 1)))) := by unfold Hid clearA; rw [hf]; rfl
    rw [hf] at CF
    obtain ⟨a, ca, rfl, -⟩ := hr
    obtain ⟨b, cb, rfl, -⟩ := hc
    generalize trueF R R.length = x at C1 HE
    generalize trueF C C.length = y at C2 HE
    generalize clearA (m : Int) (n : Int) R C = res at HE ⊢
    clear hf hm hn
    by_cases h1 : 0 < x <;> by_cases h2 : 0 < y <;> by_cases h3 : x ≤ 1 <;> by_cases h4 : y ≤ 1 <;>
    · have HE2 := HE.out
      simp only [h1, h2, h3, h4, decide_true, decide_false] at HE2
      have HE3 := Lib.hid HE2
      clear HE HE2
      go_enter Try.func21, Try.ntmps21
      go_wp2_with fail
      refine CF.out.mono ?_
      rintro e w1 ⟨rfl, rfl⟩
      go_wp2_with fail
      refine C1.out.mono ?_
      rintro e w1 ⟨rfl, rfl⟩
      go_wp2_with fail
      refine C2.out.mono ?_
      rintro e w1 ⟨rfl, rfl⟩
      go_wp2
      all_goals
        go_ret
        exact ⟨ret_bool (by rw [HE3.out]; first | rfl | (simp; done) | (simp; omega)), rfl⟩
  · have HE : Hid (clearA r c R C = false) := by unfold Hid clearA; simp [hf]
    have hf2 : fitA r c R C = false := by simpa using hf
    rw [hf2] at CF
    generalize clearA r c R C = res at HE ⊢
    obtain ⟨a, ca, rfl, -⟩ := hr
    obtain ⟨b, cb, rfl, -⟩ := hc
    clear hf hf2
    go_enter Try.func21, Try.ntmps21
    go_wp2_with fail
    refine CF.out.mono ?_
    rintro e w1 ⟨rfl, rfl⟩
    go_wp2
    go_ret
    exact ⟨ret_bool HE.out.symm, rfl⟩

set_option maxRecDepth 100000 in
set_option maxHeartbeats 1600000 in
theorem specCountA (r c bad : Int) (w : World) :
    Calls Try.prog 23 #[.int .i64 r, .int .i64 c, .int .i64 bad] w fun e w' => e = .returned (.int .i64 (cntA r c bad)) ∧ Below w.heap.size w w' := by
  have CT := Lib.hid (specTestArray r c bad w)
  unfold Tests2 at CT
  by_cases ho : okTest r c bad = true
  · have ho1 : okArr r c = true := by unfold okTest at ho; rw [Bool.and_eq_true] at ho; exact ho.1
    obtain ⟨⟨r1, r4⟩, c1, c4⟩ := okArr_in ho1
    have hx : rowL r c bad = rowR r c bad := by unfold rowL; rw [if_pos ho]
    have hy : colL r c bad = colR r c bad := by unfold colL; rw [if_pos ho]
    have lx : (rowR r c bad).length = r.toNat := by unfold rowR; exact rowF_len _ _ _ _
    have ly : (colR r c bad).length = c.toNat := by unfold colR; exact colF_len _ _ _
    have hfit : fitA r c (rowR r c bad) (colR r c bad) = true := by
      unfold fitA
      rw [ho1, lx, ly, decide_eq_true (by omega), decide_eq_true (by omega)]
      rfl
    have HE : Hid (cntA r c bad = if clearF (rowR r c bad) (colR r c bad) = true then r + c else r + c + cntI (suspF c.toNat (rowR r c bad) (colR r c bad) (r.toNat * c.toNat))) := by unfold Hid cntA; rw [if_pos ho]
    have HCL : Hid (clearA r c (rowR r c bad) (colR r c bad) = clearF (rowR r c bad) (colR r c bad)) := by unfold Hid clearA; rw [hfit, Bool.true_and]
    have HSU : Hid (suspA r c (rowR r c bad) (colR r c bad) = suspF c.toNat (rowR r c bad) (colR r c bad) (r.toNat * c.toNat)) := by unfold Hid suspA; rw [if_pos hfit]
    have hb : 0 ≤ suspF c.toNat (rowR r c bad) (colR r c bad) (r.toNat * c.toNat) ∧ suspF c.toNat (rowR r c bad) (colR r c bad) (r.toNat * c.toNat) ≤ 65535 := suspF_in _ _ _ _ (by have := Nat.mul_le_mul (show r.toNat ≤ 4 by omega) (show c.toNat ≤ 4 by omega); omega)
    have hcn := cnt_in (suspF c.toNat (rowR r c bad) (colR r c bad) (r.toNat * c.toNat))
    have CC := Lib.hid (fun W u v (hu : BoolsAt W u (rowR r c bad)) (hv : BoolsAt W v (colR r c bad)) => specIsClear r c u v _ _ W hu hv)
    have CS := Lib.hid (fun W u v (hu : BoolsAt W u (rowR r c bad)) (hv : BoolsAt W v (colR r c bad)) => specSuspects r c u v _ _ W hu hv)
    rw [HCL.out] at CC
    rw [HSU.out] at CS
    rw [ho, hx, hy] at CT
    clear hx hy lx ly hfit HCL HSU ho ho1
    generalize clearF (rowR r c bad) (colR r c bad) = cl at HE CC
    generalize suspF c.toNat (rowR r c bad) (colR r c bad) (r.toNat * c.toNat) = s at HE CS hb hcn
    have CN := Lib.hid (fun W => specCount s (by omega) W)
    generalize cntI s = k at HE CN hcn
    generalize cntA r c bad = res at HE ⊢
    generalize rowR r c bad = X at CT CC CS
    generalize colR r c bad = Y at CT CC CS
    have a1 : IntKind.i64.wrap (r + c) = r + c := by rw [IntKind.wrap_i64]; omega
    have a2 : IntKind.i64.wrap (r + c + k) = r + c + k := by rw [IntKind.wrap_i64]; omega
    cases cl with
    | true =>
      have HE2 : Hid (res = r + c) := HE.out
      go_enter Try.func23, Try.ntmps23
      go_wp2_with fail
      refine CT.out.mono ?_
      rintro e w2 ⟨u, v, rfl, ou, ov, -, bb⟩
      have C1 := Lib.hid (CC.out w2 u v ou.reads ov.reads)
      have BB := Lib.hid bb
      obtain ⟨gu, nu, cu, rfl⟩ := ou.form
      obtain ⟨gv, nv, cv, rfl⟩ := ov.form
      clear ou ov bb
      go_wp2_with fail
      refine C1.out.mono ?_
      rintro e w3 ⟨rfl, rfl⟩
      go_wp2
      go_ret
      exact ⟨ret_int HE2.out.symm, BB.out⟩
    | false =>
      have HE2 : Hid (res = r + c + k) := HE.out
      go_enter Try.func23, Try.ntmps23
      go_wp2_with fail
      refine CT.out.mono ?_
      rintro e w2 ⟨u, v, rfl, ou, ov, -, bb⟩
      have C1 := Lib.hid (CC.out w2 u v ou.reads ov.reads)
      have C2 := Lib.hid (CS.out w2 u v ou.reads ov.reads)
      have BB := Lib.hid bb
      obtain ⟨gu, nu, cu, rfl⟩ := ou.form
      obtain ⟨gv, nv, cv, rfl⟩ := ov.form
      clear ou ov bb
      go_wp2_with fail
      refine C1.out.mono ?_
      rintro e w3 ⟨rfl, rfl⟩
      go_wp2_with fail
      refine C2.out.mono ?_
      rintro e w3 ⟨rfl, rfl⟩
      go_wp2_with fail
      refine (CN.out _).mono ?_
      rintro e w3 ⟨rfl, rfl⟩
      go_wp2
      go_ret
      exact ⟨ret_int HE2.out.symm, BB.out⟩
  · have ho2 : okTest r c bad = false := by simpa using ho
    have HE : Hid (cntA r c bad = -1) := by unfold Hid cntA; rw [if_neg ho]
    rw [ho2] at CT
    generalize cntA r c bad = res at HE ⊢
    generalize rowL r c bad = X at CT
    generalize colL r c bad = Y at CT
    clear ho ho2
    go_enter Try.func23, Try.ntmps23
    go_wp2_with fail
    refine CT.out.mono ?_
    rintro e w2 ⟨u, v, rfl, ou, ov, -, bb⟩
    have BB := Lib.hid bb
    obtain ⟨gu, nu, cu, rfl⟩ := ou.form
    obtain ⟨gv, nv, cv, rfl⟩ := ov.form
    clear ou ov bb
    go_wp2
    go_ret
    exact ⟨ret_int HE.out.symm, BB.out⟩

set_option maxRecDepth 100000 in
set_option maxHeartbeats 1600000 in
theorem specArraySets (r c : Int) (vr vc : Value) (R C : List Bool) (w : World) (hr : BoolsAt w vr R) (hc : BoolsAt w vc C) :
    Calls Try.prog 25 #[.int .i64 r, .int .i64 c, vr, vc] w fun e w' => e = .returned (.int .i64 (setsA r c R C)) ∧ Below w.heap.size w w' := by
  have CF := Lib.hid (specFits r c vr vc R C w hr hc)
  by_cases hf : fitA r c R C = true
  · have HE : Hid (setsA r c R C = setsF r.toNat c.toNat R C (2 ^ (r.toNat * c.toNat))) := by unfold Hid setsA; rw [if_pos hf]
    rw [hf] at CF
    obtain ⟨m, n, rfl, rfl, m1, m4, n1, n4, hm, hn⟩ := fit_nat hf
    rw [Int.toNat_natCast, Int.toNat_natCast] at HE
    obtain ⟨m16, hmul⟩ := mul_arr (R := m) (C := n) (by omega) (by omega)
    have HS : Hid (∀ k, setsF m n R C (k + 1) = if ((rowF m n (k : Int) (m * n) == R) && (colF n (k : Int) (m * n) == C)) = true then setsF m n R C k + 1 else setsF m n R C k) := fun _ => rfl
    have HI := Lib.hid (setsF_in m n R C)
    have H0 : Hid (setsF m n R C 0 = 0) := rfl
    have CT := Lib.hid (fun (k : Nat) W => specTestA m n (by omega) (by omega) (by omega) (k : Int) W)
    have CE1 := Lib.hid (fun (k : Nat) u W hu hW => specSame u vr (rowF m n (k : Int) (m * n)) R W hu hW (by rw [rowF_len]; unfold maxLen; omega))
    have CE2 := Lib.hid (fun (k : Nat) u W hu hW => specSame u vc (colF n (k : Int) (m * n)) C W hu hW (by rw [colF_len]; unfold maxLen; omega))
    unfold Two2 at CT
    have HR : Hid (BoolsAt w vr R) := hr
    have HC : Hid (BoolsAt w vc C) := hc
    obtain ⟨a, ca, rfl, -⟩ := hr
    obtain ⟨b, cb, rfl, -⟩ := hc
    obtain ⟨M, hM⟩ : ∃ M, m * n = M := ⟨_, rfl⟩
    rw [hM] at m16 hmul HE
    clear hM
    obtain ⟨s1, -, -, s4⟩ := shl_arr m16
    obtain ⟨N, hN⟩ : ∃ N : Nat, 2 ^ M = N := ⟨_, rfl⟩
    have hN2 : (2 : Int) ^ M = (N : Int) := by rw [← hN]; push_cast; rfl
    rw [hN] at HE
    rw [hN2] at s1 s4
    have M0 : (0 : Int) ≤ (M : Int) := by omega
    generalize setsF m n R C = F at HE HS HI H0
    generalize setsA (m : Int) (n : Int) R C = res at HE ⊢
    have B0 := Lib.hid (Below.refl w.heap.size w)
    clear hf hN hm hn
    go_enter Try.func25, Try.ntmps25
    go_wp2_with fail
    refine CF.out.mono ?_
    rintro e w1 ⟨rfl, rfl⟩
    go_wp2
    go_loopw [9, 10] (fun sv kv wr => ∃ k : Nat, k ≤ N ∧ kv = .int .i64 k ∧ sv = .int .i64 (F k) ∧ Hid (Below w.heap.size w wr)) (fun _ kv _ => N - (intOf kv).toNat)
    case atStart => exact ⟨0, Nat.zero_le _, rfl, by rw [H0.out], B0⟩
    case round =>
      clear B0
      obtain ⟨k, hk, rfl, rfl, B2⟩ := hrel
      by_cases hlt : k < N
      · have HST := Lib.hid (HS.out k)
        have CT1 := Lib.hid (CT.out k)
        have CE3 := Lib.hid (CE1.out k)
        have CE4 := Lib.hid (CE2.out k)
        obtain ⟨f0, f1⟩ := HI.out k
        have k1 : (k : Int) < (N : Int) := by omega
        generalize rowF m n (k : Int) (m * n) = X at CT1 CE3 HST
        generalize colF n (k : Int) (m * n) = Y at CT1 CE4 HST
        generalize F k = f at HST f0 f1 ⊢
        generalize (X == R) = p at CE3 HST
        generalize (Y == C) = q at CE4 HST
        go_wp2_with fail
        refine (CT1.out _).mono ?_
        rintro e w2 ⟨u, v, rfl, ou, ov, -, bb⟩
        have B3 := Lib.hid (below_up B2.out bb)
        have D3 := Lib.hid (CE3.out _ _ ou.reads (HR.out.below B3.out))
        have D4 := Lib.hid (CE4.out _ _ ov.reads (HC.out.below B3.out))
        obtain ⟨gu, nu, cu, rfl⟩ := ou.form
        obtain ⟨gv, nv, cv, rfl⟩ := ov.form
        clear ou ov bb B2
        go_wp2_with fail
        refine D3.out.mono ?_
        rintro e w3 ⟨rfl, rfl⟩
        cases p with
        | false =>
          have HS2 : Hid (F (k + 1) = f) := HST.out
          go_wp2
          go_roundw
          case rel => exact ⟨k + 1, by omega, by go_num, by rw [HS2.out], B3⟩
          case measure => simp [intOf]; omega
        | true =>
          cases q with
          | false =>
            have HS2 : Hid (F (k + 1) = f) := HST.out
            go_wp2_with fail
            refine D4.out.mono ?_
            rintro e w3 ⟨rfl, rfl⟩
            go_wp2
            go_roundw
            case rel => exact ⟨k + 1, by omega, by go_num, by rw [HS2.out], B3⟩
            case measure => simp [intOf]; omega
          | true =>
            have HS2 : Hid (F (k + 1) = f + 1) := HST.out
            have hw : IntKind.i64.wrap (f + 1) = f + 1 := by rw [IntKind.wrap_i64]; omega
            go_wp2_with fail
            refine D4.out.mono ?_
            rintro e w3 ⟨rfl, rfl⟩
            go_wp2
            go_roundw
            case rel => exact ⟨k + 1, by omega, by go_num, by rw [HS2.out], B3⟩
            case measure => simp [intOf]; omega
      · obtain rfl : k = N := by omega
        go_wp2
        go_ret
        exact ⟨ret_int HE.out.symm, B2.out⟩
  · have HE : Hid (setsA r c R C = 0) := by unfold Hid setsA; rw [if_neg hf]
    have hf2 : fitA r c R C = false := by simpa using hf
    rw [hf2] at CF
    generalize setsA r c R C = res at HE ⊢
    obtain ⟨a, ca, rfl, -⟩ := hr
    obtain ⟨b, cb, rfl, -⟩ := hc
    clear hf hf2
    go_enter Try.func25, Try.ntmps25
    go_wp2_with fail
    refine CF.out.mono ?_
    rintro e w1 ⟨rfl, rfl⟩
    go_wp2
    go_ret
    exact ⟨ret_int HE.out.symm, Below.refl _ _⟩

set_option maxRecDepth 100000 in
set_option maxHeartbeats 1600000 in
theorem specWorstA (r c d : Int) (w : World) :
    Calls Try.prog 27 #[.int .i64 r, .int .i64 c, .int .i64 d] w fun e w' => e = .returned (.int .i64 (worstA r c d)) ∧ Below w.heap.size w w' := by
  have CO := Lib.hid (specArrayOk r c w)
  have HR : Hid (worstA r c d = if okWorstA r c d = true then worstF r c d (2 ^ (r.toNat * c.toNat)) else -1) := rfl
  have HB : Hid (okWorstA r c d = (okArr r c && (decide (r * c ≤ 9) && decide (0 ≤ d)))) := rfl
  cases ho : okArr r c with
  | false =>
    rw [ho] at CO HB
    have HE : Hid (worstA r c d = -1) := by unfold Hid; rw [HR.out, HB.out]; rfl
    generalize worstA r c d = res at HE ⊢
    clear HR HB ho
    go_enter Try.func27, Try.ntmps27
    go_wp2_with fail
    refine CO.out.mono ?_
    rintro e w1 ⟨rfl, rfl⟩
    go_wp2
    go_ret
    exact ⟨ret_int HE.out.symm, Below.refl _ _⟩
  | true =>
    obtain ⟨⟨r1, r4⟩, c1, c4⟩ := okArr_in ho
    rw [ho] at CO HB
    have CN := Lib.hid (fun (s : Int) h1 W => specCount s h1 W)
    have CA := Lib.hid (fun (k : Nat) W => specCountA r c (k : Int) W)
    have HK : Hid (∀ k : Nat, worstF r c d (k + 1) = if cntI (k : Int) ≤ d then max (worstF r c d k) (cntA r c (k : Int)) else worstF r c d k) := fun _ => rfl
    have H0 : Hid (worstF r c d 0 = 0) := rfl
    generalize worstF r c d = F at HR HK H0
    generalize worstA r c d = res at HR ⊢
    generalize okWorstA r c d = ok at HR HB
    obtain ⟨m, hm⟩ : ∃ m : Nat, r.toNat = m := ⟨_, rfl⟩
    obtain ⟨n, hn⟩ : ∃ n : Nat, c.toNat = n := ⟨_, rfl⟩
    have er : r = (m : Int) := by omega
    have ec : c = (n : Int) := by omega
    subst er ec
    rw [hm, hn] at HR
    obtain ⟨m16, hmul⟩ := mul_arr (R := m) (C := n) (by omega) (by omega)
    have he : (m : Int) * (n : Int) = ((m * n : Nat) : Int) := by push_cast; rfl
    rw [he] at HB
    generalize m * n = M at m16 hmul HB HR
    clear ho he hm hn
    have M0 : (0 : Int) ≤ (M : Int) := by omega
    by_cases h9 : (9 : Int) < (M : Int)
    · have HE : Hid (res = -1) := by unfold Hid; rw [HR.out, HB.out, decide_eq_false (by omega)]; rfl
      clear HR HB
      go_enter Try.func27, Try.ntmps27
      go_wp2_with fail
      refine CO.out.mono ?_
      rintro e w1 ⟨rfl, rfl⟩
      go_wp2
      go_ret
      exact ⟨ret_int HE.out.symm, Below.refl _ _⟩
    · by_cases hd : d < 0
      · have HE : Hid (res = -1) := by unfold Hid; rw [HR.out, HB.out, decide_eq_true (by omega : (M : Int) ≤ 9), decide_eq_false (by omega)]; rfl
        clear HR HB
        go_enter Try.func27, Try.ntmps27
        go_wp2_with fail
        refine CO.out.mono ?_
        rintro e w1 ⟨rfl, rfl⟩
        go_wp2
        go_ret
        exact ⟨ret_int HE.out.symm, Below.refl _ _⟩
      · have HE0 : Hid (res = F (2 ^ M)) := by unfold Hid; rw [HR.out, HB.out, decide_eq_true (by omega : (M : Int) ≤ 9), decide_eq_true (by omega)]; rfl
        obtain ⟨s1, -, -, s4⟩ := shl_arr m16
        obtain ⟨N, hN⟩ : ∃ N : Nat, 2 ^ M = N := ⟨_, rfl⟩
        have hN2 : (2 : Int) ^ M = (N : Int) := by rw [← hN]; push_cast; rfl
        rw [hN2] at s1 s4
        have HE : Hid (res = F N) := by unfold Hid; rw [HE0.out, hN]
        have B0 := Lib.hid (Below.refl w.heap.size w)
        clear HR HB HE0 hN
        go_enter Try.func27, Try.ntmps27
        go_wp2_with fail
        refine CO.out.mono ?_
        rintro e w1 ⟨rfl, rfl⟩
        go_wp2
        go_loopw [7, 8] (fun mv kv wr => ∃ k : Nat, k ≤ N ∧ kv = .int .i64 k ∧ mv = .int .i64 (F k) ∧ Hid (Below w.heap.size w wr)) (fun _ kv _ => N - (intOf kv).toNat)
        case atStart => exact ⟨0, Nat.zero_le _, rfl, by rw [H0.out], B0⟩
        case round =>
          clear B0
          obtain ⟨k, hk, rfl, rfl, B2⟩ := hrel
          by_cases hlt : k < N
          · have HS := Lib.hid (HK.out k)
            have CN1 := Lib.hid (fun W => CN.out (k : Int) (by omega) W)
            have CH1 := Lib.hid (CA.out k)
            have k1 : (k : Int) < (N : Int) := by omega
            generalize cntI (k : Int) = q at CN1 HS
            generalize cntA (m : Int) (n : Int) (k : Int) = h at CH1 HS
            generalize F k = f at HS ⊢
            by_cases hc : q ≤ d
            · rw [if_pos hc] at HS
              go_wp2_with fail
              refine (CN1.out _).mono ?_
              rintro e w3 ⟨rfl, rfl⟩
              by_cases hfh : f ≤ h
              · have HS2 : Hid (F (k + 1) = h) := by unfold Hid; rw [HS.out]; omega
                go_wp2_with fail
                refine (CH1.out _).mono ?_
                rintro e w4 ⟨rfl, bb⟩
                have B3 := Lib.hid (below_up B2.out bb)
                clear bb
                go_wp2
                all_goals
                  go_roundw
                  case rel => exact ⟨k + 1, by omega, by go_num, by (rw [HS2.out]; try (congr 1; omega)), B3⟩
                  case measure => simp [intOf]; omega
              · have HS2 : Hid (F (k + 1) = f) := by unfold Hid; rw [HS.out]; omega
                go_wp2_with fail
                refine (CH1.out _).mono ?_
                rintro e w4 ⟨rfl, bb⟩
                have B3 := Lib.hid (below_up B2.out bb)
                clear bb
                go_wp2
                all_goals
                  go_roundw
                  case rel => exact ⟨k + 1, by omega, by go_num, by (rw [HS2.out]; try (congr 1; omega)), B3⟩
                  case measure => simp [intOf]; omega
            · rw [if_neg hc] at HS
              go_wp2_with fail
              refine (CN1.out _).mono ?_
              rintro e w3 ⟨rfl, rfl⟩
              go_wp2
              go_roundw
              case rel => exact ⟨k + 1, by omega, by go_num, by rw [HS.out], B2⟩
              case measure => simp [intOf]; omega
          · obtain rfl : k = N := by omega
            go_wp2
            go_ret
            exact ⟨ret_int HE.out.symm, B2.out⟩
end Go.Proofs.Ytljodgdnimiliaa
