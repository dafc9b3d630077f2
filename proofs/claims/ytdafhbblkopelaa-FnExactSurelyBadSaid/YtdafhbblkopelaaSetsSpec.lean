/- The contracts of the model's TestPools, ConsistentSets, SurelyGood and SurelyBad. Conditions: the slices read as integers and as truth values, and are short enough to be counted. -/
import Derived.Test.YtdafhbblkopelaaPoolsSpec
namespace Go.Proofs.Ytdafhbblkopelaa
open Go.RowKit

/-- What a function that tests pools gives back. -/
def TestsR (n : Int) (P : List Int) (bad : Int) (w : World) (e : Ending) (w' : World) : Prop :=
  ∃ u, e = .returned (.tuple #[u, .bool (testsB n P bad)]) ∧ OwnB w' w.heap.size u (testR n P bad) ∧ Below w.heap.size w w'
theorem OwnB.nil (X : World) (B : Nat) : OwnB X B (.slice none 0 0) [] := World.ownsRow_nil _ _ _ _
theorem TestsR.no {n : Int} {P : List Int} {bad : Int} {w w' : World} (h : testsB n P bad = false) (hb : Below w.heap.size w w') : TestsR n P bad w (.returned (.tuple #[.slice none 0 0, .bool false])) w' := by
  refine ⟨_, by rw [h], ?_, hb⟩
  unfold testR
  rw [h]
  exact OwnB.nil _ _
theorem TestsR.yes {n : Int} {P : List Int} {bad : Int} {w w' : World} {u : Value} (h : testsB n P bad = true) (ho : OwnB w' w.heap.size u (resL P bad)) (hb : Below w.heap.size w w') : TestsR n P bad w (.returned (.tuple #[u, .bool true])) w' := by
  refine ⟨u, by rw [h], ?_, hb⟩
  unfold testR
  rwa [h]

set_option maxHeartbeats 1600000 in
theorem specTestPools (n : Int) (v : Value) (P : List Int) (bad : Int) (w : World) (h : IntsAt w v P) (hm : P.length ≤ 1048576) :
    Calls Try.prog 13 #[.int .i64 n, v, .int .i64 bad] w (TestsR n P bad w) := by
  have CP := Lib.hid (specPoolsOk n v P w h (by unfold maxLen; omega))
  have CT := Lib.hid (specTest v P bad w h hm)
  have CI := Lib.hid (fun W => l01In_is bad 0 (topI n) W)
  have HB : Hid (testsB n P bad = (poolsB n P && (decide (0 ≤ bad) && decide (bad ≤ topI n)))) := rfl
  have HI : Hid (poolsB n P = true → 1 ≤ n ∧ n ≤ 10) := fun hp => (pools_in hp).1
  have HN := Lib.hid (fun W' (hh : testsB n P bad = false) hb => TestsR.no (w := w) (w' := W') hh hb)
  have HY := Lib.hid (fun W' u (hh : testsB n P bad = true) ho hb => TestsR.yes (w := w) (w' := W') (u := u) hh ho hb)
  obtain ⟨a, c, rfl, -⟩ := h
  unfold ListsB at CT
  generalize testsB n P bad = tb at HB HN HY
  generalize poolsB n P = pb at CP HB HI
  generalize resL P bad = R at CT HY
  cases pb with
  | false =>
    have HE : Hid (tb = false) := HB.out
    go_enter Try.func13, Try.ntmps13
    go_wp2_with fail
    refine CP.out.mono ?_
    rintro e w1 ⟨rfl, rfl⟩
    go_wp2
    go_ret2
    exact HN.out _ HE.out (Below.refl _ _)
  | true =>
    obtain ⟨n1, n10⟩ := HI.out rfl
    obtain ⟨hs1, hs2, hs3, hs4⟩ := shl_top n1 n10
    rw [hs2] at hs1
    generalize (decide (0 ≤ bad) && decide (bad ≤ topI n)) = ib at HB CI
    have HE : Hid (tb = ib) := HB.out
    generalize topI n = T at hs1 hs2 hs3 hs4 CI
    go_enter Try.func13, Try.ntmps13
    go_wp2_with fail
    refine CP.out.mono ?_
    rintro e w1 ⟨rfl, rfl⟩
    cases ib with
    | false =>
      go_wp2_with fail
      refine (CI.out _).mono ?_
      rintro e w2 ⟨rfl, rfl⟩
      go_wp2
      go_ret2
      exact HN.out _ HE.out (Below.refl _ _)
    | true =>
      go_wp2_with fail
      refine (CI.out _).mono ?_
      rintro e w2 ⟨rfl, rfl⟩
      go_wp2_with fail
      refine CT.out.mono ?_
      rintro e w3 ⟨u, rfl, ou, bb⟩
      have OU := Lib.hid ou
      have BB := Lib.hid bb
      clear ou bb
      go_wp2
      go_ret2
      exact HY.out _ _ HE.out OU.out BB.out

theorem beq_len {A B : List Bool} (h : A.length ≠ B.length) : (A == B) = false := by
  rw [beq_eq_false_iff_ne]
  exact fun e => h (by rw [e])
set_option maxHeartbeats 1600000 in
theorem specSame (va vb : Value) (A B : List Bool) (w : World) (ha : BoolsAt w va A) (hb : BoolsAt w vb B) (hm : A.length ≤ maxLen) :
    Calls Try.prog 34 #[va, vb] w fun e w' => e = .returned (.bool (A == B)) ∧ w = w' := by
  obtain ⟨a, ca, rfl, ha⟩ := ha
  obtain ⟨b, cb, rfl, hb⟩ := hb
  have HA := Lib.hid ha
  have HB := Lib.hid hb
  unfold maxLen at hm
  obtain ⟨r, hr⟩ : ∃ r, (A == B) = r := ⟨_, rfl⟩
  have HR := Lib.hid hr
  rw [hr]
  clear ha hb hr
  by_cases hl : A.length = B.length
  · obtain ⟨m, hmm⟩ : ∃ m, A.length = m := ⟨_, rfl⟩
    have HL : Hid (A.length = m ∧ B.length = m) := ⟨hmm, by rw [← hl]; exact hmm⟩
    rw [← hl, hmm]
    rw [hmm] at hm
    have hne : ((m : Int) != (m : Int)) = false := by simp
    clear hl hmm
    go_enter Try.func34, Try.ntmps34
    go_wp2
    clear hne
    go_loopw [14] (fun iv wr => ∃ i : Nat, i ≤ m ∧ iv = .int .i64 i ∧ wr = w ∧ Hid (A.take i = B.take i)) (fun iv _ => m - (intOf iv).toNat)
    case atStart => exact ⟨0, Nat.zero_le _, rfl, rfl, by unfold Hid; simp⟩
    case round =>
      obtain ⟨i, hi, rfl, rfl, HT⟩ := hrel
      by_cases hlt : i < m
      · have h1 : i < A.length := by rw [HL.out.1]; exact hlt
        have h2 : i < B.length := by rw [HL.out.2]; exact hlt
        rcases HA.out with h0 | ⟨b1, o1, rfl, c1⟩
        · rw [h0] at h1; simp at h1
        rcases HB.out with h0 | ⟨b2, o2, rfl, c2⟩
        · rw [h0] at h2; simp at h2
        have e1 := c1 i h1
        have e2 := c2 i h2
        have HS : Hid (A[i] = B[i] → A.take (i + 1) = B.take (i + 1)) := fun h => by
          rw [List.take_succ_eq_append_getElem h1, List.take_succ_eq_append_getElem h2, HT.out, h]
        have HF : Hid (A[i] ≠ B[i] → r = false) := fun h => by
          rw [← HR.out, beq_eq_false_iff_ne]
          intro e
          subst e
          exact h rfl
        generalize A[i] = x at e1 HS HF
        generalize B[i] = y at e2 HS HF
        have i0 : (0 : Int) ≤ (i : Int) := by omega
        have i1 : (i : Int) < (m : Int) := by omega
        clear c1 c2 h1 h2
        by_cases hxy : x = y
        · subst hxy
          have HS2 := Lib.hid (HS.out rfl)
          have hne : (x != x) = false := by simp
          go_wp2
          go_roundw
          case rel => exact ⟨i + 1, by omega, by go_num, by first | rfl | trivial, HS2⟩
          case measure => simp [intOf]; omega
        · have hne : (x == y) = false := beq_eq_false_iff_ne.2 hxy
          have HE := Lib.hid (HF.out hxy)
          go_wp2
          go_ret
          exact ⟨ret_bool HE.out.symm, rfl⟩
      · obtain rfl : i = m := by omega
        have HE : Hid (r = true) := by
          have := HT.out
          rw [List.take_of_length_le (by rw [HL.out.1]; omega), List.take_of_length_le (by rw [HL.out.2]; omega)] at this
          unfold Hid
          rw [← HR.out, this]
          simp
        go_wp2
        go_ret
        exact ⟨ret_bool HE.out.symm, rfl⟩
  · have HE : Hid (r = false) := by unfold Hid; rw [← HR.out]; exact beq_len hl
    obtain ⟨m, hmm⟩ : ∃ m, A.length = m := ⟨_, rfl⟩
    obtain ⟨k, hk⟩ : ∃ k, B.length = k := ⟨_, rfl⟩
    rw [hmm, hk] at hl
    rw [hmm] at hm ⊢
    rw [hk]
    have hne : ((m : Int) != (k : Int)) = true := by simp; omega
    clear hmm hk
    go_enter Try.func34, Try.ntmps34
    go_wp2
    go_ret
    exact ⟨ret_bool HE.out.symm, rfl⟩

/-- The sets among the first k. -/
def consK (P : List Int) (R : List Bool) (most : Int) (k : Nat) : List Int :=
  ((List.range k).map fun (j : Nat) => (j : Int)).filter fun b => decide (cntI b ≤ most) && (resL P b == R)
theorem consK_succ (P : List Int) (R : List Bool) (most : Int) (k : Nat) : consK P R most (k + 1) = if (decide (cntI k ≤ most) && (resL P k == R)) = true then consK P R most k ++ [(k : Int)] else consK P R most k := by
  unfold consK
  rw [List.range_succ, List.map_append, List.filter_append]
  simp only [List.map_cons, List.map_nil, List.filter_cons, List.filter_nil]
  split <;> simp
theorem consK_len (P : List Int) (R : List Bool) (most : Int) (k : Nat) : (consK P R most k).length ≤ k := by
  unfold consK
  refine Nat.le_trans (List.length_filter_le _ _) ?_
  simp
def ListsI2 (L : List Int) (w : World) (e : Ending) (w' : World) : Prop := ∃ v, e = .returned v ∧ Own w' w.heap.size v L ∧ Below w.heap.size w w'

set_option maxRecDepth 100000 in
set_option maxHeartbeats 3200000 in
theorem specCons (n : Int) (v vr : Value) (P : List Int) (R : List Bool) (most : Int) (w : World) (h : IntsAt w v P) (hr : BoolsAt w vr R) (hm : P.length ≤ 1048576) :
    Calls Try.prog 21 #[.int .i64 n, v, vr, .int .i64 most] w (ListsI2 (consR n P R most) w) := by
  obtain ⟨i0, hi, hz0, hz1, hz2⟩ := info_parts infoIntA
  have CP := Lib.hid (specPoolsOk n v P w h (by unfold maxLen; omega))
  have CT := Lib.hid (fun bad W hW => specTest v P bad W hW hm)
  have CS := Lib.hid (fun va A W ha hb h1 => specSame va vr A R W ha hb h1)
  have CC := Lib.hid (fun s hs W => specCount s hs W)
  have HI : Hid (poolsB n P = true → 1 ≤ n ∧ n ≤ 10) := fun hp => (pools_in hp).1
  have HC : Hid (consR n P R most = if poolsB n P = true then consK P R most (2 ^ n.toNat) else []) := rfl
  have H := Lib.hid h
  have HRR := Lib.hid hr
  have HRL : Hid (∀ bad, (resL P bad).length ≤ maxLen) := fun bad => by rw [resL_len]; unfold maxLen; omega
  obtain ⟨a, c, rfl, -⟩ := h
  obtain ⟨a2, c2, rfl, -⟩ := hr
  unfold ListsI2
  unfold ListsB at CT
  generalize consR n P R most = r at HC ⊢
  generalize poolsB n P = pb at CP HC HI
  clear hm
  cases pb with
  | false =>
    have HE : Hid (r = []) := HC.out
    go_enter Try.func21, Try.ntmps21
    go_wp2_with fail
    refine CP.out.mono ?_
    rintro e w1 ⟨rfl, rfl⟩
    go_wp2
    go_ret
    exact ⟨_, rfl, by rw [HE.out]; exact Own.nil _ _, Below.refl _ _⟩
  | true =>
    obtain ⟨n1, n10⟩ := HI.out rfl
    obtain ⟨hs1, hs2, hs3, hs4⟩ := shl_top n1 n10
    obtain ⟨N, hN⟩ : ∃ N : Nat, 2 ^ n.toNat = N := ⟨_, rfl⟩
    have hN2 : (2 : Int) ^ n.toNat = (N : Int) := by rw [← hN]; exact_mod_cast rfl
    have HE : Hid (r = consK P R most N) := by unfold Hid; rw [HC.out, ← hN]; rfl
    have hNb : N ≤ 1024 := by omega
    rw [hN2] at hs1
    have O1 := Lib.hid (Own.lit w w.heap.size (Nat.le_refl _))
    have B1 := Lib.hid (alloc_below w (.cells #[] 3))
    clear hs2 hs3 hs4 HC HI hN
    go_enter Try.func21, Try.ntmps21
    go_wp2_with fail
    refine CP.out.mono ?_
    rintro e w1 ⟨rfl, rfl⟩
    go_wp2_with fail
    go_loopw [9, 10] (fun ov kv wr => ∃ k : Nat, k ≤ N ∧ kv = .int .i64 k ∧ Hid (Own wr w.heap.size ov (consK P R most k)) ∧ Hid (Below w.heap.size w wr)) (fun _ kv _ => N - (intOf kv).toNat)
    case atStart => exact ⟨0, Nat.zero_le _, rfl, O1, B1⟩
    case round =>
      clear O1 B1
      obtain ⟨k, hk, rfl, O2, B2⟩ := hrel
      by_cases hlt : k < N
      · have HK := Lib.hid (consK_succ P R most k)
        have hlen := consK_len P R most k
        have CC1 := Lib.hid (CC.out (k : Int) (by omega))
        have CT1 := Lib.hid (CT.out (k : Int))
        have HRL1 := Lib.hid (HRL.out (k : Int))
        have CS1 := Lib.hid (fun va W ha hb => CS.out va (resL P k) W ha hb HRL1.out)
        generalize resL P (k : Int) = rk at CT1 CS1 HK HRL1
        generalize cntI (k : Int) = ck at CC1 HK
        have k1 : (k : Int) < (N : Int) := by omega
        have hown := O2.out
        obtain ⟨g, m, cc, rfl⟩ := O2.out.form
        generalize consK P R most k = L at hown hlen HK O2
        by_cases hc : ck ≤ most
        · rw [decide_eq_true hc, Bool.true_and] at HK
          clear hown
          go_wp2_with fail
          refine (CC1.out _).mono ?_
          rintro e w2 ⟨rfl, rfl⟩
          go_wp2_with fail
          refine (CT1.out _ (H.out.below B2.out)).mono ?_
          rintro e w3 ⟨u, rfl, ou, bb⟩
          have OU := Lib.hid ou
          have O3 := Lib.hid (O2.out.below bb)
          have B3 := Lib.hid (below_up B2.out bb)
          have hou := ou.reads
          obtain ⟨gu, nu, cu, rfl⟩ : ∃ gu nu cu, u = .slice gu nu cu := by
            obtain ⟨gu, cu, e, -⟩ := hou
            exact ⟨gu, _, cu, e⟩
          clear bb ou hou B2 O2
          generalize hsb : (rk == R) = sb at CS1 HK
          go_wp2_with fail
          refine (CS1.out _ _ OU.out.reads (HRR.out.below B3.out)).mono ?_
          rintro e w4 ⟨rfl, rfl⟩
          clear hsb
          have hown := O3.out
          have hbs : w.heap.size ≤ w3.heap.size := B3.out.size
          unfold Own at hown
          cases sb with
          | false =>
            rw [if_neg (by simp)] at HK
            clear hown
            go_wp2
            go_roundw
            case rel => exact ⟨k + 1, by omega, by go_num, by unfold Hid; rw [HK.out]; exact O3.out, B3⟩
            case measure => simp [intOf]; omega
          | true =>
            rw [if_pos rfl] at HK
            go_wp2_with (at_builtin; refine wpList_append_own _ rfl _ _ 22 rfl w.heap.size 3 i0 (.int .i64 0) 1 8 Try.underlying22 hi hz0 hz1 hz2 rfl (by decide) _ _ _ rfl (hown.alloc _) ⟨w3.heap.size, 0, none⟩ 1 1 [.int .i64 k] rfl rfl (cell_one_new _ _ _) (by simp [Value.oneCell']) (by unfold maxLen; omega) (by omega) (by simp; omega) ?_; intro v' w5 hown' hg1 _)
            have hb2 := Below.grown (B3.out.alloc hbs _) hg1 (by simp; omega) (fun j hj => (hown.lt j hj).1)
            go_wp2
            go_roundw
            case rel =>
              refine ⟨k + 1, by omega, by go_num, ?_, Lib.hid hb2⟩
              unfold Hid Own
              rw [HK.out]
              simpa using hown'
            case measure => simp [intOf]; omega
        · rw [decide_eq_false hc, Bool.false_and, if_neg (by simp)] at HK
          clear hown
          go_wp2_with fail
          refine (CC1.out _).mono ?_
          rintro e w2 ⟨rfl, rfl⟩
          go_wp2
          go_roundw
          case rel => exact ⟨k + 1, by omega, by go_num, by unfold Hid; rw [HK.out]; exact O2.out, B2⟩
          case measure => simp [intOf]; omega
      · obtain rfl : k = N := by omega
        go_wp2
        go_ret
        exact ⟨_, rfl, by rw [HE.out]; exact O2.out, B2.out⟩

theorem getD_at {α : Type} {l : List α} {k : Nat} (d : α) (h : k < l.length) : l.getD k d = l[k] := by
  rw [List.getD_eq_getElem?_getD, List.getElem?_eq_getElem h]
  rfl
set_option maxRecDepth 100000 in
set_option maxHeartbeats 3200000 in
theorem specGood (n : Int) (v vr : Value) (P : List Int) (R : List Bool) (w : World) (h : IntsAt w v P) (hr : BoolsAt w vr R) (hm : P.length ≤ 1048576) (hm2 : R.length ≤ 1048576) :
    Calls Try.prog 25 #[.int .i64 n, v, vr] w fun e w' => e = .returned (.int .i64 (goodR n P R)) ∧ w = w' := by
  have CP := Lib.hid (specPoolsOk n v P w h (by unfold maxLen; omega))
  have HC : Hid (goodR n P R = if (poolsB n P && (R.length == P.length)) = true then goodF P R P.length else 0) := rfl
  have HQ : Hid (poolsB n P = true → ∀ k, 0 ≤ goodF P R k ∧ goodF P R k ≤ 1023) := fun hp k => goodF_in R (pools_in hp).2.2 k
  obtain ⟨a, c, rfl, h⟩ := h
  obtain ⟨a2, c2, rfl, hr⟩ := hr
  have H := Lib.hid h
  have HR := Lib.hid hr
  clear h hr
  generalize goodR n P R = r at HC ⊢
  generalize poolsB n P = pb at CP HC HQ
  obtain ⟨m, hmm⟩ : ∃ m, P.length = m := ⟨_, rfl⟩
  obtain ⟨l, hll⟩ : ∃ l, R.length = l := ⟨_, rfl⟩
  have HM : Hid (P.length = m ∧ R.length = l) := ⟨hmm, hll⟩
  rw [hmm, hll] at HC
  rw [hmm] at hm CP ⊢
  rw [hll] at hm2 ⊢
  clear hmm hll
  cases pb with
  | false =>
    have HE : Hid (r = 0) := HC.out
    go_enter Try.func25, Try.ntmps25
    go_wp2_with fail
    refine CP.out.mono ?_
    rintro e w1 ⟨rfl, rfl⟩
    go_wp2
    go_ret
    exact ⟨ret_int HE.out.symm, rfl⟩
  | true =>
    by_cases hl : l = m
    · subst hl
      have HE : Hid (r = goodF P R l) := by unfold Hid; rw [HC.out]; simp
      have hne : ((l : Int) == (l : Int)) = true := by simp
      replace HQ := Lib.hid (HQ.out rfl)
      clear HC
      go_enter Try.func25, Try.ntmps25
      go_wp2_with fail
      refine CP.out.mono ?_
      rintro e w1 ⟨rfl, rfl⟩
      go_wp2_with fail
      clear hne
      go_loopw [7, 23] (fun gv iv wr => ∃ i : Nat, i ≤ l ∧ iv = .int .i64 i ∧ gv = .int .i64 (goodF P R i) ∧ wr = w) (fun _ iv _ => l - (intOf iv).toNat)
      case atStart => exact ⟨0, Nat.zero_le _, rfl, rfl, rfl⟩
      case round =>
        obtain ⟨i, hi, rfl, rfl, rfl⟩ := hrel
        by_cases hlt : i < l
        · have h1 : i < P.length := by rw [HM.out.1]; exact hlt
          have h2 : i < R.length := by rw [HM.out.2]; exact hlt
          rcases H.out with h0 | ⟨b1, o1, rfl, c1⟩
          · rw [h0] at h1; simp at h1
          rcases HR.out with h0 | ⟨b2, o2, rfl, c2⟩
          · rw [h0] at h2; simp at h2
          have e1 := c1 i h1
          have e2 := c2 i h2
          have HS : Hid (goodF P R (i + 1) = if R[i] = true then goodF P R i else bits .or .i64 (goodF P R i) P[i]) := by
            unfold Hid
            rw [goodF, getD_at false h2, getD_at 0 h1]
            rfl
          generalize R[i] = x at e2 HS
          generalize P[i] = p at e1 HS
          have i0 : (0 : Int) ≤ (i : Int) := by omega
          have i1 : (i : Int) < (l : Int) := by omega
          clear c1 c2 h1 h2
          obtain ⟨q, hq⟩ : ∃ q, goodF P R i = q := ⟨_, rfl⟩
          rw [hq] at HS ⊢
          clear hq
          cases x with
          | false =>
            have HS2 : Hid (goodF P R (i + 1) = bits .or .i64 q p) := HS.out
            go_wp2
            go_roundw
            case rel => exact ⟨i + 1, by omega, by go_num, by rw [HS2.out], by first | rfl | trivial⟩
            case measure => simp [intOf]; omega
          | true =>
            have HS2 : Hid (goodF P R (i + 1) = q) := HS.out
            go_wp2
            go_roundw
            case rel => exact ⟨i + 1, by omega, by go_num, by rw [HS2.out], by first | rfl | trivial⟩
            case measure => simp [intOf]; omega
        · obtain rfl : i = l := by omega
          go_wp2
          go_ret
          exact ⟨ret_int HE.out.symm, rfl⟩
    · have HE : Hid (r = 0) := by unfold Hid; rw [HC.out]; simp [hl]
      have hne : ((l : Int) == (m : Int)) = false := beq_eq_false_iff_ne.2 (by omega)
      go_enter Try.func25, Try.ntmps25
      go_wp2_with fail
      refine CP.out.mono ?_
      rintro e w1 ⟨rfl, rfl⟩
      go_wp2
      go_ret
      exact ⟨ret_int HE.out.symm, rfl⟩

set_option maxRecDepth 100000 in
set_option maxHeartbeats 3200000 in
theorem specBad (n : Int) (v vr : Value) (P : List Int) (R : List Bool) (w : World) (h : IntsAt w v P) (hr : BoolsAt w vr R) (hm : P.length ≤ 1048576) (hm2 : R.length ≤ 1048576) :
    Calls Try.prog 27 #[.int .i64 n, v, vr] w fun e w' => e = .returned (.int .i64 (badR n P R)) ∧ w = w' := by
  have CP := Lib.hid (specPoolsOk n v P w h (by unfold maxLen; omega))
  have CG := Lib.hid (specGood n v vr P R w h hr hm hm2)
  have CC := Lib.hid (fun s hs W => specCount s hs W)
  have HG : Hid (goodR n P R = if (poolsB n P && (R.length == P.length)) = true then goodF P R P.length else 0) := rfl
  have HC : Hid (badR n P R = if (poolsB n P && (R.length == P.length)) = true then badF (goodF P R P.length) P R P.length else 0) := rfl
  have HI : Hid (poolsB n P = true → ∀ p ∈ P, 0 ≤ p ∧ p ≤ 1023) := fun hp => (pools_in hp).2.2
  have HQ : Hid (poolsB n P = true → 0 ≤ goodF P R P.length ∧ goodF P R P.length ≤ 1023) := fun hp => goodF_in R (pools_in hp).2.2 _
  obtain ⟨a, c, rfl, h⟩ := h
  obtain ⟨a2, c2, rfl, hr⟩ := hr
  have H := Lib.hid h
  have HR := Lib.hid hr
  clear h hr
  generalize badR n P R = r at HC ⊢
  generalize goodR n P R = g0 at CG HG
  generalize poolsB n P = pb at CP HC HQ HG HI
  obtain ⟨m, hmm⟩ : ∃ m, P.length = m := ⟨_, rfl⟩
  obtain ⟨l, hll⟩ : ∃ l, R.length = l := ⟨_, rfl⟩
  have HM : Hid (P.length = m ∧ R.length = l) := ⟨hmm, hll⟩
  rw [hmm, hll] at HC HG
  rw [hmm] at hm CP HQ
  rw [hmm, hll] at CG ⊢
  rw [hll] at hm2
  clear hmm hll
  cases pb with
  | false =>
    have HE : Hid (r = 0) := HC.out
    go_enter Try.func27, Try.ntmps27
    go_wp2_with fail
    refine CP.out.mono ?_
    rintro e w1 ⟨rfl, rfl⟩
    go_wp2
    go_ret
    exact ⟨ret_int HE.out.symm, rfl⟩
  | true =>
    by_cases hl : l = m
    · subst hl
      have HGE : Hid (g0 = goodF P R l) := by unfold Hid; rw [HG.out]; simp
      have HE : Hid (r = badF (goodF P R l) P R l) := by unfold Hid; rw [HC.out]; simp
      have hne : ((l : Int) == (l : Int)) = true := by simp
      replace HI := Lib.hid (HI.out rfl)
      have HQ2 := HQ.out rfl
      clear HC HG HQ
      rw [← HGE.out] at HE HQ2
      have HBI := Lib.hid (fun k => badF_in R HQ2 HI.out k)
      obtain ⟨g00, g01⟩ := HQ2
      clear HGE
      go_enter Try.func27, Try.ntmps27
      go_wp2_with fail
      refine CP.out.mono ?_
      rintro e w1 ⟨rfl, rfl⟩
      go_wp2_with fail
      refine CG.out.mono ?_
      rintro e w2 ⟨rfl, rfl⟩
      go_wp2_with fail
      clear hne
      go_loopw [8, 29] (fun gv iv wr => ∃ i : Nat, i ≤ l ∧ iv = .int .i64 i ∧ gv = .int .i64 (badF g0 P R i) ∧ wr = w) (fun _ iv _ => l - (intOf iv).toNat)
      case atStart => exact ⟨0, Nat.zero_le _, rfl, rfl, rfl⟩
      case round =>
        obtain ⟨i, hi, rfl, rfl, rfl⟩ := hrel
        by_cases hlt : i < l
        · have h1 : i < P.length := by rw [HM.out.1]; exact hlt
          have h2 : i < R.length := by rw [HM.out.2]; exact hlt
          rcases H.out with h0 | ⟨b1, o1, rfl, c1⟩
          · rw [h0] at h1; simp at h1
          rcases HR.out with h0 | ⟨b2, o2, rfl, c2⟩
          · rw [h0] at h2; simp at h2
          have e1 := c1 i h1
          have e2 := c2 i h2
          have HS : Hid (badF g0 P R (i + 1) = if (R[i] && (cntI (P[i] - bits .and .i64 P[i] g0) == 1)) = true then bits .or .i64 (badF g0 P R i) (P[i] - bits .and .i64 P[i] g0) else badF g0 P R i) := by
            unfold Hid
            rw [badF, getD_at false h2, getD_at 0 h1]
            rfl
          have hpi := HI.out _ (List.getElem_mem h1)
          generalize R[i] = x at e2 HS
          generalize P[i] = p at e1 HS hpi
          have hai : 0 ≤ bits .and .i64 p g0 ∧ bits .and .i64 p g0 ≤ p := and_in hpi.1 hpi.2 g00 g01
          obtain ⟨y, hy⟩ : ∃ y, bits .and .i64 p g0 = y := ⟨_, rfl⟩
          rw [hy] at HS hai
          have CC1 := Lib.hid (CC.out (p - y) (by omega))
          obtain ⟨hp0, hp1⟩ := hpi
          obtain ⟨hy0, hy1⟩ := hai
          have i0 : (0 : Int) ≤ (i : Int) := by omega
          have i1 : (i : Int) < (l : Int) := by omega
          clear c1 c2 h1 h2
          obtain ⟨q, hq⟩ : ∃ q, badF g0 P R i = q := ⟨_, rfl⟩
          rw [hq] at HS ⊢
          clear hq
          generalize cntI (p - y) = k at HS CC1
          cases x with
          | false =>
            have HS2 : Hid (badF g0 P R (i + 1) = q) := HS.out
            go_wp2
            go_roundw
            case rel => exact ⟨i + 1, by omega, by go_num, by rw [HS2.out], by first | rfl | trivial⟩
            case measure => simp [intOf]; omega
          | true =>
            go_wp2_with fail
            refine (CC1.out _).mono ?_
            rintro e w3 ⟨rfl, rfl⟩
            by_cases hk : k = 1
            · have kk : (k == 1) = true := by simp [hk]
              have HS2 : Hid (badF g0 P R (i + 1) = bits .or .i64 q (p - y)) := by unfold Hid; rw [HS.out, kk]; rfl
              clear hk
              go_wp2
              go_roundw
              case rel => exact ⟨i + 1, by omega, by go_num, by rw [HS2.out], by first | rfl | trivial⟩
              case measure => simp [intOf]; omega
            · have kk : (k == 1) = false := beq_eq_false_iff_ne.2 hk
              have HS2 : Hid (badF g0 P R (i + 1) = q) := by unfold Hid; rw [HS.out, kk]; rfl
              go_wp2
              go_roundw
              case rel => exact ⟨i + 1, by omega, by go_num, by rw [HS2.out], by first | rfl | trivial⟩
              case measure => simp [intOf]; omega
        · obtain rfl : i = l := by omega
          go_wp2
          go_ret
          exact ⟨ret_int HE.out.symm, rfl⟩
    · have HE : Hid (r = 0) := by unfold Hid; rw [HC.out]; simp [hl]
      have hne : ((l : Int) == (m : Int)) = false := beq_eq_false_iff_ne.2 (by omega)
      go_enter Try.func27, Try.ntmps27
      go_wp2_with fail
      refine CP.out.mono ?_
      rintro e w1 ⟨rfl, rfl⟩
      go_wp2
      go_ret
      exact ⟨ret_int HE.out.symm, rfl⟩
end Go.Proofs.Ytdafhbblkopelaa
