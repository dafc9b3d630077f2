/- The walk of FnLies round the contracts of the program's AsksOk, FitsAfter and IsFound: it returns true for every code. Condition: the code reads as bytes. -/
import Derived.Test.YtnpmkoeceihepaaMakeAsks
import Derived.Test.YtnpmkoeceihepaaLieLaws
import Derived.Deep.RegionHeld3
import Derived.Deep.QuietTactic
namespace Go.Proofs.Ytnpmkoeceihepaa
open Go.RowKit

set_option maxRecDepth 100000 in
set_option maxHeartbeats 6400000 in
theorem walkLies (IA : ∀ n P R, P.length ≤ 1048576 → R.length ≤ 1048576 → AsksOkIs 16 n P R) (IF : ∀ n P R, P.length ≤ 1048576 → R.length ≤ 1048576 → FitsAfterIs 20 n P R)
    (IG : ∀ n P R, P.length ≤ 1048576 → R.length ≤ 1048576 → IsFoundIs 22 n P R) (w : World) (a : Option Addr) (len cap : Nat) (hB : BytesAt w a len) :
    Calls Try.prog 10 #[.slice a len cap] w fun e w' => e = .returned (.bool true) ∧ Below w.heap.size w w' := by
  by_cases hbig : (1048576 : Int) < (len : Int)
  · go_enter Try.func10, Try.ntmps10
    go_wp2
    go_ret
    exact ⟨rfl, Below.refl _ _⟩
  have CM := Lib.hid (specMakeAsks w w a len cap hB (Below.refl _ _) (by omega))
  unfold MadeAsks at CM
  have HA := Lib.hid IA
  have HF := Lib.hid IF
  have HG := Lib.hid IG
  clear hB IA IF IG
  go_enter Try.func10, Try.ntmps10
  go_wp2_with fail
  clear hbig
  refine CM.out.mono ?_
  rintro e w1 ⟨n, s, lie, v, vr, P, R, rfl, iP, iR, hok, hsn, ht, bb⟩
  have B1 := Lib.hid bb
  have LF := lie_facts hok (by omega) ht
  have HST := Lib.hid (fun k j (hk : k ≤ 62) (hj : j < P.length) => lies_step hok k j hk hj)
  have HLE := Lib.hid (fun k j => liesF_le P R k j)
  obtain ⟨⟨n1, n8⟩, hpl, hrl, -⟩ := asks_in hok
  have CA := Lib.hid (HA.out n P R (by omega) (by omega))
  have CF := Lib.hid (HF.out n P R (by omega) (by omega))
  have CG := Lib.hid (HG.out n P R (by omega) (by omega))
  have H0 : Hid (∀ k, liesF P R k 0 = 0) := fun _ => rfl
  unfold AsksOkIs at CA
  unfold FitsAfterIs at CF
  unfold IsFoundIs at CG
  rw [hok] at CA
  obtain ⟨-, a0, a1, b0, b1, f1, f2, f3, fn, fo⟩ := LF
  generalize fitI n P R 0 = A at CF a0 a1 f1 f2 f3 fn
  generalize fitI n P R 1 = B at CF b0 b1 f1 f2 f3 fo
  rw [f3] at CG
  generalize hr : (bits .or .i64 A B == 2 ^ s) = r at CG
  have hrr : (r != r) = false := by cases r <;> rfl
  have HP := Lib.hid iP
  have HR := Lib.hid iR
  obtain ⟨ga, gc, rfl, -⟩ := iP
  obtain ⟨ra, rc, rfl, -⟩ := iR
  obtain ⟨m, hm⟩ : ∃ m, P.length = m := ⟨_, rfl⟩
  have HM := Lib.hid hm
  rw [hm] at hpl hrl HST HP fn fo ⊢
  rw [hrl] at HR ⊢
  have HRM := Lib.hid hrl
  have hw : IntKind.i64.wrap (2 ^ s) = 2 ^ s := (pow_i (i := s) (by omega)).1
  have FN := Lib.hid fn
  have FO := Lib.hid fo
  generalize liesF P R = Q at HST HLE H0 FN FO
  have s0 : (0 : Int) ≤ (s : Int) := by omega
  clear bb HA HF HG hok ht f3 hm hrl fn fo
  go_wp2_with fail
  refine (CF.out _ _ _ HP.out HR.out).mono ?_
  rintro e w2 ⟨rfl, bb⟩
  have B2 := Lib.hid (below_up B1.out bb)
  have HP2 := Lib.hid (HP.out.below bb)
  have HR2 := Lib.hid (HR.out.below bb)
  have HK : Hid (Below w2.heap.size w2 w2) := Lib.hid (Below.refl _ _)
  clear bb
  go_wp2_with fail
  go_region_held3 (fun w' => w2.heap.size ≤ w'.heap.size)
    (first | exact Nat.le_refl _ | exact HK.out.size | fail)
    (first
      | (go_at_call 16; refine (CA.out _ _ _ (HP2.out.below HK.out.drew) (HR2.out.below HK.out.drew)).mono ?_; rintro e w3 ⟨rfl, bb⟩; (refine addFact (A := Hid (Below w2.heap.size w2 w3)) (HK.out.drew.trans (bb.mono HK.out.drew.size)) (fun HK1 => ?_)); clear bb HK; have HK := HK1; clear HK1)
      | (go_at_call 22; refine (CG.out _ _ _ (HP2.out.below HK.out) (HR2.out.below HK.out)).mono ?_; rintro e w3 ⟨rfl, bb⟩; (refine addFact (A := Hid (Below w2.heap.size w2 w3)) (HK.out.trans (bb.mono HK.out.size)) (fun HK1 => ?_)); clear bb HK; have HK := HK1; clear HK1)
      | fail)
  clear f1 f2 hr hrr CA CF CG CM hsn
  have hnn : (n : Int) ≤ 8 := n8
  go_wp2
  go_loopw [9] (fun kv wr => ∃ k : Nat, k ≤ n ∧ kv = .int .i64 (k : Int) ∧ Hid (Below w2.heap.size w2 wr)) (fun kv _ => n - (intOf kv).toNat)
  case atStart => exact ⟨0, Nat.zero_le _, rfl, HK⟩
  case round =>
    clear HK
    obtain ⟨k, hk, rfl, HK⟩ := hrel
    by_cases hlt : k < n
    · have k0 : (0 : Int) ≤ (k : Int) := by omega
      have k1 : (k : Int) < (n : Int) := by omega
      have k64 : (k : Int) ≤ 64 := by omega
      have FNK := FN.out k k1
      have FOK := FO.out k k1
      have Q0 := H0.out k
      have HQ := Lib.hid (fun j (hj : j < m) => HST.out k j (by omega) hj)
      have HL := Lib.hid (HLE.out k)
      generalize Q k = q at FNK FOK Q0 HQ HL
      have HQ0 : Hid (.int .i64 0 = Value.int .i64 ((q 0 : Nat) : Int)) := by unfold Hid; rw [Q0]; rfl
      have FN2 := Lib.hid FNK
      have FO2 := Lib.hid FOK
      clear FNK FOK Q0
      go_wp2
      go_loopw [10, 78] (fun lv jv ws => ∃ j : Nat, j ≤ m ∧ jv = .int .i64 (j : Int) ∧ lv = .int .i64 ((q j : Nat) : Int) ∧ Hid (Below w2.heap.size w2 ws)) (fun _ jv _ => m - (intOf jv).toNat)
      case atStart => exact ⟨0, Nat.zero_le _, rfl, HQ0.out, HK⟩
      case round =>
        clear HK HQ0
        obtain ⟨j, hj, rfl, rfl, HK⟩ := hrel
        by_cases hjm : j < m
        · have hjl : j < P.length := by rw [HM.out]; exact hjm
          have hjr : j < R.length := by rw [HRM.out]; exact hjm
          obtain ⟨a', c', ea, hp⟩ := HP2.out.below HK.out
          injection ea with ea1 ea2 ea3
          subst ea1 ea3
          obtain ⟨a'', c'', er, hr⟩ := HR2.out.below HK.out
          injection er with er1 er2 er3
          subst er1 er3
          rcases hp with hp | ⟨b1, o1, rfl, hc1⟩
          · rw [hp] at hjl; simp at hjl
          rcases hr with hr | ⟨b2, o2, rfl, hc2⟩
          · rw [hr] at hjr; simp at hjr
          have e1 := hc1 j hjl
          have e2 := hc2 j hjr
          have HS := HQ.out j hjm
          rw [show P.getD j 0 = P[j] by simp [List.getD, List.getElem?_eq_getElem hjl], show R.getD j false = R[j] by simp [List.getD, List.getElem?_eq_getElem hjr]] at HS
          obtain ⟨x, hx⟩ : ∃ x, P[j] = x := ⟨_, rfl⟩
          obtain ⟨t, ht⟩ : ∃ t, R[j] = t := ⟨_, rfl⟩
          rw [hx] at e1 HS
          rw [ht] at e2 HS
          have HLJ := HL.out j
          generalize q j = qj at HS HLJ
          have HSS := Lib.hid HS
          have j0 : (0 : Int) ≤ (j : Int) := by omega
          have j1 : (j : Int) < (m : Int) := by omega
          clear hc1 hc2 hx ht HS hjl hjr ea2 er2
          generalize hu : (bits .and .i64 (x / 2 ^ k) 1 == 1) = u at HSS
          generalize hut : (u != t) = ut at HSS
          have hbq : (u == t) = !ut := by rw [← hut]; cases u <;> cases t <;> rfl
          cases ut with
          | true =>
            have hbq2 : (u == t) = false := hbq
            clear hbq
            have HS2 : Hid (((qj : Nat) : Int) + 1 = ((q (j + 1) : Nat) : Int)) := by unfold Hid; rw [HSS.out, if_pos rfl]; omega
            have qb : (qj : Int) ≤ 8 := by omega
            go_wp2
            go_quiet (fail)
            go_wp2
            go_roundw
            case rel => exact ⟨j + 1, by omega, by go_num, by rw [← HS2.out], Lib.hid (below_drewN HK.out _)⟩
            case measure => simp [intOf]; omega
          | false =>
            have hbq2 : (u == t) = true := hbq
            clear hbq
            have HS2 : Hid (((qj : Nat) : Int) = ((q (j + 1) : Nat) : Int)) := by unfold Hid; rw [HSS.out]; rfl
            go_wp2
            go_quiet (fail)
            go_wp2
            go_roundw
            case rel => exact ⟨j + 1, by omega, by go_num, by rw [← HS2.out], Lib.hid (below_drewN HK.out _)⟩
            case measure => simp [intOf]; omega
        · obtain rfl : j = m := by omega
          have F1 := FN2.out
          have F2 := FO2.out
          have z0 : (((q j : Nat) : Int) == 0) = (q j == 0) := by rw [Bool.eq_iff_iff, beq_iff_eq, beq_iff_eq]; omega
          have z1 : (((q j : Nat) : Int) == 1) = (q j == 1) := by rw [Bool.eq_iff_iff, beq_iff_eq, beq_iff_eq]; omega
          generalize (q j == 0) = t0 at F1 z0
          generalize (q j == 1) = t1 at F2 z1
          generalize q j = qj at z0 z1 ⊢
          have y0 : (t0 != t0) = false := by cases t0 <;> rfl
          have y1 : (t1 != t1) = false := by cases t1 <;> rfl
          clear FN2 FO2 HQ HL
          go_wp2
          go_roundw
          case rel => exact ⟨k + 1, by omega, by go_num, HK⟩
          case measure => simp [intOf]; omega
    · obtain rfl : k = n := by omega
      go_wp2
      go_ret
      exact ⟨rfl, below_up B2.out HK.out⟩
end Go.Proofs.Ytnpmkoeceihepaa
