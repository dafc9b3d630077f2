/- The contracts of the program's resultsOk, SurelyGood and SurelyBad. Conditions: the slices read as integers and as truth values, and are short enough to be counted. -/
import Derived.Test.YtlflblngbneacabDoorPoolsImpl
namespace Go.Proofs.YtlflblngbneacabDoor
open Go.RowKit

/-- What is left of a set without another one. -/
theorem left_nat {a b : Nat} (ha : a < 1024) (hb : b < 1024) : bits .andNot .i64 (a : Int) (b : Int) = ((a - (a &&& b) : Nat) : Int) := by
  obtain ⟨x, hx⟩ : ∃ x : BitVec 64, BitVec.ofInt 64 (a : Int) = x := ⟨_, rfl⟩
  obtain ⟨y, hy⟩ : ∃ y : BitVec 64, BitVec.ofInt 64 (b : Int) = y := ⟨_, rfl⟩
  have xa : x.toNat = a := by rw [← hx]; exact nat64 (by omega)
  have yb : y.toNat = b := by rw [← hy]; exact nat64 (by omega)
  have hs : (x &&& y) + (x &&& ~~~y) = x := by
    rw [BitVec.add_eq_or_of_and_eq_zero _ _ (by ext i; simp; intro _ h1 _; exact h1)]
    ext i
    simp
    cases x[i] <;> simp
  have h1 : (x &&& y).toNat = a &&& b := by rw [BitVec.toNat_and, xa, yb]
  have h2 : (x &&& ~~~y).toNat ≤ a := by rw [BitVec.toNat_and, xa]; exact Nat.and_le_left
  have h3 : a &&& b ≤ a := Nat.and_le_left
  have h4 : (x &&& ~~~y).toNat = a - (a &&& b) := by
    have h5 := congrArg BitVec.toNat hs
    rw [BitVec.toNat_add, h1, xa] at h5
    omega
  show IntKind.i64.wrap ((BitVec.ofInt 64 (a : Int) &&& ~~~(BitVec.ofInt 64 (b : Int))).toNat : Nat) = _
  rw [hx, hy, h4, IntKind.wrap_i64]
  omega
theorem left_in {x y : Int} (h0 : 0 ≤ x) (h1 : x ≤ 1023) (g0 : 0 ≤ y) (g1 : y ≤ 1023) : bits .andNot .i64 x y = x - bits .and .i64 x y := by
  obtain ⟨a, rfl⟩ := Int.eq_ofNat_of_zero_le h0
  obtain ⟨b, rfl⟩ := Int.eq_ofNat_of_zero_le g0
  have h2 : bits .and .i64 (a : Int) (b : Int) = ((a &&& b : Nat) : Int) := and_nat (by omega) (by omega)
  have h3 : a &&& b ≤ a := Nat.and_le_left
  rw [left_nat (by omega) (by omega), h2]
  omega

def rokB (n : Int) (P : List Int) (R : List Bool) : Bool := poolsB n P && (R.length == P.length)
set_option maxHeartbeats 1600000 in
theorem implResultsOk (n : Int) (v vr : Value) (P : List Int) (R : List Bool) (w : World) (h : IntsAt w v P) (hr : BoolsAt w vr R) (hm : P.length ≤ 1048576) :
    Calls Tryd.prog 98 #[.int .i64 n, v, vr] w fun e w' => e = .returned (.bool (rokB n P R)) ∧ w = w' := by
  have CP := Lib.hid (implPoolsOk n v P w h (by unfold maxLen; omega))
  have HB : Hid (rokB n P R = (poolsB n P && (R.length == P.length))) := rfl
  obtain ⟨a, c, rfl, -⟩ := h
  obtain ⟨a2, c2, rfl, -⟩ := hr
  generalize rokB n P R = r at HB ⊢
  generalize poolsB n P = pb at CP HB
  generalize P.length = m at CP HB
  generalize R.length = l at HB ⊢
  cases pb with
  | false =>
    have HE : Hid (r = false) := HB.out
    go_enter Tryd.func98, Tryd.ntmps98
    go_wp2_with fail
    refine CP.out.mono ?_
    rintro e w1 ⟨rfl, rfl⟩
    go_wp2
    go_ret
    exact ⟨ret_bool HE.out.symm, rfl⟩
  | true =>
    obtain ⟨q, hq⟩ : ∃ q, ((l : Int) == (m : Int)) = q := ⟨_, rfl⟩
    have HE : Hid (r = q) := by
      unfold Hid
      rw [HB.out, ← hq, Bool.true_and, Bool.eq_iff_iff, beq_iff_eq, beq_iff_eq]
      omega
    go_enter Tryd.func98, Tryd.ntmps98
    go_wp2_with fail
    refine CP.out.mono ?_
    rintro e w1 ⟨rfl, rfl⟩
    go_wp2
    go_ret
    exact ⟨ret_bool HE.out.symm, rfl⟩

theorem rok_pools {n : Int} {P : List Int} {R : List Bool} (h : rokB n P R = true) : (∀ p ∈ P, 0 ≤ p ∧ p ≤ 1023) ∧ R.length = P.length := by
  unfold rokB at h
  rw [Bool.and_eq_true, beq_iff_eq] at h
  exact ⟨(pools_in h.1).2.2, h.2⟩
set_option maxRecDepth 100000 in
set_option maxHeartbeats 3200000 in
theorem implGood (n : Int) (v vr : Value) (P : List Int) (R : List Bool) (w : World) (h : IntsAt w v P) (hr : BoolsAt w vr R) (hm : P.length ≤ 1048576) :
    Calls Tryd.prog 43 #[.int .i64 n, v, vr] w fun e w' => e = .returned (.int .i64 (goodR n P R)) ∧ w = w' := by
  have CP := Lib.hid (implResultsOk n v vr P R w h hr hm)
  have HC : Hid (goodR n P R = if rokB n P R = true then goodF P R P.length else 0) := rfl
  have HQ : Hid (rokB n P R = true → R.length = P.length) := fun hp => (rok_pools hp).2
  obtain ⟨a, c, rfl, h⟩ := h
  obtain ⟨a2, c2, rfl, hr⟩ := hr
  have H := Lib.hid h
  have HR := Lib.hid hr
  clear h hr
  generalize goodR n P R = r at HC ⊢
  generalize rokB n P R = pb at CP HC HQ
  obtain ⟨m, hmm⟩ : ∃ m, P.length = m := ⟨_, rfl⟩
  obtain ⟨l, hll⟩ : ∃ l, R.length = l := ⟨_, rfl⟩
  have HM : Hid (P.length = m ∧ R.length = l) := ⟨hmm, hll⟩
  rw [hmm] at HC
  rw [hmm] at hm
  rw [hmm, hll] at CP HQ
  rw [hmm, hll]
  clear hmm hll
  cases pb with
  | false =>
    have HE : Hid (r = 0) := HC.out
    go_enter Tryd.func43, Tryd.ntmps43
    go_wp2_with fail
    refine CP.out.mono ?_
    rintro e w1 ⟨rfl, rfl⟩
    go_wp2
    go_ret
    exact ⟨ret_int HE.out.symm, rfl⟩
  | true =>
    obtain rfl := HQ.out rfl
    have HE : Hid (r = goodF P R l) := HC.out
    clear HC HQ
    go_enter Tryd.func43, Tryd.ntmps43
    go_wp2_with fail
    refine CP.out.mono ?_
    rintro e w1 ⟨rfl, rfl⟩
    go_wp2_with fail
    go_loopw [7, 17] (fun gv iv wr => ∃ i : Nat, i ≤ l ∧ iv = .int .i64 i ∧ gv = .int .i64 (goodF P R i) ∧ wr = w) (fun _ iv _ => l - (intOf iv).toNat)
    case atStart => exact ⟨0, Nat.zero_le _, rfl, rfl, rfl⟩
    case round =>
      obtain ⟨i, hi, rfl, rfl, rfl⟩ := hrel
      by_cases hlt : i < l
      · have h1 : i < P.length := by rw [HM.out.1]; exact hlt
        have h2 : i < R.length := by rw [HM.out.2]; exact hlt
        rcases H.out with h0 | ⟨b1, o1, rfl, c1⟩
        · rw [h0] at h1; simp at h1
        rcases HR.out with h0 | ⟨b2, o2, rfl, c2⟩
        · rw [h0] at h2; simp at h2
        have e1 := c1 i h1
        have e2 := c2 i h2
        have HS : Hid (goodF P R (i + 1) = if R[i] = true then goodF P R i else bits .or .i64 (goodF P R i) P[i]) := by
          unfold Hid
          rw [goodF, getD_at false h2, getD_at 0 h1]
          rfl
        generalize R[i] = x at e2 HS
        generalize P[i] = p at e1 HS
        have i0 : (0 : Int) ≤ (i : Int) := by omega
        have i1 : (i : Int) < (l : Int) := by omega
        clear c1 c2 h1 h2
        obtain ⟨q, hq⟩ : ∃ q, goodF P R i = q := ⟨_, rfl⟩
        rw [hq] at HS ⊢
        clear hq
        cases x with
        | false =>
          have HS2 : Hid (goodF P R (i + 1) = bits .or .i64 q p) := HS.out
          go_wp2
          go_roundw
          case rel => exact ⟨i + 1, by omega, by go_num, by rw [HS2.out], by first | rfl | trivial⟩
          case measure => simp [intOf]; omega
        | true =>
          have HS2 : Hid (goodF P R (i + 1) = q) := HS.out
          go_wp2
          go_roundw
          case rel => exact ⟨i + 1, by omega, by go_num, by rw [HS2.out], by first | rfl | trivial⟩
          case measure => simp [intOf]; omega
      · obtain rfl : i = l := by omega
        go_wp2
        go_ret
        exact ⟨ret_int HE.out.symm, rfl⟩

set_option maxRecDepth 100000 in
set_option maxHeartbeats 3200000 in
theorem implBad (n : Int) (v vr : Value) (P : List Int) (R : List Bool) (w : World) (h : IntsAt w v P) (hr : BoolsAt w vr R) (hm : P.length ≤ 1048576) :
    Calls Tryd.prog 44 #[.int .i64 n, v, vr] w fun e w' => e = .returned (.int .i64 (badR n P R)) ∧ Below w.heap.size w w' := by
  have CP := Lib.hid (implResultsOk n v vr P R w h hr hm)
  have CG := Lib.hid (implGood n v vr P R w h hr hm)
  have CC := Lib.hid (fun s hs W => implCount s hs W)
  have HG : Hid (goodR n P R = if rokB n P R = true then goodF P R P.length else 0) := rfl
  have HC : Hid (badR n P R = if rokB n P R = true then badF (goodF P R P.length) P R P.length else 0) := rfl
  have HI : Hid (rokB n P R = true → (∀ p ∈ P, 0 ≤ p ∧ p ≤ 1023) ∧ R.length = P.length) := fun hp => rok_pools hp
  obtain ⟨a, c, rfl, h⟩ := h
  obtain ⟨a2, c2, rfl, hr⟩ := hr
  have H := Lib.hid h
  have HR := Lib.hid hr
  clear h hr
  generalize badR n P R = r at HC ⊢
  generalize goodR n P R = g0 at CG HG
  generalize rokB n P R = pb at CP HC HG HI
  obtain ⟨m, hmm⟩ : ∃ m, P.length = m := ⟨_, rfl⟩
  obtain ⟨l, hll⟩ : ∃ l, R.length = l := ⟨_, rfl⟩
  have HM : Hid (P.length = m ∧ R.length = l) := ⟨hmm, hll⟩
  rw [hmm] at HC HG
  rw [hmm] at hm
  rw [hmm, hll] at HI CP CG
  rw [hmm, hll]
  clear hmm hll
  have B0 := Lib.hid (Below.refl w.heap.size w)
  cases pb with
  | false =>
    have HE : Hid (r = 0) := HC.out
    go_enter Tryd.func44, Tryd.ntmps44
    go_wp2_with fail
    refine CP.out.mono ?_
    rintro e w1 ⟨rfl, rfl⟩
    go_wp2
    go_ret
    exact ⟨ret_int HE.out.symm, B0.out⟩
  | true =>
    have HJ := HI.out rfl
    obtain rfl := HJ.2
    have HPI := Lib.hid HJ.1
    clear HJ HI
    have HGE : Hid (g0 = goodF P R l) := HG.out
    have HE : Hid (r = badF (goodF P R l) P R l) := HC.out
    have HQ2 : 0 ≤ goodF P R l ∧ goodF P R l ≤ 1023 := goodF_in R HPI.out l
    clear HC HG
    rw [← HGE.out] at HE HQ2
    obtain ⟨g00, g01⟩ := HQ2
    clear HGE
    go_enter Tryd.func44, Tryd.ntmps44
    go_wp2_with fail
    refine CP.out.mono ?_
    rintro e w1 ⟨rfl, rfl⟩
    go_wp2_with fail
    refine CG.out.mono ?_
    rintro e w2 ⟨rfl, rfl⟩
    go_wp2_with fail
    go_loopw [8, 23] (fun gv iv wr => ∃ i : Nat, i ≤ l ∧ iv = .int .i64 i ∧ gv = .int .i64 (badF g0 P R i) ∧ Hid (Below w.heap.size w wr)) (fun _ iv _ => l - (intOf iv).toNat)
    case atStart => exact ⟨0, Nat.zero_le _, rfl, rfl, B0⟩
    case round =>
      clear B0
      obtain ⟨i, hi, rfl, rfl, B1⟩ := hrel
      by_cases hlt : i < l
      · have h1 : i < P.length := by rw [HM.out.1]; exact hlt
        have h2 : i < R.length := by rw [HM.out.2]; exact hlt
        rcases H.out with h0 | ⟨b1, o1, rfl, c1⟩
        · rw [h0] at h1; simp at h1
        rcases HR.out with h0 | ⟨b2, o2, rfl, c2⟩
        · rw [h0] at h2; simp at h2
        have f1 := c1 i h1
        have f2 := c2 i h2
        have e1 : wr.cell? ⟨b1, o1 + i, none⟩ = some (.int .i64 P[i]) := by rw [B1.out.cell (p := ⟨b1, o1 + i, none⟩) (World.block_lt_of_cell? w _ f1)]; exact f1
        have e2 : wr.cell? ⟨b2, o2 + i, none⟩ = some (.bool R[i]) := by rw [B1.out.cell (p := ⟨b2, o2 + i, none⟩) (World.block_lt_of_cell? w _ f2)]; exact f2
        have HS : Hid (badF g0 P R (i + 1) = if (R[i] && (cntI (P[i] - bits .and .i64 P[i] g0) == 1)) = true then bits .or .i64 (badF g0 P R i) (P[i] - bits .and .i64 P[i] g0) else badF g0 P R i) := by
          unfold Hid
          rw [badF, getD_at false h2, getD_at 0 h1]
          rfl
        have hpi := HPI.out _ (List.getElem_mem h1)
        clear f1 f2
        generalize R[i] = x at e2 HS
        generalize P[i] = p at e1 HS hpi
        have hai : 0 ≤ bits .and .i64 p g0 ∧ bits .and .i64 p g0 ≤ p := and_in hpi.1 hpi.2 g00 g01
        have hle : bits .andNot .i64 p g0 = p - bits .and .i64 p g0 := left_in hpi.1 hpi.2 g00 g01
        rw [← hle] at HS
        have hl1 : bits .andNot .i64 p g0 ≤ 1023 := by rw [hle]; omega
        have hl2 : bits .andNot .i64 p g0 ≤ 9223372036854775807 := by omega
        have CC1 := Lib.hid (CC.out (bits .andNot .i64 p g0) hl2)
        have i0 : (0 : Int) ≤ (i : Int) := by omega
        have i1 : (i : Int) < (l : Int) := by omega
        clear c1 c2 h1 h2 hle hl1 hl2 hai hpi
        obtain ⟨q, hq⟩ : ∃ q, badF g0 P R i = q := ⟨_, rfl⟩
        rw [hq] at HS ⊢
        clear hq
        generalize cntI (bits .andNot .i64 p g0) = k at HS CC1
        cases x with
        | false =>
          have HS2 : Hid (badF g0 P R (i + 1) = q) := HS.out
          go_wp2
          go_roundw
          case rel => exact ⟨i + 1, by omega, by go_num, by rw [HS2.out], B1⟩
          case measure => simp [intOf]; omega
        | true =>
          go_wp2_with fail
          refine (CC1.out _).mono ?_
          rintro e w3 ⟨rfl, bb⟩
          have B2 := Lib.hid (below_up B1.out bb)
          clear bb
          by_cases hk : k = 1
          · have kk : (k == 1) = true := by simp [hk]
            have HS2 : Hid (badF g0 P R (i + 1) = bits .or .i64 q (bits .andNot .i64 p g0)) := by unfold Hid; rw [HS.out, kk]; rfl
            clear hk
            go_wp2
            go_roundw
            case rel => exact ⟨i + 1, by omega, by go_num, by rw [HS2.out], B2⟩
            case measure => simp [intOf]; omega
          · have kk : (k == 1) = false := beq_eq_false_iff_ne.2 hk
            have HS2 : Hid (badF g0 P R (i + 1) = q) := by unfold Hid; rw [HS.out, kk]; rfl
            go_wp2
            go_roundw
            case rel => exact ⟨i + 1, by omega, by go_num, by rw [HS2.out], B2⟩
            case measure => simp [intOf]; omega
      · obtain rfl : i = l := by omega
        go_wp2
        go_ret
        exact ⟨ret_int HE.out.symm, B1.out⟩
end Go.Proofs.YtlflblngbneacabDoor
