/- The contracts of the program's resultsOk, SurelyGood and SurelyBad. Conditions: the slices read as integers and as truth values, and are short enough to be counted. -/
import Derived.Test.YtnpmkoeceihepaaPoolsImpl
namespace Go.Proofs.Ytnpmkoeceihepaa
open Go.RowKit

/-- What is left of a set without another one. -/
theorem left_nat {a b : Nat} (ha : a < 1024) (hb : b < 1024) : bits .andNot .i64 (a : Int) (b : Int) = ((a - (a &&& b) : Nat) : Int) := by
  obtain ⟨x, hx⟩ : ∃ x : BitVec 64, BitVec.ofInt 64 (a : Int) = x := ⟨_, rfl⟩
  obtain ⟨y, hy⟩ : ∃ y : BitVec 64, BitVec.ofInt 64 (b : Int) = y := ⟨_, rfl⟩
  have xa : x.toNat = a := by rw [← hx]; exact nat64 (by omega)
  have yb : y.toNat = b := by rw [← hy]; exact nat64 (by omega)
  have hs : (x &&& y) + (x &&& ~~~y) = x := by
    rw [BitVec.add_eq_or_of_and_eq_zero _ _ (by ext i; simp; intro _ h1 _; exact h1)]
    ext i
    simp
    cases x[i] <;> simp
  have h1 : (x &&& y).toNat = a &&& b := by rw [BitVec.toNat_and, xa, yb]
  have h2 : (x &&& ~~~y).toNat ≤ a := by rw [BitVec.toNat_and, xa]; exact Nat.and_le_left
  have h3 : a &&& b ≤ a := Nat.and_le_left
  have h4 : (x &&& ~~~y).toNat = a - (a &&& b) := by
    have h5 := congrArg BitVec.toNat hs
    rw [BitVec.toNat_add, h1, xa] at h5
    omega
  show IntKind.i64.wrap ((BitVec.ofInt 64 (a : Int) &&& ~~~(BitVec.ofInt 64 (b : Int))).toNat : Nat) = _
  rw [hx, hy, h4, IntKind.wrap_i64]
  omega
theorem left_in {x y : Int} (h0 : 0 ≤ x) (h1 : x ≤ 1023) (g0 : 0 ≤ y) (g1 : y ≤ 1023) : bits .andNot .i64 x y = x - bits .and .i64 x y := by
  obtain ⟨a, rfl⟩ := Int.eq_ofNat_of_zero_le h0
  obtain ⟨b, rfl⟩ := Int.eq_ofNat_of_zero_le g0
  have h2 : bits .and .i64 (a : Int) (b : Int) = ((a &&& b : Nat) : Int) := and_nat (by omega) (by omega)
  have h3 : a &&& b ≤ a := Nat.and_le_left
  rw [left_nat (by omega) (by omega), h2]
  omega

def rokB (n : Int) (P : List Int) (R : List Bool) : Bool := poolsB n P && (R.length == P.length)
set_option maxHeartbeats 1600000 in
theorem implResultsOk (n : Int) (v vr : Value) (P : List Int) (R : List Bool) (w : World) (h : IntsAt w v P) (hr : BoolsAt w vr R) (hm : P.length ≤ 1048576) :
    Calls Try.prog 34 #[.int .i64 n, v, vr] w fun e w' => e = .returned (.bool (rokB n P R)) ∧ w = w' := by
  have CP := Lib.hid (implPoolsOk n v P w h (by unfold maxLen; omega))
  have HB : Hid (rokB n P R = (poolsB n P && (R.length == P.length))) := rfl
  obtain ⟨a, c, rfl, -⟩ := h
  obtain ⟨a2, c2, rfl, -⟩ := hr
  generalize rokB n P R = r at HB ⊢
  generalize poolsB n P = pb at CP HB
  generalize P.length = m at CP HB
  generalize R.length = l at HB ⊢
  cases pb with
  | false =>
    have HE : Hid (r = false) := HB.out
    go_enter Try.func34, Try.ntmps34
    go_wp2_with fail
    refine CP.out.mono ?_
    rintro e w1 ⟨rfl, rfl⟩
    go_wp2
    go_ret
    exact ⟨ret_bool HE.out.symm, rfl⟩
  | true =>
    obtain ⟨q, hq⟩ : ∃ q, ((l : Int) == (m : Int)) = q := ⟨_, rfl⟩
    have HE : Hid (r = q) := by
      unfold Hid
      rw [HB.out, ← hq, Bool.true_and, Bool.eq_iff_iff, beq_iff_eq, beq_iff_eq]
      omega
    go_enter Try.func34, Try.ntmps34
    go_wp2_with fail
    refine CP.out.mono ?_
    rintro e w1 ⟨rfl, rfl⟩
    go_wp2
    go_ret
    exact ⟨ret_bool HE.out.symm, rfl⟩

theorem rok_pools {n : Int} {P : List Int} {R : List Bool} (h : rokB n P R = true) : (∀ p ∈ P, 0 ≤ p ∧ p ≤ 1023) ∧ R.length = P.length := by
  unfold rokB at h
  rw [Bool.and_eq_true, beq_iff_eq] at h
  exact ⟨(pools_in h.1).2.2, h.2⟩
end Go.Proofs.Ytnpmkoeceihepaa
