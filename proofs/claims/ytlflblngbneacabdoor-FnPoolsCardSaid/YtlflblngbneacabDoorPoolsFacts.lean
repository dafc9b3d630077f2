/- What the results of pools tell, plainly: what is surely good is none of the bad items, and what is surely bad is among them. No condition. -/
import Derived.Test.YtlflblngbneacabDoorSumsFacts
namespace Go.Proofs.YtlflblngbneacabDoor
open Go.RowKit

theorem left_bit {a b : Nat} (ha : a < 1024) (hb : b < 1024) (i : Nat) : (a - (a &&& b)).testBit i = (a.testBit i && !b.testBit i) := by
  obtain ⟨x, hx⟩ : ∃ x : BitVec 64, BitVec.ofInt 64 (a : Int) = x := ⟨_, rfl⟩
  obtain ⟨y, hy⟩ : ∃ y : BitVec 64, BitVec.ofInt 64 (b : Int) = y := ⟨_, rfl⟩
  have xa : x.toNat = a := by rw [← hx]; exact nat64 (by omega)
  have yb : y.toNat = b := by rw [← hy]; exact nat64 (by omega)
  have hs : (x &&& y) + (x &&& ~~~y) = x := by
    rw [BitVec.add_eq_or_of_and_eq_zero _ _ (by ext i; simp; intro _ h1 _; exact h1)]
    ext i
    simp
    cases x[i] <;> simp
  have h1 : (x &&& y).toNat = a &&& b := by rw [BitVec.toNat_and, xa, yb]
  have h2 : (x &&& ~~~y).toNat ≤ a := by rw [BitVec.toNat_and, xa]; exact Nat.and_le_left
  have h3 : a &&& b ≤ a := Nat.and_le_left
  have h4 : (x &&& ~~~y).toNat = a - (a &&& b) := by
    have h5 := congrArg BitVec.toNat hs
    rw [BitVec.toNat_add, h1, xa] at h5
    omega
  rw [← h4, BitVec.testBit_toNat, BitVec.getLsbD_and, BitVec.getLsbD_not, ← BitVec.testBit_toNat, ← BitVec.testBit_toNat, xa, yb]
  by_cases hi : i < 64
  · simp [hi]
  · have : a.testBit i = false := Nat.testBit_lt_two_pow (Nat.lt_of_lt_of_le (show a < 2 ^ 10 by omega) (Nat.pow_le_pow_right (by decide) (by omega)))
    rw [this]
    rfl
theorem one_bit : ∀ q : Nat, q < 1024 → cntI (q : Int) = 1 → ∃ i, i < 10 ∧ q = 2 ^ i := by decide +kernel
theorem sure_nat {p g x : Nat} (hp : p < 1024) (hg : g < 1024) (hc : cntI ((p - (p &&& g) : Nat) : Int) = 1) (hx : p &&& x ≠ 0) (hz : g &&& x = 0) : (p - (p &&& g)) &&& x = p - (p &&& g) := by
  obtain ⟨j, hj⟩ := Nat.exists_testBit_of_ne_zero hx
  rw [Nat.testBit_and, Bool.and_eq_true] at hj
  have hgj : g.testBit j = false := by
    have h := congrArg (fun k => Nat.testBit k j) hz
    simp only [Nat.testBit_and, Nat.zero_testBit, hj.2, Bool.and_true] at h
    exact h
  have hq : (p - (p &&& g)).testBit j = true := by rw [left_bit hp hg, hj.1, hgj]; rfl
  obtain ⟨i, -, hi⟩ := one_bit _ (by omega) hc
  rw [hi] at hq ⊢
  rw [Nat.testBit_two_pow] at hq
  have hij : i = j := of_decide_eq_true hq
  subst hij
  refine Nat.eq_of_testBit_eq fun k => ?_
  rw [Nat.testBit_and, Nat.testBit_two_pow]
  by_cases hk : i = k
  · subst hk; rw [hj.2]; simp
  · simp [hk]
theorem and_zero_or {a b c : Nat} (h1 : a &&& c = 0) (h2 : b &&& c = 0) : (a ||| b) &&& c = 0 := by
  rw [Nat.and_or_distrib_right, h1, h2]; rfl
theorem and_same_or {a b c : Nat} (h1 : a &&& c = a) (h2 : b &&& c = b) : (a ||| b) &&& c = a ||| b := by
  rw [Nat.and_or_distrib_right, h1, h2]
theorem nat_of {x : Int} (h0 : 0 ≤ x) (h1 : x ≤ 1023) : ∃ a : Nat, x = (a : Int) ∧ a < 1024 := ⟨x.toNat, by omega, by omega⟩
theorem res_at {P : List Int} {x : Int} {k : Nat} (h : k < P.length) : (resL P x).getD k false = (andI P[k] x != 0) := by
  rw [List.getD_eq_getElem?_getD, List.getElem?_eq_getElem (by rw [resL_len]; exact h)]
  simp [resL]
theorem pool_at {P : List Int} {k : Nat} (h : k < P.length) : P.getD k 0 = P[k] := by
  rw [List.getD_eq_getElem?_getD, List.getElem?_eq_getElem h]; rfl
/-- What is surely good is none of a set with these results. -/
theorem good_free {P : List Int} {x : Int} (hP : ∀ p ∈ P, 0 ≤ p ∧ p ≤ 1023) (h0 : 0 ≤ x) (h1 : x ≤ 1023) : ∀ k, k ≤ P.length → andI (goodF P (resL P x) k) x = 0
  | 0, _ => by
    obtain ⟨a, rfl, ha⟩ := nat_of h0 h1
    have := and_nat (a := 0) (b := a) (by omega) (by omega)
    rw [Nat.zero_and] at this
    exact this
  | k + 1, h => by
    have ih := good_free hP h0 h1 k (by omega)
    have hk : k < P.length := by omega
    have hb := goodF_in (resL P x) hP k
    unfold goodF
    rw [res_at hk, pool_at hk]
    split
    · exact ih
    · rename_i hr
      have hz : andI P[k] x = 0 := by simpa using hr
      have hp := hP _ (List.getElem_mem hk)
      generalize goodF P (resL P x) k = g at ih hb
      generalize P[k] = p at hz hp
      obtain ⟨a, rfl, ha⟩ := nat_of h0 h1
      obtain ⟨b, rfl, hbb⟩ := nat_of hb.1 hb.2
      obtain ⟨c, rfl, hc⟩ := nat_of hp.1 hp.2
      have ho : b ||| c < 2 ^ 10 := Nat.or_lt_two_pow (by omega) (by omega)
      rw [and_nat (by omega) (by omega)] at ih hz
      rw [or_nat (by omega) (by omega), and_nat (by omega) (by omega), and_zero_or (by omega) (by omega)]
      rfl
/-- What is surely bad is among a set with these results. -/
theorem bad_among {P : List Int} {x g : Int} (hP : ∀ p ∈ P, 0 ≤ p ∧ p ≤ 1023) (h0 : 0 ≤ x) (h1 : x ≤ 1023) (g0 : 0 ≤ g) (g1 : g ≤ 1023) (hg : andI g x = 0) : ∀ k, k ≤ P.length → andI (badF g P (resL P x) k) x = badF g P (resL P x) k
  | 0, _ => by
    obtain ⟨a, rfl, ha⟩ := nat_of h0 h1
    have := and_nat (a := 0) (b := a) (by omega) (by omega)
    rw [Nat.zero_and] at this
    exact this
  | k + 1, h => by
    have ih := bad_among hP h0 h1 g0 g1 hg k (by omega)
    have hk : k < P.length := by omega
    have hb := badF_in (resL P x) ⟨g0, g1⟩ hP k
    unfold badF
    rw [res_at hk, pool_at hk]
    split
    · rename_i hr
      rw [Bool.and_eq_true, beq_iff_eq, bne_iff_ne] at hr
      obtain ⟨hz, hc⟩ := hr
      have hp := hP _ (List.getElem_mem hk)
      generalize badF g P (resL P x) k = b at ih hb
      generalize P[k] = p at hz hp hc
      obtain ⟨a, rfl, ha⟩ := nat_of h0 h1
      obtain ⟨b, rfl, hbb⟩ := nat_of hb.1 hb.2
      obtain ⟨c, rfl, hcc⟩ := nat_of hp.1 hp.2
      obtain ⟨d, rfl, hd⟩ := nat_of g0 g1
      rw [and_nat (by omega) (by omega)] at ih hz hg hc
      rw [and_nat (a := c) (b := d) (by omega) (by omega)]
      have hle : c &&& d ≤ c := Nat.and_le_left
      have e : (c : Int) - ((c &&& d : Nat) : Int) = ((c - (c &&& d) : Nat) : Int) := by omega
      rw [e] at hc ⊢
      have hs := sure_nat (by omega) hd hc (by omega) (show d &&& a = 0 by omega)
      have hq : c - (c &&& d) < 1024 := by omega
      generalize c - (c &&& d) = q at hs hq
      have ho : b ||| q < 2 ^ 10 := Nat.or_lt_two_pow (by omega) (by omega)
      rw [or_nat (by omega) (by omega), and_nat (by omega) (by omega), and_same_or (by omega) hs]
    · exact ih
theorem and_comm10 {x y : Int} (h0 : 0 ≤ x) (h1 : x ≤ 1023) (g0 : 0 ≤ y) (g1 : y ≤ 1023) : andI x y = andI y x := by
  obtain ⟨a, rfl, ha⟩ := nat_of h0 h1
  obtain ⟨b, rfl, hb⟩ := nat_of g0 g1
  rw [and_nat (by omega) (by omega), and_nat (by omega) (by omega), Nat.and_comm]
/-- All that the law of pools asks of a set with the results R. -/
theorem pools_tell {n : Int} {P : List Int} (h : poolsB n P = true) {x : Int} (h0 : 0 ≤ x) (h1 : x ≤ 1023) :
    andI (goodR n P (resL P x)) x = 0 ∧ andI x (goodR n P (resL P x)) = 0 ∧ andI (badR n P (resL P x)) x = badR n P (resL P x) ∧ andI x (badR n P (resL P x)) = badR n P (resL P x) := by
  obtain ⟨-, -, hP⟩ := pools_in h
  have hl : ((resL P x).length == P.length) = true := by rw [resL_len]; simp
  have eg : goodR n P (resL P x) = goodF P (resL P x) P.length := by unfold goodR; rw [h, hl]; rfl
  have eb : badR n P (resL P x) = badF (goodF P (resL P x) P.length) P (resL P x) P.length := by unfold badR; rw [h, hl]; rfl
  have hg := goodF_in (resL P x) hP P.length
  have hb := badF_in (resL P x) hg hP P.length
  have k1 := good_free hP h0 h1 P.length (Nat.le_refl _)
  have k2 := bad_among hP h0 h1 hg.1 hg.2 k1 P.length (Nat.le_refl _)
  rw [eg, eb]
  exact ⟨k1, by rw [and_comm10 h0 h1 hg.1 hg.2]; exact k1, k2, by rw [and_comm10 h0 h1 hb.1 hb.2]; exact k2⟩
/-- A set of at most so many items is among those with its results; and with fewer items allowed there are no more. -/
theorem cons_mem {n : Nat} {P : List Int} (h : poolsB (n : Int) P = true) {x : Int} (h0 : 0 ≤ x) (h1 : x ≤ topI (n : Int)) : x ∈ consR (n : Int) P (resL P x) (n : Int) := by
  have hn := (pools_in h).1
  obtain ⟨j, rfl⟩ := Int.eq_ofNat_of_zero_le h0
  have hc : ((2 ^ n : Nat) : Int) = (2 : Int) ^ n := by simp
  have e : topI (n : Int) = 2 ^ n - 1 := rfl
  have hj : j < 2 ^ n := by omega
  unfold consR consL
  rw [if_pos h, List.mem_filter, List.mem_map]
  refine ⟨⟨j, by rw [List.mem_range, Int.toNat_natCast]; exact hj, rfl⟩, ?_⟩
  rw [decide_eq_true (cnt_few (n := n) (by omega) hj)]
  simp
theorem cons_of {n : Int} {P : List Int} {R : List Bool} {m x : Int} (hx : x ∈ consR n P R m) : poolsB n P = true ∧ 0 ≤ x ∧ x ≤ topI n ∧ resL P x = R := by
  unfold consR at hx
  split at hx
  · rename_i h
    unfold consL at hx
    rw [List.mem_filter, List.mem_map] at hx
    obtain ⟨⟨j, hj, rfl⟩, hr⟩ := hx
    rw [List.mem_range] at hj
    rw [Bool.and_eq_true, beq_iff_eq] at hr
    have hc : ((2 ^ n.toNat : Nat) : Int) = (2 : Int) ^ n.toNat := by simp
    have e : topI n = 2 ^ n.toNat - 1 := rfl
    exact ⟨h, by omega, by omega, hr.2⟩
  · simp at hx
theorem cons_few (n : Int) (P : List Int) (R : List Bool) {a b : Int} (h : a ≤ b) : (consR n P R a).length ≤ (consR n P R b).length := by
  unfold consR
  split
  · unfold consL
    rw [← List.countP_eq_length_filter, ← List.countP_eq_length_filter]
    refine List.countP_mono_left fun x _ hs => ?_
    rw [Bool.and_eq_true, decide_eq_true_eq] at hs ⊢
    exact ⟨by omega, hs.2⟩
  · exact Nat.le_refl _
end Go.Proofs.YtlflblngbneacabDoor
