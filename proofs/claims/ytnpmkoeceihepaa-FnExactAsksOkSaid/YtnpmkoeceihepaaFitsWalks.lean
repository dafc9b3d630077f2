/- The contract of the program's IsFound, and the walks of the exact laws of AsksOk, FitsAfter and IsFound and of FnLies: each returns true for every argument. No condition. -/
import Derived.Test.YtnpmkoeceihepaaFitsLoop
import Derived.Test.YtnpmkoeceihepaaLiesLaw
namespace Go.Proofs.Ytnpmkoeceihepaa
open Go.RowKit

theorem found_one {n : Int} (P : List Int) (R : List Bool) : foundB n P R = (cntI (bits .or .i64 (fitI n P R 0) (fitI n P R 1)) == 1) := by
  unfold foundB
  by_cases hok : asksB n P R = true
  · have hin := (asks_in hok).1
    have h0 : ∀ c, fitI n P R c = ((fitM P R c n.toNat : Nat) : Int) := fun c => by
      unfold fitI
      rw [if_pos hok, fitN_cast _ _ _ _ (by omega)]
    have hlt : ∀ c, fitM P R c n.toNat < 256 := fun c => Nat.lt_of_lt_of_le (fitM_lt P R c n.toNat) (Nat.pow_le_pow_right (n := 2) (by decide) (show n.toNat ≤ 8 by omega))
    have hand : fitM P R 0 n.toNat &&& fitM P R 1 n.toNat = 0 := Nat.eq_of_testBit_eq fun i => by
      rw [Nat.testBit_and, fitM_bit, fitM_bit, Nat.zero_testBit]
      cases decide (i < n.toNat)
      · rfl
      · rcases liesF P R i P.length with _ | _ | k <;> simp
    have hor : bits .or .i64 (fitI n P R 0) (fitI n P R 1) = ((fitM P R 0 n.toNat ||| fitM P R 1 n.toNat : Nat) : Int) := by
      rw [h0, h0]
      exact or_nat (by have := hlt 0; omega) (by have := hlt 1; omega)
    have hc := cnt_or 64 _ _ hand
    rw [hor, h0, h0]
    unfold cntI
    rw [hc]
  · have h0 : ∀ c, fitI n P R c = 0 := fun c => by unfold fitI; rw [if_neg hok]
    rw [h0, h0]
    decide +kernel

set_option maxRecDepth 100000 in
set_option maxHeartbeats 1600000 in
theorem implFoundIs (n : Int) (P : List Int) (R : List Bool) (hm : P.length ≤ 1048576) : IsFoundIs 22 n P R := by
  intro w v vr h hr
  have CF := Lib.hid (implFits n P R hm w v vr h hr)
  have h0 := fitI_in n P R 0
  have h1 := fitI_in n P R 1
  have ho := or_in h0.1 h0.2 h1.1 h1.2
  have CC := Lib.hid (fun W => implCount (bits .or .i64 (fitI n P R 0) (fitI n P R 1)) (by have : bits .or .i64 (fitI n P R 0) (fitI n P R 1) ≤ 1023 := ho.2; omega) W)
  have HE := Lib.hid (found_one (n := n) P R)
  generalize foundB n P R = r at HE ⊢
  generalize fitI n P R 0 = x at CF CC HE
  generalize fitI n P R 1 = y at CF CC HE
  generalize cntI (bits .or .i64 x y) = k at CC HE
  obtain ⟨a0, k0, rfl, -⟩ := h
  obtain ⟨a1, k1, rfl, -⟩ := hr
  clear h0 h1 ho hm
  go_enter Try.func22, Try.ntmps22
  go_wp2_with fail
  refine (CF.out).mono ?_
  rintro e w1 ⟨rfl, b1⟩
  have B1 := Lib.hid b1
  clear b1 CF
  go_wp2_with fail
  refine (CC.out _).mono ?_
  rintro e w2 ⟨rfl, b2⟩
  have B2 := Lib.hid (below_up B1.out b2)
  clear b2 CC
  go_wp2
  go_ret
  exact ⟨ret_bool HE.out.symm, B2.out⟩

theorem implAsksIs (n : Int) (P : List Int) (R : List Bool) (hm : P.length ≤ 1048576) : AsksOkIs 16 n P R := fun W vP vR hP hR => implAsksOk n vP vR P R W hP hR hm
theorem walkFnExactAsksOk (w : World) (n : Int) (_ : (Lit.int .i64 n).wf = true) (v : Value) (P : List Int) (cp : CameInts w v P) (vr : Value) (R : List Bool) (cr : CameBools w vr R) :
    Calls Try.prog 3 #[.int .i64 n, v, vr] w fun e w' => e = .returned (.bool true) ∧ Below w.heap.size w w' :=
  lawAsksOk n P R w v vr cp.1 cr.1 fun hm _ => implAsksIs n P R hm
theorem walkFnExactFitsAfter (w : World) (n : Int) (_ : (Lit.int .i64 n).wf = true) (v : Value) (P : List Int) (cp : CameInts w v P) (vr : Value) (R : List Bool) (cr : CameBools w vr R) :
    Calls Try.prog 4 #[.int .i64 n, v, vr] w fun e w' => e = .returned (.bool true) ∧ Below w.heap.size w w' :=
  lawFitsAfter n P R w v vr cp.1 cr.1 fun hm _ => implFits n P R hm
theorem walkFnExactIsFound (w : World) (n : Int) (_ : (Lit.int .i64 n).wf = true) (v : Value) (P : List Int) (cp : CameInts w v P) (vr : Value) (R : List Bool) (cr : CameBools w vr R) :
    Calls Try.prog 5 #[.int .i64 n, v, vr] w fun e w' => e = .returned (.bool true) ∧ Below w.heap.size w w' :=
  lawIsFound n P R w v vr cp.1 cr.1 fun hm _ => implFoundIs n P R hm
theorem walkFnLies (w : World) (a : Option Addr) (len cap : Nat) (zs : List Int) (h : IsBytes w a len cap zs) :
    Calls Try.prog 10 #[.slice a len cap] w fun e w' => e = .returned (.bool true) ∧ Below w.heap.size w w' :=
  walkLies (fun n P R hm _ => implAsksIs n P R hm) (fun n P R hm _ => implFits n P R hm) (fun n P R hm _ => implFoundIs n P R hm) w a len cap (bytesAt_of h)
end Go.Proofs.Ytnpmkoeceihepaa
