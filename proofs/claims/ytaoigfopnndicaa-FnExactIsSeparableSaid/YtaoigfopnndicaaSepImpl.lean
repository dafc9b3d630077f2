/- The contract of the program's IsSeparable; the walks of the exact laws of Weakness, IsSeparable, BitPools and DecodeItems: each returns true for every argument. No condition. -/
import Derived.Test.YtaoigfopnndicaaWeakImpl
import Derived.Test.YtaoigfopnndicaaBitsImpl
import Derived.Test.YtaoigfopnndicaaItemsLaws
namespace Go.Proofs.Ytaoigfopnndicaa
open Go.RowKit

set_option maxHeartbeats 1600000 in
theorem implSep (n : Int) (v : Value) (P : List Int) (d : Int) (w : World) (h : IntsAt w v P) (hm : P.length ≤ 1048576) :
    Calls Try.prog 24 #[.int .i64 n, v, .int .i64 d] w fun e w' => e = .returned (.bool (sepR n P d)) ∧ Below w.heap.size w w' := by
  have CW := Lib.hid (implWeak n v P d w h hm)
  have CO := Lib.hid (fun W (hb : Below w.heap.size w W) => implBadOk n v P d W (h.below hb) hm)
  have HB : Hid (sepR n P d = (okD n P d && !(weakO n P d).isSome)) := rfl
  have HN : Hid (okD n P d = false → (weakO n P d).isSome = false) := fun h => by unfold weakO; rw [h]; rfl
  obtain ⟨a, c, rfl, -⟩ := h
  unfold Weaks at CW
  generalize sepR n P d = r at HB ⊢
  generalize okD n P d = ok at CO HB HN
  generalize weakO n P d = o at CW HB HN
  cases hs : o.isSome with
  | false =>
    rw [hs] at CW HB
    have HE : Hid (r = ok) := by unfold Hid; rw [HB.out]; simp
    clear HN hs
    cases ok <;>
    · go_enter Try.func24, Try.ntmps24
      go_wp2_with fail
      refine CW.out.mono ?_
      rintro e w1 ⟨u, rfl, ou, bb⟩
      obtain ⟨gu, nu, cu, rfl⟩ := ou.form
      have B1 := Lib.hid bb
      have CO1 := Lib.hid (CO.out w1 bb)
      clear ou bb
      go_wp2_with fail
      refine CO1.out.mono ?_
      rintro e w2 ⟨rfl, rfl⟩
      go_wp2
      go_ret
      exact ⟨ret_bool HE.out.symm, B1.out⟩
  | true =>
    cases ok with
    | false => rw [HN.out rfl] at hs; cases hs
    | true =>
      rw [hs] at CW HB
      have HE : Hid (r = false) := HB.out
      clear HN hs
      go_enter Try.func24, Try.ntmps24
      go_wp2_with fail
      refine CW.out.mono ?_
      rintro e w1 ⟨u, rfl, ou, bb⟩
      obtain ⟨gu, nu, cu, rfl⟩ := ou.form
      have B1 := Lib.hid bb
      have CO1 := Lib.hid (CO.out w1 bb)
      clear ou bb
      go_wp2_with fail
      refine CO1.out.mono ?_
      rintro e w2 ⟨rfl, rfl⟩
      go_wp2
      go_ret
      exact ⟨ret_bool HE.out.symm, B1.out⟩

theorem walkFnExactWeakness (w : World) (n : Int) (_ : (Lit.int .i64 n).wf = true) (v : Value) (P : List Int) (cp : CameInts w v P) (d : Int) (_ : (Lit.int .i64 d).wf = true) :
    Calls Try.prog 5 #[.int .i64 n, v, .int .i64 d] w fun e w' => e = .returned (.bool true) ∧ Below w.heap.size w w' :=
  lawWeakness n P d w v cp.1 fun hm W vP hP => implWeak n vP P d W hP hm
theorem walkFnExactIsSeparable (w : World) (n : Int) (_ : (Lit.int .i64 n).wf = true) (v : Value) (P : List Int) (cp : CameInts w v P) (d : Int) (_ : (Lit.int .i64 d).wf = true) :
    Calls Try.prog 6 #[.int .i64 n, v, .int .i64 d] w fun e w' => e = .returned (.bool true) ∧ Below w.heap.size w w' :=
  lawIsSeparable n P d w v cp.1 fun hm W vP hP => implSep n vP P d W hP hm
theorem walkFnExactBitPools (n : Int) (_ : (Lit.int .i64 n).wf = true) (w : World) :
    Calls Try.prog 7 #[.int .i64 n] w fun e w' => e = .returned (.bool true) ∧ Below w.heap.size w w' :=
  lawBitPools n w fun W => implBitPools n W
theorem walkFnExactDecodeItems (w : World) (n : Int) (_ : (Lit.int .i64 n).wf = true) (v : Value) (P : List Int) (cp : CameInts w v P) (vr : Value) (R : List Bool) (cr : CameBools w vr R) :
    Calls Try.prog 9 #[.int .i64 n, v, vr] w fun e w' => e = .returned (.bool true) ∧ Below w.heap.size w w' :=
  lawDecodeItems n P R w v vr cp.1 cr.1 fun hm _ W vP vR hP hR => implDecode n vP vR P R W hP hR hm
end Go.Proofs.Ytaoigfopnndicaa
