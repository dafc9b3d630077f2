/- The contract of the program's IsSeparable; the walks of the exact laws of Weakness, IsSeparable, BitPools and DecodeItems: each returns true for every argument. No condition. -/
import Derived.Test.YtlflblngbneacaaGreatDoorWeakImpl
import Derived.Test.YtlflblngbneacaaGreatDoorBitsImpl
import Derived.Test.YtlflblngbneacaaGreatDoorItemsLaws
namespace Go.Proofs.YtlflblngbneacaaGreatDoor
open Go.RowKit

set_option maxHeartbeats 1600000 in
theorem implSep (n : Int) (v : Value) (P : List Int) (d : Int) (w : World) (h : IntsAt w v P) (hm : P.length ≤ 1048576) :
    Calls Tryz.prog 71 #[.int .i64 n, v, .int .i64 d] w fun e w' => e = .returned (.bool (sepR n P d)) ∧ Below w.heap.size w w' := by
  have CW := Lib.hid (implWeak n v P d w h hm)
  have CO := Lib.hid (fun W (hb : Below w.heap.size w W) => implBadOk n v P d W (h.below hb) hm)
  have HB : Hid (sepR n P d = (okD n P d && !(weakO n P d).isSome)) := rfl
  have HN : Hid (okD n P d = false → (weakO n P d).isSome = false) := fun h => by unfold weakO; rw [h]; rfl
  obtain ⟨a, c, rfl, -⟩ := h
  unfold Weaks at CW
  generalize sepR n P d = r at HB ⊢
  generalize okD n P d = ok at CO HB HN
  generalize weakO n P d = o at CW HB HN
  cases hs : o.isSome with
  | false =>
    rw [hs] at CW HB
    have HE : Hid (r = ok) := by unfold Hid; rw [HB.out]; simp
    clear HN hs
    cases ok <;>
    · go_enter Tryz.func71, Tryz.ntmps71
      go_wp2_with fail
      refine CW.out.mono ?_
      rintro e w1 ⟨u, rfl, ou, bb⟩
      obtain ⟨gu, nu, cu, rfl⟩ := ou.form
      have B1 := Lib.hid bb
      have CO1 := Lib.hid (CO.out w1 bb)
      clear ou bb
      go_wp2_with fail
      refine CO1.out.mono ?_
      rintro e w2 ⟨rfl, rfl⟩
      go_wp2
      go_ret
      exact ⟨ret_bool HE.out.symm, B1.out⟩
  | true =>
    cases ok with
    | false => rw [HN.out rfl] at hs; cases hs
    | true =>
      rw [hs] at CW HB
      have HE : Hid (r = false) := HB.out
      clear HN hs
      go_enter Tryz.func71, Tryz.ntmps71
      go_wp2_with fail
      refine CW.out.mono ?_
      rintro e w1 ⟨u, rfl, ou, bb⟩
      obtain ⟨gu, nu, cu, rfl⟩ := ou.form
      have B1 := Lib.hid bb
      have CO1 := Lib.hid (CO.out w1 bb)
      clear ou bb
      go_wp2_with fail
      refine CO1.out.mono ?_
      rintro e w2 ⟨rfl, rfl⟩
      go_wp2
      go_ret
      exact ⟨ret_bool HE.out.symm, B1.out⟩

end Go.Proofs.YtlflblngbneacaaGreatDoor
