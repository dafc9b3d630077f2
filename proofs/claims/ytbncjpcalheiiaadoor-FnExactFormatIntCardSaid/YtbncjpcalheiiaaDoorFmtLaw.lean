/- The walk of the law of FormatInt: it returns true for every number, where the library's table of powers of ten is as its text lays it. -/
import Derived.Test.YtbncjpcalheiiaaDoorFmt
namespace Go.Proofs.YtbncjpcalheiiaaDoor
open Go.RowKit

theorem int_bounds {n : Int} (h : (Lit.int .i64 n).wf = true) : -9223372036854775808 ≤ n ∧ n ≤ 9223372036854775807 := by
  simpa [Lit.wf, IntKind.min, IntKind.max, IntKind.signed, IntKind.bits] using h

theorem walkFnExactFormatInt (a0 : Int) (w0 : (Lit.int .i64 a0).wf = true) (w : World) (ht : TabOk w) :
    Calls Tryd.prog 4 #[.int .i64 a0] w fun e w' => e = .returned (.bool true) ∧ Below w.heap.size w w' := by
  obtain ⟨h0, h1⟩ := int_bounds w0
  have C1 := Lib.hid (specFmt a0 w h0 h1)
  have C2 := Lib.hid (fun W h => implFmt a0 W h0 h1 h)
  have HT := Lib.hid ht
  generalize fmtB a0 = t at C1 C2
  clear ht w0
  go_enter Tryd.func4, Tryd.ntmps4
  go_wp2_with fail
  refine C1.out.mono ?_
  rintro e w1 ⟨rfl, hb1⟩
  have HB1 := Lib.hid hb1
  clear hb1
  go_wp2_with fail
  refine (C2.out w1 (HT.out.below HB1.out)).mono ?_
  rintro e w2 ⟨rfl, hb2⟩
  have HB2 := Lib.hid hb2
  clear hb2
  go_wp2
  go_ret
  exact ⟨rfl, below_via HB1.out HB2.out⟩
end Go.Proofs.YtbncjpcalheiiaaDoor
