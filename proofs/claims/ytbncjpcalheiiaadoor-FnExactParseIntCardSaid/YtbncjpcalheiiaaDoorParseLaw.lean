/- The walk of the law of ParseInt: it returns true for every text, where the library's table of powers of ten and its two error variables are as their text lays them. -/
import Derived.Test.YtbncjpcalheiiaaDoorParse
import Derived.Test.YtbncjpcalheiiaaDoorParseImpl
namespace Go.Proofs.YtbncjpcalheiiaaDoor
open Go.RowKit

set_option maxHeartbeats 800000 in
theorem walkFnExactParseInt (a0 : ByteArray) (_w0 : a0.size ≤ maxLen) (w : World) (ht : TabOk w) (h1 : SentOk w "strconv.ErrSyntax") (h2 : SentOk w "strconv.ErrRange") :
    Calls Tryd.prog 5 #[.string a0] w fun e w' => e = .returned (.bool true) ∧ Below w.heap.size w w' := by
  by_cases hb : (1048576 : Int) < (a0.size : Int)
  · clear ht h1 h2
    go_enter Tryd.func5, Tryd.ntmps5
    go_wp2
    go_ret
    exact ⟨rfl, Below.refl _ _⟩
  · have hs : a0.size ≤ 1048576 := by omega
    have C1 := Lib.hid (specParse a0 w hs)
    have C2 := Lib.hid (fun W h h' h'' => implParse a0 W hs h h' h'')
    have HT := Lib.hid ht
    have H1 := Lib.hid h1
    have H2 := Lib.hid h2
    clear ht h1 h2
    go_enter Tryd.func5, Tryd.ntmps5
    go_wp2_with fail
    refine C1.out.mono ?_
    rintro e w1 ⟨r1, b1, rfl, A1, hb1⟩
    have HB1 := Lib.hid hb1
    have HA1 := Lib.hid A1
    clear hb1 A1
    go_wp2_with fail
    refine (C2.out w1 (HT.out.below HB1.out) (H1.out.below gESyn HB1.out) (H2.out.below gERan HB1.out)).mono ?_
    rintro e w2 ⟨r2, b2, rfl, A2, hb2⟩
    have HB2 := Lib.hid hb2
    obtain ⟨e1, e2⟩ := ans_unique HA1.out A2
    subst e1
    subst e2
    clear hb2 A2
    go_wp2
    go_ret
    exact ⟨rfl, below_via HB1.out HB2.out⟩
end Go.Proofs.YtbncjpcalheiiaaDoor
