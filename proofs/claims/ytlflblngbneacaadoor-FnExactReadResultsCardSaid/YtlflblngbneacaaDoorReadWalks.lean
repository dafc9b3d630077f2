/- The walks through the exact laws of ReadSigns and ReadResults. Conditions: the variables that the code reads hold what the program's text and the library's lay. -/
import Derived.Test.YtlflblngbneacaaDoorReadSigns
namespace Go.Proofs.YtlflblngbneacaaDoor
open Go.RowKit

theorem walkFnExactReadSigns (t : ByteArray) (_ : t.size ≤ maxLen) (w : World) (hT : Lib.Utf8Tabs 4 5 w) (hm : MaxOk w) (he : ErrsOk w) :
    Calls Tryd.prog 5 #[.string t] w fun e w' => e = .returned (.bool true) ∧ Below w.heap.size w w' := by
  obtain ⟨a, b, h⟩ := he
  exact lawReadSigns t w (fun ht W hW => implReadSignsOf t ht W (hm.below hW) (utf8_below hT hW) a b (h.below hW))
theorem walkFnExactReadResults (t : ByteArray) (_ : t.size ≤ maxLen) (w : World) (hT : Lib.Utf8Tabs 4 5 w) (hm : MaxOk w) (he : ErrsOk w) :
    Calls Tryd.prog 7 #[.string t] w fun e w' => e = .returned (.bool true) ∧ Below w.heap.size w w' := by
  obtain ⟨a, b, h⟩ := he
  exact lawReadResults t w (fun ht W hW => implReadResultsOf t ht W (hm.below hW) (utf8_below hT hW) a b (h.below hW))
end Go.Proofs.YtlflblngbneacaaDoor
