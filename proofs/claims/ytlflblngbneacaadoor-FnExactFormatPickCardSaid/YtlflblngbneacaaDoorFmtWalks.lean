/- The walks through the exact laws of FormatState, FormatPick, FormatCases, FormatSets, FormatSigns and FormatResults. Conditions: the variables that the code reads hold what the program's text lays. -/
import Derived.Test.YtlflblngbneacaaDoorFormats
import Derived.Test.YtlflblngbneacaaDoorFmtState
import Derived.Test.YtlflblngbneacaaDoorSignLaws
import Derived.Test.YtlflblngbneacaaDoorRepLaws
import Derived.Test.YtlflblngbneacaaDoorRepLaws2
import Derived.Test.YtlflblngbneacaaDoorGBase
namespace Go.Proofs.YtlflblngbneacaaDoor
open Go.RowKit

def EmptyOk (w : World) : Prop := ∃ a, EmptyAt w a
theorem fit_of {l : List Int} (h : ∀ x ∈ l, (Lit.int .i64 x).wf = true) : Fit l := fun x hx => range_of (h x hx)
theorem walkFnExactFormatState (b : Int) (w0 : (Lit.int .i64 b).wf = true) (h : Int) (w1 : (Lit.int .i64 h).wf = true) (l : Int) (w2 : (Lit.int .i64 l).wf = true) (g : Int) (w3 : (Lit.int .i64 g).wf = true) (W : World) (ht : TabOk W) :
    Calls Tryd.prog 8 #[.agg #[.int .i64 b, .int .i64 h, .int .i64 l, .int .i64 g]] W fun e w' => e = .returned (.bool true) ∧ Below W.heap.size W w' :=
  have hs : Fit (SD.mk b h l g).list := fit_of (by simp [SD.list, w0, w1, w2, w3])
  lawFormatState ⟨b, h, l, g⟩ hs W (fun V hV => implFormatState _ hs V (ht.below hV))
theorem walkFnExactFormatPick (p0 : Int) (w0 : (Lit.int .i64 p0).wf = true) (p1 : Int) (w1 : (Lit.int .i64 p1).wf = true) (p2 : Int) (w2 : (Lit.int .i64 p2).wf = true) (p3 : Int) (w3 : (Lit.int .i64 p3).wf = true) (p4 : Int) (w4 : (Lit.int .i64 p4).wf = true) (p5 : Int) (w5 : (Lit.int .i64 p5).wf = true) (p6 : Int) (w6 : (Lit.int .i64 p6).wf = true) (p7 : Int) (w7 : (Lit.int .i64 p7).wf = true) (W : World) (ht : TabOk W) :
    Calls Tryd.prog 9 #[.agg #[.int .i64 p0, .int .i64 p1, .int .i64 p2, .int .i64 p3, .int .i64 p4, .int .i64 p5, .int .i64 p6, .int .i64 p7]] W fun e w' => e = .returned (.bool true) ∧ Below W.heap.size W w' :=
  have hs : Fit (PD.mk p0 p1 p2 p3 p4 p5 p6 p7).list := fit_of (by simp [PD.list, w0, w1, w2, w3, w4, w5, w6, w7])
  lawFormatPick ⟨p0, p1, p2, p3, p4, p5, p6, p7⟩ hs W (fun V hV => implFormatPick _ hs V (ht.below hV))
theorem walkFnExactFormatCases (w : World) (v : Value) (l : List Int) (c : CameInts w v l) (ht : TabOk w) (hh : HandleOk w) (he : EmptyOk w) :
    Calls Tryd.prog 3 #[v] w fun e w' => e = .returned (.bool true) ∧ Below w.heap.size w w' := by
  obtain ⟨a, he⟩ := he
  exact lawFormatCases l w (fit_of c.2.2) v c.1 (fun hm W hW u hu => implFormatCases u l W hu hm (fit_of c.2.2) (ht.below hW) (hh.below hW) a (he.below hW))
theorem walkFnExactFormatSets (w : World) (v : Value) (l : List Int) (c : CameInts w v l) (ht : TabOk w) (hh : HandleOk w) (he : EmptyOk w) :
    Calls Tryd.prog 10 #[v] w fun e w' => e = .returned (.bool true) ∧ Below w.heap.size w w' := by
  obtain ⟨a, he⟩ := he
  exact lawFormatSets l w (fit_of c.2.2) v c.1 (fun hm W hW u hu => implFormatSets u l W hu hm (ht.below hW) (hh.below hW) a (he.below hW))
theorem walkFnExactFormatSigns (w : World) (v : Value) (l : List Int) (c : CameInts w v l) (hh : HandleOk w) (he : EmptyOk w) :
    Calls Tryd.prog 4 #[v] w fun e w' => e = .returned (.bool true) ∧ Below w.heap.size w w' := by
  obtain ⟨a, he⟩ := he
  exact lawFormatSigns l w v c.1 (fun hm W hW u hu => implFormatSignsOf u l W hu hm (hh.below hW) a (he.below hW))
theorem walkFnExactFormatResults (w : World) (v : Value) (l : List Bool) (c : CameBools w v l) (hh : HandleOk w) (he : EmptyOk w) :
    Calls Tryd.prog 6 #[v] w fun e w' => e = .returned (.bool true) ∧ Below w.heap.size w w' := by
  obtain ⟨a, he⟩ := he
  exact lawFormatResults l w v c.1 (fun hm W hW u hu => implFormatResultsOf u l W hu hm (hh.below hW) a (he.below hW))
end Go.Proofs.YtlflblngbneacaaDoor
