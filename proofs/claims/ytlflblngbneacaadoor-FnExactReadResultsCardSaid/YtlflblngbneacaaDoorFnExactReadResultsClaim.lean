/- The statement FnExactReadResultsCard, a tied card, about the program at this seat's commit: for every input the law returns true and leaves its input as it was. What the row lists of the library's variables is tied to the program's text by the given tie. No condition besides. -/
import Derived.Test.YtlflblngbneacaaDoorCards
import Derived.Test.YtlflblngbneacaaDoorTie
import Derived.Test.YtlflblngbneacaaDoorReadWalks
import Derived.WalkKit
import Derived.ProofKit
import Derived.OpenShut
import Derived.Lib.SmallJoins
import Derived.ShutString
import Derived.ChangeOld
import Derived.Below
import Derived.MakeChecks
import Derived.Stop.LaidErr
import Derived.Deep.DeepHandedRow
import Derived.Deep.DeepWitnessRowRef
import Derived.Lib.LaidTab
import Derived.RowKitTokens
import Derived.Stop.LaidTwo
import Derived.Lib.LaidU8T
import Derived.Shelf.Vars
namespace Go.Proofs.YtlflblngbneacaaDoor.fnExactReadResultsClaim
open Go.ChangeShapes Go.WideShapes Go.ChangeAt Go.RowKit
open Go.ChangeMaps (open_string shut_string)
set_option linter.unusedVariables false

theorem own : ownKnob Tryd.prog.godebug = none := by kernel_rfl
theorem starErr : "*" ++ "errors.errorString" = "*errors.errorString" := by decide
theorem rowErr (u : TypeId) (h : Tryd.prog.typeName? 3 u = some "*errors.errorString") : u = 171 :=
  typeName_ptr_named (nm := "errors.errorString") (by rw [starErr]; kernel_rfl) (by kernel_rfl) (by decide) u (by rw [starErr]; exact h)
theorem plainLaid {W : World} (h : laidMetH Tryd.prog Rows.fnExactReadResultsRow.laid W) : laidMet Tryd.prog [("unicode/utf8.acceptRanges", Rows.laid_unicode_utf8_acceptRanges), ("loop.example/g01040/impl.errEmpty", Rows.laid_loop_example_g01040_impl_errEmpty), ("loop.example/g01040/impl.errUnknown", Rows.laid_loop_example_g01040_impl_errUnknown), ("unicode/utf8.first", Rows.laid_unicode_utf8_first)] W := by
  rw [MakeChecks.laidMetH_plain _ _ _ (by kernel_rfl)] at h
  exact h
theorem gErrEmpty : Tryd.prog.globalNamed "loop.example/g01040/impl.errEmpty" = some 0 := by kernel_rfl
theorem gErrEmptyType : (Tryd.prog.globals[0]?).map (·.type) = some 56 := by kernel_rfl
theorem varErrEmpty {W : World} (h : laidMetH Tryd.prog Rows.fnExactReadResultsRow.laid W) : ∃ a, W.var? Tryd.prog "loop.example/g01040/impl.errEmpty" = some #[.iface 171 (.pointer (some a))] := by
  obtain ⟨a, s, hv, -⟩ := laid_sentinel (laidMet.tail (plainLaid h)) gErrEmpty gErrEmptyType Tryd.underlying56 rowErr Tryd.underlying171 Tryd.underlying189 rfl rfl Tryd.underlying9 (by kernel_rfl) (by kernel_rfl)
  exact ⟨a, hv⟩
theorem gErrUnknown : Tryd.prog.globalNamed "loop.example/g01040/impl.errUnknown" = some 1 := by kernel_rfl
theorem gErrUnknownType : (Tryd.prog.globals[1]?).map (·.type) = some 56 := by kernel_rfl
theorem varErrUnknown {W : World} (h : laidMetH Tryd.prog Rows.fnExactReadResultsRow.laid W) : ∃ a, W.var? Tryd.prog "loop.example/g01040/impl.errUnknown" = some #[.iface 171 (.pointer (some a))] := by
  obtain ⟨a, s, hv, -⟩ := laid_sentinel (laidMet.tail (laidMet.tail (plainLaid h))) gErrUnknown gErrUnknownType Tryd.underlying56 rowErr Tryd.underlying171 Tryd.underlying189 rfl rfl Tryd.underlying9 (by kernel_rfl) (by kernel_rfl)
  exact ⟨a, hv⟩
theorem var_below {W W' : World} {n : String} {cs : Array Value} (h : W.var? Tryd.prog n = some cs) (hb : Below W.heap.size W W') : W'.var? Tryd.prog n = some cs := by
  unfold World.var? at h ⊢
  cases hg : Tryd.prog.globalNamed n with
  | none => rw [hg] at h; exact h
  | some g =>
    rw [hg] at h
    simp only [Option.bind_some] at h ⊢
    have hl : g < W.heap.size := by
      rcases Nat.lt_or_ge g W.heap.size with h' | h'
      · exact h'
      · rw [Array.getElem?_eq_none h'] at h; cases h
    rw [hb.block g hl]
    exact h
theorem utf8First_eq : (Rows.laid_unicode_utf8_first : DataW Unit) = Lib.firstData := by kernel_rfl
theorem utf8Accept_eq : (Rows.laid_unicode_utf8_acceptRanges : DataW Unit) = Lib.acceptData := by kernel_rfl
def u8ren : Go.Shelf.Ren := ⟨fun n => n, fun | 5 => 5 | 119 => 160 | 138 => 162 | 139 => 163 | n => n, fun | 3 => 4 | 4 => 5 | n => n⟩
theorem u8types : U8Types Tryd.prog u8ren := ⟨Tryd.underlying5, Tryd.underlying160, Tryd.underlying162, Tryd.underlying163⟩
theorem u8extra : U8Extra Tryd.prog u8ren := ⟨by kernel_rfl, by kernel_rfl, by kernel_rfl, by kernel_rfl, by kernel_rfl, by kernel_rfl, by kernel_rfl⟩
theorem utf8Of {W : World} (h : laidMetH Tryd.prog Rows.fnExactReadResultsRow.laid W) : Lib.Utf8Tabs 4 5 W := by
  obtain ⟨ps, hv, -, -⟩ := plainLaid h
  have h3 := Lib.LaidVars_reads hv "unicode/utf8.first" Rows.laid_unicode_utf8_first (by simp)
  have h4 := Lib.LaidVars_reads hv "unicode/utf8.acceptRanges" Rows.laid_unicode_utf8_acceptRanges (by simp)
  rw [utf8First_eq] at h3
  rw [utf8Accept_eq] at h4
  exact utf8Tabs_of_readsT u8types u8extra h3 h4
theorem maxOf {W : World} (h : W.ShapedOpen Tryd.prog) : MaxOk W := cell_of_shapedOpen_int (zero := #[.int .i64 0]) h (by decide +kernel) (by kernel_rfl) rfl (by kernel_rfl) (by kernel_rfl) Tryd.underlying3
theorem errsOf {W : World} (h : laidMetH Tryd.prog Rows.fnExactReadResultsRow.laid W) : ErrsOk W := by
  obtain ⟨a0, a1, s0, s1, c0, c1, t0, t1, hv0, hv1, -, -, -, -, -, -, hne, hb0, hb1⟩ := laid_sentinels2 (laidMet.tail (plainLaid h)) gErrEmpty gErrEmptyType gErrUnknown gErrUnknownType Tryd.underlying56 rowErr Tryd.underlying171 Tryd.underlying189 rfl rfl Tryd.underlying9 (by kernel_rfl) (by kernel_rfl)
  exact ⟨a0, a1, ⟨by unfold EmptyAt; simpa using World.var?_cell gErrEmpty hv0 0, by simpa using World.var?_cell gErrUnknown hv1 0, hne, ⟨_, _, hb0⟩, ⟨_, _, hb1⟩⟩⟩

set_option maxRecDepth 100000 in
theorem contract (H : Type) (enc : TypeId × Value → H) (W : World) (base : Nat) (args : Array Value) (ds gs : List (DataW H)) (before : List MemPlace)
    (hval0 : ∀ (j : Nat) t v, Tryd.f7.params[j]? = some t → args[j]? = some v → Value.okWide Tryd.prog W .any base t v)
    (hW : DataW.Whole enc Tryd.prog Tryd.f7.params.toList Rows.fnExactReadResultsSpec.vars false W args.toList ds gs before) (hL : laidMetH Tryd.prog Rows.fnExactReadResultsRow.laid W) (hsh : W.ShapedOpen Tryd.prog) :
    Calls Tryd.prog 7 args W fun e W' => ∃ v, e = .returned v ∧ Rows.fnExactReadResultsSpec.post enc Tryd.prog Tryd.f7 false true false false W args v W' := by
  have hval : ∀ (j : Nat) t v, Tryd.f7.params[j]? = some t → args[j]? = some v → Value.okWide Tryd.prog W .any base t v := hval0
  have hW' := hW
  obtain ⟨p, q, hA0, hV, rfl, hfz, hnd⟩ := hW
  have hA : DataW.TrodAll enc Tryd.prog W 0 (fun _ => true) true Tryd.f7.params.toList args.toList ds p := hA0
  rw [Tryd.params7] at hA hval
  obtain ⟨v0, vs0, d0, ds0, p0, q0, hargs, rfl, rfl, h0, r0⟩ := trodAll_cons hA
  obtain ⟨rfl, rfl, rfl⟩ := trodAll_nil r0
  obtain rfl : args = #[v0] := by cases args; simp_all
  obtain ⟨av0, hv0⟩ := varErrEmpty hL
  obtain ⟨av1, hv1⟩ := varErrUnknown hL
  have vr : ∀ {X : World}, X.var? Tryd.prog "loop.example/g01040/impl.errEmpty" = some #[.iface 171 (.pointer (some av0))] → X.var? Tryd.prog "loop.example/g01040/impl.errUnknown" = some #[.iface 171 (.pointer (some av1))] → ∀ sp : Nat → Bool, DataW.TrodVars enc Tryd.prog X sp ["loop.example/g01040/impl.errEmpty", "loop.example/g01040/impl.errUnknown"] [tok enc (.iface 171 (.pointer (some av0))), tok enc (.iface 171 (.pointer (some av1)))] [.cell 0 0, .cell 1 0] := fun x0 x1 sp => vars_read2 enc gErrEmpty gErrEmptyType Tryd.underlying56 x0 trivial gErrUnknown gErrUnknownType Tryd.underlying56 x1 trivial sp
  have hV2 : DataW.TrodVars enc Tryd.prog W (fun _ => true) ["loop.example/g01040/impl.errEmpty", "loop.example/g01040/impl.errUnknown"] gs q := hV
  obtain ⟨rfl, rfl⟩ := hV2.unique (vr hv0 hv1 _)
  obtain ⟨a0, rfl, rfl, rfl, w0⟩ := open_string Tryd.underlying9 (hval 0 9 v0 rfl rfl) h0
  clear hA0 hval0
  refine (walkFnExactReadResults a0 w0 W (utf8Of hL) (maxOf hsh) (errsOf hL)).mono fun e W' ⟨he, bel⟩ => ?_
  subst he
  exact ⟨_, rfl, _, _, _, [], _, [.cell 0 0, .cell 1 0], hW', trodAll_mk1 (shut_bool Tryd.underlying4 _), (trodAll_cons_mk (shut_string Tryd.underlying9 w0) trodAll_mk0), vr (var_below hv0 bel) (var_below hv1 bel) _, bel.frame _, fun h => by cases h⟩

/-- How many blocks the settled world has. -/
noncomputable def low : Nat := (World.holding Tryd.prog default ⟨#[], #[], []⟩).heap.size
/-- A world for the witness: the settled one, the listed variables holding what their initialisers lay. -/
noncomputable def laidWorld (os : Os) : World :=
  let w0 := World.holding Tryd.prog os ⟨#[.cells #[.string ⟨#[116, 104, 101, 114, 101, 32, 97, 114, 101, 32, 110, 111, 32, 101, 108, 101, 109, 101, 110, 116, 115]⟩] 189, .cells #[.string ⟨#[116, 104, 101, 114, 101, 32, 105, 115, 32, 110, 111, 32, 115, 117, 99, 104, 32, 116, 101, 120, 116]⟩] 189], #[], []⟩
  { w0 with heap := ((((w0.heap.modify 5 fun
    | .cells _ t frozen => .cells #[.int .u8 128, .int .u8 191, .int .u8 160, .int .u8 191, .int .u8 128, .int .u8 159, .int .u8 144, .int .u8 191, .int .u8 128, .int .u8 143, .int .u8 0, .int .u8 0, .int .u8 0, .int .u8 0, .int .u8 0, .int .u8 0, .int .u8 0, .int .u8 0, .int .u8 0, .int .u8 0, .int .u8 0, .int .u8 0, .int .u8 0, .int .u8 0, .int .u8 0, .int .u8 0, .int .u8 0, .int .u8 0, .int .u8 0, .int .u8 0, .int .u8 0, .int .u8 0] t frozen
    | o => o).modify 0 fun
    | .cells _ t frozen => .cells #[.iface 171 (.pointer (some ⟨low + 0, 0, none⟩))] t frozen
    | o => o).modify 1 fun
    | .cells _ t frozen => .cells #[.iface 171 (.pointer (some ⟨low + 1, 0, none⟩))] t frozen
    | o => o).modify 4 fun
    | .cells _ t frozen => .cells (Lib.firstTab.map fun z => Value.int .u8 z).toArray t frozen
    | o => o) }
theorem laid_met (os : Os) : laidMet Tryd.prog Rows.fnExactReadResultsRow.laid ((laidWorld os).forCall (fun _ _ => 0) ⟨#[], #[.string ByteArray.empty], []⟩).memory :=
  laidMet_of_run' 8 (by kernel_rfl) (by kernel_rfl)
theorem laid_metH (os : Os) : laidMetH Tryd.prog Rows.fnExactReadResultsRow.laid ((laidWorld os).forCall (fun _ _ => 0) ⟨#[], #[.string ByteArray.empty], []⟩).memory := by
  rw [MakeChecks.laidMetH_plain _ _ _ (by kernel_rfl)]
  exact laid_met os
theorem reads (os : Os) {H : Type} (enc : TypeId × Value → H) : ∃ places, DataW.whole enc Tryd.prog ((laidWorld os).forCall (fun _ _ => 0) ⟨#[], #[.string ByteArray.empty], []⟩).memory Tryd.f7.params.toList Rows.fnExactReadResultsSpec.vars false (#[.string ByteArray.empty] : Array Value).toList 8 = some ([.lit (.string [])], [.held (enc (171, .pointer (some ⟨low + 0, 0, none⟩))), .held (enc (171, .pointer (some ⟨low + 1, 0, none⟩)))], places) :=
  ⟨[.cell 0 0, .cell 1 0], by kernel_rfl⟩

set_option maxRecDepth 100000 in
theorem lifted (os : Os) (started : os.Started) (H : Type) (enc : TypeId × Value → H) (F : Stop.Interp) :
    ReturnsInHanded {} Tryd.checked os 7 .any ((OpenSpec.ofChange Rows.fnExactReadResultsSpec).preRow enc Tryd.prog Tryd.f7 Rows.fnExactReadResultsRow.domain false Rows.fnExactReadResultsRow.laid) (((OpenSpec.ofChange Rows.fnExactReadResultsSpec).at F).post enc Tryd.prog Tryd.f7 false true false false) := by
  obtain ⟨places, hx⟩ := reads os enc
  refine returnsInHanded_of_row (C := Tryd.checked) (s := OpenSpec.ofChange Rows.fnExactReadResultsSpec) own started (by kernel_rfl) Tryd.func7
    (witness_row_atRef (enc := enc) (C := Tryd.checked) false (laidWorld os) #[.string ByteArray.empty] rfl (by kernel_rfl) (by kernel_rfl) (by kernel_rfl)
      (OpenSpec.preRow_of_cond 8 hx (by kernel_rfl) (fun k hk => by cases hk) (by kernel_rfl) (laid_metH os))) ?_
  intro W base args ds gs before hval hW _ _ _ hL hsh _
  exact contract H enc W base args ds gs before hval hW hL hsh

theorem said : Rows.fnExactReadResultsRow.holds Tryd.pinned (OpenSpec.ofChange Rows.fnExactReadResultsSpec) :=
  OpenClaim.holds_of_cond 7 Tryd.f7 rfl rfl rfl rfl rfl rfl rfl ⟨rfl, rfl, rfl, rfl, rfl⟩ rfl rfl rfl rfl rfl (by kernel_rfl) Tryd.func7 (by kernel_rfl)
    (of_decide_eq_true (by kernel_rfl)) (by unfold Func.isWrapper; first | (rw [if_pos (by decide +kernel)]; kernel_rfl) | (rw [if_neg (by decide +kernel)]; exact ⟨rfl, rfl⟩))
    (fun os started H enc _ F => by rw [OpenClaim.pre_eq_preRow]; exact lifted os started H enc F)

theorem plain (f : FuncId) (fn : Func) (hf : Tryd.pinned.checked.prog.funcNamed "loop.example/g01040/laws.FnExactReadResults" = some f) (hfn : Tryd.pinned.checked.prog.funcs[f]? = some fn) :
    true = Tryd.pinned.checked.prog.looks [] ∧ ∀ (j : Nat) t, fn.params[j]? = some t → Tryd.pinned.checked.prog.wantsStandIn t = false := by
  obtain rfl : f = 7 := Option.some.inj ((show Tryd.prog.funcNamed "loop.example/g01040/laws.FnExactReadResults" = some 7 by kernel_rfl).symm.trans hf) |>.symm
  obtain rfl : fn = Tryd.f7 := (Option.some.inj (Tryd.func7.symm.trans hfn)).symm
  refine ⟨by kernel_rfl, fun j t ht => ?_⟩
  rw [Tryd.params7] at ht
  have hm := Array.mem_of_getElem? ht
  simp only [List.mem_toArray, List.mem_cons, List.not_mem_nil, or_false] at hm
  rcases hm with rfl
  · exact (show Tryd.prog.wantsStandIn 9 = false by kernel_rfl)

theorem proved : Rows.FnExactReadResultsCardSaid :=
  Claim7.holds_tied_plain_at .later [] _ _ _ _ said (fun _ h => by cases h) (by kernel_rfl) (fun _ h => by cases h) fnExactReadResults_row_tie rfl ⟨rfl, rfl⟩ (by kernel_rfl) rfl plain (by kernel_rfl)
#print axioms proved
end Go.Proofs.YtlflblngbneacaaDoor.fnExactReadResultsClaim
