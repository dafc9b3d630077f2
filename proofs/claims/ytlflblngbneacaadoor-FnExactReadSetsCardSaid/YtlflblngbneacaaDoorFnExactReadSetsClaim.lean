/- The statement FnExactReadSetsCard, a tied card, about the program at this seat's commit: for every input the law returns true and leaves its input as it was. What the row lists of the library's variables is tied to the program's text by the given tie. No condition besides. -/
import Derived.Test.YtlflblngbneacaaDoorCards
import Derived.Test.YtlflblngbneacaaDoorTie
import Derived.Test.YtlflblngbneacaaDoorReadSets
import Derived.WalkKit
import Derived.ProofKit
import Derived.OpenShut
import Derived.Lib.SmallJoins
import Derived.ShutString
import Derived.ChangeOld
import Derived.Below
import Derived.MakeChecks
import Derived.Stop.LaidErr
import Derived.Deep.DeepHandedRow
import Derived.Deep.DeepWitnessRowRef
import Derived.Lib.LaidTab
import Derived.RowKitTokens
import Derived.Stop.LaidTwo
namespace Go.Proofs.YtlflblngbneacaaDoor.fnExactReadSetsClaim
open Go.ChangeShapes Go.WideShapes Go.ChangeAt Go.RowKit
open Go.ChangeMaps (open_string shut_string)
set_option linter.unusedVariables false

theorem own : ownKnob Tryd.prog.godebug = none := by kernel_rfl
theorem starErr : "*" ++ "errors.errorString" = "*errors.errorString" := by decide
theorem rowErr (u : TypeId) (h : Tryd.prog.typeName? 3 u = some "*errors.errorString") : u = 171 :=
  typeName_ptr_named (nm := "errors.errorString") (by rw [starErr]; kernel_rfl) (by kernel_rfl) (by decide) u (by rw [starErr]; exact h)
theorem plainLaid {W : World} (h : laidMetH Tryd.prog Rows.fnExactReadSetsRow.laid W) : laidMet Tryd.prog [("math/bits.deBruijn32tab", Rows.laid_math_bits_deBruijn32tab), ("math/bits.deBruijn64tab", Rows.laid_math_bits_deBruijn64tab), ("internal/strconv.uint64pow10", Rows.laid_internal_strconv_uint64pow10), ("loop.example/g01040/impl.errEmpty", Rows.laid_loop_example_g01040_impl_errEmpty), ("loop.example/g01040/impl.errUnknown", Rows.laid_loop_example_g01040_impl_errUnknown)] W := by
  rw [MakeChecks.laidMetH_plain _ _ _ (by kernel_rfl)] at h
  exact h
theorem gErrEmpty : Tryd.prog.globalNamed "loop.example/g01040/impl.errEmpty" = some 0 := by kernel_rfl
theorem gErrEmptyType : (Tryd.prog.globals[0]?).map (·.type) = some 56 := by kernel_rfl
theorem varErrEmpty {W : World} (h : laidMetH Tryd.prog Rows.fnExactReadSetsRow.laid W) : ∃ a, W.var? Tryd.prog "loop.example/g01040/impl.errEmpty" = some #[.iface 171 (.pointer (some a))] := by
  obtain ⟨a, s, hv, -⟩ := laid_sentinel (laidMet.tail (laidMet.tail (laidMet.tail (plainLaid h)))) gErrEmpty gErrEmptyType Tryd.underlying56 rowErr Tryd.underlying171 Tryd.underlying189 rfl rfl Tryd.underlying9 (by kernel_rfl) (by kernel_rfl)
  exact ⟨a, hv⟩
theorem gErrUnknown : Tryd.prog.globalNamed "loop.example/g01040/impl.errUnknown" = some 1 := by kernel_rfl
theorem gErrUnknownType : (Tryd.prog.globals[1]?).map (·.type) = some 56 := by kernel_rfl
theorem varErrUnknown {W : World} (h : laidMetH Tryd.prog Rows.fnExactReadSetsRow.laid W) : ∃ a, W.var? Tryd.prog "loop.example/g01040/impl.errUnknown" = some #[.iface 171 (.pointer (some a))] := by
  obtain ⟨a, s, hv, -⟩ := laid_sentinel (laidMet.tail (laidMet.tail (laidMet.tail (laidMet.tail (plainLaid h))))) gErrUnknown gErrUnknownType Tryd.underlying56 rowErr Tryd.underlying171 Tryd.underlying189 rfl rfl Tryd.underlying9 (by kernel_rfl) (by kernel_rfl)
  exact ⟨a, hv⟩
theorem var_below {W W' : World} {n : String} {cs : Array Value} (h : W.var? Tryd.prog n = some cs) (hb : Below W.heap.size W W') : W'.var? Tryd.prog n = some cs := by
  unfold World.var? at h ⊢
  cases hg : Tryd.prog.globalNamed n with
  | none => rw [hg] at h; exact h
  | some g =>
    rw [hg] at h
    simp only [Option.bind_some] at h ⊢
    have hl : g < W.heap.size := by
      rcases Nat.lt_or_ge g W.heap.size with h' | h'
      · exact h'
      · rw [Array.getElem?_eq_none h'] at h; cases h
    rw [hb.block g hl]
    exact h
theorem tabData_eq : (Rows.laid_internal_strconv_uint64pow10 : DataW Unit) = Lib.tabData .u64 Lib.pow10Tab := by kernel_rfl
theorem gTabType : (Tryd.prog.globals[6]?).map (·.type) = some 165 := by kernel_rfl
theorem tableOf {W : World} (h : laidMetH Tryd.prog Rows.fnExactReadSetsRow.laid W) : TabOk W := by
  have h1 := (laidMet.tail (laidMet.tail (plainLaid h)))
  rw [tabData_eq] at h1
  exact Lib.tabIs_of_head gTab gTabType Tryd.underlying165 Tryd.underlying153 (by kernel_rfl) (by kernel_rfl) h1
theorem errsOf {W : World} (h : laidMetH Tryd.prog Rows.fnExactReadSetsRow.laid W) : ErrsOk W := by
  obtain ⟨a0, a1, s0, s1, c0, c1, t0, t1, hv0, hv1, -, -, -, -, -, -, hne, hb0, hb1⟩ := laid_sentinels2 (laidMet.tail (laidMet.tail (laidMet.tail (plainLaid h)))) gErrEmpty gErrEmptyType gErrUnknown gErrUnknownType Tryd.underlying56 rowErr Tryd.underlying171 Tryd.underlying189 rfl rfl Tryd.underlying9 (by kernel_rfl) (by kernel_rfl)
  exact ⟨a0, a1, ⟨by unfold EmptyAt; simpa using World.var?_cell gErrEmpty hv0 0, by simpa using World.var?_cell gErrUnknown hv1 0, hne, ⟨_, _, hb0⟩, ⟨_, _, hb1⟩⟩⟩

set_option maxRecDepth 100000 in
theorem contract (H : Type) (enc : TypeId × Value → H) (W : World) (base : Nat) (args : Array Value) (ds gs : List (DataW H)) (before : List MemPlace)
    (hval0 : ∀ (j : Nat) t v, Tryd.f11.params[j]? = some t → args[j]? = some v → Value.okWide Tryd.prog W .any base t v)
    (hW : DataW.Whole enc Tryd.prog Tryd.f11.params.toList Rows.fnExactReadSetsSpec.vars false W args.toList ds gs before) (hL : laidMetH Tryd.prog Rows.fnExactReadSetsRow.laid W) (hsh : W.ShapedOpen Tryd.prog) :
    Calls Tryd.prog 11 args W fun e W' => ∃ v, e = .returned v ∧ Rows.fnExactReadSetsSpec.post enc Tryd.prog Tryd.f11 false true false false W args v W' := by
  have hval : ∀ (j : Nat) t v, Tryd.f11.params[j]? = some t → args[j]? = some v → Value.okWide Tryd.prog W .any base t v := hval0
  have hW' := hW
  obtain ⟨p, q, hA0, hV, rfl, hfz, hnd⟩ := hW
  have hA : DataW.TrodAll enc Tryd.prog W 0 (fun _ => true) true Tryd.f11.params.toList args.toList ds p := hA0
  rw [Tryd.params11] at hA hval
  obtain ⟨v0, vs0, d0, ds0, p0, q0, hargs, rfl, rfl, h0, r0⟩ := trodAll_cons hA
  obtain ⟨rfl, rfl, rfl⟩ := trodAll_nil r0
  obtain rfl : args = #[v0] := by cases args; simp_all
  obtain ⟨av0, hv0⟩ := varErrUnknown hL
  obtain ⟨av1, hv1⟩ := varErrEmpty hL
  have vr : ∀ {X : World}, X.var? Tryd.prog "loop.example/g01040/impl.errUnknown" = some #[.iface 171 (.pointer (some av0))] → X.var? Tryd.prog "loop.example/g01040/impl.errEmpty" = some #[.iface 171 (.pointer (some av1))] → ∀ sp : Nat → Bool, DataW.TrodVars enc Tryd.prog X sp ["loop.example/g01040/impl.errUnknown", "loop.example/g01040/impl.errEmpty"] [tok enc (.iface 171 (.pointer (some av0))), tok enc (.iface 171 (.pointer (some av1)))] [.cell 1 0, .cell 0 0] := fun x0 x1 sp => vars_read2 enc gErrUnknown gErrUnknownType Tryd.underlying56 x0 trivial gErrEmpty gErrEmptyType Tryd.underlying56 x1 trivial sp
  have hV2 : DataW.TrodVars enc Tryd.prog W (fun _ => true) ["loop.example/g01040/impl.errUnknown", "loop.example/g01040/impl.errEmpty"] gs q := hV
  obtain ⟨rfl, rfl⟩ := hV2.unique (vr hv0 hv1 _)
  obtain ⟨a0, rfl, rfl, rfl, w0⟩ := open_string Tryd.underlying9 (hval 0 9 v0 rfl rfl) h0
  clear hA0 hval0
  refine (walkFnExactReadSets a0 w0 W (tableOf hL) (errsOf hL)).mono fun e W' ⟨he, bel⟩ => ?_
  subst he
  exact ⟨_, rfl, _, _, _, [], _, [.cell 1 0, .cell 0 0], hW', trodAll_mk1 (shut_bool Tryd.underlying4 _), (trodAll_cons_mk (shut_string Tryd.underlying9 w0) trodAll_mk0), vr (var_below hv0 bel) (var_below hv1 bel) _, bel.frame _, fun h => by cases h⟩

/-- How many blocks the settled world has. -/
noncomputable def low : Nat := (World.holding Tryd.prog default ⟨#[], #[], []⟩).heap.size
/-- A world for the witness: the settled one, the listed variables holding what their initialisers lay. -/
noncomputable def laidWorld (os : Os) : World :=
  let w0 := World.holding Tryd.prog os ⟨#[.cells #[.string ⟨#[116, 104, 101, 114, 101, 32, 97, 114, 101, 32, 110, 111, 32, 101, 108, 101, 109, 101, 110, 116, 115]⟩] 189, .cells #[.string ⟨#[116, 104, 101, 114, 101, 32, 105, 115, 32, 110, 111, 32, 115, 117, 99, 104, 32, 116, 101, 120, 116]⟩] 189], #[], []⟩
  { w0 with heap := (((((w0.heap.modify 7 fun
    | .cells _ t frozen => .cells #[.int .u8 0, .int .u8 1, .int .u8 28, .int .u8 2, .int .u8 29, .int .u8 14, .int .u8 24, .int .u8 3, .int .u8 30, .int .u8 22, .int .u8 20, .int .u8 15, .int .u8 25, .int .u8 17, .int .u8 4, .int .u8 8, .int .u8 31, .int .u8 27, .int .u8 13, .int .u8 23, .int .u8 21, .int .u8 19, .int .u8 16, .int .u8 7, .int .u8 26, .int .u8 12, .int .u8 18, .int .u8 6, .int .u8 11, .int .u8 5, .int .u8 10, .int .u8 9] t frozen
    | o => o).modify 8 fun
    | .cells _ t frozen => .cells #[.int .u8 0, .int .u8 1, .int .u8 56, .int .u8 2, .int .u8 57, .int .u8 49, .int .u8 28, .int .u8 3, .int .u8 61, .int .u8 58, .int .u8 42, .int .u8 50, .int .u8 38, .int .u8 29, .int .u8 17, .int .u8 4, .int .u8 62, .int .u8 47, .int .u8 59, .int .u8 36, .int .u8 45, .int .u8 43, .int .u8 51, .int .u8 22, .int .u8 53, .int .u8 39, .int .u8 33, .int .u8 30, .int .u8 24, .int .u8 18, .int .u8 12, .int .u8 5, .int .u8 63, .int .u8 55, .int .u8 48, .int .u8 27, .int .u8 60, .int .u8 41, .int .u8 37, .int .u8 16, .int .u8 46, .int .u8 35, .int .u8 44, .int .u8 21, .int .u8 52, .int .u8 32, .int .u8 23, .int .u8 11, .int .u8 54, .int .u8 26, .int .u8 40, .int .u8 15, .int .u8 34, .int .u8 20, .int .u8 31, .int .u8 10, .int .u8 25, .int .u8 14, .int .u8 19, .int .u8 9, .int .u8 13, .int .u8 8, .int .u8 7, .int .u8 6] t frozen
    | o => o).modify 6 fun
    | .cells _ t frozen => .cells #[.int .u64 1, .int .u64 10, .int .u64 100, .int .u64 1000, .int .u64 10000, .int .u64 100000, .int .u64 1000000, .int .u64 10000000, .int .u64 100000000, .int .u64 1000000000, .int .u64 10000000000, .int .u64 100000000000, .int .u64 1000000000000, .int .u64 10000000000000, .int .u64 100000000000000, .int .u64 1000000000000000, .int .u64 10000000000000000, .int .u64 100000000000000000, .int .u64 1000000000000000000, .int .u64 10000000000000000000] t frozen
    | o => o).modify 0 fun
    | .cells _ t frozen => .cells #[.iface 171 (.pointer (some ⟨low + 0, 0, none⟩))] t frozen
    | o => o).modify 1 fun
    | .cells _ t frozen => .cells #[.iface 171 (.pointer (some ⟨low + 1, 0, none⟩))] t frozen
    | o => o) }
theorem laid_met (os : Os) : laidMet Tryd.prog Rows.fnExactReadSetsRow.laid ((laidWorld os).forCall (fun _ _ => 0) ⟨#[], #[.string ByteArray.empty], []⟩).memory :=
  laidMet_of_run' 8 (by kernel_rfl) (by kernel_rfl)
theorem laid_metH (os : Os) : laidMetH Tryd.prog Rows.fnExactReadSetsRow.laid ((laidWorld os).forCall (fun _ _ => 0) ⟨#[], #[.string ByteArray.empty], []⟩).memory := by
  rw [MakeChecks.laidMetH_plain _ _ _ (by kernel_rfl)]
  exact laid_met os
theorem reads (os : Os) {H : Type} (enc : TypeId × Value → H) : ∃ places, DataW.whole enc Tryd.prog ((laidWorld os).forCall (fun _ _ => 0) ⟨#[], #[.string ByteArray.empty], []⟩).memory Tryd.f11.params.toList Rows.fnExactReadSetsSpec.vars false (#[.string ByteArray.empty] : Array Value).toList 8 = some ([.lit (.string [])], [.held (enc (171, .pointer (some ⟨low + 1, 0, none⟩))), .held (enc (171, .pointer (some ⟨low + 0, 0, none⟩)))], places) :=
  ⟨[.cell 1 0, .cell 0 0], by kernel_rfl⟩

set_option maxRecDepth 100000 in
theorem lifted (os : Os) (started : os.Started) (H : Type) (enc : TypeId × Value → H) (F : Stop.Interp) :
    ReturnsInHanded {} Tryd.checked os 11 .any ((OpenSpec.ofChange Rows.fnExactReadSetsSpec).preRow enc Tryd.prog Tryd.f11 Rows.fnExactReadSetsRow.domain false Rows.fnExactReadSetsRow.laid) (((OpenSpec.ofChange Rows.fnExactReadSetsSpec).at F).post enc Tryd.prog Tryd.f11 false true false false) := by
  obtain ⟨places, hx⟩ := reads os enc
  refine returnsInHanded_of_row (C := Tryd.checked) (s := OpenSpec.ofChange Rows.fnExactReadSetsSpec) own started (by kernel_rfl) Tryd.func11
    (witness_row_atRef (enc := enc) (C := Tryd.checked) false (laidWorld os) #[.string ByteArray.empty] rfl (by kernel_rfl) (by kernel_rfl) (by kernel_rfl)
      (OpenSpec.preRow_of_cond 8 hx (by kernel_rfl) (fun k hk => by cases hk) (by kernel_rfl) (laid_metH os))) ?_
  intro W base args ds gs before hval hW _ _ _ hL hsh _
  exact contract H enc W base args ds gs before hval hW hL hsh

theorem said : Rows.fnExactReadSetsRow.holds Tryd.pinned (OpenSpec.ofChange Rows.fnExactReadSetsSpec) :=
  OpenClaim.holds_of_cond 11 Tryd.f11 rfl rfl rfl rfl rfl rfl rfl ⟨rfl, rfl, rfl, rfl, rfl⟩ rfl rfl rfl rfl rfl (by kernel_rfl) Tryd.func11 (by kernel_rfl)
    (of_decide_eq_true (by kernel_rfl)) (by unfold Func.isWrapper; first | (rw [if_pos (by decide +kernel)]; kernel_rfl) | (rw [if_neg (by decide +kernel)]; exact ⟨rfl, rfl⟩))
    (fun os started H enc _ F => by rw [OpenClaim.pre_eq_preRow]; exact lifted os started H enc F)

theorem plain (f : FuncId) (fn : Func) (hf : Tryd.pinned.checked.prog.funcNamed "loop.example/g01040/laws.FnExactReadSets" = some f) (hfn : Tryd.pinned.checked.prog.funcs[f]? = some fn) :
    true = Tryd.pinned.checked.prog.looks [] ∧ ∀ (j : Nat) t, fn.params[j]? = some t → Tryd.pinned.checked.prog.wantsStandIn t = false := by
  obtain rfl : f = 11 := Option.some.inj ((show Tryd.prog.funcNamed "loop.example/g01040/laws.FnExactReadSets" = some 11 by kernel_rfl).symm.trans hf) |>.symm
  obtain rfl : fn = Tryd.f11 := (Option.some.inj (Tryd.func11.symm.trans hfn)).symm
  refine ⟨by kernel_rfl, fun j t ht => ?_⟩
  rw [Tryd.params11] at ht
  have hm := Array.mem_of_getElem? ht
  simp only [List.mem_toArray, List.mem_cons, List.not_mem_nil, or_false] at hm
  rcases hm with rfl
  · exact (show Tryd.prog.wantsStandIn 9 = false by kernel_rfl)

theorem proved : Rows.FnExactReadSetsCardSaid :=
  Claim7.holds_tied_plain_at .later [] _ _ _ _ said (fun _ h => by cases h) (by kernel_rfl) (fun _ h => by cases h) fnExactReadSets_row_tie rfl ⟨rfl, rfl⟩ (by kernel_rfl) rfl plain (by kernel_rfl)
#print axioms proved
end Go.Proofs.YtlflblngbneacaaDoor.fnExactReadSetsClaim
