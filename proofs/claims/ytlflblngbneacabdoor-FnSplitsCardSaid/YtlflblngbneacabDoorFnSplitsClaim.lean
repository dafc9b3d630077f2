/- The statement FnSplitsCard, a tied card, about the program at this seat's commit: for every input the law returns true and leaves its input as it was. What the row lists of the library's variables is tied to the program's text by the given tie. No condition besides. -/
import Derived.Test.YtlflblngbneacabDoorCards
import Derived.Test.YtlflblngbneacabDoorTie
import Derived.Test.YtlflblngbneacabDoorSplitsWalk
import Derived.WalkKit
import Derived.Conc.Holds
import Derived.Leaving
import Derived.SevenTiedAt
import Derived.ProofKit
import Derived.OpenShut
import Derived.Lib.SmallJoins
import Derived.ShutString
import Derived.ChangeOld
import Derived.Below
import Derived.MakeChecks
import Derived.Stop.LaidErr
import Derived.Deep.DeepHandedRow
import Derived.Deep.DeepWitnessRowRef
import Derived.Lib.LaidTab
import Derived.LaidHandle
import Derived.RowKitTokens
namespace Go.Proofs.YtlflblngbneacabDoor.fnSplitsClaim
open Go.ChangeShapes Go.WideShapes Go.ChangeAt Go.RowKit
open Go.ChangeMaps (open_string shut_string)
set_option linter.unusedVariables false

theorem own : ownKnob Tryd.prog.godebug = none := by kernel_rfl
theorem laidOut : laidOutB Tryd.prog = true := by kernel_rfl
theorem starErr : "*" ++ "errors.errorString" = "*errors.errorString" := by decide
theorem rowErr (u : TypeId) (h : Tryd.prog.typeName? 3 u = some "*errors.errorString") : u = 240 :=
  typeName_ptr_named (nm := "errors.errorString") (by rw [starErr]; kernel_rfl) (by kernel_rfl) (by decide) u (by rw [starErr]; exact h)
theorem plainLaid {W : World} (h : laidMetH Tryd.prog Rows.fnSplitsRow.laid W) : laidMet Tryd.prog [("math/bits.deBruijn32tab", Rows.laid_math_bits_deBruijn32tab), ("math/bits.deBruijn64tab", Rows.laid_math_bits_deBruijn64tab), ("internal/strconv.uint64pow10", Rows.laid_internal_strconv_uint64pow10), ("loop.example/g01040/impl.errEmpty", Rows.laid_loop_example_g01040_impl_errEmpty), ("loop.example/g01040/impl.errInvalid", Rows.laid_loop_example_g01040_impl_errInvalid)] W := (show laidMet Tryd.prog [("math/bits.deBruijn32tab", Rows.laid_math_bits_deBruijn32tab), ("math/bits.deBruijn64tab", Rows.laid_math_bits_deBruijn64tab), ("internal/strconv.uint64pow10", Rows.laid_internal_strconv_uint64pow10), ("loop.example/g01040/impl.errEmpty", Rows.laid_loop_example_g01040_impl_errEmpty), ("loop.example/g01040/impl.errInvalid", Rows.laid_loop_example_g01040_impl_errInvalid)] W ∧ handlesMet Tryd.prog [("errors.errorType", Rows.laid_errors_errorType)] W from h).1
theorem oneRow : ((List.range 271).filter fun t => Tryd.prog.rowNamed t [101, 114, 114, 111, 114]) = [87] := by kernel_rfl
theorem tySize : Tryd.prog.types.size = 271 := by kernel_rfl
theorem rtypeIs : (Tryd.prog.cutTypes.find? (·.1 == "internal/reflectlite.rtype")).map (·.2) = some 194 := by kernel_rfl
theorem gErrorType : Tryd.prog.globalNamed "errors.errorType" = some 2 := by kernel_rfl
theorem handleOf {W : World} (h : laidMetH Tryd.prog Rows.fnSplitsRow.laid W) : HandleOk W := by
  obtain ⟨name, u, ty, e1, e2, e3, e4, e5⟩ := (show laidMet Tryd.prog [("math/bits.deBruijn32tab", Rows.laid_math_bits_deBruijn32tab), ("math/bits.deBruijn64tab", Rows.laid_math_bits_deBruijn64tab), ("internal/strconv.uint64pow10", Rows.laid_internal_strconv_uint64pow10), ("loop.example/g01040/impl.errEmpty", Rows.laid_loop_example_g01040_impl_errEmpty), ("loop.example/g01040/impl.errInvalid", Rows.laid_loop_example_g01040_impl_errInvalid)] W ∧ handlesMet Tryd.prog [("errors.errorType", Rows.laid_errors_errorType)] W from h).2 _ (List.mem_singleton.2 rfl)
  have en : name = [101, 114, 114, 111, 114] := (Option.some.inj e1).symm
  subst en
  obtain rfl := Option.some.inj (rtypeIs.symm.trans e2)
  have hm : ty ∈ (List.range 271).filter fun t => Tryd.prog.rowNamed t [101, 114, 114, 111, 114] := List.mem_filter.2 ⟨List.mem_range.2 (by rw [← tySize]; exact e3), e4⟩
  rw [oneRow] at hm
  obtain rfl := List.mem_singleton.1 hm
  have hh : typeHandle Tryd.prog 87 = .pointer (some ⟨7, 87, none⟩) := by kernel_rfl
  rw [hh] at e5
  unfold HandleOk
  simpa using World.var?_cell gErrorType e5 0
theorem gErrEmpty : Tryd.prog.globalNamed "loop.example/g01040/impl.errEmpty" = some 0 := by kernel_rfl
theorem gErrEmptyType : (Tryd.prog.globals[0]?).map (·.type) = some 87 := by kernel_rfl
theorem varErrEmpty {W : World} (h : laidMetH Tryd.prog Rows.fnSplitsRow.laid W) : ∃ a, W.var? Tryd.prog "loop.example/g01040/impl.errEmpty" = some #[.iface 240 (.pointer (some a))] := by
  obtain ⟨a, s, hv, -⟩ := laid_sentinel (laidMet.tail (laidMet.tail (laidMet.tail (plainLaid h)))) gErrEmpty gErrEmptyType Tryd.underlying87 rowErr Tryd.underlying240 Tryd.underlying259 rfl rfl Tryd.underlying9 (by kernel_rfl) (by kernel_rfl)
  exact ⟨a, hv⟩
theorem gErrInvalid : Tryd.prog.globalNamed "loop.example/g01040/impl.errInvalid" = some 1 := by kernel_rfl
theorem gErrInvalidType : (Tryd.prog.globals[1]?).map (·.type) = some 87 := by kernel_rfl
theorem varErrInvalid {W : World} (h : laidMetH Tryd.prog Rows.fnSplitsRow.laid W) : ∃ a, W.var? Tryd.prog "loop.example/g01040/impl.errInvalid" = some #[.iface 240 (.pointer (some a))] := by
  obtain ⟨a, s, hv, -⟩ := laid_sentinel (laidMet.tail (laidMet.tail (laidMet.tail (laidMet.tail (plainLaid h))))) gErrInvalid gErrInvalidType Tryd.underlying87 rowErr Tryd.underlying240 Tryd.underlying259 rfl rfl Tryd.underlying9 (by kernel_rfl) (by kernel_rfl)
  exact ⟨a, hv⟩
theorem var_below {W W' : World} {n : String} {cs : Array Value} (h : W.var? Tryd.prog n = some cs) (hb : Below W.heap.size W W') : W'.var? Tryd.prog n = some cs := by
  unfold World.var? at h ⊢
  cases hg : Tryd.prog.globalNamed n with
  | none => rw [hg] at h; exact h
  | some g =>
    rw [hg] at h
    simp only [Option.bind_some] at h ⊢
    have hl : g < W.heap.size := by
      rcases Nat.lt_or_ge g W.heap.size with h' | h'
      · exact h'
      · rw [Array.getElem?_eq_none h'] at h; cases h
    rw [hb.block g hl]
    exact h
theorem tabData_eq : (Rows.laid_internal_strconv_uint64pow10 : DataW Unit) = Lib.tabData .u64 Lib.pow10Tab := by kernel_rfl
theorem gTabType : (Tryd.prog.globals[3]?).map (·.type) = some 233 := by kernel_rfl
theorem tableOf {W : World} (h : laidMetH Tryd.prog Rows.fnSplitsRow.laid W) : TabOk W := by
  have h1 := (laidMet.tail (laidMet.tail (plainLaid h)))
  rw [tabData_eq] at h1
  exact Lib.tabIs_of_head gTab gTabType Tryd.underlying233 Tryd.underlying225 (by kernel_rfl) (by kernel_rfl) h1
theorem emptyOf {W : World} (h : laidMetH Tryd.prog Rows.fnSplitsRow.laid W) : EmptyOk W := by
  obtain ⟨a, hv⟩ := varErrEmpty h
  exact ⟨a, by unfold EmptyAt; simpa using World.var?_cell gErrEmpty hv 0⟩
theorem invalidOf {W : World} (h : laidMetH Tryd.prog Rows.fnSplitsRow.laid W) : InvalidOk W := by
  obtain ⟨a, hv⟩ := varErrInvalid h
  exact ⟨a, by unfold InvalidAt; simpa using World.var?_cell gErrInvalid hv 0⟩

set_option maxRecDepth 100000 in
theorem contract (H : Type) (enc : TypeId × Value → H) (W : World) (base : Nat) (args : Array Value) (ds gs : List (DataW H)) (before : List MemPlace)
    (hval0 : ∀ (j : Nat) t v, Tryd.f5.params[j]? = some t → args[j]? = some v → Value.okWide Tryd.prog W .any base t v)
    (hW : DataW.Whole enc Tryd.prog Tryd.f5.params.toList Rows.fnSplitsSpec.vars false W args.toList ds gs before) (hL : laidMetH Tryd.prog Rows.fnSplitsRow.laid W) (hsh : W.ShapedOpen Tryd.prog) :
    Calls Tryd.prog 5 args W fun e W' => ∃ v, e = .returned v ∧ Rows.fnSplitsSpec.post enc Tryd.prog Tryd.f5 false true false false W args v W' := by
  have hval : ∀ (j : Nat) t v, Tryd.f5.params[j]? = some t → args[j]? = some v → Value.okWide Tryd.prog W .any base t v := hval0
  have hW' := hW
  obtain ⟨p, q, hA0, hV, rfl, hfz, hnd⟩ := hW
  have hA : DataW.TrodAll enc Tryd.prog W 0 (fun _ => true) true Tryd.f5.params.toList args.toList ds p := hA0
  rw [Tryd.params5] at hA hval
  obtain ⟨v0, vs0, d0, ds0, p0, q0, hargs, rfl, rfl, h0, r0⟩ := trodAll_cons hA
  obtain ⟨rfl, rfl, rfl⟩ := trodAll_nil r0
  obtain rfl : args = #[v0] := by cases args; simp_all
  obtain ⟨av0, hv0⟩ := varErrInvalid hL
  obtain ⟨av1, hv1⟩ := varErrEmpty hL
  have vr : ∀ {X : World}, X.var? Tryd.prog "loop.example/g01040/impl.errInvalid" = some #[.iface 240 (.pointer (some av0))] → X.var? Tryd.prog "loop.example/g01040/impl.errEmpty" = some #[.iface 240 (.pointer (some av1))] → ∀ sp : Nat → Bool, DataW.TrodVars enc Tryd.prog X sp ["loop.example/g01040/impl.errInvalid", "loop.example/g01040/impl.errEmpty"] [tok enc (.iface 240 (.pointer (some av0))), tok enc (.iface 240 (.pointer (some av1)))] [.cell 1 0, .cell 0 0] := fun x0 x1 sp => vars_read2 enc gErrInvalid gErrInvalidType Tryd.underlying87 x0 trivial gErrEmpty gErrEmptyType Tryd.underlying87 x1 trivial sp
  have hV2 : DataW.TrodVars enc Tryd.prog W (fun _ => true) ["loop.example/g01040/impl.errInvalid", "loop.example/g01040/impl.errEmpty"] gs q := hV
  obtain ⟨rfl, rfl⟩ := hV2.unique (vr hv0 hv1 _)
  obtain ⟨a0, len0, cap0, rfl⟩ := okWide_slice Tryd.underlying28 (hval 0 28 v0 rfl rfl)
  have k0 := h0
  have lt0 : ∀ x ∈ p0, x.block < W.heap.size := by obtain ⟨m, hm⟩ := k0; exact DataW.trod_lt m _ _ _ hm
  obtain ⟨z0, w0⟩ : ∃ zs, IsBytes W a0 len0 cap0 zs := by
    obtain ⟨fuel, hf⟩ := h0
    rcases open_ints Tryd.underlying28 Tryd.underlying5 (by kernel_rfl) hf with ⟨hcs, _⟩ | ⟨x, l, c, zs, hcs, _, hl, hm, hz, _, hcell, hwz⟩
    · simp [Value.cells] at hcs
      obtain ⟨rfl, rfl, rfl⟩ := hcs
      exact ⟨[], .inl ⟨rfl, rfl, rfl, rfl⟩⟩
    · simp [Value.cells] at hcs
      obtain ⟨rfl, rfl, rfl⟩ := hcs
      exact ⟨zs, .inr ⟨_, rfl, hl, hm, by simpa using hz, hcell, hwz⟩⟩
  clear hA0 hval0
  refine (walkFnSplits W a0 len0 cap0 z0 w0 (tableOf hL) (handleOf hL) (emptyOf hL) (invalidOf hL)).mono fun e W' ⟨he, bel⟩ => ?_
  subst he
  exact ⟨_, rfl, _, _, _, [], _, [.cell 1 0, .cell 0 0], hW', trodAll_mk1 (shut_bool Tryd.underlying4 _), (trodAll_cons_mk (Below.trod laidOut (by kernel_rfl) (of_decide_eq_true (by kernel_rfl)) k0 bel lt0) trodAll_mk0), vr (var_below hv0 bel) (var_below hv1 bel) _, bel.frame _, fun h => by cases h⟩

/-- How many blocks the settled world has. -/
noncomputable def low : Nat := (World.holding Tryd.prog default ⟨#[], #[], []⟩).heap.size
/-- A world for the witness: the settled one, the listed variables holding what their initialisers lay. -/
noncomputable def laidWorld (os : Os) : World :=
  let w0 := World.holding Tryd.prog os ⟨#[.cells #[.string ⟨#[116, 104, 101, 114, 101, 32, 97, 114, 101, 32, 110, 111, 32, 101, 108, 101, 109, 101, 110, 116, 115]⟩] 259, .cells #[.string ⟨#[116, 104, 101, 32, 119, 101, 105, 103, 104, 105, 110, 103, 32, 105, 115, 32, 110, 111, 116, 32, 118, 97, 108, 105, 100]⟩] 259], #[], []⟩
  { w0 with heap := ((((((w0.heap.modify 5 fun
    | .cells _ t frozen => .cells #[.int .u8 0, .int .u8 1, .int .u8 28, .int .u8 2, .int .u8 29, .int .u8 14, .int .u8 24, .int .u8 3, .int .u8 30, .int .u8 22, .int .u8 20, .int .u8 15, .int .u8 25, .int .u8 17, .int .u8 4, .int .u8 8, .int .u8 31, .int .u8 27, .int .u8 13, .int .u8 23, .int .u8 21, .int .u8 19, .int .u8 16, .int .u8 7, .int .u8 26, .int .u8 12, .int .u8 18, .int .u8 6, .int .u8 11, .int .u8 5, .int .u8 10, .int .u8 9] t frozen
    | o => o).modify 6 fun
    | .cells _ t frozen => .cells #[.int .u8 0, .int .u8 1, .int .u8 56, .int .u8 2, .int .u8 57, .int .u8 49, .int .u8 28, .int .u8 3, .int .u8 61, .int .u8 58, .int .u8 42, .int .u8 50, .int .u8 38, .int .u8 29, .int .u8 17, .int .u8 4, .int .u8 62, .int .u8 47, .int .u8 59, .int .u8 36, .int .u8 45, .int .u8 43, .int .u8 51, .int .u8 22, .int .u8 53, .int .u8 39, .int .u8 33, .int .u8 30, .int .u8 24, .int .u8 18, .int .u8 12, .int .u8 5, .int .u8 63, .int .u8 55, .int .u8 48, .int .u8 27, .int .u8 60, .int .u8 41, .int .u8 37, .int .u8 16, .int .u8 46, .int .u8 35, .int .u8 44, .int .u8 21, .int .u8 52, .int .u8 32, .int .u8 23, .int .u8 11, .int .u8 54, .int .u8 26, .int .u8 40, .int .u8 15, .int .u8 34, .int .u8 20, .int .u8 31, .int .u8 10, .int .u8 25, .int .u8 14, .int .u8 19, .int .u8 9, .int .u8 13, .int .u8 8, .int .u8 7, .int .u8 6] t frozen
    | o => o).modify 3 fun
    | .cells _ t frozen => .cells #[.int .u64 1, .int .u64 10, .int .u64 100, .int .u64 1000, .int .u64 10000, .int .u64 100000, .int .u64 1000000, .int .u64 10000000, .int .u64 100000000, .int .u64 1000000000, .int .u64 10000000000, .int .u64 100000000000, .int .u64 1000000000000, .int .u64 10000000000000, .int .u64 100000000000000, .int .u64 1000000000000000, .int .u64 10000000000000000, .int .u64 100000000000000000, .int .u64 1000000000000000000, .int .u64 10000000000000000000] t frozen
    | o => o).modify 2 fun
    | .cells _ t frozen => .cells #[.iface 194 (.agg #[.pointer (some ⟨7, 87, none⟩)])] t frozen
    | o => o).modify 0 fun
    | .cells _ t frozen => .cells #[.iface 240 (.pointer (some ⟨low + 0, 0, none⟩))] t frozen
    | o => o).modify 1 fun
    | .cells _ t frozen => .cells #[.iface 240 (.pointer (some ⟨low + 1, 0, none⟩))] t frozen
    | o => o) }
theorem laid_metH (os : Os) : laidMetH Tryd.prog Rows.fnSplitsRow.laid ((laidWorld os).forCall (fun _ _ => 0) ⟨#[], #[.slice none 0 0], []⟩).memory :=
  laidMetH_of_parts (laidMet_of_run' 8 (by kernel_rfl) (by kernel_rfl)) (by kernel_rfl)
theorem reads (os : Os) {H : Type} (enc : TypeId × Value → H) : ∃ places, DataW.whole enc Tryd.prog ((laidWorld os).forCall (fun _ _ => 0) ⟨#[], #[.slice none 0 0], []⟩).memory Tryd.f5.params.toList Rows.fnSplitsSpec.vars false (#[.slice none 0 0] : Array Value).toList 8 = some ([.nil], [.held (enc (240, .pointer (some ⟨low + 1, 0, none⟩))), .held (enc (240, .pointer (some ⟨low + 0, 0, none⟩)))], places) :=
  ⟨[.cell 1 0, .cell 0 0], by kernel_rfl⟩

set_option maxRecDepth 100000 in
theorem lifted (os : Os) (started : os.Started) (H : Type) (enc : TypeId × Value → H) (F : Stop.Interp) :
    ReturnsInHanded {} Tryd.checked os 5 .any ((OpenSpec.ofChange Rows.fnSplitsSpec).preRow enc Tryd.prog Tryd.f5 Rows.fnSplitsRow.domain false Rows.fnSplitsRow.laid) (((OpenSpec.ofChange Rows.fnSplitsSpec).at F).post enc Tryd.prog Tryd.f5 false true false false) := by
  obtain ⟨places, hx⟩ := reads os enc
  refine returnsInHanded_of_row (C := Tryd.checked) (s := OpenSpec.ofChange Rows.fnSplitsSpec) own started (by kernel_rfl) Tryd.func5
    (witness_row_atRef (enc := enc) (C := Tryd.checked) false (laidWorld os) #[.slice none 0 0] rfl (by kernel_rfl) (by kernel_rfl) (by kernel_rfl)
      (OpenSpec.preRow_of_cond 8 hx (by kernel_rfl) (fun k hk => by cases hk) (by kernel_rfl) (laid_metH os))) ?_
  intro W base args ds gs before hval hW _ _ _ hL hsh _
  exact contract H enc W base args ds gs before hval hW hL hsh

theorem leaves (os : Os) (started : os.Started) (H : Type) (enc : TypeId × Value → H) :
    ReturnsInLeavingWide {} Tryd.checked os 5 .any (Rows.fnSplitsRow.pre enc Tryd.prog Tryd.f5 (OpenSpec.ofChange Rows.fnSplitsSpec)) (Rows.fnSplitsSpec.post enc Tryd.prog Tryd.f5 false true false false) := fun enter => by
  rw [OpenClaim.pre_eq_preRow]
  exact ReturnsInOpen.mono (fun _ _ _ x => ⟨x.2.1, onlyLeaving_of_quiet x.1, x.2.2⟩) (fun _ x => x) (lifted os started H enc (fun _ _ _ => 0) enter)

theorem said : Rows.fnSplitsRow.holds Tryd.pinned (OpenSpec.ofChange Rows.fnSplitsSpec) :=
  OpenClaim.holds_of_wide_leaving 5 Tryd.f5 rfl rfl rfl rfl rfl rfl rfl ⟨rfl, rfl, rfl, rfl, rfl⟩ rfl rfl rfl rfl rfl (by kernel_rfl) Tryd.func5 (by kernel_rfl)
    (of_decide_eq_true (by kernel_rfl)) (by unfold Func.isWrapper; first | (rw [if_pos (by decide +kernel)]; kernel_rfl) | (rw [if_neg (by decide +kernel)]; exact ⟨rfl, rfl⟩))
    (fun os started H enc _ => leaves os started H enc)

theorem plain (f : FuncId) (fn : Func) (hf : Tryd.pinned.checked.prog.funcNamed "loop.example/g01040/laws.FnSplits" = some f) (hfn : Tryd.pinned.checked.prog.funcs[f]? = some fn) :
    true = Tryd.pinned.checked.prog.looks [] ∧ ∀ (j : Nat) t, fn.params[j]? = some t → Tryd.pinned.checked.prog.wantsStandIn t = false := by
  obtain rfl : f = 5 := Option.some.inj ((show Tryd.prog.funcNamed "loop.example/g01040/laws.FnSplits" = some 5 by kernel_rfl).symm.trans hf) |>.symm
  obtain rfl : fn = Tryd.f5 := (Option.some.inj (Tryd.func5.symm.trans hfn)).symm
  refine ⟨by kernel_rfl, fun j t ht => ?_⟩
  rw [Tryd.params5] at ht
  have hm := Array.mem_of_getElem? ht
  simp only [List.mem_toArray, List.mem_cons, List.not_mem_nil, or_false] at hm
  rcases hm with rfl
  · exact (show Tryd.prog.wantsStandIn 28 = false by kernel_rfl)

theorem proved : Rows.FnSplitsCardSaid :=
  ⟨Claim7.tied_new_at .later [.data, .data, .data, .handle, .sentinel, .sentinel] true (Claim7.new_of_sixth said (true, "a4bb8c96989863f31809d5a38115c218a53c99cd9f16ab59ca605c7573531836") true rfl ⟨rfl, rfl⟩ (by kernel_rfl) (by kernel_rfl) plain) (by kernel_rfl), (fun _ h => by cases h), fnSplits_row_tie, (fun h => by cases h), by kernel_rfl⟩
#print axioms proved
end Go.Proofs.YtlflblngbneacabDoor.fnSplitsClaim
