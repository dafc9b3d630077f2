/- The statement FnPoolsCard, a tied card, about the program at this seat's commit: for every input the law returns true and leaves its input as it was. What the row lists of the library's variables is tied to the program's text by the given tie. No condition besides. -/
import Derived.Test.YtlflblngbneacabDoorCards
import Derived.Test.YtlflblngbneacabDoorTie
import Derived.Test.YtlflblngbneacabDoorPoolsWalk
import Derived.WalkKit
import Derived.Conc.Holds
import Derived.Leaving
import Derived.SevenTiedAt
import Derived.ProofKit
import Derived.OpenShut
import Derived.Lib.SmallJoins
import Derived.ShutString
import Derived.ChangeOld
import Derived.Below
import Derived.MakeChecks
import Derived.Stop.LaidErr
import Derived.Deep.DeepHandedRow
import Derived.Deep.DeepWitnessRowRef
import Derived.Lib.LaidTab
import Derived.LaidHandle
import Derived.RowKitTokens
namespace Go.Proofs.YtlflblngbneacabDoor.fnPoolsClaim
open Go.ChangeShapes Go.WideShapes Go.ChangeAt Go.RowKit
open Go.ChangeMaps (open_string shut_string)
set_option linter.unusedVariables false

theorem own : ownKnob Tryd.prog.godebug = none := by kernel_rfl
theorem laidOut : laidOutB Tryd.prog = true := by kernel_rfl
theorem starErr : "*" ++ "errors.errorString" = "*errors.errorString" := by decide
theorem rowErr (u : TypeId) (h : Tryd.prog.typeName? 3 u = some "*errors.errorString") : u = 240 :=
  typeName_ptr_named (nm := "errors.errorString") (by rw [starErr]; kernel_rfl) (by kernel_rfl) (by decide) u (by rw [starErr]; exact h)
theorem plainLaid {W : World} (h : laidMetH Tryd.prog Rows.fnPoolsRow.laid W) : laidMet Tryd.prog [("loop.example/g01040/impl.errEmpty", Rows.laid_loop_example_g01040_impl_errEmpty)] W := (show laidMet Tryd.prog [("loop.example/g01040/impl.errEmpty", Rows.laid_loop_example_g01040_impl_errEmpty)] W ∧ handlesMet Tryd.prog [("errors.errorType", Rows.laid_errors_errorType)] W from h).1
theorem oneRow : ((List.range 271).filter fun t => Tryd.prog.rowNamed t [101, 114, 114, 111, 114]) = [87] := by kernel_rfl
theorem tySize : Tryd.prog.types.size = 271 := by kernel_rfl
theorem rtypeIs : (Tryd.prog.cutTypes.find? (·.1 == "internal/reflectlite.rtype")).map (·.2) = some 194 := by kernel_rfl
theorem gErrorType : Tryd.prog.globalNamed "errors.errorType" = some 2 := by kernel_rfl
theorem handleOf {W : World} (h : laidMetH Tryd.prog Rows.fnPoolsRow.laid W) : HandleOk W := by
  obtain ⟨name, u, ty, e1, e2, e3, e4, e5⟩ := (show laidMet Tryd.prog [("loop.example/g01040/impl.errEmpty", Rows.laid_loop_example_g01040_impl_errEmpty)] W ∧ handlesMet Tryd.prog [("errors.errorType", Rows.laid_errors_errorType)] W from h).2 _ (List.mem_singleton.2 rfl)
  have en : name = [101, 114, 114, 111, 114] := (Option.some.inj e1).symm
  subst en
  obtain rfl := Option.some.inj (rtypeIs.symm.trans e2)
  have hm : ty ∈ (List.range 271).filter fun t => Tryd.prog.rowNamed t [101, 114, 114, 111, 114] := List.mem_filter.2 ⟨List.mem_range.2 (by rw [← tySize]; exact e3), e4⟩
  rw [oneRow] at hm
  obtain rfl := List.mem_singleton.1 hm
  have hh : typeHandle Tryd.prog 87 = .pointer (some ⟨7, 87, none⟩) := by kernel_rfl
  rw [hh] at e5
  unfold HandleOk
  simpa using World.var?_cell gErrorType e5 0
theorem gErrEmpty : Tryd.prog.globalNamed "loop.example/g01040/impl.errEmpty" = some 0 := by kernel_rfl
theorem gErrEmptyType : (Tryd.prog.globals[0]?).map (·.type) = some 87 := by kernel_rfl
theorem varErrEmpty {W : World} (h : laidMetH Tryd.prog Rows.fnPoolsRow.laid W) : ∃ a, W.var? Tryd.prog "loop.example/g01040/impl.errEmpty" = some #[.iface 240 (.pointer (some a))] := by
  obtain ⟨a, s, hv, -⟩ := laid_sentinel (plainLaid h) gErrEmpty gErrEmptyType Tryd.underlying87 rowErr Tryd.underlying240 Tryd.underlying259 rfl rfl Tryd.underlying9 (by kernel_rfl) (by kernel_rfl)
  exact ⟨a, hv⟩
theorem var_below {W W' : World} {n : String} {cs : Array Value} (h : W.var? Tryd.prog n = some cs) (hb : Below W.heap.size W W') : W'.var? Tryd.prog n = some cs := by
  unfold World.var? at h ⊢
  cases hg : Tryd.prog.globalNamed n with
  | none => rw [hg] at h; exact h
  | some g =>
    rw [hg] at h
    simp only [Option.bind_some] at h ⊢
    have hl : g < W.heap.size := by
      rcases Nat.lt_or_ge g W.heap.size with h' | h'
      · exact h'
      · rw [Array.getElem?_eq_none h'] at h; cases h
    rw [hb.block g hl]
    exact h
theorem emptyOf {W : World} (h : laidMetH Tryd.prog Rows.fnPoolsRow.laid W) : EmptyOk W := by
  obtain ⟨a, hv⟩ := varErrEmpty h
  exact ⟨a, by unfold EmptyAt; simpa using World.var?_cell gErrEmpty hv 0⟩

set_option maxRecDepth 100000 in
theorem contract (H : Type) (enc : TypeId × Value → H) (W : World) (base : Nat) (args : Array Value) (ds gs : List (DataW H)) (before : List MemPlace)
    (hval0 : ∀ (j : Nat) t v, Tryd.f8.params[j]? = some t → args[j]? = some v → Value.okWide Tryd.prog W .any base t v)
    (hW : DataW.Whole enc Tryd.prog Tryd.f8.params.toList Rows.fnPoolsSpec.vars false W args.toList ds gs before) (hL : laidMetH Tryd.prog Rows.fnPoolsRow.laid W) (hsh : W.ShapedOpen Tryd.prog) :
    Calls Tryd.prog 8 args W fun e W' => ∃ v, e = .returned v ∧ Rows.fnPoolsSpec.post enc Tryd.prog Tryd.f8 false true false false W args v W' := by
  have hval : ∀ (j : Nat) t v, Tryd.f8.params[j]? = some t → args[j]? = some v → Value.okWide Tryd.prog W .any base t v := hval0
  have hW' := hW
  obtain ⟨p, q, hA0, hV, rfl, hfz, hnd⟩ := hW
  have hA : DataW.TrodAll enc Tryd.prog W 0 (fun _ => true) true Tryd.f8.params.toList args.toList ds p := hA0
  rw [Tryd.params8] at hA hval
  obtain ⟨v0, vs0, d0, ds0, p0, q0, hargs, rfl, rfl, h0, r0⟩ := trodAll_cons hA
  obtain ⟨rfl, rfl, rfl⟩ := trodAll_nil r0
  obtain rfl : args = #[v0] := by cases args; simp_all
  obtain ⟨av0, hv0⟩ := varErrEmpty hL
  have vr : ∀ {X : World}, X.var? Tryd.prog "loop.example/g01040/impl.errEmpty" = some #[.iface 240 (.pointer (some av0))] → ∀ sp : Nat → Bool, DataW.TrodVars enc Tryd.prog X sp ["loop.example/g01040/impl.errEmpty"] [tok enc (.iface 240 (.pointer (some av0)))] [.cell 0 0] := fun x0 sp => vars_read1 enc gErrEmpty gErrEmptyType Tryd.underlying87 x0 trivial sp
  have hV2 : DataW.TrodVars enc Tryd.prog W (fun _ => true) ["loop.example/g01040/impl.errEmpty"] gs q := hV
  obtain ⟨rfl, rfl⟩ := hV2.unique (vr hv0 _)
  obtain ⟨a0, len0, cap0, rfl⟩ := okWide_slice Tryd.underlying28 (hval 0 28 v0 rfl rfl)
  have k0 := h0
  have lt0 : ∀ x ∈ p0, x.block < W.heap.size := by obtain ⟨m, hm⟩ := k0; exact DataW.trod_lt m _ _ _ hm
  obtain ⟨z0, w0⟩ : ∃ zs, IsBytes W a0 len0 cap0 zs := by
    obtain ⟨fuel, hf⟩ := h0
    rcases open_ints Tryd.underlying28 Tryd.underlying5 (by kernel_rfl) hf with ⟨hcs, _⟩ | ⟨x, l, c, zs, hcs, _, hl, hm, hz, _, hcell, hwz⟩
    · simp [Value.cells] at hcs
      obtain ⟨rfl, rfl, rfl⟩ := hcs
      exact ⟨[], .inl ⟨rfl, rfl, rfl, rfl⟩⟩
    · simp [Value.cells] at hcs
      obtain ⟨rfl, rfl, rfl⟩ := hcs
      exact ⟨zs, .inr ⟨_, rfl, hl, hm, by simpa using hz, hcell, hwz⟩⟩
  clear hA0 hval0
  refine (walkFnPools W a0 len0 cap0 z0 w0 (handleOf hL) (emptyOf hL)).mono fun e W' ⟨he, bel⟩ => ?_
  subst he
  exact ⟨_, rfl, _, _, _, [], _, [.cell 0 0], hW', trodAll_mk1 (shut_bool Tryd.underlying4 _), (trodAll_cons_mk (Below.trod laidOut (by kernel_rfl) (of_decide_eq_true (by kernel_rfl)) k0 bel lt0) trodAll_mk0), vr (var_below hv0 bel) _, bel.frame _, fun h => by cases h⟩

/-- How many blocks the settled world has. -/
noncomputable def low : Nat := (World.holding Tryd.prog default ⟨#[], #[], []⟩).heap.size
/-- A world for the witness: the settled one, the listed variables holding what their initialisers lay. -/
noncomputable def laidWorld (os : Os) : World :=
  let w0 := World.holding Tryd.prog os ⟨#[.cells #[.string ⟨#[116, 104, 101, 114, 101, 32, 97, 114, 101, 32, 110, 111, 32, 101, 108, 101, 109, 101, 110, 116, 115]⟩] 259], #[], []⟩
  { w0 with heap := ((w0.heap.modify 2 fun
    | .cells _ t frozen => .cells #[.iface 194 (.agg #[.pointer (some ⟨7, 87, none⟩)])] t frozen
    | o => o).modify 0 fun
    | .cells _ t frozen => .cells #[.iface 240 (.pointer (some ⟨low + 0, 0, none⟩))] t frozen
    | o => o) }
theorem laid_metH (os : Os) : laidMetH Tryd.prog Rows.fnPoolsRow.laid ((laidWorld os).forCall (fun _ _ => 0) ⟨#[], #[.slice none 0 0], []⟩).memory :=
  laidMetH_of_parts (laidMet_of_run' 8 (by kernel_rfl) (by kernel_rfl)) (by kernel_rfl)
theorem reads (os : Os) {H : Type} (enc : TypeId × Value → H) : ∃ places, DataW.whole enc Tryd.prog ((laidWorld os).forCall (fun _ _ => 0) ⟨#[], #[.slice none 0 0], []⟩).memory Tryd.f8.params.toList Rows.fnPoolsSpec.vars false (#[.slice none 0 0] : Array Value).toList 8 = some ([.nil], [.held (enc (240, .pointer (some ⟨low + 0, 0, none⟩)))], places) :=
  ⟨[.cell 0 0], by kernel_rfl⟩

set_option maxRecDepth 100000 in
theorem lifted (os : Os) (started : os.Started) (H : Type) (enc : TypeId × Value → H) (F : Stop.Interp) :
    ReturnsInHanded {} Tryd.checked os 8 .any ((OpenSpec.ofChange Rows.fnPoolsSpec).preRow enc Tryd.prog Tryd.f8 Rows.fnPoolsRow.domain false Rows.fnPoolsRow.laid) (((OpenSpec.ofChange Rows.fnPoolsSpec).at F).post enc Tryd.prog Tryd.f8 false true false false) := by
  obtain ⟨places, hx⟩ := reads os enc
  refine returnsInHanded_of_row (C := Tryd.checked) (s := OpenSpec.ofChange Rows.fnPoolsSpec) own started (by kernel_rfl) Tryd.func8
    (witness_row_atRef (enc := enc) (C := Tryd.checked) false (laidWorld os) #[.slice none 0 0] rfl (by kernel_rfl) (by kernel_rfl) (by kernel_rfl)
      (OpenSpec.preRow_of_cond 8 hx (by kernel_rfl) (fun k hk => by cases hk) (by kernel_rfl) (laid_metH os))) ?_
  intro W base args ds gs before hval hW _ _ _ hL hsh _
  exact contract H enc W base args ds gs before hval hW hL hsh

theorem leaves (os : Os) (started : os.Started) (H : Type) (enc : TypeId × Value → H) :
    ReturnsInLeavingWide {} Tryd.checked os 8 .any (Rows.fnPoolsRow.pre enc Tryd.prog Tryd.f8 (OpenSpec.ofChange Rows.fnPoolsSpec)) (Rows.fnPoolsSpec.post enc Tryd.prog Tryd.f8 false true false false) := fun enter => by
  rw [OpenClaim.pre_eq_preRow]
  exact ReturnsInOpen.mono (fun _ _ _ x => ⟨x.2.1, onlyLeaving_of_quiet x.1, x.2.2⟩) (fun _ x => x) (lifted os started H enc (fun _ _ _ => 0) enter)

theorem said : Rows.fnPoolsRow.holds Tryd.pinned (OpenSpec.ofChange Rows.fnPoolsSpec) :=
  OpenClaim.holds_of_wide_leaving 8 Tryd.f8 rfl rfl rfl rfl rfl rfl rfl ⟨rfl, rfl, rfl, rfl, rfl⟩ rfl rfl rfl rfl rfl (by kernel_rfl) Tryd.func8 (by kernel_rfl)
    (of_decide_eq_true (by kernel_rfl)) (by unfold Func.isWrapper; first | (rw [if_pos (by decide +kernel)]; kernel_rfl) | (rw [if_neg (by decide +kernel)]; exact ⟨rfl, rfl⟩))
    (fun os started H enc _ => leaves os started H enc)

theorem plain (f : FuncId) (fn : Func) (hf : Tryd.pinned.checked.prog.funcNamed "loop.example/g01040/laws.FnPools" = some f) (hfn : Tryd.pinned.checked.prog.funcs[f]? = some fn) :
    true = Tryd.pinned.checked.prog.looks [] ∧ ∀ (j : Nat) t, fn.params[j]? = some t → Tryd.pinned.checked.prog.wantsStandIn t = false := by
  obtain rfl : f = 8 := Option.some.inj ((show Tryd.prog.funcNamed "loop.example/g01040/laws.FnPools" = some 8 by kernel_rfl).symm.trans hf) |>.symm
  obtain rfl : fn = Tryd.f8 := (Option.some.inj (Tryd.func8.symm.trans hfn)).symm
  refine ⟨by kernel_rfl, fun j t ht => ?_⟩
  rw [Tryd.params8] at ht
  have hm := Array.mem_of_getElem? ht
  simp only [List.mem_toArray, List.mem_cons, List.not_mem_nil, or_false] at hm
  rcases hm with rfl
  · exact (show Tryd.prog.wantsStandIn 28 = false by kernel_rfl)

theorem proved : Rows.FnPoolsCardSaid :=
  ⟨Claim7.tied_new_at .later [.handle, .sentinel] true (Claim7.new_of_sixth said (true, "a4bb8c96989863f31809d5a38115c218a53c99cd9f16ab59ca605c7573531836") true rfl ⟨rfl, rfl⟩ (by kernel_rfl) (by kernel_rfl) plain) (by kernel_rfl), (fun _ h => by cases h), fnPools_row_tie, (fun h => by cases h), by kernel_rfl⟩
#print axioms proved
end Go.Proofs.YtlflblngbneacabDoor.fnPoolsClaim
