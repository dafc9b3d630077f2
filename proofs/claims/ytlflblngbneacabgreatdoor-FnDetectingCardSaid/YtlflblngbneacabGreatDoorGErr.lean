/- Several texts in one file; each says what it proves and under which condition. No condition. -/
import Derived.Test.YtlflblngbneacabGreatDoorGBase
import Derived.LaidEql
import Derived.Stop.Asserts
import Derived.RowKitTokens
import Derived.Test.YtlflblngbneacabGreatDoorGWei
/- errors.As at an error of the program's own type textError and a target that points to a variable of that type: true, and the variable holds the error; at no error: false. Condition: the variable errors.errorType holds what the library's text lays. -/
namespace Go.Proofs.YtlflblngbneacabGreatDoor
open Go.RowKit Go.Extern.Stop Go.Stop Go.Extern

/-- What errors.errorType holds: the handle of the type 'error'. -/
def HandleOk (w : World) : Prop := w.cell? ⟨2, 0, none⟩ = some (.iface 211 (.agg #[.pointer (some ⟨11, 94, none⟩)]))
theorem HandleOk.below {w w' : World} (h : HandleOk w) (hb : Below w.heap.size w w') : HandleOk w' := by
  unfold HandleOk
  rw [hb.cell (p := ⟨2, 0, none⟩) (World.block_lt_of_cell? w _ h)]
  exact h

/-- errors.As(nil, target). -/
theorem as_nil (t : Value) (w : World) :
    Calls Tryz.prog 129 #[.nilIface, t] w fun e w' => e = .returned (.bool false) ∧ w' = w := by
  go_enter Tryz.func129, Tryz.ntmps129
  go_wp2
  go_ret
  exact ⟨rfl, rfl⟩

theorem asValueOfP (t : Addr) (w : World) : (ReflectliteValue.unpack (.iface 171 (.pointer (some t)))).run Tryz.prog w
    = .ok (.agg #[.pointer (some ⟨11, 171, none⟩), .pointer (some ⟨w.heap.size, 0, none⟩), .int .u64 150]) (w.alloc (.cells #[.pointer (some t)] 171)) := by kernel_rfl
theorem asTypeP (a : Addr) (w : World) : (ReflectliteValue.methodAny (ReflectliteValue.valueError "reflectlite.Value.Type" 0) (fun t _ _ _ => ReflectliteType.toType t) #[.agg #[.pointer (some ⟨11, 171, none⟩), .pointer (some a), .int .u64 150]]).run Tryz.prog w
    = .ok (.iface 211 (.agg #[.pointer (some ⟨11, 171, none⟩)])) w := by kernel_rfl
theorem asMethodKind (h : Value) (w : World) : (Go.method 428 211 (.agg #[h]) "Kind").run Tryz.prog w = .ok (253, h) w := by kernel_rfl
theorem asKindP (w : World) : ((ReflectliteType.abiMethod fun t => (fun a : Nat => Value.int IntKind.u8 (a : Int)) <$> Rtype.kind t) #[.pointer (some ⟨11, 171, none⟩)]).run Tryz.prog w = .ok (.int .u8 22) w := by kernel_rfl
theorem asKindS (w : World) : ((ReflectliteType.abiMethod fun t => (fun a : Nat => Value.int IntKind.u8 (a : Int)) <$> Rtype.kind t) #[.pointer (some ⟨11, 145, none⟩)]).run Tryz.prog w = .ok (.int .u8 25) w := by kernel_rfl
theorem as_rlm (z : Sem Value) (f : TypeId → Addr → Nat → Nat → Sem Value) (v : Value) :
    ReflectliteValue.method z f #[v] = (do match ← ReflectliteValue.parts v with | none => z | some (t, a, fl) => f t a fl (fl % 32)) := rfl
theorem asPartsP (a : Addr) (w : World) : (ReflectliteValue.parts (.agg #[.pointer (some ⟨11, 171, none⟩), .pointer (some a), .int .u64 150])).run Tryz.prog w = .ok (some (171, a, 150)) w := by kernel_rfl
/-- (Value).IsNil at the Value of a *textError that is not nil. -/
theorem asIsNilP (a p : Addr) (W : World) (ha : W.cell? a = some (.pointer (some p))) :
    (ReflectliteValue.method (ReflectliteValue.valueError "reflectlite.Value.IsNil" 0) ReflectliteValue.isNil #[.agg #[.pointer (some ⟨11, 171, none⟩), .pointer (some a), .int .u64 150]]).run Tryz.prog W = .ok (.bool false) W := by
  rw [as_rlm]
  simp only [Sem.run_bind, asPartsP, Result.andThen]
  simp [ReflectliteValue.isNil, loadVar, isAgg, underlying, Tryz.underlying171, ha, Result.andThen]
theorem asMethodElem (h : Value) (w : World) : (Go.method 428 211 (.agg #[h]) "Elem").run Tryz.prog w = .ok (267, .agg #[h]) w := by kernel_rfl
theorem asMethodImplements (h : Value) (w : World) : (Go.method 428 211 (.agg #[h]) "Implements").run Tryz.prog w = .ok (268, .agg #[h]) w := by kernel_rfl
theorem asMethodAssignableTo (h : Value) (w : World) : (Go.method 428 211 (.agg #[h]) "AssignableTo").run Tryz.prog w = .ok (265, .agg #[h]) w := by kernel_rfl
theorem asElemP (w : World) : (ReflectliteType.method ReflectliteType.elem #[.agg #[.pointer (some ⟨11, 171, none⟩)]]).run Tryz.prog w = .ok (.iface 211 (.agg #[.pointer (some ⟨11, 145, none⟩)])) w := by kernel_rfl
theorem asImplementsS (w : World) : (ReflectliteType.relation "Implements" ReflectliteType.implements_ #[.agg #[.pointer (some ⟨11, 145, none⟩)], .iface 211 (.agg #[.pointer (some ⟨11, 94, none⟩)])]).run Tryz.prog w = .ok (.bool true) w := by kernel_rfl
theorem asTypeOfS (v : Value) (w : World) : (ReflectliteType.typeOf #[.iface 145 v]).run Tryz.prog w = .ok (.iface 211 (.agg #[.pointer (some ⟨11, 145, none⟩)])) w := by kernel_rfl
theorem asAssignableS (w : World) : (ReflectliteType.relation "AssignableTo" ReflectliteType.assignableTo #[.agg #[.pointer (some ⟨11, 145, none⟩)], .iface 211 (.agg #[.pointer (some ⟨11, 145, none⟩)])]).run Tryz.prog w = .ok (.bool true) w := by kernel_rfl
theorem asValueOfS (s : ByteArray) (c : Value) (w : World) : (ReflectliteValue.unpack (.iface 145 (.agg #[.string s, c]))).run Tryz.prog w
    = .ok (.agg #[.pointer (some ⟨11, 145, none⟩), .pointer (some ⟨w.heap.size, 0, none⟩), .int .u64 153]) (w.alloc (.cells #[.string s, c] 145)) := by kernel_rfl
theorem asElemOfP (w : World) : (Rtype.elem? 171).run Tryz.prog w = .ok (some 145) w := by kernel_rfl
theorem asMkS (p : Addr) (w : World) : (ReflectliteValue.mk 145 p ReflectliteValue.flagAddr).run Tryz.prog w = .ok (.agg #[.pointer (some ⟨11, 145, none⟩), .pointer (some p), .int .u64 409]) w := by kernel_rfl
/-- (Value).Elem at the Value of a *textError that is not nil: the Value of the variable that it points to, addressable. -/
theorem asElemV (a p : Addr) (W : World) (ha : W.cell? a = some (.pointer (some p))) :
    (ReflectliteValue.method (ReflectliteValue.valueError "reflectlite.Value.Elem" 0) ReflectliteValue.elem #[.agg #[.pointer (some ⟨11, 171, none⟩), .pointer (some a), .int .u64 150]]).run Tryz.prog W
      = .ok (.agg #[.pointer (some ⟨11, 145, none⟩), .pointer (some p), .int .u64 409]) W := by
  rw [as_rlm]
  simp only [Sem.run_bind, asPartsP, Result.andThen]
  simp [ReflectliteValue.elem, loadVar, isAgg, underlying, Tryz.underlying171, ha, Result.andThen, asElemOfP, asMkS]
theorem as_rls (v x : Value) : ReflectliteValue.set #[v, x] = (do
    let (some (dst, a, fl), some (src, b, _)) := (← ReflectliteValue.parts v, ← ReflectliteValue.parts x)
      | unsupported (.noEntry "extern/(internal/reflectlite.Value).Set.zeroValue")
    if fl / ReflectliteValue.flagAddr % 2 == 0 then unsupported (.noEntry "extern/(internal/reflectlite.Value).Set.unaddressable")
    let val ← loadVar src b
    if ← Rtype.directlyAssignable dst src then storeVar dst a val
    else if ← Rtype.implements dst src then
      if (← Rtype.kind src) == 20 then
        match val with
        | .nilIface => unsupported (.noEntry "extern/reflectlite: a nil value of one interface type handed on as a value of another")
        | _ => storeVar dst a val
      else storeVar dst a (.iface src val)
    else panicString ("reflectlite.Set: value of type " ++ (← Rtype.spelt src) ++ " is not assignable to type " ++ (← Rtype.spelt dst))
    pure (.tuple #[])) := rfl
theorem asPartsA (a : Addr) (w : World) : (ReflectliteValue.parts (.agg #[.pointer (some ⟨11, 145, none⟩), .pointer (some a), .int .u64 409])).run Tryz.prog w = .ok (some (145, a, 409)) w := by kernel_rfl
theorem asPartsS (a : Addr) (w : World) : (ReflectliteValue.parts (.agg #[.pointer (some ⟨11, 145, none⟩), .pointer (some a), .int .u64 153])).run Tryz.prog w = .ok (some (145, a, 153)) w := by kernel_rfl
theorem asDirect (w : World) : (Rtype.directlyAssignable 145 145).run Tryz.prog w = .ok true w := by kernel_rfl

theorem asSizeS (w : World) : (sizeOf 145).run Tryz.prog w = .ok 2 w := by kernel_rfl
theorem asAggS (w : World) : (isAgg 145).run Tryz.prog w = .ok true w := by kernel_rfl
/-- (Value).Set: the variable at tb gets what the Value's own variable at b holds. -/
theorem asSet (tb b : Nat) (s c o0 o1 : Value) (hs1 : s.oneCell' = true) (hc1 : c.oneCell' = true) (W : World) (hb : W.cell? ⟨b, 0, none⟩ = some s) (hb1 : W.cell? ⟨b, 1, none⟩ = some c)
    (ht : W.cell? ⟨tb, 0, none⟩ = some o0) (hf : W.frozen? ⟨tb, 0, none⟩ = false) (ht1 : (W.setCell ⟨tb, 0, none⟩ s).cell? ⟨tb, 1, none⟩ = some o1) (hf1 : (W.setCell ⟨tb, 0, none⟩ s).frozen? ⟨tb, 1, none⟩ = false) :
    (ReflectliteValue.set #[.agg #[.pointer (some ⟨11, 145, none⟩), .pointer (some ⟨tb, 0, none⟩), .int .u64 409], .agg #[.pointer (some ⟨11, 145, none⟩), .pointer (some ⟨b, 0, none⟩), .int .u64 153]]).run Tryz.prog W
      = .ok (.tuple #[]) ((W.setCell ⟨tb, 0, none⟩ s).setCell ⟨tb, 1, none⟩ c) := by
  rw [as_rls]
  simp only [Sem.run_bind, asPartsA, asPartsS, Result.andThen]
  simp [ReflectliteValue.flagAddr, loadVar, loadCells, loadCellsFrom, hb, hb1, Result.andThen, asDirect, storeVar, Value.cells, storeCells, Addr.add]
  rw [run_store Tryz.prog W ⟨tb, 0, none⟩ _ _ (by exact hs1)]
  simp [ht, hf]
  rw [run_store Tryz.prog _ ⟨tb, 1, none⟩ _ _ (by exact hc1)]
  simp [ht1, hf1]
end Go.Proofs.YtlflblngbneacabGreatDoor

/- errors.As at an error of the program's own type textError and a target that points to a variable of that type: true, and the variable holds the error; the program's function 'shown': the line, or the text that its error carries. Condition: the variable errors.errorType holds what the library's text lays. -/
namespace Go.Proofs.YtlflblngbneacabGreatDoor
open Go.RowKit Go.Extern.Stop Go.Stop Go.Extern

set_option maxRecDepth 100000 in
set_option maxHeartbeats 4000000 in
theorem as_hit (s : ByteArray) (c : Value) (hc1 : c.oneCell' = true) (tb : Nat) (o0 o1 : Value) (w : World) (hg : HandleOk w) (ht0 : w.cell? ⟨tb, 0, none⟩ = some o0) (hf0 : w.frozen? ⟨tb, 0, none⟩ = false) (ht1 : w.cell? ⟨tb, 1, none⟩ = some o1) (hf1 : w.frozen? ⟨tb, 1, none⟩ = false) :
    Calls Tryz.prog 129 #[.iface 145 (.agg #[.string s, c]), .iface 171 (.pointer (some ⟨tb, 0, none⟩))] w fun e w' => e = .returned (.bool true) ∧ w' = ((((((w.alloc (.cells #[.pointer (some ⟨tb, 0, none⟩)] 171)).alloc (.cells #[.pointer (some ⟨11, 171, none⟩), .pointer (some ⟨w.heap.size, 0, none⟩), .int .u64 150] 198)).alloc (.cells #[.pointer (some ⟨11, 171, none⟩), .pointer (some ⟨w.heap.size, 0, none⟩), .int .u64 150] 198)).alloc (.cells #[.string s, c] 145)).setCell ⟨tb, 0, none⟩ (.string s)).setCell ⟨tb, 1, none⟩ c) := by
  have h6 := @run_callFunc_extern Tryz.prog 159 _ (fun args => ReflectliteValue.unpack (args.getD 0 (.tuple #[]))) Tryz.func159 (by kernel_rfl) (by kernel_rfl) (by kernel_rfl) (by kernel_rfl)
  have h7 := @run_callFunc_extern Tryz.prog 160 _ (ReflectliteValue.methodAny (ReflectliteValue.valueError "reflectlite.Value.Type" 0) (fun t _ _ _ => ReflectliteType.toType t)) Tryz.func160 (by kernel_rfl) (by kernel_rfl) (by kernel_rfl) (by kernel_rfl)
  have h8 := @run_callFunc_extern Tryz.prog 161 _ (ReflectliteValue.method (ReflectliteValue.valueError "reflectlite.Value.IsNil" 0) ReflectliteValue.isNil) Tryz.func161 (by kernel_rfl) (by kernel_rfl) (by kernel_rfl) (by kernel_rfl)
  have h27 := @run_callFunc_extern Tryz.prog 253 _ (ReflectliteType.abiMethod fun t => do pure (.int .u8 (← Rtype.kind t))) Tryz.func253 (by kernel_rfl) (by kernel_rfl) (by kernel_rfl) (by kernel_rfl)
  have h37 := @run_callFunc_extern Tryz.prog 267 _ (ReflectliteType.method ReflectliteType.elem) Tryz.func267 (by kernel_rfl) (by kernel_rfl) (by kernel_rfl) (by kernel_rfl)
  have h38 := @run_callFunc_extern Tryz.prog 268 _ (ReflectliteType.relation "Implements" ReflectliteType.implements_) Tryz.func268 (by kernel_rfl) (by kernel_rfl) (by kernel_rfl) (by kernel_rfl)
  have h10 := @run_callFunc_extern Tryz.prog 137 _ ReflectliteType.typeOf Tryz.func137 (by kernel_rfl) (by kernel_rfl) (by kernel_rfl) (by kernel_rfl)
  have h35 := @run_callFunc_extern Tryz.prog 265 _ (ReflectliteType.relation "AssignableTo" ReflectliteType.assignableTo) Tryz.func265 (by kernel_rfl) (by kernel_rfl) (by kernel_rfl) (by kernel_rfl)
  have h11 := @run_callFunc_extern Tryz.prog 196 _ (ReflectliteValue.method (ReflectliteValue.valueError "reflectlite.Value.Elem" 0) ReflectliteValue.elem) Tryz.func196 (by kernel_rfl) (by kernel_rfl) (by kernel_rfl) (by kernel_rfl)
  have h12 := @run_callFunc_extern Tryz.prog 197 _ ReflectliteValue.set Tryz.func197 (by kernel_rfl) (by kernel_rfl) (by kernel_rfl) (by kernel_rfl)
  have tO := asTypeOfS
  have mA := asMethodAssignableTo
  have aS := asAssignableS
  have vS := asValueOfS
  have f6 := asValueOfP
  have f7 := asTypeP
  have mK := asMethodKind
  have mE := asMethodElem
  have mI := asMethodImplements
  have kP := asKindP
  have kS := asKindS
  have eP := asElemP
  have iS := asImplementsS
  have n8 := asIsNilP ⟨w.heap.size, 0, none⟩ ⟨tb, 0, none⟩ ((w.alloc (.cells #[.pointer (some ⟨tb, 0, none⟩)] 171)).alloc (.cells #[.pointer (some ⟨11, 171, none⟩), .pointer (some ⟨w.heap.size, 0, none⟩), .int .u64 150] 198)) (by simp)
  have hlt : 2 < w.heap.size := World.block_lt_of_cell? w _ hg
  have hg2 : ((w.alloc (.cells #[.pointer (some ⟨tb, 0, none⟩)] 171)).alloc (.cells #[.pointer (some ⟨11, 171, none⟩), .pointer (some ⟨w.heap.size, 0, none⟩), .int .u64 150] 198)).cell? ⟨2, 0, none⟩ = some (.iface 211 (.agg #[.pointer (some ⟨11, 94, none⟩)])) := by
    rw [World.cell?_alloc_lt _ _ ⟨2, 0, none⟩ (by simp; omega), World.cell?_alloc_lt _ _ ⟨2, 0, none⟩ hlt]; exact hg
  have htl : tb < w.heap.size := World.block_lt_of_cell? w _ ht0
  have el := asElemV ⟨w.heap.size, 0, none⟩ ⟨tb, 0, none⟩ (((w.alloc (.cells #[.pointer (some ⟨tb, 0, none⟩)] 171)).alloc (.cells #[.pointer (some ⟨11, 171, none⟩), .pointer (some ⟨w.heap.size, 0, none⟩), .int .u64 150] 198)).alloc (.cells #[.pointer (some ⟨11, 171, none⟩), .pointer (some ⟨w.heap.size, 0, none⟩), .int .u64 150] 198)) (by rw [World.cell?_alloc_lt _ _ ⟨w.heap.size, 0, none⟩ (by simp; omega), World.cell?_alloc_lt _ _ ⟨w.heap.size, 0, none⟩ (by simp)]; simp)
  have up : ∀ j x, w.cell? ⟨tb, j, none⟩ = some x → ((((w.alloc (.cells #[.pointer (some ⟨tb, 0, none⟩)] 171)).alloc (.cells #[.pointer (some ⟨11, 171, none⟩), .pointer (some ⟨w.heap.size, 0, none⟩), .int .u64 150] 198)).alloc (.cells #[.pointer (some ⟨11, 171, none⟩), .pointer (some ⟨w.heap.size, 0, none⟩), .int .u64 150] 198)).alloc (.cells #[.string s, c] 145)).cell? ⟨tb, j, none⟩ = some x := fun j x h => by
    rw [World.cell?_alloc_lt _ _ ⟨tb, j, none⟩ (by simp; omega), World.cell?_alloc_lt _ _ ⟨tb, j, none⟩ (by simp; omega), World.cell?_alloc_lt _ _ ⟨tb, j, none⟩ (by simp; omega), World.cell?_alloc_lt _ _ ⟨tb, j, none⟩ htl]; exact h
  have upf : ∀ j, w.frozen? ⟨tb, j, none⟩ = false → ((((w.alloc (.cells #[.pointer (some ⟨tb, 0, none⟩)] 171)).alloc (.cells #[.pointer (some ⟨11, 171, none⟩), .pointer (some ⟨w.heap.size, 0, none⟩), .int .u64 150] 198)).alloc (.cells #[.pointer (some ⟨11, 171, none⟩), .pointer (some ⟨w.heap.size, 0, none⟩), .int .u64 150] 198)).alloc (.cells #[.string s, c] 145)).frozen? ⟨tb, j, none⟩ = false := fun j h => by
    rw [World.frozen?_alloc_old _ _ ⟨tb, j, none⟩ (by simp; omega), World.frozen?_alloc_old _ _ ⟨tb, j, none⟩ (by simp; omega), World.frozen?_alloc_old _ _ ⟨tb, j, none⟩ (by simp; omega), World.frozen?_alloc_old _ _ ⟨tb, j, none⟩ (Nat.ne_of_lt htl)]; exact h
  have st := asSet tb (w.heap.size + 1 + 1 + 1) (.string s) c o0 o1 rfl hc1 ((((w.alloc (.cells #[.pointer (some ⟨tb, 0, none⟩)] 171)).alloc (.cells #[.pointer (some ⟨11, 171, none⟩), .pointer (some ⟨w.heap.size, 0, none⟩), .int .u64 150] 198)).alloc (.cells #[.pointer (some ⟨11, 171, none⟩), .pointer (some ⟨w.heap.size, 0, none⟩), .int .u64 150] 198)).alloc (.cells #[.string s, c] 145))
    (by rw [World.cell?_alloc_at _ _ _ _ (by simp)]; rfl) (by rw [World.cell?_alloc_at _ _ _ _ (by simp)]; rfl)
    (up 0 _ ht0) (upf 0 hf0) (Eq.trans (World.cell?_setCell_other _ _ _ _ (by simp)) (up 1 _ ht1)) (by rw [World.frozen?_setCell]; exact upf 1 hf1)
  clear up upf hg
  go_enter Tryz.func129, Tryz.ntmps129
  go_wp2
  refine wp_loop_rounds 1 ?_
  rw [rounds_succ]
  go_wp2
  go_ret
  exact ⟨rfl, rfl⟩

set_option maxRecDepth 100000 in
set_option maxHeartbeats 1600000 in
/-- shown, where there is no error: the line. -/
theorem implShownLine (line : ByteArray) (w : World) : Calls Tryz.prog 90 #[.string line, .nilIface] w fun e w' => e = .returned (.string line) ∧ Below w.heap.size w w' := by
  have C := Lib.hid (fun t W => as_nil t W)
  go_enter Tryz.func90, Tryz.ntmps90
  go_wp2_with fail
  refine (C.out _ _).mono ?_
  rintro e w1 ⟨rfl, rfl⟩
  go_wp2
  go_ret
  exact ⟨rfl, alloc_below _ _⟩

set_option maxRecDepth 100000 in
set_option maxHeartbeats 1600000 in
/-- shown, where there is an error: its text. -/
theorem implShownText (line s : ByteArray) (c : Value) (hc1 : c.oneCell' = true) (w : World) (hg : HandleOk w) : Calls Tryz.prog 90 #[.string line, .iface 145 (.agg #[.string s, c])] w fun e w' => e = .returned (.string s) ∧ Below w.heap.size w w' := by
  have B1 := alloc_below w (.cells #[.string ByteArray.empty, .nilIface] 145)
  have P1 := Lib.hid (TwoAt.new w 145 (.string ByteArray.empty) .nilIface)
  have g1 := hg.below B1
  have e0 : (w.alloc (.cells #[.string ByteArray.empty, .nilIface] 145)).cell? ⟨w.heap.size, 0, none⟩ = some (.string ByteArray.empty) := by rw [World.cell?_alloc_at _ _ _ _ (by simp)]; rfl
  have e1 : (w.alloc (.cells #[.string ByteArray.empty, .nilIface] 145)).cell? ⟨w.heap.size, 1, none⟩ = some .nilIface := by rw [World.cell?_alloc_at _ _ _ _ (by simp)]; rfl
  have f0 : (w.alloc (.cells #[.string ByteArray.empty, .nilIface] 145)).frozen? ⟨w.heap.size, 0, none⟩ = false := by simp
  have f1 : (w.alloc (.cells #[.string ByteArray.empty, .nilIface] 145)).frozen? ⟨w.heap.size, 1, none⟩ = false := by simp
  have C := Lib.hid (as_hit s c hc1 w.heap.size _ _ _ g1 e0 f0 e1 f1)
  clear g1 e0 e1 f0 f1 hg
  go_enter Tryz.func90, Tryz.ntmps90
  go_wp2_with fail
  refine C.out.mono ?_
  rintro e w1 ⟨rfl, rfl⟩
  go_wp2
  go_ret
  exact ⟨rfl, (((((Below.refl w.heap.size w).alloc (Nat.le_refl _) _).alloc (by simp) _).alloc (by simp; omega) _).alloc (by simp; omega) _).alloc (by simp; omega) _⟩
end Go.Proofs.YtlflblngbneacabGreatDoor

/- errors.Is at an error of the program's own type textError whose cause is one of two sentinels; the program's function 'accepted'. Conditions: the two sentinels are different pointers to rows of cells that nothing is frozen of. -/
namespace Go.Proofs.YtlflblngbneacabGreatDoor
open Go.RowKit Go.Extern.Stop Go.Stop Go.Extern

theorem heap_lt {w : World} {k : Nat} {o : Obj} (h : w.heap[k]? = some o) : k < w.heap.size := by
  rcases Nat.lt_or_ge k w.heap.size with h' | h'
  · exact h'
  · rw [Array.getElem?_eq_none h'] at h; cases h
theorem isTypeOf (v : Value) (w : World) : (Extern.ReflectliteType.typeOf #[.iface 292 v]).run Tryz.prog w = .ok (.iface 211 (.agg #[.pointer (some ⟨11, 292, none⟩)])) w := by kernel_rfl
theorem isComparable (w : World) : (callFunc 266 #[.agg #[.pointer (some ⟨11, 292, none⟩)]]).run Tryz.prog w = .ok (.value (.bool true)) w := by kernel_rfl
theorem isMethodComparable (v : Value) (w : World) : (Go.method 428 211 v "Comparable").run Tryz.prog w = .ok (266, v) w := by kernel_rfl
theorem isComp : (Tryz.prog.info? 292).map (·.comparable) = some true := by kernel_rfl
theorem isSize : (Tryz.prog.info? 294).map (·.size) = some 1 := by kernel_rfl

theorem noIsE (v : Value) (xT : TypeId) (w : World) : (Instr.typeAssert (.iface 292 v) xT 213 true).run Tryz.prog w = .ok (.tuple #[.nilIface, .bool false]) w := run_typeAssert_lacksB Tryz.underlying213 (by kernel_rfl) (by kernel_rfl) v xT w
theorem noUnwrapE (v : Value) (xT : TypeId) (w : World) : (Instr.typeAssert (.iface 292 v) xT 216 true).run Tryz.prog w = .ok (.tuple #[.nilIface, .bool false]) w := run_typeAssert_lacksB Tryz.underlying216 (by kernel_rfl) (by kernel_rfl) v xT w
theorem noUnwrapsE (v : Value) (xT : TypeId) (w : World) : (Instr.typeAssert (.iface 292 v) xT 218 true).run Tryz.prog w = .ok (.tuple #[.nilIface, .bool false]) w := run_typeAssert_lacksB Tryz.underlying218 (by kernel_rfl) (by kernel_rfl) v xT w
theorem noIsW (v : Value) (xT : TypeId) (w : World) : (Instr.typeAssert (.iface 145 v) xT 213 true).run Tryz.prog w = .ok (.tuple #[.nilIface, .bool false]) w := run_typeAssert_lacksB Tryz.underlying213 (by kernel_rfl) (by kernel_rfl) v xT w
theorem hasUnwrapW (v : Value) (xT : TypeId) (w : World) : (Instr.typeAssert (.iface 145 v) xT 216 true).run Tryz.prog w = .ok (.tuple #[.iface 145 v, .bool true]) w := run_typeAssert_hasB Tryz.underlying216 (by kernel_rfl) v xT w
theorem methodUnwrap (v : Value) (w : World) : (Go.method 428 145 v "Unwrap").run Tryz.prog w = .ok (259, v) w := by kernel_rfl
/-- textError.Unwrap: the cause. -/
theorem implUnwrap (s : Value) (c : Value) (w : World) : Calls Tryz.prog 259 #[.agg #[s, c]] w fun e w' => e = .returned c ∧ Below w.heap.size w w' := by
  go_enter Tryz.func259, Tryz.ntmps259
  go_wp2
  go_ret
  exact ⟨rfl, alloc_below _ _⟩

set_option maxHeartbeats 1600000 in
/-- errors.Is at a textError whose cause is the sentinel itself. -/
theorem is_cause_same (s : ByteArray) (b : Addr) (w : World) :
    Calls Tryz.prog 103 #[.iface 145 (.agg #[.string s, .iface 292 (.pointer (some b))]), .iface 292 (.pointer (some b))] w fun e w' => e = .returned (.bool true) ∧ Below w.heap.size w w' := by
  obtain ⟨i, hi, hcmp⟩ := Option.map_eq_some_iff.1 isComp
  obtain ⟨j, hj, -⟩ := Option.map_eq_some_iff.1 isSize
  have h8 := @run_callFunc_extern Tryz.prog 137 _ Extern.ReflectliteType.typeOf Tryz.func137 (by kernel_rfl) (by kernel_rfl) (by kernel_rfl) (by kernel_rfl)
  have tT := isTypeOf
  have cT := isComparable
  have mR := isMethodComparable
  have nE := noIsE
  have uE := noUnwrapE
  have vE := noUnwrapsE
  have nW := noIsW
  have uW := hasUnwrapW
  have mU := methodUnwrap
  have CU := Lib.hid (fun s c W => implUnwrap s c W)
  have heq := fun w => run_eql_iface_ptr_same (P := Tryz.prog) w b Tryz.underlying94 Tryz.underlying292 hi hcmp hj
  have hty := fun v w => run_eql_iface_types (P := Tryz.prog) 145 292 v (.pointer (some b)) Tryz.underlying94 (by decide) w
  go_enter Tryz.func103, Tryz.ntmps103
  go_wp2
  refine wp_loop_rounds 2 ?_
  rw [rounds_succ]
  go_wp2
  rw [rounds_succ]
  go_wp2
  go_ret
  exact ⟨rfl, alloc_below _ _⟩

set_option maxHeartbeats 1600000 in
/-- errors.Is at a textError whose cause is another sentinel. -/
theorem is_cause_other (s : ByteArray) (a b : Addr) (ca cb : Array Value) (ta tb : TypeId) (w : World) (hne : a ≠ b) (ha : w.heap[a.block]? = some (.cells ca ta (0, 0))) (hb : w.heap[b.block]? = some (.cells cb tb (0, 0))) :
    Calls Tryz.prog 103 #[.iface 145 (.agg #[.string s, .iface 292 (.pointer (some a))]), .iface 292 (.pointer (some b))] w fun e w' => e = .returned (.bool false) ∧ Below w.heap.size w w' := by
  obtain ⟨i, hi, hcmp⟩ := Option.map_eq_some_iff.1 isComp
  obtain ⟨j, hj, hjs⟩ := Option.map_eq_some_iff.1 isSize
  have h8 := @run_callFunc_extern Tryz.prog 137 _ Extern.ReflectliteType.typeOf Tryz.func137 (by kernel_rfl) (by kernel_rfl) (by kernel_rfl) (by kernel_rfl)
  have tT := isTypeOf
  have cT := isComparable
  have mR := isMethodComparable
  have nE := noIsE
  have uE := noUnwrapE
  have vE := noUnwrapsE
  have nW := noIsW
  have uW := hasUnwrapW
  have mU := methodUnwrap
  have B1 := alloc_below w (.cells #[.string s, .iface 292 (.pointer (some a))] 145)
  have ha' := ha
  have hb' := hb
  rw [← B1.block _ (heap_lt ha)] at ha'
  rw [← B1.block _ (heap_lt hb)] at hb'
  have heq := run_eql_iface_ptr_other (P := Tryz.prog) (w.alloc (.cells #[.string s, .iface 292 (.pointer (some a))] 145)) Tryz.underlying94 Tryz.underlying292 hi hcmp hj (by rw [hjs]; decide) hne ha' hb'
  have hty := fun v w => run_eql_iface_types (P := Tryz.prog) 145 292 v (.pointer (some b)) Tryz.underlying94 (by decide) w
  clear ha hb ha' hb' B1
  go_enter Tryz.func103, Tryz.ntmps103
  go_wp2
  refine wp_loop_rounds 2 ?_
  rw [rounds_succ]
  go_wp2
  rw [rounds_succ]
  go_wp2
  go_ret
  exact ⟨rfl, alloc_below _ _⟩

/-- The sentinel errEmpty lies at a. -/
def EmptyAt (w : World) (a : Addr) : Prop := w.cell? ⟨0, 0, none⟩ = some (.iface 292 (.pointer (some a)))
theorem EmptyAt.below {w w' : World} {a : Addr} (h : EmptyAt w a) (hb : Below w.heap.size w w') : EmptyAt w' a := by
  unfold EmptyAt
  rw [hb.cell (p := ⟨0, 0, none⟩) (World.block_lt_of_cell? w _ h)]
  exact h
def EmptyOk (w : World) : Prop := ∃ a, EmptyAt w a
/-- The two sentinels lie at a and at b, which are different. -/
structure ErrsAt (w : World) (a b : Addr) : Prop where
  e : EmptyAt w a
  u : w.cell? ⟨1, 0, none⟩ = some (.iface 292 (.pointer (some b)))
  ne : a ≠ b
  ra : ∃ ca ta, w.heap[a.block]? = some (.cells ca ta (0, 0))
  rb : ∃ cb tb, w.heap[b.block]? = some (.cells cb tb (0, 0))
theorem ErrsAt.below {w w' : World} {a b : Addr} (h : ErrsAt w a b) (hb : Below w.heap.size w w') : ErrsAt w' a b := by
  obtain ⟨h1, h2, h3, ⟨ca, ta, h4⟩, ⟨cb, tb, h5⟩⟩ := h
  refine ⟨h1.below hb, ?_, h3, ⟨ca, ta, ?_⟩, ⟨cb, tb, ?_⟩⟩
  · rw [hb.cell (p := ⟨1, 0, none⟩) (World.block_lt_of_cell? w _ h2)]; exact h2
  · rw [hb.block _ (heap_lt h4)]; exact h4
  · rw [hb.block _ (heap_lt h5)]; exact h5
def emptyErr (s : ByteArray) (a : Addr) : Value := .iface 145 (.agg #[.string s, .iface 292 (.pointer (some a))])

set_option maxHeartbeats 1600000 in
/-- accepted, at no error: the list. -/
theorem implAccINone (v : Value) (hv : ∃ a n c, v = .slice a n c) (w : World) : Calls Tryz.prog 61 #[v, .nilIface] w fun e w' => e = .returned (.tuple #[v, .bool true]) ∧ Below w.heap.size w w' := by
  obtain ⟨a, n, c, rfl⟩ := hv
  go_enter Tryz.func61, Tryz.ntmps61
  go_wp2
  go_ret2
  exact ⟨rfl, Below.refl _ _⟩
set_option maxHeartbeats 1600000 in
/-- accepted, at an error whose cause is errEmpty: the list. -/
theorem implAccIEmpty (v : Value) (hv : ∃ a n c, v = .slice a n c) (s : ByteArray) (a b : Addr) (w : World) (h : ErrsAt w a b) : Calls Tryz.prog 61 #[v, emptyErr s a] w fun e w' => e = .returned (.tuple #[v, .bool true]) ∧ Below w.heap.size w w' := by
  obtain ⟨x, n, c, rfl⟩ := hv
  have C := Lib.hid (fun W => is_cause_same s a W)
  have e0 : w.cell? ⟨0, 0, none⟩ = some (.iface 292 (.pointer (some a))) := h.e
  clear h
  unfold emptyErr
  go_enter Tryz.func61, Tryz.ntmps61
  go_wp2_with fail
  refine (C.out _).mono ?_
  rintro e w1 ⟨rfl, b1⟩
  have B := Lib.hid b1
  clear b1
  go_wp2
  go_ret2
  exact ⟨rfl, B.out⟩
set_option maxHeartbeats 1600000 in
/-- accepted, at an error whose cause is errUnknown: no list. -/
theorem implAccINot (v : Value) (s : ByteArray) (a b : Addr) (w : World) (h : ErrsAt w a b) : Calls Tryz.prog 61 #[v, emptyErr s b] w fun e w' => e = .returned (.tuple #[.slice none 0 0, .bool false]) ∧ Below w.heap.size w w' := by
  obtain ⟨h1, -, hne, ⟨ca, ta, h4⟩, ⟨cb, tb, h5⟩⟩ := h
  have C := Lib.hid (is_cause_other s b a cb ca tb ta w (Ne.symm hne) h5 h4)
  have e0 : w.cell? ⟨0, 0, none⟩ = some (.iface 292 (.pointer (some a))) := h1
  clear h1 h4 h5
  unfold emptyErr
  go_enter Tryz.func61, Tryz.ntmps61
  go_wp2_with fail
  refine C.out.mono ?_
  rintro e w1 ⟨rfl, b1⟩
  have B := Lib.hid b1
  clear b1
  go_wp2
  go_ret2
  exact ⟨rfl, B.out⟩

set_option maxHeartbeats 1600000 in
/-- accepted, at no error: the list. -/
theorem implAccBNone (v : Value) (hv : ∃ a n c, v = .slice a n c) (w : World) : Calls Tryz.prog 68 #[v, .nilIface] w fun e w' => e = .returned (.tuple #[v, .bool true]) ∧ Below w.heap.size w w' := by
  obtain ⟨a, n, c, rfl⟩ := hv
  go_enter Tryz.func68, Tryz.ntmps68
  go_wp2
  go_ret2
  exact ⟨rfl, Below.refl _ _⟩
set_option maxHeartbeats 1600000 in
/-- accepted, at an error whose cause is errEmpty: the list. -/
theorem implAccBEmpty (v : Value) (hv : ∃ a n c, v = .slice a n c) (s : ByteArray) (a b : Addr) (w : World) (h : ErrsAt w a b) : Calls Tryz.prog 68 #[v, emptyErr s a] w fun e w' => e = .returned (.tuple #[v, .bool true]) ∧ Below w.heap.size w w' := by
  obtain ⟨x, n, c, rfl⟩ := hv
  have C := Lib.hid (fun W => is_cause_same s a W)
  have e0 : w.cell? ⟨0, 0, none⟩ = some (.iface 292 (.pointer (some a))) := h.e
  clear h
  unfold emptyErr
  go_enter Tryz.func68, Tryz.ntmps68
  go_wp2_with fail
  refine (C.out _).mono ?_
  rintro e w1 ⟨rfl, b1⟩
  have B := Lib.hid b1
  clear b1
  go_wp2
  go_ret2
  exact ⟨rfl, B.out⟩
set_option maxHeartbeats 1600000 in
/-- accepted, at an error whose cause is errUnknown: no list. -/
theorem implAccBNot (v : Value) (s : ByteArray) (a b : Addr) (w : World) (h : ErrsAt w a b) : Calls Tryz.prog 68 #[v, emptyErr s b] w fun e w' => e = .returned (.tuple #[.slice none 0 0, .bool false]) ∧ Below w.heap.size w w' := by
  obtain ⟨h1, -, hne, ⟨ca, ta, h4⟩, ⟨cb, tb, h5⟩⟩ := h
  have C := Lib.hid (is_cause_other s b a cb ca tb ta w (Ne.symm hne) h5 h4)
  have e0 : w.cell? ⟨0, 0, none⟩ = some (.iface 292 (.pointer (some a))) := h1
  clear h1 h4 h5
  unfold emptyErr
  go_enter Tryz.func68, Tryz.ntmps68
  go_wp2_with fail
  refine C.out.mono ?_
  rintro e w1 ⟨rfl, b1⟩
  have B := Lib.hid b1
  clear b1
  go_wp2
  go_ret2
  exact ⟨rfl, B.out⟩
end Go.Proofs.YtlflblngbneacabGreatDoor
