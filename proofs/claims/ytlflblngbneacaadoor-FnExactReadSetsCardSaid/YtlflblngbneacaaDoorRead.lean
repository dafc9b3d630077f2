/- The contracts of the program's valueOf, readEach, read, ReadSigns and ReadResults. Conditions: the text has at most 2^20 bytes; the variables that the code reads hold what the program's text and the library's lay. -/
import Derived.Test.YtlflblngbneacaaDoorSpell
import Derived.Test.YtlflblngbneacaaDoorExplode
import Derived.Test.YtlflblngbneacaaDoorGErr
import Derived.Test.YtlflblngbneacaaDoorGJn
import Derived.Test.YtlflblngbneacaaDoorBools
import Derived.Test.YtlflblngbneacaaDoorSignSpec
import Derived.BigQuiet
namespace Go.Proofs.YtlflblngbneacaaDoor
open Go.RowKit Go.Shelf

def ErrsOk (w : World) : Prop := ∃ a b, ErrsAt w a b
/-- The sentinel errUnknown lies at b. -/
def UnknownAt (w : World) (b : Addr) : Prop := w.cell? ⟨1, 0, none⟩ = some (.iface 171 (.pointer (some b)))
theorem UnknownAt.below {w w' : World} {b : Addr} (h : UnknownAt w b) (hb : Below w.heap.size w w') : UnknownAt w' b := by
  unfold UnknownAt
  rw [hb.cell (p := ⟨1, 0, none⟩) (World.block_lt_of_cell? w _ h)]
  exact h
theorem UnknownAt.drewN {w : World} {b : Addr} (h : UnknownAt w b) (n : Nat) : UnknownAt (w.drewN n) b := h
theorem index_none (m : List UInt8) (a : UInt8) (h : a ∉ m) : Lib.index m [a] = -1 := by
  induction m with
  | nil => rfl
  | cons x r ih =>
    rw [index_one]
    simp only [List.mem_cons, not_or] at h
    have hx : (a == x) = false := beq_false_of_ne h.1
    simp [hx, ih h.2]

/-! ### int -/
theorem sgn_idx (x : ByteArray) (h : PieceOk x) : (x = ⟨#[60]⟩ ∧ Lib.index [60, 61, 62] x.data.toList = 0) ∨ (x = ⟨#[61]⟩ ∧ Lib.index [60, 61, 62] x.data.toList = 1) ∨ (x = ⟨#[62]⟩ ∧ Lib.index [60, 61, 62] x.data.toList = 2) ∨ (isSgn x = false ∧ Lib.index [60, 61, 62] x.data.toList = -1) := by
  rcases h with ⟨a, rfl⟩ | ⟨a, l, e, ha⟩
  · by_cases h0 : a = 60
    · left; subst h0; exact ⟨rfl, by decide⟩
    by_cases h1 : a = 61
    · right; left; subst h1; exact ⟨rfl, by decide⟩
    by_cases h2 : a = 62
    · right; right; left; subst h2; exact ⟨rfl, by decide⟩
    right; right; right; 
    refine ⟨?_, ?_⟩
    · unfold isSgn
      rw [decide_eq_false_iff_not]
      rintro ⟨c, hc, e2⟩
      have := oneB_inj e2
      subst this
      simp [sgnM, h0, h1, h2] at hc
    · exact index_none _ _ (by simp [h0, h1, h2])
  · right; right; right; 
    refine ⟨?_, ?_⟩
    · unfold isSgn
      rw [decide_eq_false_iff_not]
      rintro ⟨c, hc, e2⟩
      have this : x.data.toList = [c] := by rw [e2]; rfl
      rw [e] at this
      simp only [List.cons.injEq] at this
      obtain ⟨rfl, -⟩ := this
      have hs : ∀ c ∈ sgnM, c.toNat < 128 := by decide
      have := hs _ hc
      omega
    · rw [e]
      exact index_high _ (by decide) _ _ ha

set_option maxHeartbeats 3200000 in
theorem implValueI (x : ByteArray) (hx : PieceOk x) (v : Value) (w : World) (h : SpellI w v) (hm : MaxOk w) : Calls Tryd.prog 72 #[v, .string x] w fun e w' => e = .returned (.tuple #[.int .i64 (if isSgn x = true then sgnV x else 0), .bool (isSgn x)]) ∧ Below w.heap.size w w' := by
  have B1 := Lib.hid (alloc_below w (.cells v.cells 60))
  have h' := h.below B1.out
  obtain ⟨m, hm'⟩ := hm.below B1.out
  obtain ⟨b, rfl, h0, h1, h2⟩ := h'
  have C := Tryd.strings_Index ⟨#[60, 61, 62]⟩ x m _ (by decide) hm'
  clear h hm hm'
  have h0 : (w.alloc (.cells #[.slice (some ⟨b, 0, none⟩) 3 3, .string ⟨#[60, 61, 62]⟩] 60)).cell? ⟨b, 0, none⟩ = some (.int .i64 (-1)) := h0
  have h1 : (w.alloc (.cells #[.slice (some ⟨b, 0, none⟩) 3 3, .string ⟨#[60, 61, 62]⟩] 60)).cell? ⟨b, 1, none⟩ = some (.int .i64 (0)) := h1
  have h2 : (w.alloc (.cells #[.slice (some ⟨b, 0, none⟩) 3 3, .string ⟨#[60, 61, 62]⟩] 60)).cell? ⟨b, 2, none⟩ = some (.int .i64 (1)) := h2
  have hIX := sgn_idx x hx
  clear hx
  rcases hIX with ⟨rfl, hidx⟩ | ⟨rfl, hidx⟩ | ⟨rfl, hidx⟩ | ⟨hi, hidx⟩
  · have hr : sgnV ⟨#[60]⟩ = -1 := by decide
    have hi : isSgn ⟨#[60]⟩ = true := by decide
    rw [hidx] at C
    have C := Lib.hid C
    rw [hi, if_pos rfl, hr]
    go_enter Tryd.func72, Tryd.ntmps72
    go_wp2_with fail
    refine C.out.mono ?_
    rintro e w1 ⟨rfl, rfl⟩
    go_wp2
    go_ret2
    exact ⟨rfl, B1.out⟩
  · have hr : sgnV ⟨#[61]⟩ = 0 := by decide
    have hi : isSgn ⟨#[61]⟩ = true := by decide
    rw [hidx] at C
    have C := Lib.hid C
    rw [hi, if_pos rfl, hr]
    go_enter Tryd.func72, Tryd.ntmps72
    go_wp2_with fail
    refine C.out.mono ?_
    rintro e w1 ⟨rfl, rfl⟩
    go_wp2
    go_ret2
    exact ⟨rfl, B1.out⟩
  · have hr : sgnV ⟨#[62]⟩ = 1 := by decide
    have hi : isSgn ⟨#[62]⟩ = true := by decide
    rw [hidx] at C
    have C := Lib.hid C
    rw [hi, if_pos rfl, hr]
    go_enter Tryd.func72, Tryd.ntmps72
    go_wp2_with fail
    refine C.out.mono ?_
    rintro e w1 ⟨rfl, rfl⟩
    go_wp2
    go_ret2
    exact ⟨rfl, B1.out⟩
  · rw [hidx] at C
    have C := Lib.hid C
    rw [hi, if_neg (by simp)]
    clear hi hidx
    go_enter Tryd.func72, Tryd.ntmps72
    go_wp2_with fail
    refine C.out.mono ?_
    rintro e w1 ⟨rfl, rfl⟩
    go_wp2
    go_ret2
    exact ⟨rfl, B1.out⟩

set_option maxRecDepth 100000 in
set_option maxHeartbeats 3200000 in
theorem implReadI (F : FuncId) (HE : Enters F) (bnd cap : Array Value) (v : Value) (ts : List ByteArray) (val : ByteArray → Int) (ok : ByteArray → Bool) (w : World) (hv : ∃ a c, v = .slice a ts.length c) (hm : ts.length ≤ 1048577)
    (hx : ∀ i (h : i < ts.length), ElemAt w v i (.string ts[i]))
    (HC : ∀ i (h : i < ts.length) V, Below w.heap.size w V → Calls Tryd.prog F (bnd.push (.string ts[i]) ++ cap) V fun e w' => e = .returned (.tuple #[.int .i64 (val ts[i]), .bool (ok ts[i])]) ∧ Below V.heap.size V w') (b : Addr) (hu : UnknownAt w b) :
    Calls Tryd.prog 59 #[v, .func (.func F) bnd cap] w fun e w' => ∃ u er, e = .returned (.tuple #[u, er]) ∧ Below w.heap.size w w' ∧
      ((er = .nilIface ∧ 0 < ts.length ∧ ts.all ok = true ∧ Own w' w.heap.size u (ts.map val)) ∨ (∃ s, er = emptyErr s b ∧ u = .slice none 0 0 ∧ (ts.length = 0 ∨ ts.all ok = false))) := by
  obtain ⟨i0, hi, hz0, hz1, hz2⟩ := info_parts infoIntA
  obtain ⟨a, c, rfl⟩ := hv
  have HX := Lib.hid hx
  have HH := Lib.hid HC
  have HU := Lib.hid hu
  have HE' : ∀ args w, (callFunc F args).run Tryd.prog w = .ok (.enter F args) w := HE
  clear hx HC HE hu
  obtain ⟨n, hn⟩ : ∃ n, ts.length = n := ⟨_, rfl⟩
  have HN := Lib.hid hn
  rw [hn] at hm ⊢
  clear hn
  by_cases h0 : n = 0
  · subst h0
    have e0 : w.cell? ⟨1, 0, none⟩ = some (.iface 171 (.pointer (some b))) := HU.out
    go_enter Tryd.func59, Tryd.ntmps59
    go_wp2_with fail
    go_quiet (fail)
    all_goals (go_wp2; go_ret2; exact ⟨_, _, rfl, below_drewN (Below.refl _ _) _, .inr ⟨⟨#[]⟩, rfl, rfl, .inl (by trivial)⟩⟩)
  have hnz : ((n : Int) == 0) = false := beq_eq_false_iff_ne.2 (by omega)
  go_enter Tryd.func59, Tryd.ntmps59
  go_wp2
  go_loopw [6, 19] (fun ov iv wr => ∃ i : Nat, i ≤ n ∧ iv = .int .i64 i ∧ Hid (Own wr w.heap.size ov ((ts.take i).map val)) ∧ Hid ((ts.take i).all ok = true) ∧ Hid (Below w.heap.size w wr)) (fun _ iv _ => n - (intOf iv).toNat)
  case atStart => exact ⟨0, Nat.zero_le _, rfl, World.ownsRow_nil _ _ _ _, rfl, Lib.hid (Below.refl _ _)⟩
  case round =>
    obtain ⟨i, hi2, rfl, O2, A2, B2⟩ := hrel
    by_cases hlt : i < n
    · have hil : i < ts.length := by rw [HN.out]; exact hlt
      obtain ⟨bk, o, nn, cc, hvv, hin, ec⟩ := (HX.out i hil).below B2.out
      cases hvv
      have CC := Lib.hid (HH.out i hil wr B2.out)
      have HS : Hid ((ts.take i).map val ++ [val ts[i]] = (ts.take (i + 1)).map val) := by unfold Hid; rw [List.take_succ_eq_append_getElem hil, List.map_append]; rfl
      have HA : Hid ((ts.take (i + 1)).all ok = ok ts[i]) := by unfold Hid; rw [List.take_succ_eq_append_getElem hil, List.all_append, A2.out]; simp
      have HM : Hid (ok ts[i] = false → ts.all ok = false) := fun h => by
        rw [List.all_eq_false]
        exact ⟨ts[i], List.getElem_mem hil, by simp [h]⟩
      have hlen : ((ts.take i).map val).length = i := by rw [List.length_map, List.length_take]; omega
      obtain ⟨x, hx⟩ : ∃ x, ts[i] = x := ⟨_, rfl⟩
      rw [hx] at CC HS HA HM ec
      obtain ⟨z, hz⟩ : ∃ z, val x = z := ⟨_, rfl⟩
      rw [hz] at CC HS
      obtain ⟨k, hk⟩ : ∃ k, ok x = k := ⟨_, rfl⟩
      rw [hk] at CC HA HM
      have O3 := Lib.hid O2.out
      obtain ⟨ga, ka, ca, rfl⟩ := ownsForm O2.out
      generalize (ts.take i).map val = L at O3 HS hlen
      have j0 : (0 : Int) ≤ (i : Int) := by omega
      have j1 : (i : Int) < (n : Int) := by omega
      clear hx hz hk hil hin O2
      have HU2 := Lib.hid HU.out
      go_wp2_with fail
      refine CC.out.mono ?_
      rintro e w1 ⟨rfl, bb⟩
      have B4 := Lib.hid (below_up B2.out bb)
      have O4 : Hid (Own w1 w.heap.size (.slice ga ka ca) L) := owns_below O3.out bb
      have e0 : w1.cell? ⟨1, 0, none⟩ = some (.iface 171 (.pointer (some b))) := HU2.out.below B4.out
      have hbs : w.heap.size ≤ w1.heap.size := B4.out.size
      clear bb CC
      cases k with
      | false =>
        go_wp2_with fail
        go_quiet (fail)
        all_goals (go_wp2; go_ret2; exact ⟨_, _, rfl, below_drewN B4.out _, .inr ⟨x, rfl, rfl, .inr (HM.out (by trivial))⟩⟩)
      | true =>
        have hown := O4.out
        unfold Own at hown
        go_wp2_with (at_builtin; refine wpList_append_own _ rfl _ _ 22 rfl w.heap.size 3 i0 (.int .i64 0) 1 8 Tryd.underlying22 hi hz0 hz1 hz2 rfl (by decide) _ _ _ rfl (hown.alloc _) ⟨w1.heap.size, 0, none⟩ 1 1 [.int .i64 z] rfl rfl (cell_one_new _ _ _) (by simp [Value.oneCell']) (by unfold maxLen; omega) (by omega) (by simp; omega) ?_; intro v' w2 hown' hg1 _)
        have hb2 := Below.grown (B4.out.alloc hbs _) hg1 (by simp; omega) (fun j hj => (hown.lt j hj).1)
        go_wp2
        go_roundw
        case rel =>
          refine ⟨i + 1, by omega, by go_num, ?_, HA.out, Lib.hid hb2⟩
          unfold Hid Own
          rw [← HS.out]
          simpa using hown'
        case measure => simp [intOf]; omega
    · obtain rfl : i = n := by omega
      have HO := O2.out
      have HA := A2.out
      rw [List.take_of_length_le (by rw [HN.out]; omega)] at HO HA
      have HO := Lib.hid HO
      obtain ⟨ga, ka, ca, rfl⟩ := ownsForm HO.out
      clear O2
      go_wp2
      go_ret2
      exact ⟨_, _, rfl, B2.out, .inl ⟨rfl, by omega, HA, HO.out⟩⟩

/-! ### bool -/
theorem res_idx (x : ByteArray) (h : PieceOk x) : (x = ⟨#[43]⟩ ∧ Lib.index [43, 46] x.data.toList = 0) ∨ (x = ⟨#[46]⟩ ∧ Lib.index [43, 46] x.data.toList = 1) ∨ (isRes x = false ∧ Lib.index [43, 46] x.data.toList = -1) := by
  rcases h with ⟨a, rfl⟩ | ⟨a, l, e, ha⟩
  · by_cases h0 : a = 43
    · left; subst h0; exact ⟨rfl, by decide⟩
    by_cases h1 : a = 46
    · right; left; subst h1; exact ⟨rfl, by decide⟩
    right; right; 
    refine ⟨?_, ?_⟩
    · unfold isRes
      rw [decide_eq_false_iff_not]
      rintro ⟨c, hc, e2⟩
      have := oneB_inj e2
      subst this
      simp [resM, h0, h1] at hc
    · exact index_none _ _ (by simp [h0, h1])
  · right; right; 
    refine ⟨?_, ?_⟩
    · unfold isRes
      rw [decide_eq_false_iff_not]
      rintro ⟨c, hc, e2⟩
      have this : x.data.toList = [c] := by rw [e2]; rfl
      rw [e] at this
      simp only [List.cons.injEq] at this
      obtain ⟨rfl, -⟩ := this
      have hs : ∀ c ∈ resM, c.toNat < 128 := by decide
      have := hs _ hc
      omega
    · rw [e]
      exact index_high _ (by decide) _ _ ha

set_option maxHeartbeats 3200000 in
theorem implValueB (x : ByteArray) (hx : PieceOk x) (v : Value) (w : World) (h : SpellB w v) (hm : MaxOk w) : Calls Tryd.prog 76 #[v, .string x] w fun e w' => e = .returned (.tuple #[.bool (if isRes x = true then resV x else false), .bool (isRes x)]) ∧ Below w.heap.size w w' := by
  have B1 := Lib.hid (alloc_below w (.cells v.cells 66))
  have h' := h.below B1.out
  obtain ⟨m, hm'⟩ := hm.below B1.out
  obtain ⟨b, rfl, h0, h1⟩ := h'
  have C := Tryd.strings_Index ⟨#[43, 46]⟩ x m _ (by decide) hm'
  clear h hm hm'
  have h0 : (w.alloc (.cells #[.slice (some ⟨b, 0, none⟩) 2 2, .string ⟨#[43, 46]⟩] 66)).cell? ⟨b, 0, none⟩ = some (.bool true) := h0
  have h1 : (w.alloc (.cells #[.slice (some ⟨b, 0, none⟩) 2 2, .string ⟨#[43, 46]⟩] 66)).cell? ⟨b, 1, none⟩ = some (.bool false) := h1
  have hIX := res_idx x hx
  clear hx
  rcases hIX with ⟨rfl, hidx⟩ | ⟨rfl, hidx⟩ | ⟨hi, hidx⟩
  · have hr : resV ⟨#[43]⟩ = true := by decide
    have hi : isRes ⟨#[43]⟩ = true := by decide
    rw [hidx] at C
    have C := Lib.hid C
    rw [hi, if_pos rfl, hr]
    go_enter Tryd.func76, Tryd.ntmps76
    go_wp2_with fail
    refine C.out.mono ?_
    rintro e w1 ⟨rfl, rfl⟩
    go_wp2
    go_ret2
    exact ⟨rfl, B1.out⟩
  · have hr : resV ⟨#[46]⟩ = false := by decide
    have hi : isRes ⟨#[46]⟩ = true := by decide
    rw [hidx] at C
    have C := Lib.hid C
    rw [hi, if_pos rfl, hr]
    go_enter Tryd.func76, Tryd.ntmps76
    go_wp2_with fail
    refine C.out.mono ?_
    rintro e w1 ⟨rfl, rfl⟩
    go_wp2
    go_ret2
    exact ⟨rfl, B1.out⟩
  · rw [hidx] at C
    have C := Lib.hid C
    rw [hi, if_neg (by simp)]
    clear hi hidx
    go_enter Tryd.func76, Tryd.ntmps76
    go_wp2_with fail
    refine C.out.mono ?_
    rintro e w1 ⟨rfl, rfl⟩
    go_wp2
    go_ret2
    exact ⟨rfl, B1.out⟩

set_option maxRecDepth 100000 in
set_option maxHeartbeats 3200000 in
theorem implReadB (F : FuncId) (HE : Enters F) (bnd cap : Array Value) (v : Value) (ts : List ByteArray) (val : ByteArray → Bool) (ok : ByteArray → Bool) (w : World) (hv : ∃ a c, v = .slice a ts.length c) (hm : ts.length ≤ 1048577)
    (hx : ∀ i (h : i < ts.length), ElemAt w v i (.string ts[i]))
    (HC : ∀ i (h : i < ts.length) V, Below w.heap.size w V → Calls Tryd.prog F (bnd.push (.string ts[i]) ++ cap) V fun e w' => e = .returned (.tuple #[.bool (val ts[i]), .bool (ok ts[i])]) ∧ Below V.heap.size V w') (b : Addr) (hu : UnknownAt w b) :
    Calls Tryd.prog 75 #[v, .func (.func F) bnd cap] w fun e w' => ∃ u er, e = .returned (.tuple #[u, er]) ∧ Below w.heap.size w w' ∧
      ((er = .nilIface ∧ 0 < ts.length ∧ ts.all ok = true ∧ OwnB w' w.heap.size u (ts.map val)) ∨ (∃ s, er = emptyErr s b ∧ u = .slice none 0 0 ∧ (ts.length = 0 ∨ ts.all ok = false))) := by
  obtain ⟨i0, hi, hz0, hz1, hz2⟩ := info_parts infoBoolA
  obtain ⟨a, c, rfl⟩ := hv
  have HX := Lib.hid hx
  have HH := Lib.hid HC
  have HU := Lib.hid hu
  have HE' : ∀ args w, (callFunc F args).run Tryd.prog w = .ok (.enter F args) w := HE
  clear hx HC HE hu
  obtain ⟨n, hn⟩ : ∃ n, ts.length = n := ⟨_, rfl⟩
  have HN := Lib.hid hn
  rw [hn] at hm ⊢
  clear hn
  by_cases h0 : n = 0
  · subst h0
    have e0 : w.cell? ⟨1, 0, none⟩ = some (.iface 171 (.pointer (some b))) := HU.out
    go_enter Tryd.func75, Tryd.ntmps75
    go_wp2_with fail
    go_quiet (fail)
    all_goals (go_wp2; go_ret2; exact ⟨_, _, rfl, below_drewN (Below.refl _ _) _, .inr ⟨⟨#[]⟩, rfl, rfl, .inl (by trivial)⟩⟩)
  have hnz : ((n : Int) == 0) = false := beq_eq_false_iff_ne.2 (by omega)
  go_enter Tryd.func75, Tryd.ntmps75
  go_wp2
  go_loopw [6, 19] (fun ov iv wr => ∃ i : Nat, i ≤ n ∧ iv = .int .i64 i ∧ Hid (OwnB wr w.heap.size ov ((ts.take i).map val)) ∧ Hid ((ts.take i).all ok = true) ∧ Hid (Below w.heap.size w wr)) (fun _ iv _ => n - (intOf iv).toNat)
  case atStart => exact ⟨0, Nat.zero_le _, rfl, World.ownsRow_nil _ _ _ _, rfl, Lib.hid (Below.refl _ _)⟩
  case round =>
    obtain ⟨i, hi2, rfl, O2, A2, B2⟩ := hrel
    by_cases hlt : i < n
    · have hil : i < ts.length := by rw [HN.out]; exact hlt
      obtain ⟨bk, o, nn, cc, hvv, hin, ec⟩ := (HX.out i hil).below B2.out
      cases hvv
      have CC := Lib.hid (HH.out i hil wr B2.out)
      have HS : Hid ((ts.take i).map val ++ [val ts[i]] = (ts.take (i + 1)).map val) := by unfold Hid; rw [List.take_succ_eq_append_getElem hil, List.map_append]; rfl
      have HA : Hid ((ts.take (i + 1)).all ok = ok ts[i]) := by unfold Hid; rw [List.take_succ_eq_append_getElem hil, List.all_append, A2.out]; simp
      have HM : Hid (ok ts[i] = false → ts.all ok = false) := fun h => by
        rw [List.all_eq_false]
        exact ⟨ts[i], List.getElem_mem hil, by simp [h]⟩
      have hlen : ((ts.take i).map val).length = i := by rw [List.length_map, List.length_take]; omega
      obtain ⟨x, hx⟩ : ∃ x, ts[i] = x := ⟨_, rfl⟩
      rw [hx] at CC HS HA HM ec
      obtain ⟨z, hz⟩ : ∃ z, val x = z := ⟨_, rfl⟩
      rw [hz] at CC HS
      obtain ⟨k, hk⟩ : ∃ k, ok x = k := ⟨_, rfl⟩
      rw [hk] at CC HA HM
      have O3 := Lib.hid O2.out
      obtain ⟨ga, ka, ca, rfl⟩ := ownsForm O2.out
      generalize (ts.take i).map val = L at O3 HS hlen
      have j0 : (0 : Int) ≤ (i : Int) := by omega
      have j1 : (i : Int) < (n : Int) := by omega
      clear hx hz hk hil hin O2
      have HU2 := Lib.hid HU.out
      go_wp2_with fail
      refine CC.out.mono ?_
      rintro e w1 ⟨rfl, bb⟩
      have B4 := Lib.hid (below_up B2.out bb)
      have O4 : Hid (OwnB w1 w.heap.size (.slice ga ka ca) L) := owns_below O3.out bb
      have e0 : w1.cell? ⟨1, 0, none⟩ = some (.iface 171 (.pointer (some b))) := HU2.out.below B4.out
      have hbs : w.heap.size ≤ w1.heap.size := B4.out.size
      clear bb CC
      cases k with
      | false =>
        go_wp2_with fail
        go_quiet (fail)
        all_goals (go_wp2; go_ret2; exact ⟨_, _, rfl, below_drewN B4.out _, .inr ⟨x, rfl, rfl, .inr (HM.out (by trivial))⟩⟩)
      | true =>
        have hown := O4.out
        unfold OwnB at hown
        go_wp2_with (at_builtin; refine wpList_append_own _ rfl _ _ 31 rfl w.heap.size 4 i0 (.bool false) 1 1 Tryd.underlying31 hi hz0 hz1 hz2 rfl (by decide) _ _ _ rfl (hown.alloc _) ⟨w1.heap.size, 0, none⟩ 1 1 [.bool z] rfl rfl (cell_one_new _ _ _) (by simp [Value.oneCell']) (by unfold maxLen; omega) (by omega) (by simp; omega) ?_; intro v' w2 hown' hg1 _)
        have hb2 := Below.grown (B4.out.alloc hbs _) hg1 (by simp; omega) (fun j hj => (hown.lt j hj).1)
        go_wp2
        go_roundw
        case rel =>
          refine ⟨i + 1, by omega, by go_num, ?_, HA.out, Lib.hid hb2⟩
          unfold Hid OwnB
          rw [← HS.out]
          simpa using hown'
        case measure => simp [intOf]; omega
    · obtain rfl : i = n := by omega
      have HO := O2.out
      have HA := A2.out
      rw [List.take_of_length_le (by rw [HN.out]; omega)] at HO HA
      have HO := Lib.hid HO
      obtain ⟨ga, ka, ca, rfl⟩ := ownsForm HO.out
      clear O2
      go_wp2
      go_ret2
      exact ⟨_, _, rfl, B2.out, .inl ⟨rfl, by omega, HA, HO.out⟩⟩
end Go.Proofs.YtlflblngbneacaaDoor
