/- The contract of the program's SetText. Condition: the library's table of powers of ten is as its text lays it. -/
import Derived.Test.YtdafhbblkopelaaDoorDigits
import Derived.Test.YtdafhbblkopelaaDoorIsSet
import Derived.Test.YtdafhbblkopelaaDoorItemsOf
import Derived.Test.YtdafhbblkopelaaDoorSetLaws
import Derived.Test.YtdafhbblkopelaaDoorRoundOrders
import Derived.Stop.RegionWithIn
import Derived.RangeFuncBox
namespace Go.Proofs.YtdafhbblkopelaaDoor
open Go.RowKit Go.Shelf
attribute [local go_sem] Oper.semAt_some

theorem infoStrA : (Tryd.prog.info? 9).map (fun i => (i.zero, i.size, i.bytes)) = some (some (.string ByteArray.empty), 1, 16) := by kernel_rfl
theorem sameBlk_tr {b : Nat} {A B C : World} (h : SameBlk b A B) (k : SameBlk b B C) : SameBlk b A C := Eq.trans k h
theorem sameBlk_put {w : World} {b : Nat} (hb : b < w.heap.size) (W : World) (l : Nat) (o o' : Obj) (hl : w.heap.size ≤ l) (_ : W.heap[l]? = some o) (_ : o.isCells = false) (_ : o.isWalk = false) : SameBlk b W (W.putObj l o') := World.putObj_heap_other (by omega)
theorem boxedDeep {W W' : World} {b : Nat} {t : TypeId} {v : Value} (h : Boxed W b t v) (hb : Below W.heap.size W W') : Boxed W' b t v := (hb.block b h.lt).trans h
theorem keepsOthers_below {V V' : World} (h : Below V.heap.size V V') : KeepsOthers V V' := ⟨h.size, fun k _ hk _ => (h.block k (Array.getElem?_eq_some_iff.1 hk).1).trans hk⟩
theorem below_onto {W X w1 : World} (h : Below W.heap.size W X) (hb : Below X.heap.size X w1) : Below W.heap.size W w1 := h.trans (hb.mono h.size)
/-- append to a list of the call's own, which may still be nil, as one step of a region that draws. -/
theorem step_append_any {P : Program} {ops : Array Oper} {o : Oper} {a : Act} {w : World} {K : Act → World → Prop} {Q : Exit → Act → World → Prop} {E : Prop}
    (hg : o.guard = none) (s x : Operand) (t : TypeId) (hop : o.op = Op.call { callee := Callee.builtin Builtin.append, args := #[s, x], argTypes := #[t, t] })
    (base : Nat) (e : TypeId) (i : TypeInfo) (z : Value) (size bytes : Nat) (h1 : P.underlying t = some (.slice e)) (h2 : P.info? e = some i) (h3 : i.zero = some z) (h4 : i.size = size) (h5 : i.bytes = bytes) (h6 : z.cells.size = size) (h7 : 0 < size)
    (v : Value) (n : Nat) (xs : List Value) (hs : a.eval s = v) (hown : w.ownsRow base e size v n xs)
    (ad : Addr) (m c : Nat) (news : List Value) (hx : a.eval x = .slice (some ad) m c) (hn : news.length = m * size) (hc : ∀ j u, news[j]? = some u → w.cell? (ad.add j) = some u) (h1c : ∀ u ∈ news, u.oneCell' = true)
    (b1 : n + m ≤ maxLen) (b2 : (n + m) * bytes ≤ 140737488355328) (hbase : base ≤ w.heap.size)
    (hK : ∀ v' w', w'.ownsRow base e size v' (n + m) (xs ++ news) → w.grownBy w' v.ownBlock → K (a.put o.dst v') w') :
    if Region.wanted o (yielded ops a.tmps) = true then Oper.wp P o a w K Q else E := by
  have hw : Region.wanted o (yielded ops a.tmps) = true := by simp [Region.wanted, hg]
  rw [if_pos hw]
  obtain ⟨v', w', hrun, r1, r2, -⟩ := run_append_own (P := P) w base t o.type e i z size bytes h1 h2 h3 h4 h5 h6 h7 v n xs hown ad m c news hn hc h1c b1 b2 hbase
  unfold Oper.wp
  simp [execOp, hop, resolve, invoke, builtin, hs, hx, hrun, Result.andThen]
  exact hK v' w' r1 r2
/-- What the loop keeps: the list of numerals that grows. -/
def NumI (w : World) (L : List ByteArray) (V : World) : Prop :=
  (∃ s, Boxed V w.heap.size 29 s ∧ V.ownsRow (w.heap.size + 2) 9 1 s L.length (L.map Value.string) ∧ True) ∧ Below w.heap.size w V
theorem numI_own {β : Type} {w : World} {f : β → List ByteArray} {B : Nat} (hB : w.heap.size ≤ B) : OwnFrom B (fun (s : β) V => NumI w (f s) V) :=
  OwnFrom.and (_root_.Go.Own.from (holdsRow_own (w.heap.size + 2) w.heap.size 29 9 1 (fun s => (f s).length) (fun s => (f s).map Value.string) (fun _ _ => True)) _)
    (ownFrom_below (Nat.le_refl _) hB)
theorem NumI.deep {w V V' : World} {L : List ByteArray} (h : NumI w L V) (hb : Below V.heap.size V V') : NumI w L V' := by
  obtain ⟨⟨s, bS, oS, ht⟩, hB⟩ := h
  exact ⟨⟨s, boxedDeep bS hb, owns_below oS hb, ht⟩, below_onto hB hb⟩
/-- Behind an append to the list: ahead of the store the box still holds the old list; behind it all is kept. -/
theorem numAppend {w V w5 : World} {s v' u : Value} {x : ByteArray} {L : List ByteArray} {tmp : Obj} (bS : Boxed V w.heap.size 29 s) (oS : V.ownsRow (w.heap.size + 2) 9 1 s L.length (L.map Value.string)) (hB : Below w.heap.size w V)
    (hb : Boxed V (w.heap.size + 1) 3 u) (hown : w5.ownsRow (w.heap.size + 2) 9 1 v' (L.length + 1) (L.map Value.string ++ [.string x])) (hgrow : (V.alloc tmp).grownBy w5 s.ownBlock) :
    Boxed w5 w.heap.size 29 s ∧ KeepsOthers V (w5.setCell ⟨w.heap.size, 0, none⟩ v') ∧ SameBlk (w.heap.size + 1) V (w5.setCell ⟨w.heap.size, 0, none⟩ v') ∧ NumI w (L ++ [x]) (w5.setCell ⟨w.heap.size, 0, none⟩ v') := by
  have ne : ∀ b, b < w.heap.size + 2 → some b ≠ s.ownBlock := fun b hb e => by have := (oS.lt b e.symm).1; omega
  have ne' : ∀ b, b < w.heap.size + 2 → v'.ownBlock ≠ some b := fun b hb e => by have := (hown.lt b e).1; omega
  have S1 := (bS.alloc tmp).kept hgrow (ne _ (by omega))
  have M1 := ((hb.alloc tmp).kept hgrow (ne _ (by omega))).other (B' := w.heap.size) (by omega) v'
  refine ⟨S1, ?_, Eq.trans M1 (Eq.symm hb), ⟨v', S1.set v', ?_, trivial⟩, ?_⟩
  · refine ((KeepsOthers.alloc V tmp).trans (KeepsOthers.of_grownBy hgrow fun j o ej hj => ?_)).trans (KeepsOthers.setCell _ _ _)
    rcases (oS.alloc tmp).2 with ⟨rfl, _⟩ | ⟨g, cap, cur, rfl, _, hgb, _⟩
    · simp [Value.ownBlock] at ej
    · obtain rfl : g = j := by simpa [Value.ownBlock] using ej
      rw [hgb] at hj; cases hj; rfl
  · have := hown.kept (grownBy_setCell' w5 w.heap.size v') (.inr (ne' _ (by omega)))
    simpa using this
  · exact ((hB.alloc hB.size tmp).grown hgrow (by have := hB.size; simp; omega) fun j ej => by have := (oS.lt j ej).1; omega).setCell (p := ⟨w.heap.size, 0, none⟩) (by simp) v'
theorem below_drawn {V w3 : World} (bb : Below V.drew.heap.size V.drew w3) : Below V.heap.size V w3 := (Below.refl V.heap.size V).drew.trans bb

set_option maxRecDepth 100000 in
set_option maxHeartbeats 4000000 in
theorem setTextN (s : Int) (h0 : 0 < s) (h1 : s ≤ 1023) (n : Nat) (hn : 8 ≤ n) (w : World) (ht : TabOk w) :
    CallsIn Fence.wide n Tryd.prog 6 #[.int .i64 s] w fun e W' => e = .returned (.string (setT s)) ∧ Below w.heap.size w W' := by
  obtain ⟨i0, hi, hz0, hz1, hz2⟩ := info_parts infoStrA
  have hn1 : 1 ≤ n := by omega
  have hts := setT_in h0 h1
  have HJ : Hid (joinB (numL (itsL s)) ⟨#[]⟩ = setT s) := by unfold Hid; rw [hts.1, join_set (by omega) h1]
  have HLP : Hid (0 < (itsL s).length) := hts.2
  have HLS : Hid ((itsL s).length ≤ 63) := itsK_len s 63
  have HSZ : Hid ((setT s).size ≤ 10) := by unfold Hid; rw [hts.1]; exact setC_size s 10
  have HSO : Hid (poolB 10 s = true) := by
    have e : topI 10 = 1023 := by decide
    unfold Hid poolB
    rw [e, decide_eq_true (show 0 ≤ s by omega), decide_eq_true h1]
    rfl
  have CI := Lib.hid (fun W => implIsSet 10 s (by omega) (by omega) W)
  rw [HSO.out] at CI
  have HFM : Hid (∀ (x : Nat) W, x ≤ 62 → TabOk W → Calls Tryd.prog 13 #[.int .i64 (x : Nat)] W fun e w' => e = .returned (.string (fmtB (x : Nat))) ∧ Below W.heap.size W w') := fun x W hx hW => implFmt (x : Nat) W (by omega) (by omega) hW
  have HT := Lib.hid ht
  generalize setT s = r at HJ HSZ ⊢
  have hs : s ≤ 9223372036854775807 := by omega
  have hne : (s == 0) = false := beq_eq_false_iff_ne.2 (by omega)
  clear hts HSO ht
  refine callsIn_of_wp_marks Tryd.func6 rfl trivial ?_ rfl
  simp only [Tryd.ntmps6, List.size_toArray, List.length_cons, List.length_nil, Nat.reduceAdd, Nat.reduceSub, Array.replicate_succ, Array.replicate_zero, List.push_toArray, List.append_toArray, List.nil_append, List.cons_append]
  gi_wp2_with (first
    | (refine ⟨trivial, ?_⟩; gi_at_call 11; refine (callsIn_wide.2 (CI.out _)).mono ?_; rintro e w1 ⟨rfl, rfl⟩)
    | (refine ⟨trivial, ?_⟩; gi_at_call 12; refine (itemsOf_in Fence.wide (n - 1) trivial rfl _ _).mono ?_; rintro e w' ⟨rfl, rfl⟩))
  have c0 := Boxed.new w 29 (.slice none 0 0)
  have b1 := Boxed.new (w.alloc (.cells #[.slice none 0 0] 29)) 3 (.int .i64 s)
  rw [World.size_alloc] at b1
  have hB0 : Below w.heap.size w ((w.alloc (.cells #[.slice none 0 0] 29)).alloc (.cells #[.int .i64 s] 3)) := ((Below.refl _ w).alloc (Nat.le_refl _) _).alloc (by simp) _
  have HI0 : NumI w [] ((w.alloc (.cells #[.slice none 0 0] 29)).alloc (.cells #[.int .i64 s] 3)) := ⟨⟨_, c0.alloc _, World.ownsRow_nil _ _ _ _, trivial⟩, hB0⟩
  have hsz : ((w.alloc (.cells #[.slice none 0 0] 29)).alloc (.cells #[.int .i64 s] 3)).heap.size = w.heap.size + 2 := by simp
  generalize (w.alloc (.cells #[.slice none 0 0] 29)).alloc (.cells #[.int .i64 s] 3) = X2 at b1 hB0 HI0 hsz ⊢
  refine wpIn_rangeFunc_ownF rfl hn1 (gf := 16) (lb := #[.pointer (some ⟨w.heap.size + 1, 0, none⟩)]) rfl trivial (enters_of Tryd.func16 (by kernel_rfl) rfl)
    (items_stops Fence.wide (n - 1) trivial trivial rfl (by omega) (w.heap.size + 1) s hs _ b1) (fun h k => sameBlk_tr h k) (sameBlk_put (by omega)) (Below.refl _ _) (fun _ => rfl)
    (fun pre V => NumI w (numL (bits0 pre)) V ∧ Boxed V (w.heap.size + 1) 3 (.int .i64 s))
    (fun _ _ _ => False)
    (OwnFrom.and (numI_own (by omega)) (fun _ X Y row hs hg hr => boxed_own (w.heap.size + 1) 3 (fun (_ : Unit) => Value.int .i64 s) () X Y row hs hg (fun r e => (hr r e).2)))
    (fun _ _ _ _ _ hs _ _ => hs)
    ⟨HI0, b1⟩
    (fun x => { tmps := #[.int .i64 s, undef, .string ⟨#[]⟩, .pointer (some ⟨w.heap.size, 0, none⟩), .int .i64 (x.1 : Nat), .int .i64 s, .bool true, .bool false, .int .i64 s, .bool false, .int .i64 s, .func (.func 16) #[] #[.pointer (some ⟨w.heap.size + 1, 0, none⟩)], .int .i64 (x.1 : Nat), undef, undef, undef, undef, undef, undef, undef], defers := [] }) ?assign ?body ?done ?stop
  case assign =>
    intro l x W K hK
    gi_wp2
    exact hK
  case body =>
    rintro l pre x V ⟨hI, hbx⟩ hlen
    have HI := Lib.hid hI
    have HBX := Lib.hid hbx
    obtain ⟨⟨sv, bS, oS, -⟩, hB⟩ := hI
    obtain ⟨ga, gn, gc, rfl⟩ : ∃ a n c, sv = .slice a n c := by
      rcases oS.2 with ⟨rfl, -⟩ | ⟨g, cap, cur, rfl, -⟩
      · exact ⟨_, _, _, rfl⟩
      · exact ⟨_, _, _, rfl⟩
    have hc0 := bS.cell
    have hf0 := bS.frozen
    have CF := Lib.hid (HFM.out x.1 V.drew x.2 (HT.out.below (hB.drew)))
    have hLen : (numL (bits0 pre)).length < 63 := by rw [num_len, bits0_len]; exact hlen
    have HS : Hid (numL (bits0 (pre ++ [x])) = numL (bits0 pre) ++ [fmtB (x.1 : Nat)]) := by unfold Hid; rw [bits0_snoc]; simp [numL]
    have hn2 : 1 ≤ n - 1 - 1 := by omega
    have HOS := Lib.hid oS
    have HBS := Lib.hid bS
    have HB := Lib.hid hB
    clear oS bS hB hbx HFM
    obtain ⟨L, hL⟩ : ∃ L, numL (bits0 pre) = L := ⟨_, rfl⟩
    rw [hL] at HS hLen HOS HI
    have HLen := Lib.hid hLen
    generalize fmtB (x.1 : Nat) = d at CF HS
    clear hL hLen
    gi_wp2
    --BEGIN REGION
    refine wpIn_region_any (by kernel_rfl) (anyIn_of (noDefer_spec (by kernel_rfl)) (fun ⟨_, _, h⟩ => h) _ _ _ _ ?_)
    try (change wpAny _ _ _ _ _ _ _ (World.drew _))
    refine wpAny_take (i := 1) (oi := { dst := some 14, op := Op.move (Operand.tmp 4), type := 3, pos := "l08_pools.go:142", after := #[], guard := none }) (v := .int .i64 (x.1 : Nat)) rfl (by kernel_rfl) (by kernel_rfl) (by kernel_rfl) (fun _ _ _ h => h) (Or.inl ⟨by rfl, ?_⟩) ?_
    · intro w'
      go_simp
    simp only [Act.put, List.setIfInBounds_toArray, List.set_cons_zero, List.set_cons_succ]
    refine wpAny_ready (rs := [0, 2]) (by kernel_rfl) (by simp) ?_
    refine AllReady.cons (o := { dst := some 13, op := Op.load 29 (Operand.tmp 3), type := 29, pos := "l08_pools.go:142", after := #[], guard := none }) rfl (fun K0 hK0 => ?_) (AllReady.cons (o := { dst := some 15, op := Op.call { callee := Callee.value (Operand.func 13), args := #[Operand.tmp 14], argTypes := #[3] }, type := 9, pos := "l08_pools.go:142", after := #[{ on := 1, ground := Ground.data }], guard := none }) rfl (fun K0 hK0 => ?_) AllReady.nil)
    · skip
      go_simp
      refine hK0 _ _ ?_
      clear hK0 K0
      try simp only [Act.put, List.setIfInBounds_toArray, List.set_cons_zero, List.set_cons_succ]
      refine wpAny_ready (rs := [2]) (by kernel_rfl) (by simp) ?_
      refine AllReady.cons (o := { dst := some 15, op := Op.call { callee := Callee.value (Operand.func 13), args := #[Operand.tmp 14], argTypes := #[3] }, type := 9, pos := "l08_pools.go:142", after := #[{ on := 1, ground := Ground.data }], guard := none }) rfl (fun K1 hK1 => ?_) AllReady.nil
      go_simp
      refine CF.out.mono ?_
      rintro e w3 ⟨rfl, bb⟩
      have b3 := below_drawn bb
      have bS3 := boxedDeep HBS.out b3
      have oS3 := owns_below HOS.out b3
      have hc3 := bS3.cell
      have hf3 := bS3.frozen
      have hc4 := (bS3.alloc (.cells #[.string d] 9)).cell
      have HB3 := Lib.hid b3
      have HS3 : Hid (w.heap.size + 2 ≤ w3.heap.size) := by unfold Hid; have := HB.out.size; have := HBX.out.lt; have := b3.size; omega
      have HOS3 := Lib.hid oS3
      have HBS3 := Lib.hid bS3
      clear b3 bS3 oS3 bb
      refine hK1 _ _ ?_
      clear hK1 K1
      try simp only [Act.put, List.setIfInBounds_toArray, List.set_cons_zero, List.set_cons_succ]
      refine wpAny_ready (rs := [3]) (by kernel_rfl) (by simp) ?_
      refine AllReady.cons (o := { dst := some 16, op := Op.buildSlice 29 1 #[(0, Operand.tmp 15)], type := 29, pos := "l08_pools.go:142", after := #[{ on := 2, ground := Ground.data }], guard := none }) rfl (fun K2 hK2 => ?_) AllReady.nil
      go_simp
      refine hK2 _ _ ?_
      clear hK2 K2
      try simp only [Act.put, List.setIfInBounds_toArray, List.set_cons_zero, List.set_cons_succ]
      refine wpAny_ready (rs := [4]) (by kernel_rfl) (by simp) ?_
      refine AllReady.cons (o := { dst := some 17, op := Op.call { callee := Callee.builtin Builtin.append, args := #[Operand.tmp 13, Operand.tmp 16], argTypes := #[29, 29] }, type := 29, pos := "l08_pools.go:142", after := #[{ on := 0, ground := Ground.data }, { on := 3, ground := Ground.data }, { on := 2, ground := Ground.chain }], guard := none }) rfl (fun K3 hK3 => ?_) AllReady.nil
      refine step_append_any rfl (.tmp 13) (.tmp 16) 29 rfl (w.heap.size + 2) 9 i0 (.string ByteArray.empty) 1 16 Tryd.underlying29 hi hz0 hz1 hz2 rfl (by decide) (.slice ga gn gc) L.length (L.map Value.string) rfl (HOS3.out.alloc _) ⟨w3.heap.size, 0, none⟩ 1 1 [.string d] rfl rfl (cell_one_new _ _ _) (by simp [Value.oneCell']) (by have := HLen.out; unfold maxLen; omega) (by have := HLen.out; omega) (by have := HS3.out; simp; omega) ?_
      intro v' w5 hown' hgrow
      obtain ⟨g', cap', rfl⟩ := ownsRow_succ hown'
      obtain ⟨hv1, hk2, hsb, hci⟩ := numAppend HBS3.out HOS3.out (below_onto HB.out HB3.out) (boxedDeep HBX.out HB3.out) hown' hgrow
      have hc1 := hv1.cell
      have hf1 := hv1.frozen
      have HEND := Lib.hid (And.intro hk2 (And.intro hsb hci))
      have HBX5 := Lib.hid (Eq.trans hsb (boxedDeep HBX.out HB3.out))
      clear hk2 hsb hci hown' hgrow hv1 hc3 hf3 hc4
      refine hK3 _ _ ?_
      clear hK3 K3
      try simp only [Act.put, List.setIfInBounds_toArray, List.set_cons_zero, List.set_cons_succ]
      refine wpAny_ready (rs := [5]) (by kernel_rfl) (by simp) ?_
      refine AllReady.cons (o := { dst := none, op := Op.store 29 (Operand.tmp 3) (Operand.tmp 17), type := 0, pos := "l08_pools.go:142", after := #[{ on := 4, ground := Ground.data }, { on := 4, ground := Ground.chain }, { on := 0, ground := Ground.phase }, { on := 1, ground := Ground.phase }, { on := 2, ground := Ground.phase }, { on := 3, ground := Ground.phase }, { on := 4, ground := Ground.phase }], guard := none }) rfl (fun K4 hK4 => ?_) AllReady.nil
      go_simp
      refine hK4 _ _ ?_
      clear hK4 K4
      try simp only [Act.put, List.setIfInBounds_toArray, List.set_cons_zero, List.set_cons_succ]
      refine wpAny_done (by kernel_rfl) ?_ _
      gi_wp2
      refine ⟨(keepsOthers_below HB3.out).trans HEND.out.1, sameBlk_tr (HB3.out.block _ HBX.out.lt) HEND.out.2.1, ?_, HBX5.out⟩
      show NumI w (numL (bits0 (pre ++ [x]))) _
      rw [HS.out]
      exact HEND.out.2.2
    · skip
      go_simp
      refine CF.out.mono ?_
      rintro e w3 ⟨rfl, bb⟩
      have b3 := below_drawn bb
      have bS3 := boxedDeep HBS.out b3
      have oS3 := owns_below HOS.out b3
      have hc3 := bS3.cell
      have hf3 := bS3.frozen
      have hc4 := (bS3.alloc (.cells #[.string d] 9)).cell
      have HB3 := Lib.hid b3
      have HS3 : Hid (w.heap.size + 2 ≤ w3.heap.size) := by unfold Hid; have := HB.out.size; have := HBX.out.lt; have := b3.size; omega
      have HOS3 := Lib.hid oS3
      have HBS3 := Lib.hid bS3
      clear b3 bS3 oS3 bb
      refine hK0 _ _ ?_
      clear hK0 K0
      try simp only [Act.put, List.setIfInBounds_toArray, List.set_cons_zero, List.set_cons_succ]
      refine wpAny_ready (rs := [0, 3]) (by kernel_rfl) (by simp) ?_
      refine AllReady.cons (o := { dst := some 13, op := Op.load 29 (Operand.tmp 3), type := 29, pos := "l08_pools.go:142", after := #[], guard := none }) rfl (fun K1 hK1 => ?_) (AllReady.cons (o := { dst := some 16, op := Op.buildSlice 29 1 #[(0, Operand.tmp 15)], type := 29, pos := "l08_pools.go:142", after := #[{ on := 2, ground := Ground.data }], guard := none }) rfl (fun K1 hK1 => ?_) AllReady.nil)
      · skip
        go_simp
        refine hK1 _ _ ?_
        clear hK1 K1
        try simp only [Act.put, List.setIfInBounds_toArray, List.set_cons_zero, List.set_cons_succ]
        refine wpAny_ready (rs := [3]) (by kernel_rfl) (by simp) ?_
        refine AllReady.cons (o := { dst := some 16, op := Op.buildSlice 29 1 #[(0, Operand.tmp 15)], type := 29, pos := "l08_pools.go:142", after := #[{ on := 2, ground := Ground.data }], guard := none }) rfl (fun K2 hK2 => ?_) AllReady.nil
        go_simp
        refine hK2 _ _ ?_
        clear hK2 K2
        try simp only [Act.put, List.setIfInBounds_toArray, List.set_cons_zero, List.set_cons_succ]
        refine wpAny_ready (rs := [4]) (by kernel_rfl) (by simp) ?_
        refine AllReady.cons (o := { dst := some 17, op := Op.call { callee := Callee.builtin Builtin.append, args := #[Operand.tmp 13, Operand.tmp 16], argTypes := #[29, 29] }, type := 29, pos := "l08_pools.go:142", after := #[{ on := 0, ground := Ground.data }, { on := 3, ground := Ground.data }, { on := 2, ground := Ground.chain }], guard := none }) rfl (fun K3 hK3 => ?_) AllReady.nil
        refine step_append_any rfl (.tmp 13) (.tmp 16) 29 rfl (w.heap.size + 2) 9 i0 (.string ByteArray.empty) 1 16 Tryd.underlying29 hi hz0 hz1 hz2 rfl (by decide) (.slice ga gn gc) L.length (L.map Value.string) rfl (HOS3.out.alloc _) ⟨w3.heap.size, 0, none⟩ 1 1 [.string d] rfl rfl (cell_one_new _ _ _) (by simp [Value.oneCell']) (by have := HLen.out; unfold maxLen; omega) (by have := HLen.out; omega) (by have := HS3.out; simp; omega) ?_
        intro v' w5 hown' hgrow
        obtain ⟨g', cap', rfl⟩ := ownsRow_succ hown'
        obtain ⟨hv1, hk2, hsb, hci⟩ := numAppend HBS3.out HOS3.out (below_onto HB.out HB3.out) (boxedDeep HBX.out HB3.out) hown' hgrow
        have hc1 := hv1.cell
        have hf1 := hv1.frozen
        have HEND := Lib.hid (And.intro hk2 (And.intro hsb hci))
        have HBX5 := Lib.hid (Eq.trans hsb (boxedDeep HBX.out HB3.out))
        clear hk2 hsb hci hown' hgrow hv1 hc3 hf3 hc4
        refine hK3 _ _ ?_
        clear hK3 K3
        try simp only [Act.put, List.setIfInBounds_toArray, List.set_cons_zero, List.set_cons_succ]
        refine wpAny_ready (rs := [5]) (by kernel_rfl) (by simp) ?_
        refine AllReady.cons (o := { dst := none, op := Op.store 29 (Operand.tmp 3) (Operand.tmp 17), type := 0, pos := "l08_pools.go:142", after := #[{ on := 4, ground := Ground.data }, { on := 4, ground := Ground.chain }, { on := 0, ground := Ground.phase }, { on := 1, ground := Ground.phase }, { on := 2, ground := Ground.phase }, { on := 3, ground := Ground.phase }, { on := 4, ground := Ground.phase }], guard := none }) rfl (fun K4 hK4 => ?_) AllReady.nil
        go_simp
        refine hK4 _ _ ?_
        clear hK4 K4
        try simp only [Act.put, List.setIfInBounds_toArray, List.set_cons_zero, List.set_cons_succ]
        refine wpAny_done (by kernel_rfl) ?_ _
        gi_wp2
        refine ⟨(keepsOthers_below HB3.out).trans HEND.out.1, sameBlk_tr (HB3.out.block _ HBX.out.lt) HEND.out.2.1, ?_, HBX5.out⟩
        show NumI w (numL (bits0 (pre ++ [x]))) _
        rw [HS.out]
        exact HEND.out.2.2
      · skip
        go_simp
        refine hK1 _ _ ?_
        clear hK1 K1
        try simp only [Act.put, List.setIfInBounds_toArray, List.set_cons_zero, List.set_cons_succ]
        refine wpAny_ready (rs := [0]) (by kernel_rfl) (by simp) ?_
        refine AllReady.cons (o := { dst := some 13, op := Op.load 29 (Operand.tmp 3), type := 29, pos := "l08_pools.go:142", after := #[], guard := none }) rfl (fun K2 hK2 => ?_) AllReady.nil
        go_simp
        refine hK2 _ _ ?_
        clear hK2 K2
        try simp only [Act.put, List.setIfInBounds_toArray, List.set_cons_zero, List.set_cons_succ]
        refine wpAny_ready (rs := [4]) (by kernel_rfl) (by simp) ?_
        refine AllReady.cons (o := { dst := some 17, op := Op.call { callee := Callee.builtin Builtin.append, args := #[Operand.tmp 13, Operand.tmp 16], argTypes := #[29, 29] }, type := 29, pos := "l08_pools.go:142", after := #[{ on := 0, ground := Ground.data }, { on := 3, ground := Ground.data }, { on := 2, ground := Ground.chain }], guard := none }) rfl (fun K3 hK3 => ?_) AllReady.nil
        refine step_append_any rfl (.tmp 13) (.tmp 16) 29 rfl (w.heap.size + 2) 9 i0 (.string ByteArray.empty) 1 16 Tryd.underlying29 hi hz0 hz1 hz2 rfl (by decide) (.slice ga gn gc) L.length (L.map Value.string) rfl (HOS3.out.alloc _) ⟨w3.heap.size, 0, none⟩ 1 1 [.string d] rfl rfl (cell_one_new _ _ _) (by simp [Value.oneCell']) (by have := HLen.out; unfold maxLen; omega) (by have := HLen.out; omega) (by have := HS3.out; simp; omega) ?_
        intro v' w5 hown' hgrow
        obtain ⟨g', cap', rfl⟩ := ownsRow_succ hown'
        obtain ⟨hv1, hk2, hsb, hci⟩ := numAppend HBS3.out HOS3.out (below_onto HB.out HB3.out) (boxedDeep HBX.out HB3.out) hown' hgrow
        have hc1 := hv1.cell
        have hf1 := hv1.frozen
        have HEND := Lib.hid (And.intro hk2 (And.intro hsb hci))
        have HBX5 := Lib.hid (Eq.trans hsb (boxedDeep HBX.out HB3.out))
        clear hk2 hsb hci hown' hgrow hv1 hc3 hf3 hc4
        refine hK3 _ _ ?_
        clear hK3 K3
        try simp only [Act.put, List.setIfInBounds_toArray, List.set_cons_zero, List.set_cons_succ]
        refine wpAny_ready (rs := [5]) (by kernel_rfl) (by simp) ?_
        refine AllReady.cons (o := { dst := none, op := Op.store 29 (Operand.tmp 3) (Operand.tmp 17), type := 0, pos := "l08_pools.go:142", after := #[{ on := 4, ground := Ground.data }, { on := 4, ground := Ground.chain }, { on := 0, ground := Ground.phase }, { on := 1, ground := Ground.phase }, { on := 2, ground := Ground.phase }, { on := 3, ground := Ground.phase }, { on := 4, ground := Ground.phase }], guard := none }) rfl (fun K4 hK4 => ?_) AllReady.nil
        go_simp
        refine hK4 _ _ ?_
        clear hK4 K4
        try simp only [Act.put, List.setIfInBounds_toArray, List.set_cons_zero, List.set_cons_succ]
        refine wpAny_done (by kernel_rfl) ?_ _
        gi_wp2
        refine ⟨(keepsOthers_below HB3.out).trans HEND.out.1, sameBlk_tr (HB3.out.block _ HBX.out.lt) HEND.out.2.1, ?_, HBX5.out⟩
        show NumI w (numL (bits0 (pre ++ [x]))) _
        rw [HS.out]
        exact HEND.out.2.2
    --END REGION
  case done =>
    rintro D ys W hD hys ⟨hI, -⟩ hK
    obtain ⟨⟨sv, bS, oS, -⟩, hB⟩ := hI
    rw [hys] at oS
    have hlp := HLP.out
    have hls := HLS.out
    have hnl := num_len (itsL s)
    have HLJ : Hid ((Lib.join ((numL (itsL s)).map (·.data.toList)) (⟨#[]⟩ : ByteArray).data.toList).length ≤ 140737488355328) := by
      have h1 := HJ.out
      have h2 := HSZ.out
      rw [← h1] at h2
      have h3 : (joinB (numL (itsL s)) ⟨#[]⟩).size = (Lib.join ((numL (itsL s)).map (·.data.toList)) (⟨#[]⟩ : ByteArray).data.toList).length := by
        unfold joinB
        simp [ByteArray.size]
      unfold Hid
      omega
    obtain ⟨g, cap, hsv, hcap⟩ : ∃ g cap, sv = .slice (some ⟨g, 0, none⟩) (numL (itsL s)).length cap ∧ (numL (itsL s)).length ≤ cap := by
      rcases oS.2 with ⟨-, h0⟩ | ⟨g, cap, cur, h0, -, -, hle, -⟩
      · omega
      · exact ⟨g, cap, h0, by omega⟩
    subst hsv
    have hc0 := bS.cell
    have CJ := Lib.hid (implJoinAny g cap (numL (itsL s)) ⟨#[]⟩ W (w.heap.size + 2) oS hcap (by omega) HLJ.out)
    rw [HJ.out] at CJ
    have HB := Lib.hid hB
    generalize (numL (itsL s)).length = m at hc0 CJ
    clear oS hB hlp hls hnl
    gi_wp2_with (refine ⟨trivial, ?_⟩; gi_at_call 14; refine (callsIn_wide.2 CJ.out).mono ?_; rintro e w4 ⟨rfl, b4⟩)
    have hK4 := (b4.block D (Array.getElem?_eq_some_iff.1 hK).1).trans hK
    refine ⟨by simp, .inl ⟨_, _, rfl, run_takeDeferred hK4, ?_⟩⟩
    refine ⟨_, results_tmp rfl _ _ _, rfl, ?_⟩
    exact (below_onto HB.out b4).trans (belowK_b (w := w) (Nat.le_refl _) w4 D _ _ (by omega) hK4 rfl rfl)
  case stop =>
    rintro D c pre W _ _ h _
    exact h.elim
end Go.Proofs.YtdafhbblkopelaaDoor
