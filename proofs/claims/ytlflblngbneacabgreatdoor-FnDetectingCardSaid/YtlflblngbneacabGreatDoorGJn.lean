/- Several texts in one file; each says what it proves and under which condition. No condition. -/
import Derived.Test.YtlflblngbneacabGreatDoorJoinB
import Derived.Test.YtlflblngbneacabGreatDoorFmt
import Derived.Test.YtlflblngbneacabGreatDoorFmtWeighSpec
import Derived.Test.YtlflblngbneacabGreatDoorGWei
import Derived.Test.YtlflblngbneacabGreatDoorGBase
import Derived.Test.YtlflblngbneacabGreatDoorGErr
import Derived.RangeFuncBox
import Derived.BigQuiet
/- The contracts of the program's Join at lists of its own, an empty one too, and of numbersText: the numbers of a list, separated by commas. Conditions: the list reads as integers that fit Go's int and is short enough to be counted; strconv's table is as the program's text lays it. -/
namespace Go.Proofs.YtlflblngbneacabGreatDoor
open Go.RowKit

theorem implJoinOwn (v : Value) (l : List ByteArray) (y : ByteArray) (w : World) (B : Nat) (h : w.ownsRow B 9 1 v l.length (l.map Value.string)) (h0 : 0 < l.length) (hm : l.length ≤ 1048576) (hs : (joinB l y).size ≤ 140737488355328) :
    Calls Tryz.prog 55 #[v, .string y] w fun e w' => e = .returned (.string (joinB l y)) ∧ Below w.heap.size w w' := by
  have hc := h
  rcases h.2 with ⟨_, hz⟩ | ⟨g, cap, cur, rfl, _, _, hcap, _, _, _⟩
  · omega
  · have e : (joinB l y).size = (Lib.join (l.map (·.data.toList)) y.data.toList).length := by simp [joinB, ByteArray.size]
    exact implJoinAny g cap l y w B hc hcap (by omega) (by omega)

theorem implJoinNone (a : Option Addr) (c : Nat) (y : ByteArray) (w : World) : Calls Tryz.prog 55 #[.slice a 0 c, .string y] w fun e w' => e = .returned (.string ⟨#[]⟩) ∧ Below w.heap.size w w' := by
  have C := Lib.hid (fun W => Tryz.strings_Join_none a c y W)
  have D : Hid (∀ W, Calls Tryz.prog 100 #[.string y, .slice a 0 c] W fun e w' => e = .returned (.string ⟨#[]⟩) ∧ Below W.heap.size W w') := by
    intro W
    go_enter Tryz.func100, Tryz.ntmps100
    go_wp2_with fail
    refine (C.out _).mono ?_
    rintro e w1 ⟨rfl, rfl⟩
    go_wp2
    go_ret
    exact ⟨rfl, Below.refl _ _⟩
  clear C
  go_enter Tryz.func55, Tryz.ntmps55
  go_wp2_with fail
  refine (D.out _).mono ?_
  rintro e w1 ⟨rfl, bb⟩
  have B := Lib.hid bb
  clear bb
  go_wp2
  go_ret
  exact ⟨rfl, B.out⟩

theorem implJoinAll (v : Value) (l : List ByteArray) (y : ByteArray) (w : World) (B : Nat) (h : w.ownsRow B 9 1 v l.length (l.map Value.string)) (hm : l.length ≤ 1048576) (hs : (joinB l y).size ≤ 140737488355328) :
    Calls Tryz.prog 55 #[v, .string y] w fun e w' => e = .returned (.string (joinB l y)) ∧ Below w.heap.size w w' := by
  by_cases h0 : 0 < l.length
  · exact implJoinOwn v l y w B h h0 hm hs
  · obtain rfl : l = [] := List.eq_nil_of_length_eq_zero (by omega)
    rcases h.2 with ⟨rfl, -⟩ | ⟨g, cap, cur, rfl, _, _, _, _, _, _⟩
    · exact implJoinNone _ _ y w
    · exact implJoinNone _ _ y w

set_option maxHeartbeats 1600000 in
theorem implNumbersText (v : Value) (l : List Int) (w : World) (h : IntsAt w v l) (hm : l.length ≤ 1048576) (ht : TabOk w) (hw : ∀ x ∈ l, -9223372036854775808 ≤ x ∧ x ≤ 9223372036854775807) :
    Calls Tryz.prog 54 #[v] w fun e w' => e = .returned (.string (listB l)) ∧ Below w.heap.size w w' := by
  obtain ⟨i0, hi, hz0, hz1, hz2⟩ := info_parts infoStrF
  obtain ⟨a, c, rfl, h⟩ := h
  have H : Hid (∀ i (h : i < l.length), ∃ b o, a = some ⟨b, o, none⟩ ∧ w.cell? ⟨b, o + i, none⟩ = some (.int .i64 l[i])) := by
    intro i hi
    rcases h with rfl | ⟨b, o, rfl, hc⟩
    · simp at hi
    · exact ⟨b, o, rfl, hc i hi⟩
  clear h
  have HWF := Lib.hid hw
  have HT0 := Lib.hid ht
  clear hw ht
  have HL : Hid (listB l = joinB (l.map fmtB) comma) := rfl
  generalize listB l = t at HL ⊢
  obtain ⟨n, hn⟩ : ∃ n, l.length = n := ⟨_, rfl⟩
  rw [hn] at hm ⊢
  have HN := Lib.hid hn
  clear hn
  go_enter Tryz.func54, Tryz.ntmps54
  go_wp2
  go_loopw [3, 5, 8] (fun v _ i wr => ∃ (k : Nat) (ps : List ByteArray), k ≤ n ∧ i = .int .i64 k ∧ ps.length ≤ k ∧ Hid (ps = (l.take k).map fmtB) ∧ wr.ownsRow w.heap.size 9 1 v ps.length (ps.map Value.string) ∧ Below w.heap.size w wr) (fun _ _ i _ => n - (intOf i).toNat)
  case atStart => exact ⟨0, [], Nat.zero_le _, rfl, Nat.le_refl _, rfl, World.ownsRow_nil _ _ _ _, Below.refl _ _⟩
  case round =>
    obtain ⟨k, ps, hk, rfl, hps, HS, hown, hb⟩ := hrel
    have hbs := hb.size
    by_cases hlt : k < n
    · have hkl : k < l.length := by rw [HN.out]; exact hlt
      obtain ⟨b, o, rfl, e0⟩ := H.out k hkl
      have hbl := World.block_lt_of_cell? w _ e0
      obtain ⟨x, hx⟩ : ∃ x, l[k] = x := ⟨_, rfl⟩
      rw [hx] at e0
      have e1 : wr.cell? ⟨b, o + k, none⟩ = some (.int .i64 x) := by rw [hb.cell (p := ⟨b, o + k, none⟩) hbl]; exact e0
      clear e0 hbl
      obtain ⟨q0, q1⟩ := HWF.out x (by rw [← hx]; exact List.getElem_mem hkl)
      have C := Lib.hid (fun W h => implFmt x W q0 q1 h)
      have HS2 : Hid (ps ++ [fmtB x] = (l.take (k + 1)).map fmtB) := by unfold Hid; rw [List.take_succ_eq_append_getElem hkl, List.map_append, HS.out, hx]; rfl
      generalize fmtB x = f at C HS2
      have i0' : (0 : Int) ≤ (k : Int) := by omega
      have i1 : (k : Int) < (n : Int) := by omega
      clear hx hkl
      go_wp2_with fail
      refine (C.out _ (HT0.out.below hb)).mono ?_
      rintro e w1 ⟨rfl, hb1⟩
      have hown1 := owns_below hown hb1
      have HB1 := Lib.hid (below_up hb hb1)
      have hbs1 : w.heap.size ≤ w1.heap.size := Nat.le_trans hbs hb1.size
      clear hb1 hown hb
      go_wp2_with (at_builtin; refine wpList_append_own _ rfl _ _ 75 rfl w.heap.size 9 i0 (.string ByteArray.empty) 1 16 Tryz.underlying75 hi hz0 hz1 hz2 rfl (by decide) _ _ _ rfl (hown1.alloc _) ⟨w1.heap.size, 0, none⟩ 1 1 [.string f] rfl rfl (cell_one_str _ _ _) (by simp [Value.oneCell']) (by unfold maxLen; omega) (by omega) (by simp; omega) ?_; intro v' w2 hown' hg1 _)
      have hb2 := Below.grown (HB1.out.alloc hbs1 _) hg1 (by simp; omega) (fun j hj => (hown1.lt j hj).1)
      go_wp2
      go_roundw
      case rel => exact ⟨k + 1, _, by omega, by go_num, by simp; omega, HS2, by simpa using hown', hb2⟩
      case measure => simp [intOf]; omega
    · have HP : Hid (ps = l.map fmtB) := by
        have := HS.out
        rw [List.take_of_length_le (by rw [HN.out]; omega)] at this
        exact this
      have HX : Hid (∀ x ∈ ps, x.size ≤ 21) := by
        intro x hx
        rw [HP.out, List.mem_map] at hx
        obtain ⟨y, hy, rfl⟩ := hx
        obtain ⟨q0, q1⟩ := HWF.out y hy
        exact fmtW_size y q0 q1
      have hpl : ps.length = n := by rw [HP.out, List.length_map, HN.out]
      have J := Lib.hid (implJoinAll _ ps comma wr _ hown (by omega) (by have := join_size comma (by decide) HX.out ps.length (Nat.le_refl _); rw [List.take_length] at this; omega))
      have HT : Hid (t = joinB ps comma) := by unfold Hid; rw [HL.out, HP.out]
      generalize joinB ps comma = r at J HT
      have HB := Lib.hid hb
      clear hown hb hpl
      go_wp2_with fail
      refine J.out.mono ?_
      rintro e w1 ⟨rfl, b1⟩
      have HB2 := Lib.hid (below_up HB.out b1)
      clear b1
      go_wp2
      go_ret
      exact ⟨ret_str HT.out.symm, HB2.out⟩
end Go.Proofs.YtlflblngbneacabGreatDoor

/- The contract of the program's overRange at texts: the texts that a function of its boxes gives for each number, in a list of its own. Condition: that function's contract in every world above. -/
namespace Go.Proofs.YtlflblngbneacabGreatDoor
open Go.RowKit Go.Shelf

/-- A function value that is entered as it stands. -/
def Enters (F : FuncId) : Prop := ∀ args w, (callFunc F args).run Tryz.prog w = .ok (.enter F args) w

set_option maxRecDepth 100000 in
set_option maxHeartbeats 1600000 in
theorem implOverS (F : FuncId) (HE : Enters F) (p1 p2 : Value) (ts : List ByteArray) (w : World) (hm : ts.length ≤ 1048577)
    (HC : ∀ i (h : i < ts.length) W, Below w.heap.size w W → Calls Tryz.prog F #[.int .i64 (i : Int), p1, p2] W fun e w' => e = .returned (.string ts[i]) ∧ Below W.heap.size W w') :
    Calls Tryz.prog 130 #[.int .i64 (ts.length : Int), .func (.func F) #[] #[p1, p2]] w fun e w' => ∃ v, e = .returned v ∧ w'.ownsRow w.heap.size 9 1 v ts.length (ts.map Value.string) ∧ Below w.heap.size w w' := by
  obtain ⟨i0, hi, hz0, hz1, hz2⟩ := info_parts infoStrF
  have HH := Lib.hid HC
  have HE' : ∀ args w, (callFunc F args).run Tryz.prog w = .ok (.enter F args) w := HE
  clear HC HE
  obtain ⟨m, hmm⟩ : ∃ m, ts.length = m := ⟨_, rfl⟩
  have HN := Lib.hid hmm
  rw [hmm] at hm ⊢
  clear hmm
  go_enter Tryz.func130, Tryz.ntmps130
  go_wp2
  go_loopw [5, 8] (fun ov iv wr => ∃ i : Nat, i ≤ m ∧ iv = .int .i64 i ∧ Hid (wr.ownsRow w.heap.size 9 1 ov i ((ts.take i).map Value.string)) ∧ Hid (Below w.heap.size w wr)) (fun _ iv _ => m - (intOf iv).toNat)
  case atStart => exact ⟨0, Nat.zero_le _, rfl, World.ownsRow_nil _ _ _ _, Lib.hid (Below.refl _ _)⟩
  case round =>
    obtain ⟨i, hi2, rfl, O2, B2⟩ := hrel
    by_cases hlt : i < m
    · have hil : i < ts.length := by rw [HN.out]; exact hlt
      have CC := Lib.hid (HH.out i hil wr B2.out)
      have HS : Hid ((ts.take i).map Value.string ++ [.string ts[i]] = (ts.take (i + 1)).map Value.string) := by unfold Hid; rw [List.take_succ_eq_append_getElem hil, List.map_append]; rfl
      obtain ⟨x, hx⟩ : ∃ x, ts[i] = x := ⟨_, rfl⟩
      rw [hx] at CC HS
      have O3 := O2.out
      have hshape := O3.2
      have i0' : (0 : Int) ≤ (i : Int) := by omega
      have i1 : (i : Int) < (m : Int) := by omega
      clear hx hil hshape
      have O4 := Lib.hid O3
      clear O3 O2
      go_wp2_with fail
      refine CC.out.mono ?_
      rintro e w1 ⟨rfl, bb⟩
      have hown := owns_below O4.out bb
      have B4 := Lib.hid (below_up B2.out bb)
      have hbs : w.heap.size ≤ w1.heap.size := B4.out.size
      clear bb
      go_wp2_with (at_builtin; refine wpList_append_own _ rfl _ _ 75 rfl w.heap.size 9 i0 (.string ByteArray.empty) 1 16 Tryz.underlying75 hi hz0 hz1 hz2 rfl (by decide) _ _ _ rfl (hown.alloc _) ⟨w1.heap.size, 0, none⟩ 1 1 [.string x] rfl rfl (cell_one_str _ _ _) (by simp [Value.oneCell']) (by unfold maxLen; omega) (by omega) (by simp; omega) ?_; intro v' w2 hown' hg1 _)
      have hb2 := Below.grown (B4.out.alloc hbs _) hg1 (by simp; omega) (fun j hj => (hown.lt j hj).1)
      go_wp2
      go_roundw
      case rel =>
        refine ⟨i + 1, by omega, by go_num, ?_, Lib.hid hb2⟩
        unfold Hid
        rw [← HS.out]
        simpa using hown'
      case measure => simp [intOf]; omega
    · obtain rfl : i = m := by omega
      have HO := O2.out
      rw [List.take_of_length_le (by rw [HN.out]; omega)] at HO
      have HO := Lib.hid HO
      clear O2
      go_wp2
      go_ret
      exact ⟨_, rfl, HO.out, B2.out⟩
end Go.Proofs.YtlflblngbneacabGreatDoor

/- One element of a slice of one-cell elements, whatever they are. No condition. -/
namespace Go.Proofs.YtlflblngbneacabGreatDoor
open Go.RowKit

/-- Element i of a slice is x. -/
def ElemAt (w : World) (v : Value) (i : Nat) (x : Value) : Prop := ∃ b o n c, v = .slice (some ⟨b, o, none⟩) n c ∧ i < n ∧ w.cell? ⟨b, o + i, none⟩ = some x
theorem ElemAt.below {w w' : World} {v : Value} {i : Nat} {x : Value} (h : ElemAt w v i x) (hb : Below w.heap.size w w') : ElemAt w' v i x := by
  obtain ⟨b, o, n, c, hv, hi, e⟩ := h
  refine ⟨b, o, n, c, hv, hi, ?_⟩
  rw [hb.cell (p := ⟨b, o + i, none⟩) (World.block_lt_of_cell? w _ e)]
  exact e
end Go.Proofs.YtlflblngbneacabGreatDoor

/- The contracts of the program's joinEach: it returns the texts of a list's elements, joined, or an error that carries '-' where there are none. Conditions: the function that spells an element has a contract in every world above; the texts are short enough to be joined; the sentinel lies where it is said to. -/
namespace Go.Proofs.YtlflblngbneacabGreatDoor
open Go.RowKit Go.Shelf


/-! ### int -/
set_option maxHeartbeats 1600000 in
theorem implEach1I (G : FuncId) (HE : Enters G) (bnd cap : Array Value) (b1 b2 : Nat) (v x : Value) (s : ByteArray) (W : World) (h1 : W.cell? ⟨b1, 0, none⟩ = some (.func (.func G) bnd cap)) (h2 : W.cell? ⟨b2, 0, none⟩ = some v) (i : Nat) (hv : ElemAt W v i x)
    (HC : ∀ V, Below W.heap.size W V → Calls Tryz.prog G (bnd.push x ++ cap) V fun e w' => e = .returned (.string s) ∧ Below V.heap.size V w') :
    Calls Tryz.prog 131 #[.int .i64 (i : Int), .pointer (some ⟨b1, 0, none⟩), .pointer (some ⟨b2, 0, none⟩)] W fun e w' => e = .returned (.string s) ∧ Below W.heap.size W w' := by
  obtain ⟨b, o, n, c, rfl, hi, e0⟩ := hv
  have HE' : ∀ args w, (callFunc G args).run Tryz.prog w = .ok (.enter G args) w := HE
  have CC := Lib.hid HC
  have i0 : (0 : Int) ≤ (i : Int) := by omega
  have i1 : (i : Int) < (n : Int) := by omega
  clear HC HE
  go_enter Tryz.func131, Tryz.ntmps131
  go_wp2_with fail
  first | (go_region_with (first | (refine (CC.out _ (Below.refl _ _).drew).mono ?_; rintro e w1 ⟨rfl, hb1⟩; have HB := Lib.hid hb1; clear hb1) | fail)) | fail
  all_goals (go_wp2; go_ret; exact ⟨rfl, ⟨HB.out.os, HB.out.tape, HB.out.output, HB.out.size, HB.out.block⟩⟩)

set_option maxRecDepth 100000 in
set_option maxHeartbeats 3200000 in
theorem implJoinEachI (G : FuncId) (HE : Enters G) (bnd cap : Array Value) (v : Value) (xs : Nat → Value) (y : ByteArray) (ts : List ByteArray) (w : World) (hv : ∃ a c, v = .slice a ts.length c) (h0 : 0 < ts.length) (hm : ts.length ≤ 1048576) (hs : (joinB ts y).size ≤ 140737488355328)
    (hx : ∀ i, i < ts.length → ElemAt w v i (xs i))
    (HC : ∀ i (h : i < ts.length) V, Below w.heap.size w V → Calls Tryz.prog G (bnd.push (xs i) ++ cap) V fun e w' => e = .returned (.string ts[i]) ∧ Below V.heap.size V w') :
    Calls Tryz.prog 91 #[v, .string y, .func (.func G) bnd cap] w fun e w' => e = .returned (.tuple #[.string (joinB ts y), .nilIface]) ∧ Below w.heap.size w w' := by
  obtain ⟨a, c, hvv⟩ := hv
  have b1 := Boxed.new w 26 v
  have B1 := alloc_below w (.cells #[v] 26)
  have s1 : (w.alloc (.cells #[v] 26)).heap.size = w.heap.size + 1 := by simp
  generalize hX1 : w.alloc (.cells #[v] 26) = X1 at b1 B1 s1
  have b2 := Boxed.new X1 34 (.func (.func G) bnd cap)
  have B2 := alloc_below X1 (.cells #[.func (.func G) bnd cap] 34)
  have c1 := (b1.alloc (.cells #[.func (.func G) bnd cap] 34)).cell
  rw [s1] at b2
  have c2 := b2.cell
  generalize hX2 : X1.alloc (.cells #[.func (.func G) bnd cap] 34) = X2 at b2 B2 c1 c2
  have BB := Lib.hid (below_up B1 B2)
  have CO := Lib.hid (implOverS 131 (fun _ _ => by kernel_rfl) (.pointer (some ⟨w.heap.size + 1, 0, none⟩)) (.pointer (some ⟨w.heap.size, 0, none⟩)) ts X2 (by omega) (fun i h W hW =>
    implEach1I G HE bnd cap _ _ v (xs i) ts[i] W (by rw [hW.cell (p := ⟨w.heap.size + 1, 0, none⟩) (World.block_lt_of_cell? X2 _ c2)]; exact c2) (by rw [hW.cell (p := ⟨w.heap.size, 0, none⟩) (World.block_lt_of_cell? X2 _ c1)]; exact c1) i ((hx i h).below (below_up BB.out hW)) (fun V hV => HC i h V (below_up (below_up BB.out hW) hV))))
  have JJ := Lib.hid (fun u W B h => implJoinOwn u ts y W B h h0 hm hs)
  have hx2 : World.heap X2 = X2.heap := rfl
  subst hvv
  generalize joinB ts y = r at JJ ⊢
  obtain ⟨m, hmm⟩ : ∃ m, ts.length = m := ⟨_, rfl⟩
  rw [hmm] at CO JJ h0 hm hX1 c1 ⊢
  have hmz : ¬ ((m : Int) = 0) := by omega
  clear b1 B1 b2 B2 hx HC hmm hs HE hx2
  go_enter Tryz.func91, Tryz.ntmps91
  go_wp2_with fail
  refine CO.out.mono ?_
  rintro e w1 ⟨u, rfl, o, bb⟩
  have HO := Lib.hid o
  have B3 := Lib.hid (below_up BB.out bb)
  clear o bb
  go_wp2_with fail
  refine (JJ.out _ _ _ HO.out).mono ?_
  rintro e w2 ⟨rfl, bb⟩
  have B4 := Lib.hid (below_up B3.out bb)
  clear bb
  go_wp2
  go_ret2
  exact ⟨rfl, B4.out⟩

set_option maxRecDepth 100000 in
set_option maxHeartbeats 1600000 in
theorem implJoinNoneI (G : FuncId) (bnd cap : Array Value) (p : Option Addr) (c : Nat) (y : ByteArray) (a : Addr) (w : World) (h : EmptyAt w a) :
    Calls Tryz.prog 91 #[.slice p 0 c, .string y, .func (.func G) bnd cap] w fun e w' => e = .returned (.tuple #[.string ⟨#[]⟩, emptyErr ⟨#[45]⟩ a]) ∧ Below w.heap.size w w' := by
  have B1 := alloc_below w (.cells #[.slice p 0 c] 26)
  have B2 := Lib.hid (below_up B1 (alloc_below _ (.cells #[.func (.func G) bnd cap] 34)))
  have e0 : ((w.alloc (.cells #[.slice p 0 c] 26)).alloc (.cells #[.func (.func G) bnd cap] 34)).cell? ⟨0, 0, none⟩ = some (.iface 292 (.pointer (some a))) := h.below B2.out
  unfold emptyErr
  clear B1 h
  go_enter Tryz.func91, Tryz.ntmps91
  go_wp2_with fail
  go_quiet (fail)
  all_goals (go_wp2; go_ret2; exact ⟨rfl, ⟨B2.out.os, B2.out.tape, B2.out.output, B2.out.size, B2.out.block⟩⟩)

/-! ### bool -/
set_option maxHeartbeats 1600000 in
theorem implEach1B (G : FuncId) (HE : Enters G) (bnd cap : Array Value) (b1 b2 : Nat) (v x : Value) (s : ByteArray) (W : World) (h1 : W.cell? ⟨b1, 0, none⟩ = some (.func (.func G) bnd cap)) (h2 : W.cell? ⟨b2, 0, none⟩ = some v) (i : Nat) (hv : ElemAt W v i x)
    (HC : ∀ V, Below W.heap.size W V → Calls Tryz.prog G (bnd.push x ++ cap) V fun e w' => e = .returned (.string s) ∧ Below V.heap.size V w') :
    Calls Tryz.prog 141 #[.int .i64 (i : Int), .pointer (some ⟨b1, 0, none⟩), .pointer (some ⟨b2, 0, none⟩)] W fun e w' => e = .returned (.string s) ∧ Below W.heap.size W w' := by
  obtain ⟨b, o, n, c, rfl, hi, e0⟩ := hv
  have HE' : ∀ args w, (callFunc G args).run Tryz.prog w = .ok (.enter G args) w := HE
  have CC := Lib.hid HC
  have i0 : (0 : Int) ≤ (i : Int) := by omega
  have i1 : (i : Int) < (n : Int) := by omega
  clear HC HE
  go_enter Tryz.func141, Tryz.ntmps141
  go_wp2_with fail
  first | (go_region_with (first | (refine (CC.out _ (Below.refl _ _).drew).mono ?_; rintro e w1 ⟨rfl, hb1⟩; have HB := Lib.hid hb1; clear hb1) | fail)) | fail
  all_goals (go_wp2; go_ret; exact ⟨rfl, ⟨HB.out.os, HB.out.tape, HB.out.output, HB.out.size, HB.out.block⟩⟩)

set_option maxRecDepth 100000 in
set_option maxHeartbeats 3200000 in
theorem implJoinEachB (G : FuncId) (HE : Enters G) (bnd cap : Array Value) (v : Value) (xs : Nat → Value) (y : ByteArray) (ts : List ByteArray) (w : World) (hv : ∃ a c, v = .slice a ts.length c) (h0 : 0 < ts.length) (hm : ts.length ≤ 1048576) (hs : (joinB ts y).size ≤ 140737488355328)
    (hx : ∀ i, i < ts.length → ElemAt w v i (xs i))
    (HC : ∀ i (h : i < ts.length) V, Below w.heap.size w V → Calls Tryz.prog G (bnd.push (xs i) ++ cap) V fun e w' => e = .returned (.string ts[i]) ∧ Below V.heap.size V w') :
    Calls Tryz.prog 110 #[v, .string y, .func (.func G) bnd cap] w fun e w' => e = .returned (.tuple #[.string (joinB ts y), .nilIface]) ∧ Below w.heap.size w w' := by
  obtain ⟨a, c, hvv⟩ := hv
  have b1 := Boxed.new w 43 v
  have B1 := alloc_below w (.cells #[v] 43)
  have s1 : (w.alloc (.cells #[v] 43)).heap.size = w.heap.size + 1 := by simp
  generalize hX1 : w.alloc (.cells #[v] 43) = X1 at b1 B1 s1
  have b2 := Boxed.new X1 149 (.func (.func G) bnd cap)
  have B2 := alloc_below X1 (.cells #[.func (.func G) bnd cap] 149)
  have c1 := (b1.alloc (.cells #[.func (.func G) bnd cap] 149)).cell
  rw [s1] at b2
  have c2 := b2.cell
  generalize hX2 : X1.alloc (.cells #[.func (.func G) bnd cap] 149) = X2 at b2 B2 c1 c2
  have BB := Lib.hid (below_up B1 B2)
  have CO := Lib.hid (implOverS 141 (fun _ _ => by kernel_rfl) (.pointer (some ⟨w.heap.size + 1, 0, none⟩)) (.pointer (some ⟨w.heap.size, 0, none⟩)) ts X2 (by omega) (fun i h W hW =>
    implEach1B G HE bnd cap _ _ v (xs i) ts[i] W (by rw [hW.cell (p := ⟨w.heap.size + 1, 0, none⟩) (World.block_lt_of_cell? X2 _ c2)]; exact c2) (by rw [hW.cell (p := ⟨w.heap.size, 0, none⟩) (World.block_lt_of_cell? X2 _ c1)]; exact c1) i ((hx i h).below (below_up BB.out hW)) (fun V hV => HC i h V (below_up (below_up BB.out hW) hV))))
  have JJ := Lib.hid (fun u W B h => implJoinOwn u ts y W B h h0 hm hs)
  have hx2 : World.heap X2 = X2.heap := rfl
  subst hvv
  generalize joinB ts y = r at JJ ⊢
  obtain ⟨m, hmm⟩ : ∃ m, ts.length = m := ⟨_, rfl⟩
  rw [hmm] at CO JJ h0 hm hX1 c1 ⊢
  have hmz : ¬ ((m : Int) = 0) := by omega
  clear b1 B1 b2 B2 hx HC hmm hs HE hx2
  go_enter Tryz.func110, Tryz.ntmps110
  go_wp2_with fail
  refine CO.out.mono ?_
  rintro e w1 ⟨u, rfl, o, bb⟩
  have HO := Lib.hid o
  have B3 := Lib.hid (below_up BB.out bb)
  clear o bb
  go_wp2_with fail
  refine (JJ.out _ _ _ HO.out).mono ?_
  rintro e w2 ⟨rfl, bb⟩
  have B4 := Lib.hid (below_up B3.out bb)
  clear bb
  go_wp2
  go_ret2
  exact ⟨rfl, B4.out⟩

set_option maxRecDepth 100000 in
set_option maxHeartbeats 1600000 in
theorem implJoinNoneB (G : FuncId) (bnd cap : Array Value) (p : Option Addr) (c : Nat) (y : ByteArray) (a : Addr) (w : World) (h : EmptyAt w a) :
    Calls Tryz.prog 110 #[.slice p 0 c, .string y, .func (.func G) bnd cap] w fun e w' => e = .returned (.tuple #[.string ⟨#[]⟩, emptyErr ⟨#[45]⟩ a]) ∧ Below w.heap.size w w' := by
  have B1 := alloc_below w (.cells #[.slice p 0 c] 43)
  have B2 := Lib.hid (below_up B1 (alloc_below _ (.cells #[.func (.func G) bnd cap] 149)))
  have e0 : ((w.alloc (.cells #[.slice p 0 c] 43)).alloc (.cells #[.func (.func G) bnd cap] 149)).cell? ⟨0, 0, none⟩ = some (.iface 292 (.pointer (some a))) := h.below B2.out
  unfold emptyErr
  clear B1 h
  go_enter Tryz.func110, Tryz.ntmps110
  go_wp2_with fail
  go_quiet (fail)
  all_goals (go_wp2; go_ret2; exact ⟨rfl, ⟨B2.out.os, B2.out.tape, B2.out.output, B2.out.size, B2.out.block⟩⟩)

/-! ### []int -/
set_option maxHeartbeats 1600000 in
theorem implEach1L (G : FuncId) (HE : Enters G) (bnd cap : Array Value) (b1 b2 : Nat) (v x : Value) (s : ByteArray) (W : World) (h1 : W.cell? ⟨b1, 0, none⟩ = some (.func (.func G) bnd cap)) (h2 : W.cell? ⟨b2, 0, none⟩ = some v) (i : Nat) (hv : ElemAt W v i x)
    (HC : ∀ V, Below W.heap.size W V → Calls Tryz.prog G (bnd.push x ++ cap) V fun e w' => e = .returned (.string s) ∧ Below V.heap.size V w') :
    Calls Tryz.prog 132 #[.int .i64 (i : Int), .pointer (some ⟨b1, 0, none⟩), .pointer (some ⟨b2, 0, none⟩)] W fun e w' => e = .returned (.string s) ∧ Below W.heap.size W w' := by
  obtain ⟨b, o, n, c, rfl, hi, e0⟩ := hv
  have HE' : ∀ args w, (callFunc G args).run Tryz.prog w = .ok (.enter G args) w := HE
  have CC := Lib.hid HC
  have i0 : (0 : Int) ≤ (i : Int) := by omega
  have i1 : (i : Int) < (n : Int) := by omega
  clear HC HE
  go_enter Tryz.func132, Tryz.ntmps132
  go_wp2_with fail
  first | (go_region_with (first | (refine (CC.out _ (Below.refl _ _).drew).mono ?_; rintro e w1 ⟨rfl, hb1⟩; have HB := Lib.hid hb1; clear hb1) | fail)) | fail
  all_goals (go_wp2; go_ret; exact ⟨rfl, ⟨HB.out.os, HB.out.tape, HB.out.output, HB.out.size, HB.out.block⟩⟩)

set_option maxRecDepth 100000 in
set_option maxHeartbeats 3200000 in
theorem implJoinEachL (G : FuncId) (HE : Enters G) (bnd cap : Array Value) (v : Value) (xs : Nat → Value) (y : ByteArray) (ts : List ByteArray) (w : World) (hv : ∃ a c, v = .slice a ts.length c) (h0 : 0 < ts.length) (hm : ts.length ≤ 1048576) (hs : (joinB ts y).size ≤ 140737488355328)
    (hx : ∀ i, i < ts.length → ElemAt w v i (xs i))
    (HC : ∀ i (h : i < ts.length) V, Below w.heap.size w V → Calls Tryz.prog G (bnd.push (xs i) ++ cap) V fun e w' => e = .returned (.string ts[i]) ∧ Below V.heap.size V w') :
    Calls Tryz.prog 92 #[v, .string y, .func (.func G) bnd cap] w fun e w' => e = .returned (.tuple #[.string (joinB ts y), .nilIface]) ∧ Below w.heap.size w w' := by
  obtain ⟨a, c, hvv⟩ := hv
  have b1 := Boxed.new w 61 v
  have B1 := alloc_below w (.cells #[v] 61)
  have s1 : (w.alloc (.cells #[v] 61)).heap.size = w.heap.size + 1 := by simp
  generalize hX1 : w.alloc (.cells #[v] 61) = X1 at b1 B1 s1
  have b2 := Boxed.new X1 42 (.func (.func G) bnd cap)
  have B2 := alloc_below X1 (.cells #[.func (.func G) bnd cap] 42)
  have c1 := (b1.alloc (.cells #[.func (.func G) bnd cap] 42)).cell
  rw [s1] at b2
  have c2 := b2.cell
  generalize hX2 : X1.alloc (.cells #[.func (.func G) bnd cap] 42) = X2 at b2 B2 c1 c2
  have BB := Lib.hid (below_up B1 B2)
  have CO := Lib.hid (implOverS 132 (fun _ _ => by kernel_rfl) (.pointer (some ⟨w.heap.size + 1, 0, none⟩)) (.pointer (some ⟨w.heap.size, 0, none⟩)) ts X2 (by omega) (fun i h W hW =>
    implEach1L G HE bnd cap _ _ v (xs i) ts[i] W (by rw [hW.cell (p := ⟨w.heap.size + 1, 0, none⟩) (World.block_lt_of_cell? X2 _ c2)]; exact c2) (by rw [hW.cell (p := ⟨w.heap.size, 0, none⟩) (World.block_lt_of_cell? X2 _ c1)]; exact c1) i ((hx i h).below (below_up BB.out hW)) (fun V hV => HC i h V (below_up (below_up BB.out hW) hV))))
  have JJ := Lib.hid (fun u W B h => implJoinOwn u ts y W B h h0 hm hs)
  have hx2 : World.heap X2 = X2.heap := rfl
  subst hvv
  generalize joinB ts y = r at JJ ⊢
  obtain ⟨m, hmm⟩ : ∃ m, ts.length = m := ⟨_, rfl⟩
  rw [hmm] at CO JJ h0 hm hX1 c1 ⊢
  have hmz : ¬ ((m : Int) = 0) := by omega
  clear b1 B1 b2 B2 hx HC hmm hs HE hx2
  go_enter Tryz.func92, Tryz.ntmps92
  go_wp2_with fail
  refine CO.out.mono ?_
  rintro e w1 ⟨u, rfl, o, bb⟩
  have HO := Lib.hid o
  have B3 := Lib.hid (below_up BB.out bb)
  clear o bb
  go_wp2_with fail
  refine (JJ.out _ _ _ HO.out).mono ?_
  rintro e w2 ⟨rfl, bb⟩
  have B4 := Lib.hid (below_up B3.out bb)
  clear bb
  go_wp2
  go_ret2
  exact ⟨rfl, B4.out⟩

set_option maxRecDepth 100000 in
set_option maxHeartbeats 1600000 in
theorem implJoinNoneL (G : FuncId) (bnd cap : Array Value) (p : Option Addr) (c : Nat) (y : ByteArray) (a : Addr) (w : World) (h : EmptyAt w a) :
    Calls Tryz.prog 92 #[.slice p 0 c, .string y, .func (.func G) bnd cap] w fun e w' => e = .returned (.tuple #[.string ⟨#[]⟩, emptyErr ⟨#[45]⟩ a]) ∧ Below w.heap.size w w' := by
  have B1 := alloc_below w (.cells #[.slice p 0 c] 61)
  have B2 := Lib.hid (below_up B1 (alloc_below _ (.cells #[.func (.func G) bnd cap] 42)))
  have e0 : ((w.alloc (.cells #[.slice p 0 c] 61)).alloc (.cells #[.func (.func G) bnd cap] 42)).cell? ⟨0, 0, none⟩ = some (.iface 292 (.pointer (some a))) := h.below B2.out
  unfold emptyErr
  clear B1 h
  go_enter Tryz.func92, Tryz.ntmps92
  go_wp2_with fail
  go_quiet (fail)
  all_goals (go_wp2; go_ret2; exact ⟨rfl, ⟨B2.out.os, B2.out.tape, B2.out.output, B2.out.size, B2.out.block⟩⟩)

/-! ### func(impl.stateReport) string -/
set_option maxHeartbeats 1600000 in
theorem implEach1S (G : FuncId) (HE : Enters G) (bnd cap : Array Value) (b1 b2 : Nat) (v x : Value) (s : ByteArray) (W : World) (h1 : W.cell? ⟨b1, 0, none⟩ = some (.func (.func G) bnd cap)) (h2 : W.cell? ⟨b2, 0, none⟩ = some v) (i : Nat) (hv : ElemAt W v i x)
    (HC : ∀ V, Below W.heap.size W V → Calls Tryz.prog G (bnd.push x ++ cap) V fun e w' => e = .returned (.string s) ∧ Below V.heap.size V w') :
    Calls Tryz.prog 153 #[.int .i64 (i : Int), .pointer (some ⟨b1, 0, none⟩), .pointer (some ⟨b2, 0, none⟩)] W fun e w' => e = .returned (.string s) ∧ Below W.heap.size W w' := by
  obtain ⟨b, o, n, c, rfl, hi, e0⟩ := hv
  have HE' : ∀ args w, (callFunc G args).run Tryz.prog w = .ok (.enter G args) w := HE
  have CC := Lib.hid HC
  have i0 : (0 : Int) ≤ (i : Int) := by omega
  have i1 : (i : Int) < (n : Int) := by omega
  clear HC HE
  go_enter Tryz.func153, Tryz.ntmps153
  go_wp2_with fail
  first | (go_region_with (first | (refine (CC.out _ (Below.refl _ _).drew).mono ?_; rintro e w1 ⟨rfl, hb1⟩; have HB := Lib.hid hb1; clear hb1) | fail)) | fail
  all_goals (go_wp2; go_ret; exact ⟨rfl, ⟨HB.out.os, HB.out.tape, HB.out.output, HB.out.size, HB.out.block⟩⟩)

set_option maxRecDepth 100000 in
set_option maxHeartbeats 3200000 in
theorem implJoinEachS (G : FuncId) (HE : Enters G) (bnd cap : Array Value) (v : Value) (xs : Nat → Value) (y : ByteArray) (ts : List ByteArray) (w : World) (hv : ∃ a c, v = .slice a ts.length c) (h0 : 0 < ts.length) (hm : ts.length ≤ 1048576) (hs : (joinB ts y).size ≤ 140737488355328)
    (hx : ∀ i, i < ts.length → ElemAt w v i (xs i))
    (HC : ∀ i (h : i < ts.length) V, Below w.heap.size w V → Calls Tryz.prog G (bnd.push (xs i) ++ cap) V fun e w' => e = .returned (.string ts[i]) ∧ Below V.heap.size V w') :
    Calls Tryz.prog 124 #[v, .string y, .func (.func G) bnd cap] w fun e w' => e = .returned (.tuple #[.string (joinB ts y), .nilIface]) ∧ Below w.heap.size w w' := by
  obtain ⟨a, c, hvv⟩ := hv
  have b1 := Boxed.new w 159 v
  have B1 := alloc_below w (.cells #[v] 159)
  have s1 : (w.alloc (.cells #[v] 159)).heap.size = w.heap.size + 1 := by simp
  generalize hX1 : w.alloc (.cells #[v] 159) = X1 at b1 B1 s1
  have b2 := Boxed.new X1 161 (.func (.func G) bnd cap)
  have B2 := alloc_below X1 (.cells #[.func (.func G) bnd cap] 161)
  have c1 := (b1.alloc (.cells #[.func (.func G) bnd cap] 161)).cell
  rw [s1] at b2
  have c2 := b2.cell
  generalize hX2 : X1.alloc (.cells #[.func (.func G) bnd cap] 161) = X2 at b2 B2 c1 c2
  have BB := Lib.hid (below_up B1 B2)
  have CO := Lib.hid (implOverS 153 (fun _ _ => by kernel_rfl) (.pointer (some ⟨w.heap.size + 1, 0, none⟩)) (.pointer (some ⟨w.heap.size, 0, none⟩)) ts X2 (by omega) (fun i h W hW =>
    implEach1S G HE bnd cap _ _ v (xs i) ts[i] W (by rw [hW.cell (p := ⟨w.heap.size + 1, 0, none⟩) (World.block_lt_of_cell? X2 _ c2)]; exact c2) (by rw [hW.cell (p := ⟨w.heap.size, 0, none⟩) (World.block_lt_of_cell? X2 _ c1)]; exact c1) i ((hx i h).below (below_up BB.out hW)) (fun V hV => HC i h V (below_up (below_up BB.out hW) hV))))
  have JJ := Lib.hid (fun u W B h => implJoinOwn u ts y W B h h0 hm hs)
  have hx2 : World.heap X2 = X2.heap := rfl
  subst hvv
  generalize joinB ts y = r at JJ ⊢
  obtain ⟨m, hmm⟩ : ∃ m, ts.length = m := ⟨_, rfl⟩
  rw [hmm] at CO JJ h0 hm hX1 c1 ⊢
  have hmz : ¬ ((m : Int) = 0) := by omega
  clear b1 B1 b2 B2 hx HC hmm hs HE hx2
  go_enter Tryz.func124, Tryz.ntmps124
  go_wp2_with fail
  refine CO.out.mono ?_
  rintro e w1 ⟨u, rfl, o, bb⟩
  have HO := Lib.hid o
  have B3 := Lib.hid (below_up BB.out bb)
  clear o bb
  go_wp2_with fail
  refine (JJ.out _ _ _ HO.out).mono ?_
  rintro e w2 ⟨rfl, bb⟩
  have B4 := Lib.hid (below_up B3.out bb)
  clear bb
  go_wp2
  go_ret2
  exact ⟨rfl, B4.out⟩

set_option maxRecDepth 100000 in
set_option maxHeartbeats 1600000 in
theorem implJoinNoneS (G : FuncId) (bnd cap : Array Value) (p : Option Addr) (c : Nat) (y : ByteArray) (a : Addr) (w : World) (h : EmptyAt w a) :
    Calls Tryz.prog 124 #[.slice p 0 c, .string y, .func (.func G) bnd cap] w fun e w' => e = .returned (.tuple #[.string ⟨#[]⟩, emptyErr ⟨#[45]⟩ a]) ∧ Below w.heap.size w w' := by
  have B1 := alloc_below w (.cells #[.slice p 0 c] 159)
  have B2 := Lib.hid (below_up B1 (alloc_below _ (.cells #[.func (.func G) bnd cap] 161)))
  have e0 : ((w.alloc (.cells #[.slice p 0 c] 159)).alloc (.cells #[.func (.func G) bnd cap] 161)).cell? ⟨0, 0, none⟩ = some (.iface 292 (.pointer (some a))) := h.below B2.out
  unfold emptyErr
  clear B1 h
  go_enter Tryz.func124, Tryz.ntmps124
  go_wp2_with fail
  go_quiet (fail)
  all_goals (go_wp2; go_ret2; exact ⟨rfl, ⟨B2.out.os, B2.out.tape, B2.out.output, B2.out.size, B2.out.block⟩⟩)

/-! ### func(impl.poolsReport) string -/
set_option maxHeartbeats 1600000 in
theorem implEach1P (G : FuncId) (HE : Enters G) (bnd cap : Array Value) (b1 b2 : Nat) (v x : Value) (s : ByteArray) (W : World) (h1 : W.cell? ⟨b1, 0, none⟩ = some (.func (.func G) bnd cap)) (h2 : W.cell? ⟨b2, 0, none⟩ = some v) (i : Nat) (hv : ElemAt W v i x)
    (HC : ∀ V, Below W.heap.size W V → Calls Tryz.prog G (bnd.push x ++ cap) V fun e w' => e = .returned (.string s) ∧ Below V.heap.size V w') :
    Calls Tryz.prog 149 #[.int .i64 (i : Int), .pointer (some ⟨b1, 0, none⟩), .pointer (some ⟨b2, 0, none⟩)] W fun e w' => e = .returned (.string s) ∧ Below W.heap.size W w' := by
  obtain ⟨b, o, n, c, rfl, hi, e0⟩ := hv
  have HE' : ∀ args w, (callFunc G args).run Tryz.prog w = .ok (.enter G args) w := HE
  have CC := Lib.hid HC
  have i0 : (0 : Int) ≤ (i : Int) := by omega
  have i1 : (i : Int) < (n : Int) := by omega
  clear HC HE
  go_enter Tryz.func149, Tryz.ntmps149
  go_wp2_with fail
  first | (go_region_with (first | (refine (CC.out _ (Below.refl _ _).drew).mono ?_; rintro e w1 ⟨rfl, hb1⟩; have HB := Lib.hid hb1; clear hb1) | fail)) | fail
  all_goals (go_wp2; go_ret; exact ⟨rfl, ⟨HB.out.os, HB.out.tape, HB.out.output, HB.out.size, HB.out.block⟩⟩)

set_option maxRecDepth 100000 in
set_option maxHeartbeats 3200000 in
theorem implJoinEachP (G : FuncId) (HE : Enters G) (bnd cap : Array Value) (v : Value) (xs : Nat → Value) (y : ByteArray) (ts : List ByteArray) (w : World) (hv : ∃ a c, v = .slice a ts.length c) (h0 : 0 < ts.length) (hm : ts.length ≤ 1048576) (hs : (joinB ts y).size ≤ 140737488355328)
    (hx : ∀ i, i < ts.length → ElemAt w v i (xs i))
    (HC : ∀ i (h : i < ts.length) V, Below w.heap.size w V → Calls Tryz.prog G (bnd.push (xs i) ++ cap) V fun e w' => e = .returned (.string ts[i]) ∧ Below V.heap.size V w') :
    Calls Tryz.prog 119 #[v, .string y, .func (.func G) bnd cap] w fun e w' => e = .returned (.tuple #[.string (joinB ts y), .nilIface]) ∧ Below w.heap.size w w' := by
  obtain ⟨a, c, hvv⟩ := hv
  have b1 := Boxed.new w 155 v
  have B1 := alloc_below w (.cells #[v] 155)
  have s1 : (w.alloc (.cells #[v] 155)).heap.size = w.heap.size + 1 := by simp
  generalize hX1 : w.alloc (.cells #[v] 155) = X1 at b1 B1 s1
  have b2 := Boxed.new X1 157 (.func (.func G) bnd cap)
  have B2 := alloc_below X1 (.cells #[.func (.func G) bnd cap] 157)
  have c1 := (b1.alloc (.cells #[.func (.func G) bnd cap] 157)).cell
  rw [s1] at b2
  have c2 := b2.cell
  generalize hX2 : X1.alloc (.cells #[.func (.func G) bnd cap] 157) = X2 at b2 B2 c1 c2
  have BB := Lib.hid (below_up B1 B2)
  have CO := Lib.hid (implOverS 149 (fun _ _ => by kernel_rfl) (.pointer (some ⟨w.heap.size + 1, 0, none⟩)) (.pointer (some ⟨w.heap.size, 0, none⟩)) ts X2 (by omega) (fun i h W hW =>
    implEach1P G HE bnd cap _ _ v (xs i) ts[i] W (by rw [hW.cell (p := ⟨w.heap.size + 1, 0, none⟩) (World.block_lt_of_cell? X2 _ c2)]; exact c2) (by rw [hW.cell (p := ⟨w.heap.size, 0, none⟩) (World.block_lt_of_cell? X2 _ c1)]; exact c1) i ((hx i h).below (below_up BB.out hW)) (fun V hV => HC i h V (below_up (below_up BB.out hW) hV))))
  have JJ := Lib.hid (fun u W B h => implJoinOwn u ts y W B h h0 hm hs)
  have hx2 : World.heap X2 = X2.heap := rfl
  subst hvv
  generalize joinB ts y = r at JJ ⊢
  obtain ⟨m, hmm⟩ : ∃ m, ts.length = m := ⟨_, rfl⟩
  rw [hmm] at CO JJ h0 hm hX1 c1 ⊢
  have hmz : ¬ ((m : Int) = 0) := by omega
  clear b1 B1 b2 B2 hx HC hmm hs HE hx2
  go_enter Tryz.func119, Tryz.ntmps119
  go_wp2_with fail
  refine CO.out.mono ?_
  rintro e w1 ⟨u, rfl, o, bb⟩
  have HO := Lib.hid o
  have B3 := Lib.hid (below_up BB.out bb)
  clear o bb
  go_wp2_with fail
  refine (JJ.out _ _ _ HO.out).mono ?_
  rintro e w2 ⟨rfl, bb⟩
  have B4 := Lib.hid (below_up B3.out bb)
  clear bb
  go_wp2
  go_ret2
  exact ⟨rfl, B4.out⟩

set_option maxRecDepth 100000 in
set_option maxHeartbeats 1600000 in
theorem implJoinNoneP (G : FuncId) (bnd cap : Array Value) (p : Option Addr) (c : Nat) (y : ByteArray) (a : Addr) (w : World) (h : EmptyAt w a) :
    Calls Tryz.prog 119 #[.slice p 0 c, .string y, .func (.func G) bnd cap] w fun e w' => e = .returned (.tuple #[.string ⟨#[]⟩, emptyErr ⟨#[45]⟩ a]) ∧ Below w.heap.size w w' := by
  have B1 := alloc_below w (.cells #[.slice p 0 c] 155)
  have B2 := Lib.hid (below_up B1 (alloc_below _ (.cells #[.func (.func G) bnd cap] 157)))
  have e0 : ((w.alloc (.cells #[.slice p 0 c] 155)).alloc (.cells #[.func (.func G) bnd cap] 157)).cell? ⟨0, 0, none⟩ = some (.iface 292 (.pointer (some a))) := h.below B2.out
  unfold emptyErr
  clear B1 h
  go_enter Tryz.func119, Tryz.ntmps119
  go_wp2_with fail
  go_quiet (fail)
  all_goals (go_wp2; go_ret2; exact ⟨rfl, ⟨B2.out.os, B2.out.tape, B2.out.output, B2.out.size, B2.out.block⟩⟩)
end Go.Proofs.YtlflblngbneacabGreatDoor
