/- The library's strings.explode and strings.Split with the empty separator, at every text: the text's pieces, one a rune, in a list of its own. Conditions: the text has at most 2^20 bytes; the library's two tables for runes hold what its text lays. -/
import Derived.Test.YtlflblngbneacaaDoorGRun
import Derived.Test.YtlflblngbneacaaDoorShelf
import Derived.Test.YtlflblngbneacaaDoorFmtWeighSpec
import Derived.Test.YtlflblngbneacaaDoorGWei
import Derived.Lib.SplitLaws
import Derived.RangeFuncBox
namespace Go.Proofs.YtlflblngbneacaaDoor
open Go.RowKit Go.Shelf

theorem whole_text (s : ByteArray) : s.extract 0 s.size = s := by
  apply bytes_eq
  rw [extract_list, List.drop_zero, Nat.sub_zero]
  exact List.take_of_length_le (by simp)
theorem row_set {w : World} {B : Nat} {cs : Array Value} {t : TypeId} {fz : Nat × Nat} (h : w.heap[B]? = some (.cells cs t fz)) (i : Nat) (v : Value) : (w.setCell ⟨B, i, none⟩ v).heap[B]? = some (.cells (cs.setIfInBounds i v) t fz) := by
  simp [World.setCell, Array.getElem?_modify, h]
theorem row_cell {w : World} {B : Nat} {cs : Array Value} {t : TypeId} {fz : Nat × Nat} (h : w.heap[B]? = some (.cells cs t fz)) (i : Nat) : w.cell? ⟨B, i, none⟩ = cs[i]? := by
  simp [World.cell?, h]
theorem row_thaw {w : World} {B : Nat} {cs : Array Value} {t : TypeId} (h : w.heap[B]? = some (.cells cs t (0, 0))) (i : Nat) : w.frozen? ⟨B, i, none⟩ = false := by
  simp [World.frozen?, h]
theorem heapLt {w : World} {k : Nat} {o : Obj} (h : w.heap[k]? = some o) : k < w.heap.size := by
  rcases Nat.lt_or_ge k w.heap.size with h' | h'
  · exact h'
  · rw [Array.getElem?_eq_none h'] at h; cases h
theorem utf8_below {w w' : World} (h : Lib.Utf8Tabs 4 5 w) (hb : Below w.heap.size w w') : Lib.Utf8Tabs 4 5 w' := by
  refine ⟨fun c hc => ?_, fun i hi => ⟨?_, ?_⟩⟩
  · have := h.1 c hc
    rw [hb.cell (p := ⟨4, c, none⟩) (World.block_lt_of_cell? w _ this)]; exact this
  · have := (h.2 i hi).1
    rw [hb.cell (p := ⟨5, 2 * i, none⟩) (World.block_lt_of_cell? w _ this)]; exact this
  · have := (h.2 i hi).2
    rw [hb.cell (p := ⟨5, 2 * i + 1, none⟩) (World.block_lt_of_cell? w _ this)]; exact this

theorem ownsLen {w : World} {B e s n : Nat} {v : Value} {xs : List Value} (h : w.ownsRow B e s v n xs) : ∃ a c, v = .slice a n c := by
  rcases h.2 with ⟨rfl, h0⟩ | ⟨g, cap, cur, rfl, _⟩
  · subst h0; exact ⟨_, _, rfl⟩
  · exact ⟨_, _, rfl⟩
theorem ownsForm {w : World} {B e s n : Nat} {v : Value} {xs : List Value} (h : w.ownsRow B e s v n xs) : ∃ a k c, v = .slice a k c := by
  rcases h.2 with ⟨rfl, -⟩ | ⟨g, cap, cur, rfl, _⟩
  · exact ⟨_, _, _, rfl⟩
  · exact ⟨_, _, _, rfl⟩

set_option maxHeartbeats 4000000 in
set_option maxRecDepth 100000 in
theorem explodeAll (s : ByteArray) (w : World) (hs : s.size ≤ 1048576) (hT : Lib.Utf8Tabs 4 5 w) :
    Calls Tryd.prog 105 #[.string s, .int .i64 (-1)] w fun e w' => ∃ v, e = .returned v ∧ w'.ownsRow w.heap.size 9 1 v (runesL s).length ((runesL s).map Value.string) ∧ Below w.heap.size w w' := by
  have HT := Lib.hid hT
  have HR := Lib.hid (Tryd.utf8_RuneCountInString s w (by omega))
  have hle := runesL_le s
  have HN : Hid (Lib.runeCount s = (runesL s).length) := (runesL_len s).symm
  rw [HN.out] at HR
  have HD := Lib.hid (fun t W h => Tryd.utf8_DecodeRuneInString t W h)
  obtain ⟨N, hN⟩ : ∃ N, (runesL s).length = N := ⟨_, rfl⟩
  rw [hN] at HR hle ⊢
  have HNN := Lib.hid hN
  have hmk := run_make_row' (P := Tryd.prog) 51 9 (.string ByteArray.empty) 16 Tryd.underlying51 infoStrF rfl .i64 .i64 N (by omega) (by omega)
  clear hT hN
  go_enter Tryd.func105, Tryd.ntmps105
  go_wp2_with fail
  refine HR.out.mono ?_
  rintro e w1 ⟨rfl, pos, rfl⟩
  have B1 : Hid (Below w.heap.size w (w.iter s pos)) := (Below.refl _ _).alloc (Nat.le_refl _) _
  obtain ⟨W1, hW1⟩ : ∃ W1 : World, w.iter s pos = W1 := ⟨_, rfl⟩
  rw [hW1] at B1 ⊢
  clear hW1 HR
  go_wp2
  rw [← Lib.cellsOf_nil]
  have hb1 : w.heap.size ≤ W1.heap.size := B1.out.size
  have R1 : Hid ((W1.alloc (.cells (Lib.cellsOf [] N) 9)).heap[W1.heap.size]? = some (.cells (Lib.cellsOf [] N) 9 (0, 0))) := World.alloc_heap_new W1 _
  have B2 := Lib.hid (B1.out.alloc hb1 (.cells (Lib.cellsOf [] N) 9))
  go_loopw [0, 7] (fun s0 s7 wr => ∃ (done : List ByteArray) (p b : Nat), s0 = .string (s.extract p s.size) ∧ s7 = .int .i64 done.length ∧ Hid (done ++ runesF s b p = runesL s) ∧ s.size ≤ p + b ∧ p ≤ s.size ∧ (done.length < N ∨ N = 0) ∧ Hid (wr.heap[W1.heap.size]? = some (.cells (Lib.cellsOf done N) 9 (0, 0))) ∧ Hid (Below w.heap.size w wr)) (fun _ s7 _ => N - (intOf s7).toNat)
  case atStart => exact ⟨[], 0, s.size, by rw [whole_text], rfl, rfl, by omega, by omega, by simp; omega, R1, B2⟩
  case round =>
    clear R1 B2
    obtain ⟨done, p, b, rfl, rfl, HP, hpb, hps, hdn, R, B⟩ := hrel
    have hlen : done.length + (runesF s b p).length = N := by
      have := congrArg List.length HP.out
      rw [List.length_append, HNN.out] at this
      exact this
    by_cases hlt : done.length + 1 < N
    · have hpl : p < s.size := runesF_two s b p (by omega)
      obtain ⟨b', hb', hst⟩ := runesF_in s b p hpb hpl
      have hw1 := wid_pos s p hpl
      have hw2 := wid_le s p hpl
      have HX := Lib.hid (head_rune s p hpl)
      have HY := Lib.hid (tail_rune s p hpl)
      have HW := Lib.hid (dec_tail s p hpl)
      have hsz : (s.extract p s.size).size = s.size - p := Lib.tail_size s p
      have HQ : Hid ((done ++ [s.extract p (p + widA s p)]) ++ runesF s b' (p + widA s p) = runesL s) := by unfold Hid; rw [List.append_assoc, List.singleton_append, ← hst]; exact HP.out
      have HB2 : Hid (s.size ≤ p + widA s p + b') := hb'
      have HB3 : Hid (p + widA s p ≤ s.size) := hw2
      obtain ⟨K, hK⟩ : ∃ K, widA s p = K := ⟨_, rfl⟩
      rw [hK] at hw1 hw2 HX HY HW HQ HB2 HB3
      obtain ⟨R0, hR0⟩ : ∃ R0, s.extract p s.size = R0 := ⟨_, rfl⟩
      rw [hR0] at hsz HX HY HW ⊢
      obtain ⟨d, hd⟩ : ∃ d, done.length = d := ⟨_, rfl⟩
      rw [hd] at hlt hlen ⊢
      have HDL := Lib.hid hd
      have hi1 : (d : Int) < (N : Int) - 1 := by omega
      have hi0 : (0 : Int) ≤ (d : Int) := by omega
      have hi2 : (d : Int) < (N : Int) := by omega
      have k0 : (0 : Int) ≤ (K : Int) := by omega
      have k1 : (K : Int) ≤ (R0.size : Int) := by omega
      have CC := Lib.hid (HD.out R0 wr (utf8_below HT.out B.out))
      rw [HW.out] at CC
      clear hst hb' hK hR0 hd hw2 hpb hdn HP HW
      go_wp2_with fail
      refine CC.out.mono ?_
      rintro e w2 ⟨rfl, bb⟩
      have hBl : W1.heap.size < wr.heap.size := heapLt R.out
      have R2 : Hid (w2.heap[W1.heap.size]? = some (.cells (Lib.cellsOf done N) 9 (0, 0))) := by unfold Hid; rw [bb.block _ hBl]; exact R.out
      have B3 := Lib.hid (below_up B.out bb)
      have e0 : w2.cell? ⟨W1.heap.size, d, none⟩ = some (.string ByteArray.empty) := by rw [row_cell R2.out, ← HDL.out]; exact Lib.cellsOf_next (by rw [HDL.out]; omega)
      have f0 : w2.frozen? ⟨W1.heap.size, d, none⟩ = false := row_thaw R2.out d
      clear bb CC
      go_wp2
      go_roundw
      case rel =>
        refine ⟨done ++ [s.extract p (p + K)], p + K, b', ?_, by rw [List.length_append, HDL.out]; go_num, HQ, HB2.out, HB3.out, by rw [List.length_append, HDL.out]; simp; omega, ?_, ?_⟩
        · exact congrArg Value.string (by rw [← hsz]; exact HY.out)
        · unfold Hid
          rw [row_set R2.out, HX.out, ← HDL.out, Lib.cellsOf_set (by rw [HDL.out]; omega)]
        · exact B3.out.setCell (p := ⟨W1.heap.size, d, none⟩) hb1 _
      case measure => simp [intOf]; omega
    · have hge : ¬ ((done.length : Int) < (N : Int) - 1) := by omega
      by_cases hz : N = 0
      · subst hz
        have hd0 : done = [] := List.eq_nil_of_length_eq_zero (by omega)
        subst hd0
        have hr0 : Hid (runesL s = []) := List.eq_nil_of_length_eq_zero HNN.out
        clear HP
        go_wp2
        go_ret
        exact ⟨_, rfl, ⟨by rw [hr0.out]; rfl, .inr ⟨W1.heap.size, 0, _, rfl, hb1, R.out, Nat.le_refl _, by unfold maxLen; omega, by simp [Lib.cellsOf], by rw [hr0.out]; rfl⟩⟩, B.out⟩
      · have hone : (runesF s b p).length = 1 := by omega
        have HO : Hid (runesL s = done ++ [s.extract p s.size]) := by unfold Hid; rw [← HP.out, runesF_one s b p hpb hone]
        obtain ⟨d, hd⟩ : ∃ d, done.length = d := ⟨_, rfl⟩
        rw [hd] at hlt hlen hge hdn ⊢
        have HDL := Lib.hid hd
        have hidx : (N : Int) - 1 = (d : Int) := by omega
        have hi0 : (0 : Int) ≤ (d : Int) := by omega
        have hi2 : (d : Int) < (N : Int) := by omega
        have hn0 : (0 : Int) < (N : Int) := by omega
        have e0 : wr.cell? ⟨W1.heap.size, d, none⟩ = some (.string ByteArray.empty) := by rw [row_cell R.out, ← HDL.out]; exact Lib.cellsOf_next (by rw [HDL.out]; omega)
        have f0 : wr.frozen? ⟨W1.heap.size, d, none⟩ = false := row_thaw R.out d
        obtain ⟨R0, hR0⟩ : ∃ R0, s.extract p s.size = R0 := ⟨_, rfl⟩
        rw [hR0] at HO ⊢
        clear HP hone hd hR0 hpb
        go_wp2
        go_ret
        have hNl : N = (done ++ [R0]).length := by rw [List.length_append, HDL.out]; simp; omega
        have hfull : (Lib.cellsOf done N).setIfInBounds d (.string R0) = ((done ++ [R0]).map Value.string).toArray := by
          rw [← HDL.out, Lib.cellsOf_set (by rw [HDL.out]; omega)]
          conv => lhs; rw [hNl]
          rw [Lib.cellsOf_full]
        refine ⟨_, rfl, ⟨by rw [HO.out, List.length_map]; omega, .inr ⟨W1.heap.size, N, _, rfl, hb1, row_set R.out d _, Nat.le_refl _, by unfold maxLen; omega, ?_, ?_⟩⟩, B.out.setCell (p := ⟨W1.heap.size, d, none⟩) hb1 _⟩
        · rw [hfull, List.size_toArray, List.length_map]; omega
        · rw [hfull, HO.out, List.take_of_length_le (by simp; simp at hNl; omega)]

set_option maxHeartbeats 1600000 in
/-- strings.Split(s, ""). -/
theorem splitAll (s : ByteArray) (w : World) (hs : s.size ≤ 1048576) (hT : Lib.Utf8Tabs 4 5 w) :
    Calls Tryd.prog 71 #[.string s, .string ⟨#[]⟩] w fun e w' => ∃ v, e = .returned v ∧ w'.ownsRow w.heap.size 9 1 v (runesL s).length ((runesL s).map Value.string) ∧ Below w.heap.size w w' := by
  have C := Lib.hid (explodeAll s w hs hT)
  have D : Hid (Calls Tryd.prog 94 #[.string s, .string ⟨#[]⟩, .int .i64 0, .int .i64 (-1)] w fun e w' => ∃ v, e = .returned v ∧ w'.ownsRow w.heap.size 9 1 v (runesL s).length ((runesL s).map Value.string) ∧ Below w.heap.size w w') := by
    have hse : (⟨#[]⟩ : ByteArray).toList.isEmpty = true := by kernel_rfl
    generalize (runesL s).map Value.string = l at C ⊢
    generalize (runesL s).length = n at C ⊢
    clear hT hs
    unfold Hid
    go_enter Tryd.func94, Tryd.ntmps94
    go_wp2_with fail
    refine C.out.mono ?_
    rintro e w1 ⟨v, rfl, o, b⟩
    have O := Lib.hid o
    have B := Lib.hid b
    have hf := ownsForm o
    clear o b
    obtain ⟨a, k, c, rfl⟩ := hf
    go_wp2
    go_ret
    exact ⟨_, rfl, O.out, B.out⟩
  generalize (runesL s).map Value.string = l at D ⊢
  generalize (runesL s).length = n at D ⊢
  clear hT hs C
  go_enter Tryd.func71, Tryd.ntmps71
  go_wp2_with fail
  refine D.out.mono ?_
  rintro e w1 ⟨v, rfl, o, b⟩
  have O := Lib.hid o
  have B := Lib.hid b
  have hf := ownsForm o
  clear o b
  obtain ⟨a, k, c, rfl⟩ := hf
  go_wp2
  go_ret
  exact ⟨_, rfl, O.out, B.out⟩
end Go.Proofs.YtlflblngbneacaaDoor
