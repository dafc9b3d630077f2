/- Several texts in one file; each says what it proves and under which condition. No condition. -/
import Derived.Test.YtlflblngbneacabGreatDoorGRun
import Derived.Test.YtlflblngbneacabGreatDoorShelf
import Derived.Test.YtlflblngbneacabGreatDoorFmtWeighSpec
import Derived.Test.YtlflblngbneacabGreatDoorGWei
import Derived.Lib.SplitLaws
import Derived.RangeFuncBox
import Derived.Test.YtlflblngbneacabGreatDoorSpell
import Derived.Test.YtlflblngbneacabGreatDoorGErr
import Derived.Test.YtlflblngbneacabGreatDoorGJn
import Derived.Test.YtlflblngbneacabGreatDoorBools
import Derived.Test.YtlflblngbneacabGreatDoorSignSpec
import Derived.BigQuiet
import Derived.Test.YtlflblngbneacabGreatDoorSignLaws
import Derived.Deep.RegionWith
/- The library's strings.explode and strings.Split with the empty separator, at every text: the text's pieces, one a rune, in a list of its own. Conditions: the text has at most 2^20 bytes; the library's two tables for runes hold what its text lays. -/
namespace Go.Proofs.YtlflblngbneacabGreatDoor
open Go.RowKit Go.Shelf

theorem whole_text (s : ByteArray) : s.extract 0 s.size = s := by
  apply bytes_eq
  rw [extract_list, List.drop_zero, Nat.sub_zero]
  exact List.take_of_length_le (by simp)
theorem row_set {w : World} {B : Nat} {cs : Array Value} {t : TypeId} {fz : Nat × Nat} (h : w.heap[B]? = some (.cells cs t fz)) (i : Nat) (v : Value) : (w.setCell ⟨B, i, none⟩ v).heap[B]? = some (.cells (cs.setIfInBounds i v) t fz) := by
  simp [World.setCell, Array.getElem?_modify, h]
theorem row_cell {w : World} {B : Nat} {cs : Array Value} {t : TypeId} {fz : Nat × Nat} (h : w.heap[B]? = some (.cells cs t fz)) (i : Nat) : w.cell? ⟨B, i, none⟩ = cs[i]? := by
  simp [World.cell?, h]
theorem row_thaw {w : World} {B : Nat} {cs : Array Value} {t : TypeId} (h : w.heap[B]? = some (.cells cs t (0, 0))) (i : Nat) : w.frozen? ⟨B, i, none⟩ = false := by
  simp [World.frozen?, h]
theorem heapLt {w : World} {k : Nat} {o : Obj} (h : w.heap[k]? = some o) : k < w.heap.size := by
  rcases Nat.lt_or_ge k w.heap.size with h' | h'
  · exact h'
  · rw [Array.getElem?_eq_none h'] at h; cases h
theorem utf8_below {w w' : World} (h : Lib.Utf8Tabs 7 8 w) (hb : Below w.heap.size w w') : Lib.Utf8Tabs 7 8 w' := by
  refine ⟨fun c hc => ?_, fun i hi => ⟨?_, ?_⟩⟩
  · have := h.1 c hc
    rw [hb.cell (p := ⟨7, c, none⟩) (World.block_lt_of_cell? w _ this)]; exact this
  · have := (h.2 i hi).1
    rw [hb.cell (p := ⟨8, 2 * i, none⟩) (World.block_lt_of_cell? w _ this)]; exact this
  · have := (h.2 i hi).2
    rw [hb.cell (p := ⟨8, 2 * i + 1, none⟩) (World.block_lt_of_cell? w _ this)]; exact this

theorem ownsLen {w : World} {B e s n : Nat} {v : Value} {xs : List Value} (h : w.ownsRow B e s v n xs) : ∃ a c, v = .slice a n c := by
  rcases h.2 with ⟨rfl, h0⟩ | ⟨g, cap, cur, rfl, _⟩
  · subst h0; exact ⟨_, _, rfl⟩
  · exact ⟨_, _, rfl⟩
theorem ownsForm {w : World} {B e s n : Nat} {v : Value} {xs : List Value} (h : w.ownsRow B e s v n xs) : ∃ a k c, v = .slice a k c := by
  rcases h.2 with ⟨rfl, -⟩ | ⟨g, cap, cur, rfl, _⟩
  · exact ⟨_, _, _, rfl⟩
  · exact ⟨_, _, _, rfl⟩

set_option maxHeartbeats 4000000 in
set_option maxRecDepth 100000 in
theorem explodeAll (s : ByteArray) (w : World) (hs : s.size ≤ 1048576) (hT : Lib.Utf8Tabs 7 8 w) :
    Calls Tryz.prog 169 #[.string s, .int .i64 (-1)] w fun e w' => ∃ v, e = .returned v ∧ w'.ownsRow w.heap.size 9 1 v (runesL s).length ((runesL s).map Value.string) ∧ Below w.heap.size w w' := by
  have HT := Lib.hid hT
  have HR := Lib.hid (Tryz.utf8_RuneCountInString s w (by omega))
  have hle := runesL_le s
  have HN : Hid (Lib.runeCount s = (runesL s).length) := (runesL_len s).symm
  rw [HN.out] at HR
  have HD := Lib.hid (fun t W h => Tryz.utf8_DecodeRuneInString t W h)
  obtain ⟨N, hN⟩ : ∃ N, (runesL s).length = N := ⟨_, rfl⟩
  rw [hN] at HR hle ⊢
  have HNN := Lib.hid hN
  have hmk := run_make_row' (P := Tryz.prog) 75 9 (.string ByteArray.empty) 16 Tryz.underlying75 infoStrF rfl .i64 .i64 N (by omega) (by omega)
  clear hT hN
  go_enter Tryz.func169, Tryz.ntmps169
  go_wp2_with fail
  refine HR.out.mono ?_
  rintro e w1 ⟨rfl, pos, rfl⟩
  have B1 : Hid (Below w.heap.size w (w.iter s pos)) := (Below.refl _ _).alloc (Nat.le_refl _) _
  obtain ⟨W1, hW1⟩ : ∃ W1 : World, w.iter s pos = W1 := ⟨_, rfl⟩
  rw [hW1] at B1 ⊢
  clear hW1 HR
  go_wp2
  rw [← Lib.cellsOf_nil]
  have hb1 : w.heap.size ≤ W1.heap.size := B1.out.size
  have R1 : Hid ((W1.alloc (.cells (Lib.cellsOf [] N) 9)).heap[W1.heap.size]? = some (.cells (Lib.cellsOf [] N) 9 (0, 0))) := World.alloc_heap_new W1 _
  have B2 := Lib.hid (B1.out.alloc hb1 (.cells (Lib.cellsOf [] N) 9))
  go_loopw [0, 7] (fun s0 s7 wr => ∃ (done : List ByteArray) (p b : Nat), s0 = .string (s.extract p s.size) ∧ s7 = .int .i64 done.length ∧ Hid (done ++ runesF s b p = runesL s) ∧ s.size ≤ p + b ∧ p ≤ s.size ∧ (done.length < N ∨ N = 0) ∧ Hid (wr.heap[W1.heap.size]? = some (.cells (Lib.cellsOf done N) 9 (0, 0))) ∧ Hid (Below w.heap.size w wr)) (fun _ s7 _ => N - (intOf s7).toNat)
  case atStart => exact ⟨[], 0, s.size, by rw [whole_text], rfl, rfl, by omega, by omega, by simp; omega, R1, B2⟩
  case round =>
    clear R1 B2
    obtain ⟨done, p, b, rfl, rfl, HP, hpb, hps, hdn, R, B⟩ := hrel
    have hlen : done.length + (runesF s b p).length = N := by
      have := congrArg List.length HP.out
      rw [List.length_append, HNN.out] at this
      exact this
    by_cases hlt : done.length + 1 < N
    · have hpl : p < s.size := runesF_two s b p (by omega)
      obtain ⟨b', hb', hst⟩ := runesF_in s b p hpb hpl
      have hw1 := wid_pos s p hpl
      have hw2 := wid_le s p hpl
      have HX := Lib.hid (head_rune s p hpl)
      have HY := Lib.hid (tail_rune s p hpl)
      have HW := Lib.hid (dec_tail s p hpl)
      have hsz : (s.extract p s.size).size = s.size - p := Lib.tail_size s p
      have HQ : Hid ((done ++ [s.extract p (p + widA s p)]) ++ runesF s b' (p + widA s p) = runesL s) := by unfold Hid; rw [List.append_assoc, List.singleton_append, ← hst]; exact HP.out
      have HB2 : Hid (s.size ≤ p + widA s p + b') := hb'
      have HB3 : Hid (p + widA s p ≤ s.size) := hw2
      obtain ⟨K, hK⟩ : ∃ K, widA s p = K := ⟨_, rfl⟩
      rw [hK] at hw1 hw2 HX HY HW HQ HB2 HB3
      obtain ⟨R0, hR0⟩ : ∃ R0, s.extract p s.size = R0 := ⟨_, rfl⟩
      rw [hR0] at hsz HX HY HW ⊢
      obtain ⟨d, hd⟩ : ∃ d, done.length = d := ⟨_, rfl⟩
      rw [hd] at hlt hlen ⊢
      have HDL := Lib.hid hd
      have hi1 : (d : Int) < (N : Int) - 1 := by omega
      have hi0 : (0 : Int) ≤ (d : Int) := by omega
      have hi2 : (d : Int) < (N : Int) := by omega
      have k0 : (0 : Int) ≤ (K : Int) := by omega
      have k1 : (K : Int) ≤ (R0.size : Int) := by omega
      have CC := Lib.hid (HD.out R0 wr (utf8_below HT.out B.out))
      rw [HW.out] at CC
      clear hst hb' hK hR0 hd hw2 hpb hdn HP HW
      go_wp2_with fail
      refine CC.out.mono ?_
      rintro e w2 ⟨rfl, bb⟩
      have hBl : W1.heap.size < wr.heap.size := heapLt R.out
      have R2 : Hid (w2.heap[W1.heap.size]? = some (.cells (Lib.cellsOf done N) 9 (0, 0))) := by unfold Hid; rw [bb.block _ hBl]; exact R.out
      have B3 := Lib.hid (below_up B.out bb)
      have e0 : w2.cell? ⟨W1.heap.size, d, none⟩ = some (.string ByteArray.empty) := by rw [row_cell R2.out, ← HDL.out]; exact Lib.cellsOf_next (by rw [HDL.out]; omega)
      have f0 : w2.frozen? ⟨W1.heap.size, d, none⟩ = false := row_thaw R2.out d
      clear bb CC
      go_wp2
      go_roundw
      case rel =>
        refine ⟨done ++ [s.extract p (p + K)], p + K, b', ?_, by rw [List.length_append, HDL.out]; go_num, HQ, HB2.out, HB3.out, by rw [List.length_append, HDL.out]; simp; omega, ?_, ?_⟩
        · exact congrArg Value.string (by rw [← hsz]; exact HY.out)
        · unfold Hid
          rw [row_set R2.out, HX.out, ← HDL.out, Lib.cellsOf_set (by rw [HDL.out]; omega)]
        · exact B3.out.setCell (p := ⟨W1.heap.size, d, none⟩) hb1 _
      case measure => simp [intOf]; omega
    · have hge : ¬ ((done.length : Int) < (N : Int) - 1) := by omega
      by_cases hz : N = 0
      · subst hz
        have hd0 : done = [] := List.eq_nil_of_length_eq_zero (by omega)
        subst hd0
        have hr0 : Hid (runesL s = []) := List.eq_nil_of_length_eq_zero HNN.out
        clear HP
        go_wp2
        go_ret
        exact ⟨_, rfl, ⟨by rw [hr0.out]; rfl, .inr ⟨W1.heap.size, 0, _, rfl, hb1, R.out, Nat.le_refl _, by unfold maxLen; omega, by simp [Lib.cellsOf], by rw [hr0.out]; rfl⟩⟩, B.out⟩
      · have hone : (runesF s b p).length = 1 := by omega
        have HO : Hid (runesL s = done ++ [s.extract p s.size]) := by unfold Hid; rw [← HP.out, runesF_one s b p hpb hone]
        obtain ⟨d, hd⟩ : ∃ d, done.length = d := ⟨_, rfl⟩
        rw [hd] at hlt hlen hge hdn ⊢
        have HDL := Lib.hid hd
        have hidx : (N : Int) - 1 = (d : Int) := by omega
        have hi0 : (0 : Int) ≤ (d : Int) := by omega
        have hi2 : (d : Int) < (N : Int) := by omega
        have hn0 : (0 : Int) < (N : Int) := by omega
        have e0 : wr.cell? ⟨W1.heap.size, d, none⟩ = some (.string ByteArray.empty) := by rw [row_cell R.out, ← HDL.out]; exact Lib.cellsOf_next (by rw [HDL.out]; omega)
        have f0 : wr.frozen? ⟨W1.heap.size, d, none⟩ = false := row_thaw R.out d
        obtain ⟨R0, hR0⟩ : ∃ R0, s.extract p s.size = R0 := ⟨_, rfl⟩
        rw [hR0] at HO ⊢
        clear HP hone hd hR0 hpb
        go_wp2
        go_ret
        have hNl : N = (done ++ [R0]).length := by rw [List.length_append, HDL.out]; simp; omega
        have hfull : (Lib.cellsOf done N).setIfInBounds d (.string R0) = ((done ++ [R0]).map Value.string).toArray := by
          rw [← HDL.out, Lib.cellsOf_set (by rw [HDL.out]; omega)]
          conv => lhs; rw [hNl]
          rw [Lib.cellsOf_full]
        refine ⟨_, rfl, ⟨by rw [HO.out, List.length_map]; omega, .inr ⟨W1.heap.size, N, _, rfl, hb1, row_set R.out d _, Nat.le_refl _, by unfold maxLen; omega, ?_, ?_⟩⟩, B.out.setCell (p := ⟨W1.heap.size, d, none⟩) hb1 _⟩
        · rw [hfull, List.size_toArray, List.length_map]; omega
        · rw [hfull, HO.out, List.take_of_length_le (by simp; simp at hNl; omega)]

set_option maxHeartbeats 1600000 in
/-- strings.Split(s, ""). -/
theorem splitAll (s : ByteArray) (w : World) (hs : s.size ≤ 1048576) (hT : Lib.Utf8Tabs 7 8 w) :
    Calls Tryz.prog 104 #[.string s, .string ⟨#[]⟩] w fun e w' => ∃ v, e = .returned v ∧ w'.ownsRow w.heap.size 9 1 v (runesL s).length ((runesL s).map Value.string) ∧ Below w.heap.size w w' := by
  have C := Lib.hid (explodeAll s w hs hT)
  have D : Hid (Calls Tryz.prog 139 #[.string s, .string ⟨#[]⟩, .int .i64 0, .int .i64 (-1)] w fun e w' => ∃ v, e = .returned v ∧ w'.ownsRow w.heap.size 9 1 v (runesL s).length ((runesL s).map Value.string) ∧ Below w.heap.size w w') := by
    have hse : (⟨#[]⟩ : ByteArray).toList.isEmpty = true := by kernel_rfl
    generalize (runesL s).map Value.string = l at C ⊢
    generalize (runesL s).length = n at C ⊢
    clear hT hs
    unfold Hid
    go_enter Tryz.func139, Tryz.ntmps139
    go_wp2_with fail
    refine C.out.mono ?_
    rintro e w1 ⟨v, rfl, o, b⟩
    have O := Lib.hid o
    have B := Lib.hid b
    have hf := ownsForm o
    clear o b
    obtain ⟨a, k, c, rfl⟩ := hf
    go_wp2
    go_ret
    exact ⟨_, rfl, O.out, B.out⟩
  generalize (runesL s).map Value.string = l at D ⊢
  generalize (runesL s).length = n at D ⊢
  clear hT hs C
  go_enter Tryz.func104, Tryz.ntmps104
  go_wp2_with fail
  refine D.out.mono ?_
  rintro e w1 ⟨v, rfl, o, b⟩
  have O := Lib.hid o
  have B := Lib.hid b
  have hf := ownsForm o
  clear o b
  obtain ⟨a, k, c, rfl⟩ := hf
  go_wp2
  go_ret
  exact ⟨_, rfl, O.out, B.out⟩
end Go.Proofs.YtlflblngbneacabGreatDoor

/- The contracts of the program's valueOf, readEach, read, ReadSigns and ReadResults. Conditions: the text has at most 2^20 bytes; the variables that the code reads hold what the program's text and the library's lay. -/
namespace Go.Proofs.YtlflblngbneacabGreatDoor
open Go.RowKit Go.Shelf

def ErrsOk (w : World) : Prop := ∃ a b, ErrsAt w a b
/-- The sentinel errUnknown lies at b. -/
def UnknownAt (w : World) (b : Addr) : Prop := w.cell? ⟨1, 0, none⟩ = some (.iface 292 (.pointer (some b)))
theorem UnknownAt.below {w w' : World} {b : Addr} (h : UnknownAt w b) (hb : Below w.heap.size w w') : UnknownAt w' b := by
  unfold UnknownAt
  rw [hb.cell (p := ⟨1, 0, none⟩) (World.block_lt_of_cell? w _ h)]
  exact h
theorem UnknownAt.drewN {w : World} {b : Addr} (h : UnknownAt w b) (n : Nat) : UnknownAt (w.drewN n) b := h
theorem index_none (m : List UInt8) (a : UInt8) (h : a ∉ m) : Lib.index m [a] = -1 := by
  induction m with
  | nil => rfl
  | cons x r ih =>
    rw [index_one]
    simp only [List.mem_cons, not_or] at h
    have hx : (a == x) = false := beq_false_of_ne h.1
    simp [hx, ih h.2]

/-! ### int -/
theorem sgn_idx (x : ByteArray) (h : PieceOk x) : (x = ⟨#[60]⟩ ∧ Lib.index [60, 61, 62] x.data.toList = 0) ∨ (x = ⟨#[61]⟩ ∧ Lib.index [60, 61, 62] x.data.toList = 1) ∨ (x = ⟨#[62]⟩ ∧ Lib.index [60, 61, 62] x.data.toList = 2) ∨ (isSgn x = false ∧ Lib.index [60, 61, 62] x.data.toList = -1) := by
  rcases h with ⟨a, rfl⟩ | ⟨a, l, e, ha⟩
  · by_cases h0 : a = 60
    · left; subst h0; exact ⟨rfl, by decide⟩
    by_cases h1 : a = 61
    · right; left; subst h1; exact ⟨rfl, by decide⟩
    by_cases h2 : a = 62
    · right; right; left; subst h2; exact ⟨rfl, by decide⟩
    right; right; right; 
    refine ⟨?_, ?_⟩
    · unfold isSgn
      rw [decide_eq_false_iff_not]
      rintro ⟨c, hc, e2⟩
      have := oneB_inj e2
      subst this
      simp [sgnM, h0, h1, h2] at hc
    · exact index_none _ _ (by simp [h0, h1, h2])
  · right; right; right; 
    refine ⟨?_, ?_⟩
    · unfold isSgn
      rw [decide_eq_false_iff_not]
      rintro ⟨c, hc, e2⟩
      have this : x.data.toList = [c] := by rw [e2]; rfl
      rw [e] at this
      simp only [List.cons.injEq] at this
      obtain ⟨rfl, -⟩ := this
      have hs : ∀ c ∈ sgnM, c.toNat < 128 := by decide
      have := hs _ hc
      omega
    · rw [e]
      exact index_high _ (by decide) _ _ ha

set_option maxHeartbeats 3200000 in
theorem implValueI (x : ByteArray) (hx : PieceOk x) (v : Value) (w : World) (h : SpellI w v) (hm : MaxOk w) : Calls Tryz.prog 105 #[v, .string x] w fun e w' => e = .returned (.tuple #[.int .i64 (if isSgn x = true then sgnV x else 0), .bool (isSgn x)]) ∧ Below w.heap.size w w' := by
  have B1 := Lib.hid (alloc_below w (.cells v.cells 97))
  have h' := h.below B1.out
  obtain ⟨m, hm'⟩ := hm.below B1.out
  obtain ⟨b, rfl, h0, h1, h2⟩ := h'
  have C := Tryz.strings_Index ⟨#[60, 61, 62]⟩ x m _ (by decide) hm'
  clear h hm hm'
  have h0 : (w.alloc (.cells #[.slice (some ⟨b, 0, none⟩) 3 3, .string ⟨#[60, 61, 62]⟩] 97)).cell? ⟨b, 0, none⟩ = some (.int .i64 (-1)) := h0
  have h1 : (w.alloc (.cells #[.slice (some ⟨b, 0, none⟩) 3 3, .string ⟨#[60, 61, 62]⟩] 97)).cell? ⟨b, 1, none⟩ = some (.int .i64 (0)) := h1
  have h2 : (w.alloc (.cells #[.slice (some ⟨b, 0, none⟩) 3 3, .string ⟨#[60, 61, 62]⟩] 97)).cell? ⟨b, 2, none⟩ = some (.int .i64 (1)) := h2
  have hIX := sgn_idx x hx
  clear hx
  rcases hIX with ⟨rfl, hidx⟩ | ⟨rfl, hidx⟩ | ⟨rfl, hidx⟩ | ⟨hi, hidx⟩
  · have hr : sgnV ⟨#[60]⟩ = -1 := by decide
    have hi : isSgn ⟨#[60]⟩ = true := by decide
    rw [hidx] at C
    have C := Lib.hid C
    rw [hi, if_pos rfl, hr]
    go_enter Tryz.func105, Tryz.ntmps105
    go_wp2_with fail
    refine C.out.mono ?_
    rintro e w1 ⟨rfl, rfl⟩
    go_wp2
    go_ret2
    exact ⟨rfl, B1.out⟩
  · have hr : sgnV ⟨#[61]⟩ = 0 := by decide
    have hi : isSgn ⟨#[61]⟩ = true := by decide
    rw [hidx] at C
    have C := Lib.hid C
    rw [hi, if_pos rfl, hr]
    go_enter Tryz.func105, Tryz.ntmps105
    go_wp2_with fail
    refine C.out.mono ?_
    rintro e w1 ⟨rfl, rfl⟩
    go_wp2
    go_ret2
    exact ⟨rfl, B1.out⟩
  · have hr : sgnV ⟨#[62]⟩ = 1 := by decide
    have hi : isSgn ⟨#[62]⟩ = true := by decide
    rw [hidx] at C
    have C := Lib.hid C
    rw [hi, if_pos rfl, hr]
    go_enter Tryz.func105, Tryz.ntmps105
    go_wp2_with fail
    refine C.out.mono ?_
    rintro e w1 ⟨rfl, rfl⟩
    go_wp2
    go_ret2
    exact ⟨rfl, B1.out⟩
  · rw [hidx] at C
    have C := Lib.hid C
    rw [hi, if_neg (by simp)]
    clear hi hidx
    go_enter Tryz.func105, Tryz.ntmps105
    go_wp2_with fail
    refine C.out.mono ?_
    rintro e w1 ⟨rfl, rfl⟩
    go_wp2
    go_ret2
    exact ⟨rfl, B1.out⟩

set_option maxRecDepth 100000 in
set_option maxHeartbeats 3200000 in
theorem implReadI (F : FuncId) (HE : Enters F) (bnd cap : Array Value) (v : Value) (ts : List ByteArray) (val : ByteArray → Int) (ok : ByteArray → Bool) (w : World) (hv : ∃ a c, v = .slice a ts.length c) (hm : ts.length ≤ 1048577)
    (hx : ∀ i (h : i < ts.length), ElemAt w v i (.string ts[i]))
    (HC : ∀ i (h : i < ts.length) V, Below w.heap.size w V → Calls Tryz.prog F (bnd.push (.string ts[i]) ++ cap) V fun e w' => e = .returned (.tuple #[.int .i64 (val ts[i]), .bool (ok ts[i])]) ∧ Below V.heap.size V w') (b : Addr) (hu : UnknownAt w b) :
    Calls Tryz.prog 83 #[v, .func (.func F) bnd cap] w fun e w' => ∃ u er, e = .returned (.tuple #[u, er]) ∧ Below w.heap.size w w' ∧
      ((er = .nilIface ∧ 0 < ts.length ∧ ts.all ok = true ∧ Own w' w.heap.size u (ts.map val)) ∨ (∃ s, er = emptyErr s b ∧ u = .slice none 0 0 ∧ (ts.length = 0 ∨ ts.all ok = false))) := by
  obtain ⟨i0, hi, hz0, hz1, hz2⟩ := info_parts infoIntA
  obtain ⟨a, c, rfl⟩ := hv
  have HX := Lib.hid hx
  have HH := Lib.hid HC
  have HU := Lib.hid hu
  have HE' : ∀ args w, (callFunc F args).run Tryz.prog w = .ok (.enter F args) w := HE
  clear hx HC HE hu
  obtain ⟨n, hn⟩ : ∃ n, ts.length = n := ⟨_, rfl⟩
  have HN := Lib.hid hn
  rw [hn] at hm ⊢
  clear hn
  by_cases h0 : n = 0
  · subst h0
    have e0 : w.cell? ⟨1, 0, none⟩ = some (.iface 292 (.pointer (some b))) := HU.out
    go_enter Tryz.func83, Tryz.ntmps83
    go_wp2_with fail
    go_quiet (fail)
    all_goals (go_wp2; go_ret2; exact ⟨_, _, rfl, below_drewN (Below.refl _ _) _, .inr ⟨⟨#[]⟩, rfl, rfl, .inl (by trivial)⟩⟩)
  have hnz : ((n : Int) == 0) = false := beq_eq_false_iff_ne.2 (by omega)
  go_enter Tryz.func83, Tryz.ntmps83
  go_wp2
  go_loopw [6, 19] (fun ov iv wr => ∃ i : Nat, i ≤ n ∧ iv = .int .i64 i ∧ Hid (Own wr w.heap.size ov ((ts.take i).map val)) ∧ Hid ((ts.take i).all ok = true) ∧ Hid (Below w.heap.size w wr)) (fun _ iv _ => n - (intOf iv).toNat)
  case atStart => exact ⟨0, Nat.zero_le _, rfl, World.ownsRow_nil _ _ _ _, rfl, Lib.hid (Below.refl _ _)⟩
  case round =>
    obtain ⟨i, hi2, rfl, O2, A2, B2⟩ := hrel
    by_cases hlt : i < n
    · have hil : i < ts.length := by rw [HN.out]; exact hlt
      obtain ⟨bk, o, nn, cc, hvv, hin, ec⟩ := (HX.out i hil).below B2.out
      cases hvv
      have CC := Lib.hid (HH.out i hil wr B2.out)
      have HS : Hid ((ts.take i).map val ++ [val ts[i]] = (ts.take (i + 1)).map val) := by unfold Hid; rw [List.take_succ_eq_append_getElem hil, List.map_append]; rfl
      have HA : Hid ((ts.take (i + 1)).all ok = ok ts[i]) := by unfold Hid; rw [List.take_succ_eq_append_getElem hil, List.all_append, A2.out]; simp
      have HM : Hid (ok ts[i] = false → ts.all ok = false) := fun h => by
        rw [List.all_eq_false]
        exact ⟨ts[i], List.getElem_mem hil, by simp [h]⟩
      have hlen : ((ts.take i).map val).length = i := by rw [List.length_map, List.length_take]; omega
      obtain ⟨x, hx⟩ : ∃ x, ts[i] = x := ⟨_, rfl⟩
      rw [hx] at CC HS HA HM ec
      obtain ⟨z, hz⟩ : ∃ z, val x = z := ⟨_, rfl⟩
      rw [hz] at CC HS
      obtain ⟨k, hk⟩ : ∃ k, ok x = k := ⟨_, rfl⟩
      rw [hk] at CC HA HM
      have O3 := Lib.hid O2.out
      obtain ⟨ga, ka, ca, rfl⟩ := ownsForm O2.out
      generalize (ts.take i).map val = L at O3 HS hlen
      have j0 : (0 : Int) ≤ (i : Int) := by omega
      have j1 : (i : Int) < (n : Int) := by omega
      clear hx hz hk hil hin O2
      have HU2 := Lib.hid HU.out
      go_wp2_with fail
      refine CC.out.mono ?_
      rintro e w1 ⟨rfl, bb⟩
      have B4 := Lib.hid (below_up B2.out bb)
      have O4 : Hid (Own w1 w.heap.size (.slice ga ka ca) L) := owns_below O3.out bb
      have e0 : w1.cell? ⟨1, 0, none⟩ = some (.iface 292 (.pointer (some b))) := HU2.out.below B4.out
      have hbs : w.heap.size ≤ w1.heap.size := B4.out.size
      clear bb CC
      cases k with
      | false =>
        go_wp2_with fail
        go_quiet (fail)
        all_goals (go_wp2; go_ret2; exact ⟨_, _, rfl, below_drewN B4.out _, .inr ⟨x, rfl, rfl, .inr (HM.out (by trivial))⟩⟩)
      | true =>
        have hown := O4.out
        unfold Own at hown
        go_wp2_with (at_builtin; refine wpList_append_own _ rfl _ _ 26 rfl w.heap.size 3 i0 (.int .i64 0) 1 8 Tryz.underlying26 hi hz0 hz1 hz2 rfl (by decide) _ _ _ rfl (hown.alloc _) ⟨w1.heap.size, 0, none⟩ 1 1 [.int .i64 z] rfl rfl (cell_one_new _ _ _) (by simp [Value.oneCell']) (by unfold maxLen; omega) (by omega) (by simp; omega) ?_; intro v' w2 hown' hg1 _)
        have hb2 := Below.grown (B4.out.alloc hbs _) hg1 (by simp; omega) (fun j hj => (hown.lt j hj).1)
        go_wp2
        go_roundw
        case rel =>
          refine ⟨i + 1, by omega, by go_num, ?_, HA.out, Lib.hid hb2⟩
          unfold Hid Own
          rw [← HS.out]
          simpa using hown'
        case measure => simp [intOf]; omega
    · obtain rfl : i = n := by omega
      have HO := O2.out
      have HA := A2.out
      rw [List.take_of_length_le (by rw [HN.out]; omega)] at HO HA
      have HO := Lib.hid HO
      obtain ⟨ga, ka, ca, rfl⟩ := ownsForm HO.out
      clear O2
      go_wp2
      go_ret2
      exact ⟨_, _, rfl, B2.out, .inl ⟨rfl, by omega, HA, HO.out⟩⟩

/-! ### bool -/
theorem res_idx (x : ByteArray) (h : PieceOk x) : (x = ⟨#[43]⟩ ∧ Lib.index [43, 46] x.data.toList = 0) ∨ (x = ⟨#[46]⟩ ∧ Lib.index [43, 46] x.data.toList = 1) ∨ (isRes x = false ∧ Lib.index [43, 46] x.data.toList = -1) := by
  rcases h with ⟨a, rfl⟩ | ⟨a, l, e, ha⟩
  · by_cases h0 : a = 43
    · left; subst h0; exact ⟨rfl, by decide⟩
    by_cases h1 : a = 46
    · right; left; subst h1; exact ⟨rfl, by decide⟩
    right; right; 
    refine ⟨?_, ?_⟩
    · unfold isRes
      rw [decide_eq_false_iff_not]
      rintro ⟨c, hc, e2⟩
      have := oneB_inj e2
      subst this
      simp [resM, h0, h1] at hc
    · exact index_none _ _ (by simp [h0, h1])
  · right; right; 
    refine ⟨?_, ?_⟩
    · unfold isRes
      rw [decide_eq_false_iff_not]
      rintro ⟨c, hc, e2⟩
      have this : x.data.toList = [c] := by rw [e2]; rfl
      rw [e] at this
      simp only [List.cons.injEq] at this
      obtain ⟨rfl, -⟩ := this
      have hs : ∀ c ∈ resM, c.toNat < 128 := by decide
      have := hs _ hc
      omega
    · rw [e]
      exact index_high _ (by decide) _ _ ha

set_option maxHeartbeats 3200000 in
theorem implValueB (x : ByteArray) (hx : PieceOk x) (v : Value) (w : World) (h : SpellB w v) (hm : MaxOk w) : Calls Tryz.prog 109 #[v, .string x] w fun e w' => e = .returned (.tuple #[.bool (if isRes x = true then resV x else false), .bool (isRes x)]) ∧ Below w.heap.size w w' := by
  have B1 := Lib.hid (alloc_below w (.cells v.cells 105))
  have h' := h.below B1.out
  obtain ⟨m, hm'⟩ := hm.below B1.out
  obtain ⟨b, rfl, h0, h1⟩ := h'
  have C := Tryz.strings_Index ⟨#[43, 46]⟩ x m _ (by decide) hm'
  clear h hm hm'
  have h0 : (w.alloc (.cells #[.slice (some ⟨b, 0, none⟩) 2 2, .string ⟨#[43, 46]⟩] 105)).cell? ⟨b, 0, none⟩ = some (.bool true) := h0
  have h1 : (w.alloc (.cells #[.slice (some ⟨b, 0, none⟩) 2 2, .string ⟨#[43, 46]⟩] 105)).cell? ⟨b, 1, none⟩ = some (.bool false) := h1
  have hIX := res_idx x hx
  clear hx
  rcases hIX with ⟨rfl, hidx⟩ | ⟨rfl, hidx⟩ | ⟨hi, hidx⟩
  · have hr : resV ⟨#[43]⟩ = true := by decide
    have hi : isRes ⟨#[43]⟩ = true := by decide
    rw [hidx] at C
    have C := Lib.hid C
    rw [hi, if_pos rfl, hr]
    go_enter Tryz.func109, Tryz.ntmps109
    go_wp2_with fail
    refine C.out.mono ?_
    rintro e w1 ⟨rfl, rfl⟩
    go_wp2
    go_ret2
    exact ⟨rfl, B1.out⟩
  · have hr : resV ⟨#[46]⟩ = false := by decide
    have hi : isRes ⟨#[46]⟩ = true := by decide
    rw [hidx] at C
    have C := Lib.hid C
    rw [hi, if_pos rfl, hr]
    go_enter Tryz.func109, Tryz.ntmps109
    go_wp2_with fail
    refine C.out.mono ?_
    rintro e w1 ⟨rfl, rfl⟩
    go_wp2
    go_ret2
    exact ⟨rfl, B1.out⟩
  · rw [hidx] at C
    have C := Lib.hid C
    rw [hi, if_neg (by simp)]
    clear hi hidx
    go_enter Tryz.func109, Tryz.ntmps109
    go_wp2_with fail
    refine C.out.mono ?_
    rintro e w1 ⟨rfl, rfl⟩
    go_wp2
    go_ret2
    exact ⟨rfl, B1.out⟩

set_option maxRecDepth 100000 in
set_option maxHeartbeats 3200000 in
theorem implReadB (F : FuncId) (HE : Enters F) (bnd cap : Array Value) (v : Value) (ts : List ByteArray) (val : ByteArray → Bool) (ok : ByteArray → Bool) (w : World) (hv : ∃ a c, v = .slice a ts.length c) (hm : ts.length ≤ 1048577)
    (hx : ∀ i (h : i < ts.length), ElemAt w v i (.string ts[i]))
    (HC : ∀ i (h : i < ts.length) V, Below w.heap.size w V → Calls Tryz.prog F (bnd.push (.string ts[i]) ++ cap) V fun e w' => e = .returned (.tuple #[.bool (val ts[i]), .bool (ok ts[i])]) ∧ Below V.heap.size V w') (b : Addr) (hu : UnknownAt w b) :
    Calls Tryz.prog 108 #[v, .func (.func F) bnd cap] w fun e w' => ∃ u er, e = .returned (.tuple #[u, er]) ∧ Below w.heap.size w w' ∧
      ((er = .nilIface ∧ 0 < ts.length ∧ ts.all ok = true ∧ OwnB w' w.heap.size u (ts.map val)) ∨ (∃ s, er = emptyErr s b ∧ u = .slice none 0 0 ∧ (ts.length = 0 ∨ ts.all ok = false))) := by
  obtain ⟨i0, hi, hz0, hz1, hz2⟩ := info_parts infoBoolA
  obtain ⟨a, c, rfl⟩ := hv
  have HX := Lib.hid hx
  have HH := Lib.hid HC
  have HU := Lib.hid hu
  have HE' : ∀ args w, (callFunc F args).run Tryz.prog w = .ok (.enter F args) w := HE
  clear hx HC HE hu
  obtain ⟨n, hn⟩ : ∃ n, ts.length = n := ⟨_, rfl⟩
  have HN := Lib.hid hn
  rw [hn] at hm ⊢
  clear hn
  by_cases h0 : n = 0
  · subst h0
    have e0 : w.cell? ⟨1, 0, none⟩ = some (.iface 292 (.pointer (some b))) := HU.out
    go_enter Tryz.func108, Tryz.ntmps108
    go_wp2_with fail
    go_quiet (fail)
    all_goals (go_wp2; go_ret2; exact ⟨_, _, rfl, below_drewN (Below.refl _ _) _, .inr ⟨⟨#[]⟩, rfl, rfl, .inl (by trivial)⟩⟩)
  have hnz : ((n : Int) == 0) = false := beq_eq_false_iff_ne.2 (by omega)
  go_enter Tryz.func108, Tryz.ntmps108
  go_wp2
  go_loopw [6, 19] (fun ov iv wr => ∃ i : Nat, i ≤ n ∧ iv = .int .i64 i ∧ Hid (OwnB wr w.heap.size ov ((ts.take i).map val)) ∧ Hid ((ts.take i).all ok = true) ∧ Hid (Below w.heap.size w wr)) (fun _ iv _ => n - (intOf iv).toNat)
  case atStart => exact ⟨0, Nat.zero_le _, rfl, World.ownsRow_nil _ _ _ _, rfl, Lib.hid (Below.refl _ _)⟩
  case round =>
    obtain ⟨i, hi2, rfl, O2, A2, B2⟩ := hrel
    by_cases hlt : i < n
    · have hil : i < ts.length := by rw [HN.out]; exact hlt
      obtain ⟨bk, o, nn, cc, hvv, hin, ec⟩ := (HX.out i hil).below B2.out
      cases hvv
      have CC := Lib.hid (HH.out i hil wr B2.out)
      have HS : Hid ((ts.take i).map val ++ [val ts[i]] = (ts.take (i + 1)).map val) := by unfold Hid; rw [List.take_succ_eq_append_getElem hil, List.map_append]; rfl
      have HA : Hid ((ts.take (i + 1)).all ok = ok ts[i]) := by unfold Hid; rw [List.take_succ_eq_append_getElem hil, List.all_append, A2.out]; simp
      have HM : Hid (ok ts[i] = false → ts.all ok = false) := fun h => by
        rw [List.all_eq_false]
        exact ⟨ts[i], List.getElem_mem hil, by simp [h]⟩
      have hlen : ((ts.take i).map val).length = i := by rw [List.length_map, List.length_take]; omega
      obtain ⟨x, hx⟩ : ∃ x, ts[i] = x := ⟨_, rfl⟩
      rw [hx] at CC HS HA HM ec
      obtain ⟨z, hz⟩ : ∃ z, val x = z := ⟨_, rfl⟩
      rw [hz] at CC HS
      obtain ⟨k, hk⟩ : ∃ k, ok x = k := ⟨_, rfl⟩
      rw [hk] at CC HA HM
      have O3 := Lib.hid O2.out
      obtain ⟨ga, ka, ca, rfl⟩ := ownsForm O2.out
      generalize (ts.take i).map val = L at O3 HS hlen
      have j0 : (0 : Int) ≤ (i : Int) := by omega
      have j1 : (i : Int) < (n : Int) := by omega
      clear hx hz hk hil hin O2
      have HU2 := Lib.hid HU.out
      go_wp2_with fail
      refine CC.out.mono ?_
      rintro e w1 ⟨rfl, bb⟩
      have B4 := Lib.hid (below_up B2.out bb)
      have O4 : Hid (OwnB w1 w.heap.size (.slice ga ka ca) L) := owns_below O3.out bb
      have e0 : w1.cell? ⟨1, 0, none⟩ = some (.iface 292 (.pointer (some b))) := HU2.out.below B4.out
      have hbs : w.heap.size ≤ w1.heap.size := B4.out.size
      clear bb CC
      cases k with
      | false =>
        go_wp2_with fail
        go_quiet (fail)
        all_goals (go_wp2; go_ret2; exact ⟨_, _, rfl, below_drewN B4.out _, .inr ⟨x, rfl, rfl, .inr (HM.out (by trivial))⟩⟩)
      | true =>
        have hown := O4.out
        unfold OwnB at hown
        go_wp2_with (at_builtin; refine wpList_append_own _ rfl _ _ 43 rfl w.heap.size 4 i0 (.bool false) 1 1 Tryz.underlying43 hi hz0 hz1 hz2 rfl (by decide) _ _ _ rfl (hown.alloc _) ⟨w1.heap.size, 0, none⟩ 1 1 [.bool z] rfl rfl (cell_one_new _ _ _) (by simp [Value.oneCell']) (by unfold maxLen; omega) (by omega) (by simp; omega) ?_; intro v' w2 hown' hg1 _)
        have hb2 := Below.grown (B4.out.alloc hbs _) hg1 (by simp; omega) (fun j hj => (hown.lt j hj).1)
        go_wp2
        go_roundw
        case rel =>
          refine ⟨i + 1, by omega, by go_num, ?_, HA.out, Lib.hid hb2⟩
          unfold Hid OwnB
          rw [← HS.out]
          simpa using hown'
        case measure => simp [intOf]; omega
    · obtain rfl : i = n := by omega
      have HO := O2.out
      have HA := A2.out
      rw [List.take_of_length_le (by rw [HN.out]; omega)] at HO HA
      have HO := Lib.hid HO
      obtain ⟨ga, ka, ca, rfl⟩ := ownsForm HO.out
      clear O2
      go_wp2
      go_ret2
      exact ⟨_, _, rfl, B2.out, .inl ⟨rfl, by omega, HA, HO.out⟩⟩
end Go.Proofs.YtlflblngbneacabGreatDoor

/- The contracts of the program's (spelling).read, ReadSigns and ReadResults, and the walks through their exact laws. Conditions: the text has at most 2^20 bytes; the variables that the code reads hold what the program's text and the library's lay. -/
namespace Go.Proofs.YtlflblngbneacabGreatDoor
open Go.RowKit Go.Shelf

theorem unknownAt {w : World} {a b : Addr} (h : ErrsAt w a b) : UnknownAt w b := h.u
theorem elem_rows {w : World} {B e : Nat} {v : Value} {n : Nat} {ts : List ByteArray} (h : w.ownsRow B e 1 v n (ts.map Value.string)) (hn : ts.length = n) (i : Nat) (hi : i < ts.length) : ElemAt w v i (.string ts[i]) := by
  rcases h.2 with ⟨_, hz⟩ | ⟨g, cap, cur, rfl, _, _, hcap, _, _, _⟩
  · omega
  · exact ⟨g, 0, n, cap, rfl, by omega, by rw [Nat.zero_add, h.cellAt i (by omega), List.getElem?_map, List.getElem?_eq_getElem hi]; rfl⟩
theorem rows_lower {w : World} {B B' e s n : Nat} {v : Value} {xs : List Value} (h : w.ownsRow B e s v n xs) (hb : B' ≤ B) : w.ownsRow B' e s v n xs := by
  refine ⟨h.1, ?_⟩
  rcases h.2 with h | ⟨g, cap, cur, hv, hg, r⟩
  · exact .inl h
  · exact .inr ⟨g, cap, cur, hv, Nat.le_trans hb hg, r⟩
theorem runesL_pos (t : ByteArray) (h : 0 < t.size) : 0 < (runesL t).length := by
  obtain ⟨g, -, e⟩ := runesF_in t t.size 0 (by omega) h
  unfold runesL
  rw [e]
  exact Nat.succ_pos _
theorem dash_eq {t : ByteArray} : isDash t = true ↔ t = ⟨#[45]⟩ := by
  constructor
  · intro h
    apply bytes_eq
    unfold isDash at h
    rw [beq_iff_eq, toList_data'] at h
    rw [h]
  · intro h; subst h; kernel_rfl

/-! ### int -/
theorem val_mapI (ts : List ByteArray) (h : ts.all isSgn = true) : ts.map (fun x => if isSgn x = true then sgnV x else 0) = ts.map sgnV := by
  apply List.map_congr_left
  intro x hx
  rw [if_pos (List.all_eq_true.1 h x hx)]

set_option maxRecDepth 100000 in
set_option maxHeartbeats 3200000 in
/-- read, at a text that is not '-'. -/
theorem implReadTI (t : ByteArray) (hd : isDash t = false) (ht : t.size ≤ 1048576) (sp : Value) (w : World) (hsp : SpellI w sp) (hm : MaxOk w) (hT : Lib.Utf8Tabs 7 8 w) (b : Addr) (hu : UnknownAt w b) :
    Calls Tryz.prog 63 #[sp, .string t] w fun e w' => ∃ u er, e = .returned (.tuple #[u, er]) ∧ Below w.heap.size w w' ∧
      ((er = .nilIface ∧ 0 < (runesL t).length ∧ (runesL t).all isSgn = true ∧ Own w' w.heap.size u ((runesL t).map sgnV)) ∨ (∃ s, er = emptyErr s b ∧ u = .slice none 0 0 ∧ ((runesL t).length = 0 ∨ (runesL t).all isSgn = false))) := by
  have hdz : (t.toList == [45]) = false := hd
  have B1 := alloc_below w (.cells sp.cells 97)
  have hsp1 := hsp.below B1
  have hm1 := hm.below B1
  have hT1 := utf8_below hT B1
  have hu1 := hu.below B1
  obtain ⟨bb, hspv, -⟩ := id hsp
  have P1 := Lib.hid (TwoAt.new w 97 (.slice (some ⟨bb, 0, none⟩) 3 3) (.string ⟨#[60, 61, 62]⟩))
  have e0 : (w.alloc (.cells sp.cells 97)) = w.alloc (.cells #[.slice (some ⟨bb, 0, none⟩) 3 3, .string ⟨#[60, 61, 62]⟩] 97) := by rw [hspv]; rfl
  rw [e0] at B1 hsp1 hm1 hT1 hu1
  generalize hX1 : w.alloc (.cells #[.slice (some ⟨bb, 0, none⟩) 3 3, .string ⟨#[60, 61, 62]⟩] 97) = X1 at B1 hsp1 hm1 hT1 hu1 P1
  have HB := Lib.hid B1
  have CS : Hid (∀ V, Below X1.heap.size X1 V → Calls Tryz.prog 104 #[.string t, .string ⟨#[]⟩] V fun e w' => ∃ v, e = .returned v ∧ w'.ownsRow V.heap.size 9 1 v (runesL t).length ((runesL t).map Value.string) ∧ Below V.heap.size V w') :=
    fun V hV => splitAll t V ht (utf8_below hT1 hV)
  have CR : Hid (∀ v U V B, U.ownsRow B 9 1 v (runesL t).length ((runesL t).map Value.string) → Below X1.heap.size X1 U → Below U.heap.size U V → Calls Tryz.prog 83 #[v, .func (.func 105) #[sp] #[]] V fun e w' => ∃ u er, e = .returned (.tuple #[u, er]) ∧ Below V.heap.size V w' ∧
      ((er = .nilIface ∧ 0 < (runesL t).length ∧ (runesL t).all isSgn = true ∧ Own w' V.heap.size u ((runesL t).map sgnV)) ∨ (∃ s, er = emptyErr s b ∧ u = .slice none 0 0 ∧ ((runesL t).length = 0 ∨ (runesL t).all isSgn = false)))) := by
    intro v U V B hrow hXU hUV
    have hXV : Below X1.heap.size X1 V := below_up hXU hUV
    refine (implReadI 105 (fun _ _ => by kernel_rfl) #[sp] #[] v (runesL t) (fun x => if isSgn x = true then sgnV x else 0) isSgn V (by obtain ⟨a, c, hv⟩ := ownsLen hrow; exact ⟨a, c, hv⟩) (by have := runesL_le t; omega)
      (fun i hi => (elem_rows hrow rfl i hi).below hUV)
      (fun i hi W hW => implValueI _ (pieces_ok t _ (List.getElem_mem hi)) sp W (hsp1.below (below_up hXV hW)) (hm1.below (below_up hXV hW))) b (hu1.below hXV)).mono ?_
    rintro e w' ⟨u, er, rfl, b1, h | h⟩
    · obtain ⟨h1, h2, h3, h4⟩ := h
      rw [val_mapI _ h3] at h4
      exact ⟨u, er, rfl, b1, .inl ⟨h1, h2, h3, h4⟩⟩
    · exact ⟨u, er, rfl, b1, .inr h⟩
  generalize (runesL t).map sgnV = L at CR ⊢
  generalize (runesL t).map Value.string = ps at CS CR
  generalize (runesL t).all isSgn = k at CR ⊢
  generalize (runesL t).length = n at CS CR ⊢
  subst hspv
  obtain ⟨q0, q1, -⟩ := P1.out
  have hs1 : w.heap.size ≤ X1.heap.size := HB.out.size
  clear B1 hsp1 hm1 hT1 hu1 hsp hm hT hu
  go_enter Tryz.func63, Tryz.ntmps63
  go_wp2_with fail
  go_region_with (first
    | (go_at_call 104; refine (CS.out _ (by first | exact Below.refl _ _ | exact (Below.refl _ _).drew | exact ((Below.refl _ _).drew).drew)).mono ?_; rintro e w1 ⟨v, rfl, o, bz⟩; have HO := Lib.hid o; have HZ := Lib.hid bz; have bx : Below X1.heap.size X1 w1 := ⟨bz.os, bz.tape, bz.output, bz.size, bz.block⟩; have P2 := Lib.hid (P1.out.below bx); have HZX := Lib.hid bx; obtain ⟨r0, r1, -⟩ := P2.out; obtain ⟨sa, sk, sc, rfl⟩ := ownsForm o; clear o bz bx)
    | (go_at_call 83; refine (CR.out _ _ _ _ HO.out HZX.out (by first | exact Below.refl _ _ | exact (Below.refl _ _).drew | exact ((Below.refl _ _).drew).drew)).mono ?_; rintro e w2 ⟨u, er, rfl, bz2, hpost⟩; have HP := Lib.hid hpost; have HZ2 := Lib.hid bz2; clear hpost bz2))
  all_goals (try go_wp2)
  all_goals (
    go_ret2
    have b9 := below_up (below_up HB.out HZX.out) (⟨HZ2.out.os, HZ2.out.tape, HZ2.out.output, HZ2.out.size, HZ2.out.block⟩ : Below w1.heap.size w1 w2)
    refine ⟨_, _, rfl, ⟨b9.os, b9.tape, b9.output, b9.size, b9.block⟩, ?_⟩
    rcases HP.out with ⟨h1, h2, h3, h4⟩ | h
    · exact .inl ⟨h1, h2, h3, rows_lower (show w2.ownsRow _ _ _ _ _ _ from h4) (Nat.le_trans hs1 HZX.out.size)⟩
    · exact .inr h)

set_option maxHeartbeats 1600000 in
/-- read, at '-'. -/
theorem implReadDI (t : ByteArray) (hd : isDash t = true) (sp : Value) (w : World) (hsp : SpellI w sp) (a : Addr) (he : EmptyAt w a) :
    Calls Tryz.prog 63 #[sp, .string t] w fun e w' => e = .returned (.tuple #[.slice none 0 0, emptyErr t a]) ∧ Below w.heap.size w w' := by
  have hdz : (t.toList == [45]) = true := hd
  obtain ⟨bb, rfl, -⟩ := hsp
  have B1 := Lib.hid (alloc_below w (.cells #[.slice (some ⟨bb, 0, none⟩) 3 3, .string ⟨#[60, 61, 62]⟩] 97))
  have e0 : (w.alloc (.cells #[.slice (some ⟨bb, 0, none⟩) 3 3, .string ⟨#[60, 61, 62]⟩] 97)).cell? ⟨0, 0, none⟩ = some (.iface 292 (.pointer (some a))) := he.below B1.out
  clear he hd
  unfold emptyErr
  go_enter Tryz.func63, Tryz.ntmps63
  go_wp2_with fail
  go_quiet (fail)
  all_goals (go_wp2; go_ret2; exact ⟨rfl, below_drewN B1.out _⟩)

set_option maxRecDepth 100000 in
set_option maxHeartbeats 1600000 in
theorem implReadSignsOf (t : ByteArray) (ht : t.size ≤ 1048576) (w : World) (hm : MaxOk w) (hT : Lib.Utf8Tabs 7 8 w) (a b : Addr) (h : ErrsAt w a b) :
    Calls Tryz.prog 16 #[.string t] w (GivesN (readSL t) (readSB t) w) := by
  have C0 := Lib.hid (implsignSpelling w)
  have HE := Lib.hid h
  by_cases hd : isDash t = true
  · obtain ⟨r1, r2, r3, r4⟩ := dash_read t hd
    have HL : Hid (readSL t = [] ∧ readSB t = true) := ⟨r2, r1⟩
    have C1 := Lib.hid (fun sp W h1 h2 => implReadDI t hd sp W h1 a h2)
    have C2 := Lib.hid (fun v hv W hW => implAccIEmpty v hv t a b W hW)
    unfold GivesN
    rw [HL.out.1, HL.out.2]
    clear r1 r2 r3 r4 h hm hT HL hd
    go_enter Tryz.func16, Tryz.ntmps16
    go_wp2_with fail
    refine C0.out.mono ?_
    rintro e w1 ⟨sp, rfl, hs, b1⟩
    have CC := Lib.hid (C1.out sp w1 hs (HE.out.e.below b1))
    have H1 := Lib.hid (HE.out.below b1)
    have B := Lib.hid b1
    obtain ⟨bb, rfl, -⟩ := hs
    clear b1
    go_wp2_with fail
    refine CC.out.mono ?_
    rintro e w2 ⟨rfl, b2⟩
    have B2 := Lib.hid (below_up B.out b2)
    have H2 := Lib.hid (H1.out.below b2)
    clear b2
    unfold emptyErr at *
    go_wp2_with fail
    refine (C2.out (.slice none 0 0) ⟨_, _, _, rfl⟩ _ H2.out).mono ?_
    rintro e w3 ⟨rfl, b3⟩
    have B3 := Lib.hid (below_up B2.out b3)
    clear b3
    go_wp2
    go_ret2
    exact ⟨_, rfl, World.ownsRow_nil _ _ _ _, B3.out⟩
  · have hd' : isDash t = false := by simpa using hd
    have C1 := Lib.hid (fun sp W h1 h2 h3 h4 => implReadTI t hd' ht sp W h1 h2 h3 b h4)
    have C2 := Lib.hid (fun v hv W => implAccINone v hv W)
    have C3 := Lib.hid (fun v s W hW => implAccINot v s a b W hW)
    have HM := Lib.hid hm
    have HT := Lib.hid hT
    have HLN : Hid (0 < (runesL t).length → (runesL t).all isSgn = true → readSL t = (runesL t).map sgnV ∧ readSB t = true) := by
      intro h1 h2
      by_cases h0 : t.size = 0
      · have := runesL_le t; omega
      · obtain ⟨p1, p2⟩ := readS_pieces t (by omega) hd'
        exact ⟨by rw [p2, if_pos h2], by rw [p1, h2]⟩
    have HLF : Hid ((runesL t).length = 0 ∨ (runesL t).all isSgn = false → readSL t = [] ∧ readSB t = false) := by
      intro h1
      by_cases h0 : t.size = 0
      · obtain ⟨r1, r2, r3, r4⟩ := empty_read t h0
        exact ⟨r2, r1⟩
      · have hp := runesL_pos t (by omega)
        obtain ⟨p1, p2⟩ := readS_pieces t (by omega) hd'
        have h2 : (runesL t).all isSgn = false := by
          rcases h1 with h1 | h1
          · omega
          · exact h1
        exact ⟨by rw [p2, h2]; rfl, by rw [p1, h2]⟩
    unfold GivesN
    generalize readSL t = L at HLN HLF ⊢
    generalize readSB t = k at HLN HLF ⊢
    generalize (runesL t).map sgnV = M at C1 HLN
    generalize (runesL t).all isSgn = q at C1 HLN HLF
    generalize (runesL t).length = m at C1 HLN HLF
    clear hd hd' h hm hT ht
    go_enter Tryz.func16, Tryz.ntmps16
    go_wp2_with fail
    refine C0.out.mono ?_
    rintro e w1 ⟨sp, rfl, hs, b1⟩
    have CC := Lib.hid (C1.out sp w1 hs (HM.out.below b1) (utf8_below HT.out b1) ((unknownAt HE.out).below b1))
    have H1 := Lib.hid (HE.out.below b1)
    have B := Lib.hid b1
    obtain ⟨bb, rfl, -⟩ := hs
    clear b1
    go_wp2_with fail
    refine CC.out.mono ?_
    rintro e w2 ⟨u, er, rfl, b2, hp⟩
    have B2 := Lib.hid (below_up B.out b2)
    have H2 := Lib.hid (H1.out.below b2)
    have hs1 : w.heap.size ≤ w1.heap.size := B.out.size
    clear b2
    rcases hp with ⟨rfl, h1, rfl, h2⟩ | ⟨s, rfl, rfl, h1⟩
    · obtain ⟨rfl, rfl⟩ := HLN.out h1 rfl
      have O := Lib.hid (rows_lower (show w2.ownsRow _ _ _ _ _ _ from h2) hs1)
      obtain ⟨ga, ka, ca, rfl⟩ := ownsForm O.out
      clear h2
      go_wp2_with fail
      refine (C2.out (.slice ga ka ca) ⟨_, _, _, rfl⟩ _).mono ?_
      rintro e w3 ⟨rfl, b3⟩
      have B3 := Lib.hid (below_up B2.out b3)
      have O3 := Lib.hid (owns_below O.out b3)
      clear b3
      go_wp2
      go_ret2
      exact ⟨_, rfl, O3.out, B3.out⟩
    · obtain ⟨rfl, rfl⟩ := HLF.out h1
      unfold emptyErr at *
      go_wp2_with fail
      refine (C3.out (.slice none 0 0) s _ H2.out).mono ?_
      rintro e w3 ⟨rfl, b3⟩
      have B3 := Lib.hid (below_up B2.out b3)
      clear b3
      go_wp2
      go_ret2
      exact ⟨_, rfl, World.ownsRow_nil _ _ _ _, B3.out⟩

/-! ### bool -/
theorem val_mapB (ts : List ByteArray) (h : ts.all isRes = true) : ts.map (fun x => if isRes x = true then resV x else false) = ts.map resV := by
  apply List.map_congr_left
  intro x hx
  rw [if_pos (List.all_eq_true.1 h x hx)]

set_option maxRecDepth 100000 in
set_option maxHeartbeats 3200000 in
/-- read, at a text that is not '-'. -/
theorem implReadTB (t : ByteArray) (hd : isDash t = false) (ht : t.size ≤ 1048576) (sp : Value) (w : World) (hsp : SpellB w sp) (hm : MaxOk w) (hT : Lib.Utf8Tabs 7 8 w) (b : Addr) (hu : UnknownAt w b) :
    Calls Tryz.prog 70 #[sp, .string t] w fun e w' => ∃ u er, e = .returned (.tuple #[u, er]) ∧ Below w.heap.size w w' ∧
      ((er = .nilIface ∧ 0 < (runesL t).length ∧ (runesL t).all isRes = true ∧ OwnB w' w.heap.size u ((runesL t).map resV)) ∨ (∃ s, er = emptyErr s b ∧ u = .slice none 0 0 ∧ ((runesL t).length = 0 ∨ (runesL t).all isRes = false))) := by
  have hdz : (t.toList == [45]) = false := hd
  have B1 := alloc_below w (.cells sp.cells 105)
  have hsp1 := hsp.below B1
  have hm1 := hm.below B1
  have hT1 := utf8_below hT B1
  have hu1 := hu.below B1
  obtain ⟨bb, hspv, -⟩ := id hsp
  have P1 := Lib.hid (TwoAt.new w 105 (.slice (some ⟨bb, 0, none⟩) 2 2) (.string ⟨#[43, 46]⟩))
  have e0 : (w.alloc (.cells sp.cells 105)) = w.alloc (.cells #[.slice (some ⟨bb, 0, none⟩) 2 2, .string ⟨#[43, 46]⟩] 105) := by rw [hspv]; rfl
  rw [e0] at B1 hsp1 hm1 hT1 hu1
  generalize hX1 : w.alloc (.cells #[.slice (some ⟨bb, 0, none⟩) 2 2, .string ⟨#[43, 46]⟩] 105) = X1 at B1 hsp1 hm1 hT1 hu1 P1
  have HB := Lib.hid B1
  have CS : Hid (∀ V, Below X1.heap.size X1 V → Calls Tryz.prog 104 #[.string t, .string ⟨#[]⟩] V fun e w' => ∃ v, e = .returned v ∧ w'.ownsRow V.heap.size 9 1 v (runesL t).length ((runesL t).map Value.string) ∧ Below V.heap.size V w') :=
    fun V hV => splitAll t V ht (utf8_below hT1 hV)
  have CR : Hid (∀ v U V B, U.ownsRow B 9 1 v (runesL t).length ((runesL t).map Value.string) → Below X1.heap.size X1 U → Below U.heap.size U V → Calls Tryz.prog 108 #[v, .func (.func 109) #[sp] #[]] V fun e w' => ∃ u er, e = .returned (.tuple #[u, er]) ∧ Below V.heap.size V w' ∧
      ((er = .nilIface ∧ 0 < (runesL t).length ∧ (runesL t).all isRes = true ∧ OwnB w' V.heap.size u ((runesL t).map resV)) ∨ (∃ s, er = emptyErr s b ∧ u = .slice none 0 0 ∧ ((runesL t).length = 0 ∨ (runesL t).all isRes = false)))) := by
    intro v U V B hrow hXU hUV
    have hXV : Below X1.heap.size X1 V := below_up hXU hUV
    refine (implReadB 109 (fun _ _ => by kernel_rfl) #[sp] #[] v (runesL t) (fun x => if isRes x = true then resV x else false) isRes V (by obtain ⟨a, c, hv⟩ := ownsLen hrow; exact ⟨a, c, hv⟩) (by have := runesL_le t; omega)
      (fun i hi => (elem_rows hrow rfl i hi).below hUV)
      (fun i hi W hW => implValueB _ (pieces_ok t _ (List.getElem_mem hi)) sp W (hsp1.below (below_up hXV hW)) (hm1.below (below_up hXV hW))) b (hu1.below hXV)).mono ?_
    rintro e w' ⟨u, er, rfl, b1, h | h⟩
    · obtain ⟨h1, h2, h3, h4⟩ := h
      rw [val_mapB _ h3] at h4
      exact ⟨u, er, rfl, b1, .inl ⟨h1, h2, h3, h4⟩⟩
    · exact ⟨u, er, rfl, b1, .inr h⟩
  generalize (runesL t).map resV = L at CR ⊢
  generalize (runesL t).map Value.string = ps at CS CR
  generalize (runesL t).all isRes = k at CR ⊢
  generalize (runesL t).length = n at CS CR ⊢
  subst hspv
  obtain ⟨q0, q1, -⟩ := P1.out
  have hs1 : w.heap.size ≤ X1.heap.size := HB.out.size
  clear B1 hsp1 hm1 hT1 hu1 hsp hm hT hu
  go_enter Tryz.func70, Tryz.ntmps70
  go_wp2_with fail
  go_region_with (first
    | (go_at_call 104; refine (CS.out _ (by first | exact Below.refl _ _ | exact (Below.refl _ _).drew | exact ((Below.refl _ _).drew).drew)).mono ?_; rintro e w1 ⟨v, rfl, o, bz⟩; have HO := Lib.hid o; have HZ := Lib.hid bz; have bx : Below X1.heap.size X1 w1 := ⟨bz.os, bz.tape, bz.output, bz.size, bz.block⟩; have P2 := Lib.hid (P1.out.below bx); have HZX := Lib.hid bx; obtain ⟨r0, r1, -⟩ := P2.out; obtain ⟨sa, sk, sc, rfl⟩ := ownsForm o; clear o bz bx)
    | (go_at_call 108; refine (CR.out _ _ _ _ HO.out HZX.out (by first | exact Below.refl _ _ | exact (Below.refl _ _).drew | exact ((Below.refl _ _).drew).drew)).mono ?_; rintro e w2 ⟨u, er, rfl, bz2, hpost⟩; have HP := Lib.hid hpost; have HZ2 := Lib.hid bz2; clear hpost bz2))
  all_goals (try go_wp2)
  all_goals (
    go_ret2
    have b9 := below_up (below_up HB.out HZX.out) (⟨HZ2.out.os, HZ2.out.tape, HZ2.out.output, HZ2.out.size, HZ2.out.block⟩ : Below w1.heap.size w1 w2)
    refine ⟨_, _, rfl, ⟨b9.os, b9.tape, b9.output, b9.size, b9.block⟩, ?_⟩
    rcases HP.out with ⟨h1, h2, h3, h4⟩ | h
    · exact .inl ⟨h1, h2, h3, rows_lower (show w2.ownsRow _ _ _ _ _ _ from h4) (Nat.le_trans hs1 HZX.out.size)⟩
    · exact .inr h)

set_option maxHeartbeats 1600000 in
/-- read, at '-'. -/
theorem implReadDB (t : ByteArray) (hd : isDash t = true) (sp : Value) (w : World) (hsp : SpellB w sp) (a : Addr) (he : EmptyAt w a) :
    Calls Tryz.prog 70 #[sp, .string t] w fun e w' => e = .returned (.tuple #[.slice none 0 0, emptyErr t a]) ∧ Below w.heap.size w w' := by
  have hdz : (t.toList == [45]) = true := hd
  obtain ⟨bb, rfl, -⟩ := hsp
  have B1 := Lib.hid (alloc_below w (.cells #[.slice (some ⟨bb, 0, none⟩) 2 2, .string ⟨#[43, 46]⟩] 105))
  have e0 : (w.alloc (.cells #[.slice (some ⟨bb, 0, none⟩) 2 2, .string ⟨#[43, 46]⟩] 105)).cell? ⟨0, 0, none⟩ = some (.iface 292 (.pointer (some a))) := he.below B1.out
  clear he hd
  unfold emptyErr
  go_enter Tryz.func70, Tryz.ntmps70
  go_wp2_with fail
  go_quiet (fail)
  all_goals (go_wp2; go_ret2; exact ⟨rfl, below_drewN B1.out _⟩)

set_option maxRecDepth 100000 in
set_option maxHeartbeats 1600000 in
theorem implReadResultsOf (t : ByteArray) (ht : t.size ≤ 1048576) (w : World) (hm : MaxOk w) (hT : Lib.Utf8Tabs 7 8 w) (a b : Addr) (h : ErrsAt w a b) :
    Calls Tryz.prog 19 #[.string t] w (GivesT (readRL t) (readRB t) w) := by
  have C0 := Lib.hid (implresultSpelling w)
  have HE := Lib.hid h
  by_cases hd : isDash t = true
  · obtain ⟨r1, r2, r3, r4⟩ := dash_read t hd
    have HL : Hid (readRL t = [] ∧ readRB t = true) := ⟨r4, r3⟩
    have C1 := Lib.hid (fun sp W h1 h2 => implReadDB t hd sp W h1 a h2)
    have C2 := Lib.hid (fun v hv W hW => implAccBEmpty v hv t a b W hW)
    unfold GivesT
    rw [HL.out.1, HL.out.2]
    clear r1 r2 r3 r4 h hm hT HL hd
    go_enter Tryz.func19, Tryz.ntmps19
    go_wp2_with fail
    refine C0.out.mono ?_
    rintro e w1 ⟨sp, rfl, hs, b1⟩
    have CC := Lib.hid (C1.out sp w1 hs (HE.out.e.below b1))
    have H1 := Lib.hid (HE.out.below b1)
    have B := Lib.hid b1
    obtain ⟨bb, rfl, -⟩ := hs
    clear b1
    go_wp2_with fail
    refine CC.out.mono ?_
    rintro e w2 ⟨rfl, b2⟩
    have B2 := Lib.hid (below_up B.out b2)
    have H2 := Lib.hid (H1.out.below b2)
    clear b2
    unfold emptyErr at *
    go_wp2_with fail
    refine (C2.out (.slice none 0 0) ⟨_, _, _, rfl⟩ _ H2.out).mono ?_
    rintro e w3 ⟨rfl, b3⟩
    have B3 := Lib.hid (below_up B2.out b3)
    clear b3
    go_wp2
    go_ret2
    exact ⟨_, rfl, World.ownsRow_nil _ _ _ _, B3.out⟩
  · have hd' : isDash t = false := by simpa using hd
    have C1 := Lib.hid (fun sp W h1 h2 h3 h4 => implReadTB t hd' ht sp W h1 h2 h3 b h4)
    have C2 := Lib.hid (fun v hv W => implAccBNone v hv W)
    have C3 := Lib.hid (fun v s W hW => implAccBNot v s a b W hW)
    have HM := Lib.hid hm
    have HT := Lib.hid hT
    have HLN : Hid (0 < (runesL t).length → (runesL t).all isRes = true → readRL t = (runesL t).map resV ∧ readRB t = true) := by
      intro h1 h2
      by_cases h0 : t.size = 0
      · have := runesL_le t; omega
      · obtain ⟨p1, p2⟩ := readR_pieces t (by omega) hd'
        exact ⟨by rw [p2, if_pos h2], by rw [p1, h2]⟩
    have HLF : Hid ((runesL t).length = 0 ∨ (runesL t).all isRes = false → readRL t = [] ∧ readRB t = false) := by
      intro h1
      by_cases h0 : t.size = 0
      · obtain ⟨r1, r2, r3, r4⟩ := empty_read t h0
        exact ⟨r4, r3⟩
      · have hp := runesL_pos t (by omega)
        obtain ⟨p1, p2⟩ := readR_pieces t (by omega) hd'
        have h2 : (runesL t).all isRes = false := by
          rcases h1 with h1 | h1
          · omega
          · exact h1
        exact ⟨by rw [p2, h2]; rfl, by rw [p1, h2]⟩
    unfold GivesT
    generalize readRL t = L at HLN HLF ⊢
    generalize readRB t = k at HLN HLF ⊢
    generalize (runesL t).map resV = M at C1 HLN
    generalize (runesL t).all isRes = q at C1 HLN HLF
    generalize (runesL t).length = m at C1 HLN HLF
    clear hd hd' h hm hT ht
    go_enter Tryz.func19, Tryz.ntmps19
    go_wp2_with fail
    refine C0.out.mono ?_
    rintro e w1 ⟨sp, rfl, hs, b1⟩
    have CC := Lib.hid (C1.out sp w1 hs (HM.out.below b1) (utf8_below HT.out b1) ((unknownAt HE.out).below b1))
    have H1 := Lib.hid (HE.out.below b1)
    have B := Lib.hid b1
    obtain ⟨bb, rfl, -⟩ := hs
    clear b1
    go_wp2_with fail
    refine CC.out.mono ?_
    rintro e w2 ⟨u, er, rfl, b2, hp⟩
    have B2 := Lib.hid (below_up B.out b2)
    have H2 := Lib.hid (H1.out.below b2)
    have hs1 : w.heap.size ≤ w1.heap.size := B.out.size
    clear b2
    rcases hp with ⟨rfl, h1, rfl, h2⟩ | ⟨s, rfl, rfl, h1⟩
    · obtain ⟨rfl, rfl⟩ := HLN.out h1 rfl
      have O := Lib.hid (rows_lower (show w2.ownsRow _ _ _ _ _ _ from h2) hs1)
      obtain ⟨ga, ka, ca, rfl⟩ := ownsForm O.out
      clear h2
      go_wp2_with fail
      refine (C2.out (.slice ga ka ca) ⟨_, _, _, rfl⟩ _).mono ?_
      rintro e w3 ⟨rfl, b3⟩
      have B3 := Lib.hid (below_up B2.out b3)
      have O3 := Lib.hid (owns_below O.out b3)
      clear b3
      go_wp2
      go_ret2
      exact ⟨_, rfl, O3.out, B3.out⟩
    · obtain ⟨rfl, rfl⟩ := HLF.out h1
      unfold emptyErr at *
      go_wp2_with fail
      refine (C3.out (.slice none 0 0) s _ H2.out).mono ?_
      rintro e w3 ⟨rfl, b3⟩
      have B3 := Lib.hid (below_up B2.out b3)
      clear b3
      go_wp2
      go_ret2
      exact ⟨_, rfl, World.ownsRow_nil _ _ _ _, B3.out⟩
end Go.Proofs.YtlflblngbneacabGreatDoor
