/- The contracts of the program's overRange at lists, of the closure that lists a set's numbers, and of sumsOfAll. Conditions: valid pools. -/
import Derived.Test.YtoliloophjeooaaSumImpl
import Derived.Test.YtoliloophjeooaaIntRows
import Derived.Test.YtoliloophjeooaaSumTell
namespace Go.Proofs.Ytoliloophjeooaa
open Go.RowKit Go.Shelf

/-- The numbers of the first k sets. -/
def allSL (P : List Int) (k : Nat) : List (List Int) := (List.range k).map fun (i : Nat) => sumL P (i : Int)
theorem allSL_len (P : List Int) (k : Nat) : (allSL P k).length = k := by simp [allSL]
theorem allSL_succ (P : List Int) (k : Nat) : allSL P (k + 1) = allSL P k ++ [sumL P (k : Int)] := by simp [allSL, List.range_succ]
theorem allSL_at (P : List Int) (k i : Nat) (h : i < (allSL P k).length) : (allSL P k)[i] = sumL P (i : Int) := by simp [allSL]
/-- A row of the call's own of lists. -/
def RowsS (S : List (List Int)) (w : World) (e : Ending) (w' : World) : Prop := ∃ v us, e = .returned v ∧ RowsI w' w.heap.size v S us ∧ Below w.heap.size w w'

theorem rowsI_lower {w : World} {B B' : Nat} {ov : Value} {S : List (List Int)} {us : List Value} (h : RowsI w B ov S us) (hB : B' ≤ B) : RowsI w B' ov S us :=
  ⟨h.1, ⟨h.2.1.1, h.2.1.2.imp id fun ⟨g, cap, cur, a, b, c⟩ => ⟨g, cap, cur, a, Nat.le_trans hB b, c⟩⟩, h.2.2⟩

set_option maxHeartbeats 1600000 in
theorem implAll1 (b1 : Nat) (v : Value) (P : List Int) (W : World) (h1 : W.cell? ⟨b1, 0, none⟩ = some v) (hP : IntsAt W v P) (hm : P.length ≤ 12) (hin : ∀ p ∈ P, 0 ≤ p ∧ p ≤ 1023) (i : Nat) (hi : i < 1024) :
    Calls Try.prog 65 #[.int .i64 (i : Int), .pointer (some ⟨b1, 0, none⟩)] W (ListsS (sumL P (i : Int)) W) := by
  have CC := Lib.hid (implSumsOf v P (i : Int) W hP hm hin (by omega) (by omega))
  obtain ⟨a, c, rfl, -⟩ := hP
  unfold ListsS at CC ⊢
  generalize sumL P (i : Int) = R at CC ⊢
  generalize P.length = m at CC h1
  clear hin hm hi
  go_enter Try.func65, Try.ntmps65
  go_wp2_with fail
  refine CC.out.mono ?_
  rintro e w1 ⟨u, rfl, o, bb⟩
  obtain ⟨ga, na, ca, rfl⟩ := o.form
  have O := Lib.hid o
  have B := Lib.hid bb
  clear o bb
  go_wp2
  go_ret
  exact ⟨_, rfl, O.out, B.out⟩

set_option maxRecDepth 100000 in
set_option maxHeartbeats 3200000 in
theorem implOverL (b1 : Nat) (v : Value) (P : List Int) (N : Nat) (hN : N ≤ 1024) (w : World) (h1 : w.cell? ⟨b1, 0, none⟩ = some v) (hP : IntsAt w v P) (hm : P.length ≤ 12) (hin : ∀ p ∈ P, 0 ≤ p ∧ p ≤ 1023) :
    Calls Try.prog 64 #[.int .i64 (N : Int), .func (.func 65) #[] #[.pointer (some ⟨b1, 0, none⟩)]] w (RowsS (allSL P N) w) := by
  obtain ⟨i0, hi, hz0, hz1, hz2⟩ := info_parts infoLstI
  have HC : Hid (∀ (i : Nat), i < 1024 → ∀ W, Below w.heap.size w W → Calls Try.prog 65 #[.int .i64 (i : Int), .pointer (some ⟨b1, 0, none⟩)] W (ListsS (sumL P (i : Int)) W)) := fun i h W hb =>
    implAll1 b1 v P W (by rw [hb.cell (p := ⟨b1, 0, none⟩) (World.block_lt_of_cell? w _ h1)]; exact h1) (hP.below hb) hm hin i h
  have HR := Lib.hid (fun k => allSL_succ P k)
  have HL := Lib.hid (fun k => allSL_len P k)
  unfold RowsS
  clear h1 hP hin hm
  have R1 : Hid (RowsI w w.heap.size (.slice none 0 0) (allSL P 0) []) := ⟨rfl, World.ownsRow_nil _ _ _ _, fun i h _ => by simp [allSL] at h⟩
  generalize allSL P = K at HR HL R1 ⊢
  unfold ListsS at HC
  go_enter Try.func64, Try.ntmps64
  go_wp2
  go_loopw [5, 8] (fun ov kv wr => ∃ (k : Nat) (us : List Value), k ≤ N ∧ kv = .int .i64 k ∧ Hid (RowsI wr w.heap.size ov (K k) us) ∧ Hid (Below w.heap.size w wr)) (fun _ kv _ => N - (intOf kv).toNat)
  case atStart => exact ⟨0, [], Nat.zero_le _, rfl, R1, Lib.hid (Below.refl _ _)⟩
  case round =>
    clear R1
    obtain ⟨k, us, hk, rfl, O2, B2⟩ := hrel
    by_cases hlt : k < N
    · have HKS := Lib.hid (HR.out k)
      have hlen := HL.out k
      have C1 := Lib.hid (HC.out k (by omega) wr B2.out)
      generalize K k = S at O2 hlen HKS
      generalize sumL P (k : Int) = X at C1 HKS
      obtain ⟨av, cv, hov, -⟩ := rowsI_cells O2.out
      subst hov
      rw [hlen]
      have HLN := Lib.hid hlen
      have k0 : (0 : Int) ≤ (k : Int) := by omega
      have k1 : (k : Int) < (N : Int) := by omega
      clear hlen
      go_wp2_with fail
      refine C1.out.mono ?_
      rintro e w1 ⟨u, rfl, o, bb⟩
      obtain ⟨gu, nu, cu, rfl⟩ := o.form
      have OW := Lib.hid (O2.out.below bb)
      have BW := Lib.hid (below_up B2.out bb)
      have OU := Lib.hid o.reads
      have BU : Hid (Blk (fun q => (Value.slice av S.length cv).ownBlock ≠ some q ∧ q < w1.heap.size) (.slice gu nu cu)) := fun q hq => ⟨fun e => by
        have h1 := o.blk q hq
        have h2 := O2.out.2.1.lt q e
        omega, (o.blk q hq).2⟩
      rw [HLN.out] at BU
      clear o bb
      have A4 := Lib.hid (alloc_below w1 (.cells #[.slice gu nu cu] 22))
      have OX := Lib.hid (OW.out.below A4.out)
      have OXR : Hid ((w1.alloc (.cells #[.slice gu nu cu] 22)).ownsRow w.heap.size 22 1 (.slice av k cv) k us) := by
        have := OX.out.2.1
        rw [HLN.out] at this
        exact this
      rw [HLN.out] at OW OX
      have hsz2 : w.heap.size ≤ (w1.alloc (.cells #[.slice gu nu cu] 22)).heap.size := by have := BW.out.size; simp; omega
      go_wp2_with (at_builtin; refine wpList_append_own_at _ rfl _ _ 49 rfl w.heap.size 22 i0 (.slice none 0 0) 1 24 Try.underlying49 hi hz0 hz1 hz2 rfl (by decide) (.slice av k cv) k us rfl OXR.out ⟨w1.heap.size, 0, none⟩ 1 1 [.slice gu nu cu] rfl rfl (cell_one_new _ _ _) (by simp [Value.oneCell']) (by unfold maxLen; omega) (by omega) hsz2 ?_; intro v' w6 hown' hg1 _ hat; have hg2 : (w1.alloc (.cells #[.slice gu nu cu] 22)).grownBy w6 (Value.slice av k cv).ownBlock := hg1; have HG2 := Lib.hid hg2; have HO2 := Lib.hid hown'; have HAT := Lib.hid hat; clear hg1 hg2 hown' hat)
      have O6 : Hid (RowsI w6 w.heap.size v' (S ++ [X]) (us ++ [.slice gu nu cu])) := OX.out.push HG2.out (by rw [HLN.out]; exact HO2.out) HAT.out (OU.out.below A4.out) (fun q hq => ⟨(BU.out q hq).1, Nat.lt_of_lt_of_le (BU.out q hq).2 A4.out.size⟩)
      have B6 := Lib.hid (Below.grown (below_up BW.out A4.out) HG2.out hsz2 (fun q hq => by have := (OXR.out.lt q hq).1; omega))
      rw [← HKS.out] at O6
      go_wp2
      go_roundw
      case rel => exact ⟨k + 1, us ++ [.slice gu nu cu], by omega, by go_num, O6, B6⟩
      case measure => simp [intOf]; omega
    · obtain rfl : k = N := by omega
      obtain ⟨av, cv, hov, -⟩ := rowsI_cells O2.out
      subst hov
      go_wp2
      go_ret
      exact ⟨_, us, rfl, O2.out, B2.out⟩

set_option maxRecDepth 100000 in
set_option maxHeartbeats 1600000 in
theorem implAllS (n : Int) (n1 : 1 ≤ n) (n10 : n ≤ 10) (N : Nat) (hN : 2 ^ n.toNat = N) (v : Value) (P : List Int) (w : World) (h : IntsAt w v P) (hm : P.length ≤ 12) (hin : ∀ p ∈ P, 0 ≤ p ∧ p ≤ 1023) :
    Calls Try.prog 41 #[.int .i64 n, v] w (RowsS (allSL P N) w) := by
  obtain ⟨hs1, hs2, hs3, hs4⟩ := shl_top n1 n10
  have hN2 : (2 : Int) ^ n.toNat = (N : Int) := by rw [← hN]; push_cast; rfl
  have hNb : N ≤ 1024 := by omega
  rw [hN2] at hs1
  obtain ⟨a, c, hv, -⟩ := id h
  have b1 := Boxed.new w 22 v
  have B1 := alloc_below w (.cells #[v] 22)
  have H1 := h.below B1
  have c1 := b1.cell
  generalize hX1 : w.alloc (.cells #[v] 22) = X1 at B1 H1 c1
  have BB := Lib.hid B1
  have CO := Lib.hid (implOverL _ v P N hNb X1 c1 H1 hm hin)
  subst hv
  unfold RowsS at CO ⊢
  generalize allSL P N = R at CO ⊢
  generalize P.length = m at CO hX1 c1 hm
  clear b1 B1 H1 h hin hs2 hs3 hs4 hN
  go_enter Try.func41, Try.ntmps41
  go_wp2_with fail
  refine CO.out.mono ?_
  rintro e w1 ⟨u, us, rfl, o, bb⟩
  obtain ⟨ga, ca, rfl, -⟩ := rowsI_cells o
  have O := Lib.hid o
  have B := Lib.hid (below_up BB.out bb)
  have hs := Lib.hid BB.out.size
  clear o bb
  go_wp2
  go_ret
  exact ⟨_, us, rfl, rowsI_lower O.out hs.out, B.out⟩
end Go.Proofs.Ytoliloophjeooaa
