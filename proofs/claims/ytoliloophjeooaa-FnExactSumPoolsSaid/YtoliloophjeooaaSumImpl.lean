/- The contracts of the program's overRange at numbers, of the closure that counts a pool's bad items, of sumsOf and of SumPools. Conditions: the slice reads as integers; for sumsOf valid pools and a set of their items. -/
import Derived.Test.YtoliloophjeooaaSumSpec
import Derived.Test.YtoliloophjeooaaCountImpl
import Derived.Test.YtoliloophjeooaaPoolsImpl
import Derived.Test.YtoliloophjeooaaIsSet
namespace Go.Proofs.Ytoliloophjeooaa
open Go.RowKit Go.Shelf

set_option maxHeartbeats 1600000 in
theorem implSums1 (b1 b2 : Nat) (v : Value) (P : List Int) (bad : Int) (W : World) (h1 : W.cell? ⟨b1, 0, none⟩ = some v) (h2 : W.cell? ⟨b2, 0, none⟩ = some (.int .i64 bad)) (hP : IntsAt W v P) (hin : ∀ p ∈ P, 0 ≤ p ∧ p ≤ 1023) (g0 : 0 ≤ bad) (g1 : bad ≤ 1023) (i : Nat) (hi : i < P.length) :
    Calls Try.prog 62 #[.int .i64 (i : Int), .pointer (some ⟨b1, 0, none⟩), .pointer (some ⟨b2, 0, none⟩)] W fun e w' => e = .returned (.int .i64 (cntI (bits .and .i64 P[i] bad))) ∧ Below W.heap.size W w' := by
  have hp := hin _ (List.getElem_mem hi)
  have CC : Hid (∀ V, Calls Try.prog 63 #[.int .i64 (bits .and .i64 P[i] bad)] V fun e W' => e = .returned (.int .i64 (cntI (bits .and .i64 P[i] bad))) ∧ Below V.heap.size V W') := fun V => implCount _ (by have := and_in hp.1 hp.2 g0 g1; unfold andI at this; omega) V
  obtain ⟨a, c, rfl, h⟩ := hP
  rcases h with h | ⟨b, o, rfl, hc⟩
  · rw [h] at hi; simp at hi
  have e0 := hc i hi
  obtain ⟨p, hpp⟩ : ∃ p, P[i] = p := ⟨_, rfl⟩
  rw [hpp] at e0 CC ⊢
  have i0 : (0 : Int) ≤ (i : Int) := by omega
  have i1 : (i : Int) < (P.length : Int) := by omega
  generalize P.length = m at h1 i1
  generalize cntI (bits .and .i64 p bad) = r at CC ⊢
  clear hc hpp hin hp hi
  go_enter Try.func62, Try.ntmps62
  go_wp2_with fail
  first | (go_region_with (first | (go_at_call 63; refine (CC.out _).mono ?_; rintro e w1 ⟨rfl, hb1⟩; have HB := Lib.hid hb1; clear hb1) | fail)) | fail
  all_goals (go_wp2; go_ret; exact ⟨rfl, ⟨HB.out.os, HB.out.tape, HB.out.output, HB.out.size, HB.out.block⟩⟩)

/-- What the closure has in its boxes, in every world above the one where they were made. -/
theorem sums1_above (b1 b2 : Nat) (v : Value) (P : List Int) (bad : Int) (W0 : World) (h1 : W0.cell? ⟨b1, 0, none⟩ = some v) (h2 : W0.cell? ⟨b2, 0, none⟩ = some (.int .i64 bad)) (hP : IntsAt W0 v P) (hin : ∀ p ∈ P, 0 ≤ p ∧ p ≤ 1023) (g0 : 0 ≤ bad) (g1 : bad ≤ 1023) (i : Nat) (hi : i < P.length) (W : World) (hb : Below W0.heap.size W0 W) :
    Calls Try.prog 62 #[.int .i64 (i : Int), .pointer (some ⟨b1, 0, none⟩), .pointer (some ⟨b2, 0, none⟩)] W fun e w' => e = .returned (.int .i64 (cntI (bits .and .i64 P[i] bad))) ∧ Below W.heap.size W w' :=
  implSums1 b1 b2 v P bad W (by rw [hb.cell (p := ⟨b1, 0, none⟩) (World.block_lt_of_cell? W0 _ h1)]; exact h1) (by rw [hb.cell (p := ⟨b2, 0, none⟩) (World.block_lt_of_cell? W0 _ h2)]; exact h2) (hP.below hb) hin g0 g1 i hi

set_option maxRecDepth 100000 in
set_option maxHeartbeats 1600000 in
theorem implOverI (b1 b2 : Nat) (v : Value) (P : List Int) (bad : Int) (w : World) (h1 : w.cell? ⟨b1, 0, none⟩ = some v) (h2 : w.cell? ⟨b2, 0, none⟩ = some (.int .i64 bad)) (hP : IntsAt w v P) (hm : P.length ≤ 12) (hin : ∀ p ∈ P, 0 ≤ p ∧ p ≤ 1023) (g0 : 0 ≤ bad) (g1 : bad ≤ 1023) :
    Calls Try.prog 61 #[.int .i64 (P.length : Int), .func (.func 62) #[] #[.pointer (some ⟨b1, 0, none⟩), .pointer (some ⟨b2, 0, none⟩)]] w (ListsS (sumL P bad) w) := by
  obtain ⟨i0, hi, hz0, hz1, hz2⟩ := info_parts infoIntA
  have HC : Hid (∀ i (h : i < P.length) W, Below w.heap.size w W → Calls Try.prog 62 #[.int .i64 (i : Int), .pointer (some ⟨b1, 0, none⟩), .pointer (some ⟨b2, 0, none⟩)] W fun e w' => e = .returned (.int .i64 (cntI (bits .and .i64 P[i] bad))) ∧ Below W.heap.size W w') := fun i h W hb =>
    sums1_above b1 b2 v P bad w h1 h2 hP hin g0 g1 i h W hb
  have HR : Hid (∀ i (h : i < P.length), sumL (P.take (i + 1)) bad = sumL (P.take i) bad ++ [cntI (bits .and .i64 P[i] bad)]) := fun i h => sumL_take P bad h
  have HA : Hid (sumL P bad = sumL (P.take P.length) bad) := by unfold Hid; rw [List.take_length]
  have HL : Hid (∀ i, i ≤ P.length → (sumL (P.take i) bad).length = i) := fun i h => by rw [sumL_len, List.length_take]; omega
  unfold ListsS
  generalize sumL P bad = R at HA ⊢
  obtain ⟨m, hmm⟩ : ∃ m, P.length = m := ⟨_, rfl⟩
  rw [hmm] at HA hm ⊢
  have HN := Lib.hid hmm
  clear hmm h1 h2 hP hin g0 g1
  have O1 : Hid (Own w w.heap.size (.slice none 0 0) (sumL (P.take 0) bad)) := World.ownsRow_nil _ _ _ _
  go_enter Try.func61, Try.ntmps61
  go_wp2
  go_loopw [5, 8] (fun ov iv wr => ∃ i : Nat, i ≤ m ∧ iv = .int .i64 i ∧ Hid (Own wr w.heap.size ov (sumL (P.take i) bad)) ∧ Hid (Below w.heap.size w wr)) (fun _ iv _ => m - (intOf iv).toNat)
  case atStart => exact ⟨0, Nat.zero_le _, rfl, O1, Lib.hid (Below.refl _ _)⟩
  case round =>
    clear O1
    obtain ⟨i, hi2, rfl, O2, B2⟩ := hrel
    by_cases hlt : i < m
    · have hil : i < P.length := by rw [HN.out]; exact hlt
      have hst := HR.out i hil
      have hlen := HL.out i (by omega)
      have CC := Lib.hid (HC.out i hil wr B2.out)
      obtain ⟨p, hp⟩ : ∃ p, P[i] = p := ⟨_, rfl⟩
      rw [hp] at hst CC
      have HST := Lib.hid hst
      have O3 := Lib.hid O2.out
      obtain ⟨g, mm, cc, rfl⟩ := O2.out.form
      generalize sumL (P.take i) bad = L at O3 hlen HST
      generalize cntI (bits .and .i64 p bad) = k at CC HST
      have i0' : (0 : Int) ≤ (i : Int) := by omega
      have i1 : (i : Int) < (m : Int) := by omega
      clear hst hp hil O2
      go_wp2_with fail
      refine CC.out.mono ?_
      rintro e w1 ⟨rfl, bb⟩
      have O4 := Lib.hid (O3.out.below bb)
      have B4 := Lib.hid (below_up B2.out bb)
      have hown := O4.out
      unfold Own at hown
      have hbs : w.heap.size ≤ w1.heap.size := B4.out.size
      clear bb
      go_wp2_with (at_builtin; refine wpList_append_own _ rfl _ _ 22 rfl w.heap.size 3 i0 (.int .i64 0) 1 8 Try.underlying22 hi hz0 hz1 hz2 rfl (by decide) _ _ _ rfl (hown.alloc _) ⟨w1.heap.size, 0, none⟩ 1 1 [.int .i64 k] rfl rfl (cell_one_new _ _ _) (by simp [Value.oneCell']) (by unfold maxLen; omega) (by omega) (by simp; omega) ?_; intro v' w2 hown' hg1 _)
      have hb2 := Below.grown (B4.out.alloc hbs _) hg1 (by simp; omega) (fun j hj => (hown.lt j hj).1)
      go_wp2
      go_roundw
      case rel =>
        refine ⟨i + 1, by omega, by go_num, ?_, Lib.hid hb2⟩
        unfold Hid Own
        rw [HST.out]
        simpa using hown'
      case measure => simp [intOf]; omega
    · obtain rfl : i = m := by omega
      have HE := HA.out
      obtain ⟨g, mm, cc, rfl⟩ := O2.out.form
      go_wp2
      go_ret
      exact ⟨_, rfl, by rw [HE]; exact O2.out, B2.out⟩

set_option maxRecDepth 100000 in
set_option maxHeartbeats 1600000 in
theorem implSumsOf (v : Value) (P : List Int) (bad : Int) (w : World) (h : IntsAt w v P) (hm : P.length ≤ 12) (hin : ∀ p ∈ P, 0 ≤ p ∧ p ≤ 1023) (g0 : 0 ≤ bad) (g1 : bad ≤ 1023) :
    Calls Try.prog 39 #[v, .int .i64 bad] w (ListsS (sumL P bad) w) := by
  obtain ⟨a, c, hv, -⟩ := id h
  have b1 := Boxed.new w 22 v
  have B1 := alloc_below w (.cells #[v] 22)
  have H1 := h.below B1
  have s1 : (w.alloc (.cells #[v] 22)).heap.size = w.heap.size + 1 := by simp
  generalize hX1 : w.alloc (.cells #[v] 22) = X1 at b1 B1 H1 s1
  have b2 := Boxed.new X1 3 (.int .i64 bad)
  have B2 := alloc_below X1 (.cells #[.int .i64 bad] 3)
  have c1 := (b1.alloc (.cells #[.int .i64 bad] 3)).cell
  have H2 := H1.below B2
  rw [s1] at b2
  have c2 := b2.cell
  generalize hX2 : X1.alloc (.cells #[.int .i64 bad] 3) = X2 at b2 B2 c1 H2 c2
  have BB := Lib.hid (below_up B1 B2)
  have CO := Lib.hid (implOverI _ _ v P bad X2 c1 c2 H2 hm hin g0 g1)
  subst hv
  unfold ListsS at CO ⊢
  generalize sumL P bad = R at CO ⊢
  generalize P.length = m at CO hX1 c1 hm
  clear b1 B1 H1 b2 B2 H2 h hin
  go_enter Try.func39, Try.ntmps39
  go_wp2_with fail
  refine CO.out.mono ?_
  rintro e w1 ⟨u, rfl, o, bb⟩
  obtain ⟨ga, na, ca, rfl⟩ := o.form
  have O := Lib.hid o
  have B := Lib.hid (below_up BB.out bb)
  have hs := Lib.hid BB.out.size
  clear o bb
  go_wp2
  go_ret
  exact ⟨_, rfl, Own.lower O.out hs.out, B.out⟩

set_option maxRecDepth 100000 in
set_option maxHeartbeats 1600000 in
theorem implSumPools (n : Int) (v : Value) (P : List Int) (bad : Int) (w : World) (h : IntsAt w v P) (hm : P.length ≤ 1048576) :
    Calls Try.prog 13 #[.int .i64 n, v, .int .i64 bad] w (GivesS (sumO n P bad) (testsB n P bad) w) := by
  have CP := Lib.hid (implPoolsOk n v P w h (by unfold maxLen; omega))
  have HB : Hid (testsB n P bad = (poolsB n P && poolB n bad)) := rfl
  by_cases hp : poolsB n P = true
  · obtain ⟨⟨n1, n10⟩, hl, hin⟩ := pools_in hp
    have ht := (top_in n10).2
    have CI := Lib.hid (implIsSet n bad n1 n10 w)
    rw [hp] at CP HB
    by_cases hb : poolB n bad = true
    · have hb' := hb
      unfold poolB at hb'
      simp only [Bool.and_eq_true, decide_eq_true_eq] at hb'
      have CS := Lib.hid (implSumsOf v P bad w h hl hin hb'.1 (by omega))
      have HE : testsB n P bad = true := by rw [HB.out, hb]; rfl
      have HO : sumO n P bad = sumL P bad := by unfold sumO; rw [if_pos HE]
      rw [HE, HO]
      rw [hb] at CI
      obtain ⟨a, c, rfl, -⟩ := h
      unfold ListsS at CS
      unfold GivesS
      generalize sumL P bad = L at CS ⊢
      clear hb hb' HE HO hp hin HB ht hm hl
      generalize P.length = m at CP CS ⊢
      go_enter Try.func13, Try.ntmps13
      go_wp2_with fail
      refine CP.out.mono ?_
      rintro e w1 ⟨rfl, rfl⟩
      go_wp2_with fail
      refine CI.out.mono ?_
      rintro e w1 ⟨rfl, rfl⟩
      go_wp2_with fail
      refine CS.out.mono ?_
      rintro e w1 ⟨u, rfl, o, bb⟩
      obtain ⟨ga, na, ca, rfl⟩ := o.form
      have O := Lib.hid o
      have B := Lib.hid bb
      clear o bb
      go_wp2
      go_ret2
      exact ⟨_, rfl, O.out, B.out⟩
    · have hb2 : poolB n bad = false := by simpa using hb
      have HE : testsB n P bad = false := by rw [HB.out, hb2]; rfl
      have HO : sumO n P bad = [] := by unfold sumO; rw [if_neg (by rw [HE]; decide)]
      rw [HE, HO]
      rw [hb2] at CI
      obtain ⟨a, c, rfl, -⟩ := h
      unfold GivesS
      clear hb hb2 HE HO hp hin HB ht hm hl
      generalize P.length = m at CP ⊢
      go_enter Try.func13, Try.ntmps13
      go_wp2_with fail
      refine CP.out.mono ?_
      rintro e w1 ⟨rfl, rfl⟩
      go_wp2_with fail
      refine CI.out.mono ?_
      rintro e w1 ⟨rfl, rfl⟩
      go_wp2
      go_ret2
      exact ⟨_, rfl, World.ownsRow_nil _ _ _ _, Below.refl _ _⟩
  · have hp2 : poolsB n P = false := by simpa using hp
    have HE : testsB n P bad = false := by rw [HB.out, hp2]; rfl
    have HO : sumO n P bad = [] := by unfold sumO; rw [if_neg (by rw [HE]; decide)]
    rw [HE, HO]
    rw [hp2] at CP
    obtain ⟨a, c, rfl, -⟩ := h
    unfold GivesS
    clear hp hp2 HE HO HB hm
    generalize P.length = m at CP ⊢
    go_enter Try.func13, Try.ntmps13
    go_wp2_with fail
    refine CP.out.mono ?_
    rintro e w1 ⟨rfl, rfl⟩
    go_wp2
    go_ret2
    exact ⟨_, rfl, World.ownsRow_nil _ _ _ _, Below.refl _ _⟩
end Go.Proofs.Ytoliloophjeooaa
