/- The contracts of the model's SumPools, IsDetecting and DecodeSums, and of what they call. Conditions: the slices read as integers. -/
import Derived.Test.YtoliloophjeooaaSumPlain
import Derived.Test.YtoliloophjeooaaPoolsSpec
import Derived.Test.YtoliloophjeooaaSameI
namespace Go.Proofs.Ytoliloophjeooaa
open Go.RowKit

/-- A list of the call's own. -/
def ListsS (L : List Int) (w : World) (e : Ending) (w' : World) : Prop := ∃ v, e = .returned v ∧ Own w' w.heap.size v L ∧ Below w.heap.size w w'
/-- .. and whether it is one. -/
def GivesS (L : List Int) (b : Bool) (w : World) (e : Ending) (w' : World) : Prop :=
  ∃ u, e = .returned (.tuple #[u, .bool b]) ∧ Own w' w.heap.size u L ∧ Below w.heap.size w w'

set_option maxRecDepth 100000 in
set_option maxHeartbeats 1600000 in
theorem specSums (v : Value) (P : List Int) (bad : Int) (w : World) (h : IntsAt w v P) (hm : P.length ≤ 1048576) (hP : ∀ p ∈ P, 0 ≤ p ∧ p ≤ 1023) (b0 : 0 ≤ bad) (b1 : bad ≤ 1023) :
    Calls Try.prog 36 #[v, .int .i64 bad] w (ListsS (sumL P bad) w) := by
  obtain ⟨i0, hi, hz0, hz1, hz2⟩ := info_parts infoIntA
  obtain ⟨a, c, rfl, h⟩ := h
  have H := Lib.hid h
  have HR : Hid (∀ i (h : i < P.length), sumL (P.take (i + 1)) bad = sumL (P.take i) bad ++ [cntI (bits .and .i64 P[i] bad)]) := fun i h => sumL_take P bad h
  have HA : Hid (sumL P bad = sumL (P.take P.length) bad) := by unfold Hid; rw [List.take_length]
  have HL : Hid (∀ i, i ≤ P.length → (sumL (P.take i) bad).length = i) := fun i h => by rw [sumL_len, List.length_take]; omega
  have HC : Hid (∀ i (h : i < P.length) W, Calls Try.prog 60 #[.int .i64 (bits .and .i64 P[i] bad)] W fun e w' => e = .returned (.int .i64 (cntI (bits .and .i64 P[i] bad))) ∧ W = w') := fun i h W => by
    have hp := hP _ (List.getElem_mem h)
    have := and_in hp.1 hp.2 b0 b1
    exact specCount _ (by unfold andI at this; omega) W
  clear h hP
  unfold ListsS
  generalize sumL P bad = R at HA ⊢
  obtain ⟨m, hmm⟩ : ∃ m, P.length = m := ⟨_, rfl⟩
  rw [hmm] at HA hm ⊢
  have HN := Lib.hid hmm
  clear hmm
  have O1 : Hid (Own (w.alloc (.cells #[] 3)) w.heap.size (.slice (some ⟨w.heap.size, 0, none⟩) 0 0) (sumL (P.take 0) bad)) := Own.lit w w.heap.size (Nat.le_refl _)
  have B1 := Lib.hid (alloc_below w (.cells #[] 3))
  go_enter Try.func36, Try.ntmps36
  go_wp2
  go_loopw [5, 11] (fun ov iv wr => ∃ i : Nat, i ≤ m ∧ iv = .int .i64 i ∧ Hid (Own wr w.heap.size ov (sumL (P.take i) bad)) ∧ Hid (Below w.heap.size w wr)) (fun _ iv _ => m - (intOf iv).toNat)
  case atStart => exact ⟨0, Nat.zero_le _, rfl, O1, B1⟩
  case round =>
    clear O1 B1
    obtain ⟨i, hi2, rfl, O2, B2⟩ := hrel
    by_cases hlt : i < m
    · have hil : i < P.length := by rw [HN.out]; exact hlt
      rcases H.out with h0 | ⟨b, o, rfl, hc⟩
      · rw [h0] at hil; simp at hil
      have hbl := World.block_lt_of_cell? w _ (hc i hil)
      have e0 : wr.cell? ⟨b, o + i, none⟩ = some (.int .i64 P[i]) := by rw [B2.out.cell (p := ⟨b, o + i, none⟩) hbl]; exact hc i hil
      have hst := HR.out i hil
      have hlen := HL.out i (by omega)
      have CC := Lib.hid (HC.out i hil)
      obtain ⟨p, hp⟩ : ∃ p, P[i] = p := ⟨_, rfl⟩
      rw [hp] at e0 hst CC
      have HST := Lib.hid hst
      have hown := O2.out
      obtain ⟨g, mm, cc, rfl⟩ := O2.out.form
      generalize sumL (P.take i) bad = L at hown hlen HST
      generalize cntI (bits .and .i64 p bad) = k at CC HST
      have i0' : (0 : Int) ≤ (i : Int) := by omega
      have i1 : (i : Int) < (m : Int) := by omega
      have hbs : w.heap.size ≤ wr.heap.size := B2.out.size
      unfold Own at hown
      clear hc hbl hst hp hil O2
      go_wp2_with fail
      refine (CC.out _).mono ?_
      rintro e w1 ⟨rfl, rfl⟩
      go_wp2_with (at_builtin; refine wpList_append_own _ rfl _ _ 22 rfl w.heap.size 3 i0 (.int .i64 0) 1 8 Try.underlying22 hi hz0 hz1 hz2 rfl (by decide) _ _ _ rfl (hown.alloc _) ⟨wr.heap.size, 0, none⟩ 1 1 [.int .i64 k] rfl rfl (cell_one_new _ _ _) (by simp [Value.oneCell']) (by unfold maxLen; omega) (by omega) (by simp; omega) ?_; intro v' w2 hown' hg1 _)
      have hb2 := Below.grown (B2.out.alloc hbs _) hg1 (by simp; omega) (fun j hj => (hown.lt j hj).1)
      go_wp2
      go_roundw
      case rel =>
        refine ⟨i + 1, by omega, by go_num, ?_, Lib.hid hb2⟩
        unfold Hid Own
        rw [HST.out]
        simpa using hown'
      case measure => simp [intOf]; omega
    · obtain rfl : i = m := by omega
      have HE := HA.out
      obtain ⟨g, mm, cc, rfl⟩ := O2.out.form
      go_wp2
      go_ret
      exact ⟨_, rfl, by rw [HE]; exact O2.out, B2.out⟩

set_option maxRecDepth 100000 in
set_option maxHeartbeats 1600000 in
theorem specSumPools (n : Int) (v : Value) (P : List Int) (bad : Int) (w : World) (h : IntsAt w v P) (hm : P.length ≤ 1048576) :
    Calls Try.prog 11 #[.int .i64 n, v, .int .i64 bad] w (GivesS (sumO n P bad) (testsB n P bad) w) := by
  have CP := Lib.hid (specPoolsOk n v P w h (by unfold maxLen; omega))
  have CI := Lib.hid (fun W => l01In_is bad 0 (topI n) W)
  have HB : Hid (testsB n P bad = (poolsB n P && (decide (0 ≤ bad) && decide (bad ≤ topI n)))) := rfl
  by_cases hp : poolsB n P = true
  · obtain ⟨⟨n1, n10⟩, -, hin⟩ := pools_in hp
    obtain ⟨hs1, hs2, hs3, hs4⟩ := shl_top n1 n10
    rw [hs2] at hs1
    rw [hp] at CP HB
    by_cases hb : 0 ≤ bad ∧ bad ≤ topI n
    · have ht : testsB n P bad = true := by rw [HB.out, decide_eq_true hb.1, decide_eq_true hb.2]; rfl
      have ho : sumO n P bad = sumL P bad := by unfold sumO; rw [if_pos ht]
      have CS := Lib.hid (specSums v P bad w h hm hin hb.1 (by omega))
      rw [decide_eq_true hb.1, decide_eq_true hb.2] at CI
      rw [ht, ho]
      obtain ⟨a, c, rfl, -⟩ := h
      unfold ListsS at CS
      unfold GivesS
      generalize sumL P bad = L at CS ⊢
      generalize topI n = T at hs1 hs2 hs3 hs4 CI
      have hT : IntKind.i64.wrap T = T := by rw [IntKind.wrap_i64]; omega
      clear hb ht ho hp hin HB
      go_enter Try.func11, Try.ntmps11
      go_wp2_with fail
      refine CP.out.mono ?_
      rintro e w1 ⟨rfl, rfl⟩
      go_wp2_with fail
      refine (CI.out _).mono ?_
      rintro e w1 ⟨rfl, rfl⟩
      go_wp2_with fail
      refine CS.out.mono ?_
      rintro e w2 ⟨u, rfl, ou, bb⟩
      have O := Lib.hid ou
      have B := Lib.hid bb
      obtain ⟨g, mm, cc, rfl⟩ := ou.form
      clear ou bb
      go_wp2
      go_ret2
      exact ⟨_, rfl, O.out, B.out⟩
    · have hib : (decide (0 ≤ bad) && decide (bad ≤ topI n)) = false := by simpa using hb
      have ht : testsB n P bad = false := by rw [HB.out, hib]; rfl
      have ho : sumO n P bad = [] := by unfold sumO; rw [ht]; rfl
      have CI2 := CI
      rw [show (Bool.true && (decide (0 ≤ bad) && decide (bad ≤ topI n))) = false from by rw [hib]; rfl] at HB
      rw [ht, ho]
      rw [hib] at CI2
      have CI3 := Lib.hid CI2.out
      obtain ⟨a, c, rfl, -⟩ := h
      unfold GivesS
      generalize topI n = T at hs1 hs2 hs3 hs4 CI3
      have hT : IntKind.i64.wrap T = T := by rw [IntKind.wrap_i64]; omega
      clear hb ht ho hp hin HB hib CI CI2
      go_enter Try.func11, Try.ntmps11
      go_wp2_with fail
      refine CP.out.mono ?_
      rintro e w1 ⟨rfl, rfl⟩
      go_wp2_with fail
      refine (CI3.out _).mono ?_
      rintro e w1 ⟨rfl, rfl⟩
      go_wp2
      go_ret2
      exact ⟨_, rfl, Own.nil _ _, Below.refl _ _⟩
  · have hp2 : poolsB n P = false := by simpa using hp
    have ht : testsB n P bad = false := by rw [HB.out, hp2]; rfl
    have ho : sumO n P bad = [] := by unfold sumO; rw [ht]; rfl
    rw [hp2] at CP
    rw [ht, ho]
    obtain ⟨a, c, rfl, -⟩ := h
    unfold GivesS
    clear ht ho hp hp2 HB CI
    go_enter Try.func11, Try.ntmps11
    go_wp2_with fail
    refine CP.out.mono ?_
    rintro e w1 ⟨rfl, rfl⟩
    go_wp2
    go_ret2
    exact ⟨_, rfl, Own.nil _ _, Below.refl _ _⟩
end Go.Proofs.Ytoliloophjeooaa
