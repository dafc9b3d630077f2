/- The contracts of the program's PoolsOk, resultsOf and TestPools. Conditions: the slice reads as integers; a set of the items at hand. -/
import Derived.Test.YtlflblngbneacaaGreatDoorCountImpl
import Derived.Test.YtlflblngbneacaaGreatDoorPoolLaws
import Derived.Test.YtlflblngbneacaaGreatDoorGPool
namespace Go.Proofs.YtlflblngbneacaaGreatDoor
open Go.RowKit

set_option maxHeartbeats 1600000 in
theorem implPoolsOk (n : Int) (v : Value) (P : List Int) (w : World) (h : IntsAt w v P) (hm : P.length ≤ maxLen) :
    Calls Tryz.prog 38 #[.int .i64 n, v] w fun e w' => e = .returned (.bool (poolsB n P)) ∧ w = w' := by
  have HP : Hid (poolsB n P = ((itemsB n && decide (P.length ≤ 12)) && P.all (poolB n))) := rfl
  obtain ⟨a, c, rfl, h⟩ := h
  have H := Lib.hid h
  unfold maxLen at hm
  clear h
  generalize poolsB n P = r at HP ⊢
  obtain ⟨m, hmm⟩ : ∃ m, P.length = m := ⟨_, rfl⟩
  rw [hmm] at HP hm ⊢
  have HN := Lib.hid hmm
  clear hmm
  have HI : Hid (itemsB n = (decide (1 ≤ n) && decide (n ≤ 10))) := rfl
  by_cases k1 : n < 1
  · have HE : Hid (r = false) := by unfold Hid; rw [HP.out, HI.out, decide_eq_false (by omega)]; rfl
    go_enter Tryz.func38, Tryz.ntmps38
    go_wp2
    go_ret
    exact ⟨ret_bool HE.out.symm, rfl⟩
  by_cases k10 : 10 < n
  · have HE : Hid (r = false) := by unfold Hid; rw [HP.out, HI.out, decide_eq_true (by omega), decide_eq_false (by omega)]; rfl
    go_enter Tryz.func38, Tryz.ntmps38
    go_wp2
    go_ret
    exact ⟨ret_bool HE.out.symm, rfl⟩
  by_cases k12 : (12 : Int) < (m : Int)
  · have HE : Hid (r = false) := by unfold Hid; rw [HP.out, decide_eq_false (show ¬ m ≤ 12 by omega), Bool.and_false, Bool.false_and]
    go_enter Tryz.func38, Tryz.ntmps38
    go_wp2
    go_ret
    exact ⟨ret_bool HE.out.symm, rfl⟩
  have HE : Hid (r = P.all (poolB n)) := by unfold Hid; rw [HP.out, HI.out, decide_eq_true (show m ≤ 12 by omega), decide_eq_true (show 1 ≤ n by omega), decide_eq_true (show n ≤ 10 by omega)]; rfl
  have CT := Lib.hid (fun p W => implIsSet n p (by omega) (by omega) W)
  clear HP HI
  go_enter Tryz.func38, Tryz.ntmps38
  go_wp2_with fail
  clear k12 k1 k10
  go_loopw [20] (fun iv wr => ∃ i : Nat, i ≤ m ∧ iv = .int .i64 i ∧ wr = w ∧ Hid ((P.take i).all (poolB n) = true)) (fun iv _ => m - (intOf iv).toNat)
  case atStart => exact ⟨0, Nat.zero_le _, rfl, rfl, by unfold Hid; simp⟩
  case round =>
    obtain ⟨i, hi, rfl, rfl, HT⟩ := hrel
    by_cases hlt : i < m
    · have hil : i < P.length := by rw [HN.out]; exact hlt
      rcases H.out with h0 | ⟨b, o, rfl, hc⟩
      · rw [h0] at hil; simp at hil
      have e0 := hc i hil
      obtain ⟨p, hp⟩ : ∃ p, P[i] = p := ⟨_, rfl⟩
      rw [hp] at e0
      have HTS : Hid ((P.take (i + 1)).all (poolB n) = poolB n p) := by unfold Hid; rw [List.take_succ_eq_append_getElem hil, List.all_append, HT.out, hp]; simp
      have HNO : Hid (poolB n p = false → P.all (poolB n) = false) := fun hb => by
        rw [List.all_eq_false]
        exact ⟨P[i], List.getElem_mem hil, by rw [hp, hb]; simp⟩
      have CT1 := Lib.hid (CT.out p)
      have i0 : (0 : Int) ≤ (i : Int) := by omega
      have i1 : (i : Int) < (m : Int) := by omega
      generalize poolB n p = pb at HTS HNO CT1
      clear hc hil hp CT
      cases pb with
      | false =>
        have HF : Hid (r = false) := by unfold Hid; rw [HE.out]; exact HNO.out rfl
        go_wp2_with fail
        refine (CT1.out _).mono ?_
        rintro e w2 ⟨rfl, rfl⟩
        go_wp2
        go_ret
        exact ⟨ret_bool HF.out.symm, rfl⟩
      | true =>
        go_wp2_with fail
        refine (CT1.out _).mono ?_
        rintro e w2 ⟨rfl, rfl⟩
        go_wp2
        go_roundw
        case rel => exact ⟨i + 1, by omega, by go_num, by first | rfl | trivial, HTS⟩
        case measure => simp [intOf]; omega
    · obtain rfl : i = m := by omega
      have HF : Hid (r = true) := by
        have := HT.out
        rw [List.take_of_length_le (by rw [HN.out]; omega)] at this
        unfold Hid
        rw [HE.out, this]
      go_wp2
      go_ret
      exact ⟨ret_bool HF.out.symm, rfl⟩

set_option maxHeartbeats 1600000 in
theorem implResults16 (v : Value) (P : List Int) (bad : Int) (w : World) (h : IntsAt w v P) (hm : P.length ≤ 1048576) (hP : ∀ p ∈ P, 0 ≤ p ∧ p ≤ 65535) (g0 : 0 ≤ bad) (g1 : bad ≤ 65535) :
    Calls Tryz.prog 126 #[v, .int .i64 bad] w (ListsB (resL P bad) w) := by
  obtain ⟨i0, hi, hz0, hz1, hz2⟩ := info_parts infoBoolA
  obtain ⟨a, c, rfl, h⟩ := h
  have H := Lib.hid h
  have HR : Hid (∀ i (h : i < P.length), resL (P.take (i + 1)) bad = resL (P.take i) bad ++ [andI P[i] bad != 0]) := fun i h => by
    rw [List.take_succ_eq_append_getElem h]
    unfold resL
    rw [List.map_append]
    rfl
  have HA : Hid (resL P bad = resL (P.take P.length) bad) := by unfold Hid; rw [List.take_length]
  have HL : Hid (∀ i, i ≤ P.length → (resL (P.take i) bad).length = i) := fun i h => by rw [resL_len, List.length_take]; omega
  have HZ : Hid (resL (P.take 0) bad = []) := rfl
  have HC : Hid (∀ i (h : i < P.length) W, Calls Tryz.prog 152 #[.int .i64 P[i], .int .i64 bad] W fun e W' => e = .returned (.bool (andI P[i] bad != 0)) ∧ Below W.heap.size W W') := fun i h W =>
    (callsIn_wide (n := 4)).1 (positiveN16 _ bad (hP _ (List.getElem_mem h)).1 (hP _ (List.getElem_mem h)).2 g0 g1 4 (Nat.le_refl _) W)
  clear h hP
  unfold ListsB
  generalize resL P bad = R at HA ⊢
  obtain ⟨m, hmm⟩ : ∃ m, P.length = m := ⟨_, rfl⟩
  rw [hmm] at HA hm ⊢
  have HN := Lib.hid hmm
  clear hmm
  have O1 := Lib.hid (OwnB.nil w w.heap.size)
  have B1 := Lib.hid (Below.refl w.heap.size w)
  go_enter Tryz.func126, Tryz.ntmps126
  go_wp2
  go_loopw [5, 10] (fun ov iv wr => ∃ i : Nat, i ≤ m ∧ iv = .int .i64 i ∧ Hid (OwnB wr w.heap.size ov (resL (P.take i) bad)) ∧ Hid (Below w.heap.size w wr)) (fun _ iv _ => m - (intOf iv).toNat)
  case atStart => exact ⟨0, Nat.zero_le _, rfl, O1, B1⟩
  case round =>
    clear O1 B1
    obtain ⟨i, hi2, rfl, O2, B2⟩ := hrel
    obtain ⟨go, no, co, rfl⟩ := O2.out.form
    by_cases hlt : i < m
    · have hil : i < P.length := by rw [HN.out]; exact hlt
      rcases H.out with h0 | ⟨b, o, rfl, hc⟩
      · rw [h0] at hil; simp at hil
      have hbl := World.block_lt_of_cell? w _ (hc i hil)
      have e0 : wr.cell? ⟨b, o + i, none⟩ = some (.int .i64 P[i]) := by rw [B2.out.cell (p := ⟨b, o + i, none⟩) hbl]; exact hc i hil
      have hst := HR.out i hil
      have hlen := HL.out i (by omega)
      have CP := Lib.hid (HC.out i hil)
      obtain ⟨p, hp⟩ : ∃ p, P[i] = p := ⟨_, rfl⟩
      rw [hp] at e0 hst CP
      have HST := Lib.hid hst
      generalize resL (P.take i) bad = L at O2 hlen HST
      generalize (andI p bad != 0) = x at HST CP
      have i0' : (0 : Int) ≤ (i : Int) := by omega
      have i1 : (i : Int) < (m : Int) := by omega
      clear hc hbl hst hp hil
      go_wp2_with fail
      refine (CP.out _).mono ?_
      rintro e w2 ⟨rfl, bb⟩
      have hown := O2.out.below bb
      have B3 := Lib.hid (below_up B2.out bb)
      have hbs : w.heap.size ≤ w2.heap.size := B3.out.size
      unfold OwnB at hown
      clear bb O2 B2
      go_wp2_with (at_builtin; refine wpList_append_own _ rfl _ _ 111 rfl w.heap.size 4 i0 (.bool false) 1 1 Tryz.underlying111 hi hz0 hz1 hz2 rfl (by decide) _ _ _ rfl (hown.alloc _) ⟨w2.heap.size, 0, none⟩ 1 1 [.bool x] rfl rfl (cell_one_new _ _ _) (by simp [Value.oneCell']) (by unfold maxLen; omega) (by omega) (by simp; omega) ?_; intro v' w3 hown' hg1 _)
      have hb2 := Below.grown (B3.out.alloc hbs _) hg1 (by simp; omega) (fun j hj => (hown.lt j hj).1)
      go_wp2
      go_roundw
      case rel =>
        refine ⟨i + 1, by omega, by go_num, ?_, Lib.hid hb2⟩
        unfold Hid OwnB
        rw [HST.out]
        simpa using hown'
      case measure => simp [intOf]; omega
    · obtain rfl : i = m := by omega
      have HE := HA.out
      go_wp2
      go_ret
      exact ⟨_, rfl, by rw [HE]; exact O2.out, B2.out⟩

theorem implResults (v : Value) (P : List Int) (bad : Int) (w : World) (h : IntsAt w v P) (hm : P.length ≤ 1048576) (hP : ∀ p ∈ P, 0 ≤ p ∧ p ≤ 1023) (g0 : 0 ≤ bad) (g1 : bad ≤ 1023) :
    Calls Tryz.prog 126 #[v, .int .i64 bad] w (ListsB (resL P bad) w) := implResults16 v P bad w h hm (fun p hp => ⟨(hP p hp).1, by have := (hP p hp).2; omega⟩) g0 (by omega)

end Go.Proofs.YtlflblngbneacaaGreatDoor
