/- The contracts of the model's CountItems, PoolsOk, TestPools and their helpers. Conditions: the slices read as integers and as truth values. -/
import Derived.Test.YtlflblngbneacaaGreatDoorGPool
import Derived.Test.YtlflblngbneacaaGreatDoorBools
import Derived.Test.YtlflblngbneacaaGreatDoorGBase
import Derived.Test.YtlflblngbneacaaGreatDoorGWei
namespace Go.Proofs.YtlflblngbneacaaGreatDoor
open Go.RowKit

set_option maxHeartbeats 1600000 in
theorem specCount (s : Int) (h1 : s ≤ 9223372036854775807) (w : World) : Calls Tryz.prog 93 #[.int .i64 s] w fun e w' => e = .returned (.int .i64 (cntI s)) ∧ w = w' := by
  have HC : Hid (cntI s = cntF 64 s) := rfl
  generalize cntI s = c at HC ⊢
  go_enter Tryz.func93, Tryz.ntmps93
  go_wp2
  go_loopw [0, 3] (fun sv nv wr => ∃ (f : Nat) (q n : Int), f ≤ 64 ∧ sv = .int .i64 q ∧ nv = .int .i64 n ∧ q < 2 ^ f ∧ q ≤ 9223372036854775807 ∧ 0 ≤ n ∧ n + f ≤ 64 ∧ Hid (n + cntF f q = c) ∧ wr = w) (fun sv _ _ => (intOf sv).toNat)
  case atStart =>
    have h64 : (2 : Int) ^ 64 = 18446744073709551616 := by decide
    refine ⟨64, s, 0, by omega, rfl, rfl, by omega, h1, by omega, by omega, ?_, rfl⟩
    unfold Hid
    rw [HC.out]
    omega
  case round =>
    clear HC
    obtain ⟨f, q, n, hf, rfl, rfl, hq, hq1, hn0, hn1, HS, rfl⟩ := hrel
    by_cases hpos : 0 < q
    · obtain ⟨g, rfl⟩ : ∃ g, f = g + 1 := by
        cases f with
        | zero => exfalso; have : (2 : Int) ^ 0 = 1 := by decide
                  omega
        | succ g => exact ⟨g, rfl⟩
      have h2 : q / 2 < 2 ^ g := by rw [Int.pow_succ] at hq; omega
      have HS2 : Hid ((n + q % 2) + cntF g (q / 2) = c) := by
        have := HS.out
        unfold cntF at this
        rw [if_pos hpos] at this
        unfold Hid
        omega
      have HF : Hid (n + q % 2 + g ≤ 64) := by unfold Hid; omega
      clear hq HS
      go_wp2
      go_roundw
      case rel => exact ⟨g, q / 2, n + q % 2, by omega, by first | rfl | trivial, by first | rfl | trivial, h2, by omega, by omega, by have := HF.out; omega, HS2, by first | rfl | trivial⟩
      case measure => simp [intOf]; omega
    · have HE : Hid (n = c) := by
        have := HS.out
        rw [cntF_none (by omega)] at this
        unfold Hid
        omega
      go_wp2
      go_ret
      exact ⟨ret_int HE.out, rfl⟩

set_option maxHeartbeats 1600000 in
theorem specPoolsOk (n : Int) (v : Value) (P : List Int) (w : World) (h : IntsAt w v P) (hm : P.length ≤ maxLen) :
    Calls Tryz.prog 34 #[.int .i64 n, v] w fun e w' => e = .returned (.bool (poolsB n P)) ∧ w = w' := by
  have CI := Lib.hid (fun W => l01In_is n 1 10 W)
  have CT := Lib.hid (fun p W => l01In_is p 0 (topI n) W)
  have HP : Hid (poolsB n P = ((itemsB n && decide (P.length ≤ 12)) && P.all (poolB n))) := rfl
  obtain ⟨a, c, rfl, h⟩ := h
  have H := Lib.hid h
  unfold maxLen at hm
  clear h
  generalize poolsB n P = r at HP ⊢
  obtain ⟨m, hmm⟩ : ∃ m, P.length = m := ⟨_, rfl⟩
  rw [hmm] at HP hm ⊢
  have HN := Lib.hid hmm
  clear hmm
  have HI : Hid ((decide (1 ≤ n) && decide (n ≤ 10)) = itemsB n) := rfl
  rw [HI.out] at CI
  have HB : Hid (itemsB n = true → 1 ≤ n ∧ n ≤ 10) := fun h => by unfold itemsB at h; simpa using h
  clear HI
  generalize itemsB n = ib at CI HP HB
  cases ib with
  | false =>
    have HE : Hid (r = false) := HP.out
    go_enter Tryz.func34, Tryz.ntmps34
    go_wp2_with fail
    refine (CI.out _).mono ?_
    rintro e w1 ⟨rfl, rfl⟩
    go_wp2
    go_ret
    exact ⟨ret_bool HE.out.symm, rfl⟩
  | true =>
    obtain ⟨n1, n10⟩ := HB.out rfl
    by_cases h12 : m ≤ 12
    · have HE : Hid (r = P.all (poolB n)) := by unfold Hid; rw [HP.out, decide_eq_true h12]; rfl
      have k12 : ¬ (12 : Int) < (m : Int) := by omega
      obtain ⟨hs1, hs2, hs3, hs4⟩ := shl_top n1 n10
      rw [hs2] at hs1
      clear HP HB
      go_enter Tryz.func34, Tryz.ntmps34
      go_wp2_with fail
      refine (CI.out _).mono ?_
      rintro e w1 ⟨rfl, rfl⟩
      go_wp2_with fail
      clear k12
      go_loopw [17] (fun iv wr => ∃ i : Nat, i ≤ m ∧ iv = .int .i64 i ∧ wr = w ∧ Hid ((P.take i).all (poolB n) = true)) (fun iv _ => m - (intOf iv).toNat)
      case atStart => exact ⟨0, Nat.zero_le _, rfl, rfl, by unfold Hid; simp⟩
      case round =>
        obtain ⟨i, hi, rfl, rfl, HT⟩ := hrel
        by_cases hlt : i < m
        · have hil : i < P.length := by rw [HN.out]; exact hlt
          rcases H.out with h0 | ⟨b, o, rfl, hc⟩
          · rw [h0] at hil; simp at hil
          have e0 := hc i hil
          obtain ⟨p, hp⟩ : ∃ p, P[i] = p := ⟨_, rfl⟩
          rw [hp] at e0
          have HTS : Hid ((P.take (i + 1)).all (poolB n) = poolB n p) := by unfold Hid; rw [List.take_succ_eq_append_getElem hil, List.all_append, HT.out, hp]; simp
          have HNO : Hid (poolB n p = false → P.all (poolB n) = false) := fun hb => by
            rw [List.all_eq_false]
            exact ⟨P[i], List.getElem_mem hil, by rw [hp, hb]; simp⟩
          have CT1 : Hid (∀ W, Calls Tryz.prog 53 #[.int .i64 p, .int .i64 0, .int .i64 (topI n)] W fun e w' => e = .returned (.bool (poolB n p)) ∧ W = w') := CT.out p
          have i0 : (0 : Int) ≤ (i : Int) := by omega
          have i1 : (i : Int) < (m : Int) := by omega
          generalize poolB n p = pb at HTS HNO CT1
          clear hc hil hp CT
          generalize topI n = T at hs1 hs2 hs3 hs4 CT1
          cases pb with
          | false =>
            have HF : Hid (r = false) := by unfold Hid; rw [HE.out]; exact HNO.out rfl
            go_wp2_with fail
            refine (CT1.out _).mono ?_
            rintro e w2 ⟨rfl, rfl⟩
            go_wp2
            go_ret
            exact ⟨ret_bool HF.out.symm, rfl⟩
          | true =>
            go_wp2_with fail
            refine (CT1.out _).mono ?_
            rintro e w2 ⟨rfl, rfl⟩
            go_wp2
            go_roundw
            case rel => exact ⟨i + 1, by omega, by go_num, by first | rfl | trivial, HTS⟩
            case measure => simp [intOf]; omega
        · obtain rfl : i = m := by omega
          have HF : Hid (r = true) := by
            have := HT.out
            rw [List.take_of_length_le (by rw [HN.out]; omega)] at this
            unfold Hid
            rw [HE.out, this]
          go_wp2
          go_ret
          exact ⟨ret_bool HF.out.symm, rfl⟩
    · have HE : Hid (r = false) := by unfold Hid; rw [HP.out, decide_eq_false h12]; rfl
      have k12 : (12 : Int) < (m : Int) := by omega
      go_enter Tryz.func34, Tryz.ntmps34
      go_wp2_with fail
      refine (CI.out _).mono ?_
      rintro e w1 ⟨rfl, rfl⟩
      go_wp2
      go_ret
      exact ⟨ret_bool HE.out.symm, rfl⟩

/-- A function that gives back a list of truth values of its own. -/
def ListsB (L : List Bool) (w : World) (e : Ending) (w' : World) : Prop := ∃ v, e = .returned v ∧ OwnB w' w.heap.size v L ∧ Below w.heap.size w w'
theorem OwnB.lit (X : World) (B : Nat) (hB : B ≤ X.heap.size) : OwnB (X.alloc (.cells #[] 4)) B (.slice (some ⟨X.heap.size, 0, none⟩) 0 0) [] :=
  World.ownsRow_lit (base := B) (e := 4) (size := 1) X #[] 0 hB (by unfold maxLen; omega) rfl

set_option maxHeartbeats 1600000 in
theorem specTest (v : Value) (P : List Int) (bad : Int) (w : World) (h : IntsAt w v P) (hm : P.length ≤ 1048576) :
    Calls Tryz.prog 95 #[v, .int .i64 bad] w (ListsB (resL P bad) w) := by
  obtain ⟨i0, hi, hz0, hz1, hz2⟩ := info_parts infoBoolA
  obtain ⟨a, c, rfl, h⟩ := h
  have H := Lib.hid h
  have HR : Hid (∀ i (h : i < P.length), resL (P.take (i + 1)) bad = resL (P.take i) bad ++ [bits .and .i64 P[i] bad != 0]) := fun i h => by
    rw [List.take_succ_eq_append_getElem h]
    unfold resL
    rw [List.map_append]
    rfl
  have HA : Hid (resL P bad = resL (P.take P.length) bad) := by unfold Hid; rw [List.take_length]
  have HL : Hid (∀ i, i ≤ P.length → (resL (P.take i) bad).length = i) := fun i h => by rw [resL_len, List.length_take]; omega
  have HZ : Hid (resL (P.take 0) bad = []) := rfl
  clear h
  unfold ListsB
  generalize resL P bad = R at HA ⊢
  obtain ⟨m, hmm⟩ : ∃ m, P.length = m := ⟨_, rfl⟩
  rw [hmm] at HA hm ⊢
  have HN := Lib.hid hmm
  clear hmm
  have O1 := Lib.hid (OwnB.lit w w.heap.size (Nat.le_refl _))
  have B1 := Lib.hid (alloc_below w (.cells #[] 4))
  go_enter Tryz.func95, Tryz.ntmps95
  go_wp2
  go_loopw [5, 11] (fun ov iv wr => ∃ i : Nat, i ≤ m ∧ iv = .int .i64 i ∧ Hid (OwnB wr w.heap.size ov (resL (P.take i) bad)) ∧ Hid (Below w.heap.size w wr)) (fun _ iv _ => m - (intOf iv).toNat)
  case atStart => exact ⟨0, Nat.zero_le _, rfl, O1, B1⟩
  case round =>
    clear O1 B1
    obtain ⟨i, hi2, rfl, O2, B2⟩ := hrel
    by_cases hlt : i < m
    · have hil : i < P.length := by rw [HN.out]; exact hlt
      rcases H.out with h0 | ⟨b, o, rfl, hc⟩
      · rw [h0] at hil; simp at hil
      have hbl := World.block_lt_of_cell? w _ (hc i hil)
      have e0 : wr.cell? ⟨b, o + i, none⟩ = some (.int .i64 P[i]) := by rw [B2.out.cell (p := ⟨b, o + i, none⟩) hbl]; exact hc i hil
      have hst := HR.out i hil
      have hlen := HL.out i (by omega)
      obtain ⟨p, hp⟩ : ∃ p, P[i] = p := ⟨_, rfl⟩
      rw [hp] at e0 hst
      have HST := Lib.hid hst
      have hown := O2.out
      generalize resL (P.take i) bad = L at hown hlen HST
      have i0' : (0 : Int) ≤ (i : Int) := by omega
      have i1 : (i : Int) < (m : Int) := by omega
      have hbs : w.heap.size ≤ wr.heap.size := B2.out.size
      unfold OwnB at hown
      clear hc hbl hst hp hil O2
      go_wp2_with (at_builtin; refine wpList_append_own _ rfl _ _ 111 rfl w.heap.size 4 i0 (.bool false) 1 1 Tryz.underlying111 hi hz0 hz1 hz2 rfl (by decide) _ _ _ rfl (hown.alloc _) ⟨wr.heap.size, 0, none⟩ 1 1 [.bool (bits .and .i64 p bad != 0)] rfl rfl (cell_one_new _ _ _) (by simp [Value.oneCell']) (by unfold maxLen; omega) (by omega) (by simp; omega) ?_; intro v' w2 hown' hg1 _)
      have hb2 := Below.grown (B2.out.alloc hbs _) hg1 (by simp; omega) (fun j hj => (hown.lt j hj).1)
      go_wp2
      go_roundw
      case rel =>
        refine ⟨i + 1, by omega, by go_num, ?_, Lib.hid hb2⟩
        unfold Hid OwnB
        rw [HST.out]
        simpa using hown'
      case measure => simp [intOf]; omega
    · obtain rfl : i = m := by omega
      have HE := HA.out
      go_wp2
      go_ret
      exact ⟨_, rfl, by rw [HE]; exact O2.out, B2.out⟩
end Go.Proofs.YtlflblngbneacaaGreatDoor
