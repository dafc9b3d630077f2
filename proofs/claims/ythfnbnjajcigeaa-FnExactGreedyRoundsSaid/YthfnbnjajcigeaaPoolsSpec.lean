/- The contracts of the model's CountItems, PoolsOk, TestPools and their helpers. Conditions: the slices read as integers and as truth values. -/
import Derived.Test.YthfnbnjajcigeaaPoolPlain
import Derived.Test.YthfnbnjajcigeaaBools
import Derived.Test.YthfnbnjajcigeaaGBase
import Derived.Test.YthfnbnjajcigeaaGWei
namespace Go.Proofs.Ythfnbnjajcigeaa
open Go.RowKit

set_option maxHeartbeats 1600000 in
theorem specPoolsOk (n : Int) (v : Value) (P : List Int) (w : World) (h : IntsAt w v P) (hm : P.length ≤ maxLen) :
    Calls Try.prog 45 #[.int .i64 n, v] w fun e w' => e = .returned (.bool (poolsB n P)) ∧ w = w' := by
  have CI := Lib.hid (fun W => l01In_is n 1 10 W)
  have CT := Lib.hid (fun p W => l01In_is p 0 (topI n) W)
  have HP : Hid (poolsB n P = ((itemsB n && decide (P.length ≤ 12)) && P.all (poolB n))) := rfl
  obtain ⟨a, c, rfl, h⟩ := h
  have H := Lib.hid h
  unfold maxLen at hm
  clear h
  generalize poolsB n P = r at HP ⊢
  obtain ⟨m, hmm⟩ : ∃ m, P.length = m := ⟨_, rfl⟩
  rw [hmm] at HP hm ⊢
  have HN := Lib.hid hmm
  clear hmm
  have HI : Hid ((decide (1 ≤ n) && decide (n ≤ 10)) = itemsB n) := rfl
  rw [HI.out] at CI
  have HB : Hid (itemsB n = true → 1 ≤ n ∧ n ≤ 10) := fun h => by unfold itemsB at h; simpa using h
  clear HI
  generalize itemsB n = ib at CI HP HB
  cases ib with
  | false =>
    have HE : Hid (r = false) := HP.out
    go_enter Try.func45, Try.ntmps45
    go_wp2_with fail
    refine (CI.out _).mono ?_
    rintro e w1 ⟨rfl, rfl⟩
    go_wp2
    go_ret
    exact ⟨ret_bool HE.out.symm, rfl⟩
  | true =>
    obtain ⟨n1, n10⟩ := HB.out rfl
    by_cases h12 : m ≤ 12
    · have HE : Hid (r = P.all (poolB n)) := by unfold Hid; rw [HP.out, decide_eq_true h12]; rfl
      have k12 : ¬ (12 : Int) < (m : Int) := by omega
      obtain ⟨hs1, hs2, hs3, hs4⟩ := shl_top n1 n10
      rw [hs2] at hs1
      clear HP HB
      go_enter Try.func45, Try.ntmps45
      go_wp2_with fail
      refine (CI.out _).mono ?_
      rintro e w1 ⟨rfl, rfl⟩
      go_wp2_with fail
      clear k12
      go_loopw [17] (fun iv wr => ∃ i : Nat, i ≤ m ∧ iv = .int .i64 i ∧ wr = w ∧ Hid ((P.take i).all (poolB n) = true)) (fun iv _ => m - (intOf iv).toNat)
      case atStart => exact ⟨0, Nat.zero_le _, rfl, rfl, by unfold Hid; simp⟩
      case round =>
        obtain ⟨i, hi, rfl, rfl, HT⟩ := hrel
        by_cases hlt : i < m
        · have hil : i < P.length := by rw [HN.out]; exact hlt
          rcases H.out with h0 | ⟨b, o, rfl, hc⟩
          · rw [h0] at hil; simp at hil
          have e0 := hc i hil
          obtain ⟨p, hp⟩ : ∃ p, P[i] = p := ⟨_, rfl⟩
          rw [hp] at e0
          have HTS : Hid ((P.take (i + 1)).all (poolB n) = poolB n p) := by unfold Hid; rw [List.take_succ_eq_append_getElem hil, List.all_append, HT.out, hp]; simp
          have HNO : Hid (poolB n p = false → P.all (poolB n) = false) := fun hb => by
            rw [List.all_eq_false]
            exact ⟨P[i], List.getElem_mem hil, by rw [hp, hb]; simp⟩
          have CT1 : Hid (∀ W, Calls Try.prog 36 #[.int .i64 p, .int .i64 0, .int .i64 (topI n)] W fun e w' => e = .returned (.bool (poolB n p)) ∧ W = w') := CT.out p
          have i0 : (0 : Int) ≤ (i : Int) := by omega
          have i1 : (i : Int) < (m : Int) := by omega
          generalize poolB n p = pb at HTS HNO CT1
          clear hc hil hp CT
          generalize topI n = T at hs1 hs2 hs3 hs4 CT1
          cases pb with
          | false =>
            have HF : Hid (r = false) := by unfold Hid; rw [HE.out]; exact HNO.out rfl
            go_wp2_with fail
            refine (CT1.out _).mono ?_
            rintro e w2 ⟨rfl, rfl⟩
            go_wp2
            go_ret
            exact ⟨ret_bool HF.out.symm, rfl⟩
          | true =>
            go_wp2_with fail
            refine (CT1.out _).mono ?_
            rintro e w2 ⟨rfl, rfl⟩
            go_wp2
            go_roundw
            case rel => exact ⟨i + 1, by omega, by go_num, by first | rfl | trivial, HTS⟩
            case measure => simp [intOf]; omega
        · obtain rfl : i = m := by omega
          have HF : Hid (r = true) := by
            have := HT.out
            rw [List.take_of_length_le (by rw [HN.out]; omega)] at this
            unfold Hid
            rw [HE.out, this]
          go_wp2
          go_ret
          exact ⟨ret_bool HF.out.symm, rfl⟩
    · have HE : Hid (r = false) := by unfold Hid; rw [HP.out, decide_eq_false h12]; rfl
      have k12 : (12 : Int) < (m : Int) := by omega
      go_enter Try.func45, Try.ntmps45
      go_wp2_with fail
      refine (CI.out _).mono ?_
      rintro e w1 ⟨rfl, rfl⟩
      go_wp2
      go_ret
      exact ⟨ret_bool HE.out.symm, rfl⟩

/-- A function that gives back a list of truth values of its own. -/
def ListsB (L : List Bool) (w : World) (e : Ending) (w' : World) : Prop := ∃ v, e = .returned v ∧ OwnB w' w.heap.size v L ∧ Below w.heap.size w w'
theorem OwnB.lit (X : World) (B : Nat) (hB : B ≤ X.heap.size) : OwnB (X.alloc (.cells #[] 4)) B (.slice (some ⟨X.heap.size, 0, none⟩) 0 0) [] :=
  World.ownsRow_lit (base := B) (e := 4) (size := 1) X #[] 0 hB (by unfold maxLen; omega) rfl

end Go.Proofs.Ythfnbnjajcigeaa
