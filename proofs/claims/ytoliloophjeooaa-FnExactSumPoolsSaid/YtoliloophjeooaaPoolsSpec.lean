/- The contracts of the model's CountItems, PoolsOk, TestPools and their helpers. Conditions: the slices read as integers and as truth values. -/
import Derived.Test.YtoliloophjeooaaPoolPlain
import Derived.Test.YtoliloophjeooaaBools
import Derived.Test.YtoliloophjeooaaGBase
import Derived.Test.YtoliloophjeooaaGWei
namespace Go.Proofs.Ytoliloophjeooaa
open Go.RowKit

set_option maxHeartbeats 1600000 in
theorem specCount (s : Int) (h1 : s ≤ 9223372036854775807) (w : World) : Calls Try.prog 60 #[.int .i64 s] w fun e w' => e = .returned (.int .i64 (cntI s)) ∧ w = w' := by
  have HC : Hid (cntI s = cntF 64 s) := rfl
  generalize cntI s = c at HC ⊢
  go_enter Try.func60, Try.ntmps60
  go_wp2
  go_loopw [0, 3] (fun sv nv wr => ∃ (f : Nat) (q n : Int), f ≤ 64 ∧ sv = .int .i64 q ∧ nv = .int .i64 n ∧ q < 2 ^ f ∧ q ≤ 9223372036854775807 ∧ 0 ≤ n ∧ n + f ≤ 64 ∧ Hid (n + cntF f q = c) ∧ wr = w) (fun sv _ _ => (intOf sv).toNat)
  case atStart =>
    have h64 : (2 : Int) ^ 64 = 18446744073709551616 := by decide
    refine ⟨64, s, 0, by omega, rfl, rfl, by omega, h1, by omega, by omega, ?_, rfl⟩
    unfold Hid
    rw [HC.out]
    omega
  case round =>
    clear HC
    obtain ⟨f, q, n, hf, rfl, rfl, hq, hq1, hn0, hn1, HS, rfl⟩ := hrel
    by_cases hpos : 0 < q
    · obtain ⟨g, rfl⟩ : ∃ g, f = g + 1 := by
        cases f with
        | zero => exfalso; have : (2 : Int) ^ 0 = 1 := by decide
                  omega
        | succ g => exact ⟨g, rfl⟩
      have h2 : q / 2 < 2 ^ g := by rw [Int.pow_succ] at hq; omega
      have HS2 : Hid ((n + q % 2) + cntF g (q / 2) = c) := by
        have := HS.out
        unfold cntF at this
        rw [if_pos hpos] at this
        unfold Hid
        omega
      have HF : Hid (n + q % 2 + g ≤ 64) := by unfold Hid; omega
      clear hq HS
      go_wp2
      go_roundw
      case rel => exact ⟨g, q / 2, n + q % 2, by omega, by first | rfl | trivial, by first | rfl | trivial, h2, by omega, by omega, by have := HF.out; omega, HS2, by first | rfl | trivial⟩
      case measure => simp [intOf]; omega
    · have HE : Hid (n = c) := by
        have := HS.out
        rw [cntF_none (by omega)] at this
        unfold Hid
        omega
      go_wp2
      go_ret
      exact ⟨ret_int HE.out, rfl⟩

set_option maxHeartbeats 1600000 in
theorem specPoolsOk (n : Int) (v : Value) (P : List Int) (w : World) (h : IntsAt w v P) (hm : P.length ≤ maxLen) :
    Calls Try.prog 34 #[.int .i64 n, v] w fun e w' => e = .returned (.bool (poolsB n P)) ∧ w = w' := by
  have CI := Lib.hid (fun W => l01In_is n 1 10 W)
  have CT := Lib.hid (fun p W => l01In_is p 0 (topI n) W)
  have HP : Hid (poolsB n P = ((itemsB n && decide (P.length ≤ 12)) && P.all (poolB n))) := rfl
  obtain ⟨a, c, rfl, h⟩ := h
  have H := Lib.hid h
  unfold maxLen at hm
  clear h
  generalize poolsB n P = r at HP ⊢
  obtain ⟨m, hmm⟩ : ∃ m, P.length = m := ⟨_, rfl⟩
  rw [hmm] at HP hm ⊢
  have HN := Lib.hid hmm
  clear hmm
  have HI : Hid ((decide (1 ≤ n) && decide (n ≤ 10)) = itemsB n) := rfl
  rw [HI.out] at CI
  have HB : Hid (itemsB n = true → 1 ≤ n ∧ n ≤ 10) := fun h => by unfold itemsB at h; simpa using h
  clear HI
  generalize itemsB n = ib at CI HP HB
  cases ib with
  | false =>
    have HE : Hid (r = false) := HP.out
    go_enter Try.func34, Try.ntmps34
    go_wp2_with fail
    refine (CI.out _).mono ?_
    rintro e w1 ⟨rfl, rfl⟩
    go_wp2
    go_ret
    exact ⟨ret_bool HE.out.symm, rfl⟩
  | true =>
    obtain ⟨n1, n10⟩ := HB.out rfl
    by_cases h12 : m ≤ 12
    · have HE : Hid (r = P.all (poolB n)) := by unfold Hid; rw [HP.out, decide_eq_true h12]; rfl
      have k12 : ¬ (12 : Int) < (m : Int) := by omega
      obtain ⟨hs1, hs2, hs3, hs4⟩ := shl_top n1 n10
      rw [hs2] at hs1
      clear HP HB
      go_enter Try.func34, Try.ntmps34
      go_wp2_with fail
      refine (CI.out _).mono ?_
      rintro e w1 ⟨rfl, rfl⟩
      go_wp2_with fail
      clear k12
      go_loopw [17] (fun iv wr => ∃ i : Nat, i ≤ m ∧ iv = .int .i64 i ∧ wr = w ∧ Hid ((P.take i).all (poolB n) = true)) (fun iv _ => m - (intOf iv).toNat)
      case atStart => exact ⟨0, Nat.zero_le _, rfl, rfl, by unfold Hid; simp⟩
      case round =>
        obtain ⟨i, hi, rfl, rfl, HT⟩ := hrel
        by_cases hlt : i < m
        · have hil : i < P.length := by rw [HN.out]; exact hlt
          rcases H.out with h0 | ⟨b, o, rfl, hc⟩
          · rw [h0] at hil; simp at hil
          have e0 := hc i hil
          obtain ⟨p, hp⟩ : ∃ p, P[i] = p := ⟨_, rfl⟩
          rw [hp] at e0
          have HTS : Hid ((P.take (i + 1)).all (poolB n) = poolB n p) := by unfold Hid; rw [List.take_succ_eq_append_getElem hil, List.all_append, HT.out, hp]; simp
          have HNO : Hid (poolB n p = false → P.all (poolB n) = false) := fun hb => by
            rw [List.all_eq_false]
            exact ⟨P[i], List.getElem_mem hil, by rw [hp, hb]; simp⟩
          have CT1 : Hid (∀ W, Calls Try.prog 35 #[.int .i64 p, .int .i64 0, .int .i64 (topI n)] W fun e w' => e = .returned (.bool (poolB n p)) ∧ W = w') := CT.out p
          have i0 : (0 : Int) ≤ (i : Int) := by omega
          have i1 : (i : Int) < (m : Int) := by omega
          generalize poolB n p = pb at HTS HNO CT1
          clear hc hil hp CT
          generalize topI n = T at hs1 hs2 hs3 hs4 CT1
          cases pb with
          | false =>
            have HF : Hid (r = false) := by unfold Hid; rw [HE.out]; exact HNO.out rfl
            go_wp2_with fail
            refine (CT1.out _).mono ?_
            rintro e w2 ⟨rfl, rfl⟩
            go_wp2
            go_ret
            exact ⟨ret_bool HF.out.symm, rfl⟩
          | true =>
            go_wp2_with fail
            refine (CT1.out _).mono ?_
            rintro e w2 ⟨rfl, rfl⟩
            go_wp2
            go_roundw
            case rel => exact ⟨i + 1, by omega, by go_num, by first | rfl | trivial, HTS⟩
            case measure => simp [intOf]; omega
        · obtain rfl : i = m := by omega
          have HF : Hid (r = true) := by
            have := HT.out
            rw [List.take_of_length_le (by rw [HN.out]; omega)] at this
            unfold Hid
            rw [HE.out, this]
          go_wp2
          go_ret
          exact ⟨ret_bool HF.out.symm, rfl⟩
    · have HE : Hid (r = false) := by unfold Hid; rw [HP.out, decide_eq_false h12]; rfl
      have k12 : (12 : Int) < (m : Int) := by omega
      go_enter Try.func34, Try.ntmps34
      go_wp2_with fail
      refine (CI.out _).mono ?_
      rintro e w1 ⟨rfl, rfl⟩
      go_wp2
      go_ret
      exact ⟨ret_bool HE.out.symm, rfl⟩

/-- A function that gives back a list of truth values of its own. -/
def ListsB (L : List Bool) (w : World) (e : Ending) (w' : World) : Prop := ∃ v, e = .returned v ∧ OwnB w' w.heap.size v L ∧ Below w.heap.size w w'
theorem OwnB.lit (X : World) (B : Nat) (hB : B ≤ X.heap.size) : OwnB (X.alloc (.cells #[] 4)) B (.slice (some ⟨X.heap.size, 0, none⟩) 0 0) [] :=
  World.ownsRow_lit (base := B) (e := 4) (size := 1) X #[] 0 hB (by unfold maxLen; omega) rfl

end Go.Proofs.Ytoliloophjeooaa
