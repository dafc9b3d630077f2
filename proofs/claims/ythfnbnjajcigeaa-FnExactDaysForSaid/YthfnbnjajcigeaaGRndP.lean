/- Several texts in one file; each says what it proves and under which condition. No condition. -/
import Derived.Test.YthfnbnjajcigeaaPoolPlain
import Derived.Test.YthfnbnjajcigeaaSeekPlain
import Derived.Test.YthfnbnjajcigeaaSetsSpec
import Derived.Test.YthfnbnjajcigeaaGWei
import Derived.Test.YthfnbnjajcigeaaCur
import Derived.Test.YthfnbnjajcigeaaIntRows
import Derived.Test.YthfnbnjajcigeaaBitPlain
import Derived.Test.YthfnbnjajcigeaaIntSS
/- Rounds on machines, plainly: how often an item is used, the bound, which pools fit into a round, the greedy rounds. No condition. -/
namespace Go.Proofs.Ythfnbnjajcigeaa
open Go.RowKit

def roundsB (n : Int) (P : List Int) (m : Int) : Bool := poolsB n P && (decide (1 ≤ m) && decide (m ≤ 12))
theorem rounds_in {n m : Int} {P : List Int} (h : roundsB n P m = true) : poolsB n P = true ∧ 1 ≤ m ∧ m ≤ 12 := by
  unfold roundsB at h
  simp only [Bool.and_eq_true, decide_eq_true_eq] at h
  exact ⟨h.1, h.2⟩
/-- How many of the first pools have item i. -/
def useN (P : List Int) (i : Nat) : Nat → Nat
  | 0 => 0
  | j + 1 => if (bits .and .i64 (P.getD j 0) (2 ^ i) != 0) = true then useN P i j + 1 else useN P i j
theorem useN_le (P : List Int) (i : Nat) : ∀ j, useN P i j ≤ j
  | 0 => Nat.le_refl _
  | j + 1 => by
    have := useN_le P i j
    unfold useN
    split <;> omega
def usesL (N : Nat) (P : List Int) : List Int := (List.range N).map fun i => ((useN P i P.length : Nat) : Int)
def usesR (n : Int) (P : List Int) : List Int := if poolsB n P = true then usesL n.toNat P else []
theorem usesL_len (N : Nat) (P : List Int) : (usesL N P).length = N := by simp [usesL]
theorem usesR_len (n : Int) (P : List Int) : (usesR n P).length ≤ 10 := by
  unfold usesR
  split
  · rename_i h
    rw [usesL_len]
    have := (pools_in h).1
    omega
  · simp
/-- The list as it stands when items below k are done and item k is at pool j. -/
def rowU (P : List Int) (N k j : Nat) : List Int := (List.range N).map fun i => if i < k then ((useN P i P.length : Nat) : Int) else if i = k then ((useN P k j : Nat) : Int) else 0
theorem rowU_len (P : List Int) (N k j : Nat) : (rowU P N k j).length = N := by simp [rowU]
theorem rowU_at (P : List Int) {N k : Nat} (j : Nat) (h : k < N) : (rowU P N k j)[k]'(by rw [rowU_len]; exact h) = ((useN P k j : Nat) : Int) := by simp [rowU]
theorem rowU_set (P : List Int) (N k j : Nat) : (rowU P N k j).set k ((useN P k (j + 1) : Nat) : Int) = rowU P N k (j + 1) := by
  apply List.ext_getElem
  · simp [rowU]
  · intro i h1 h2
    rw [List.getElem_set]
    simp only [rowU, List.getElem_map, List.getElem_range]
    by_cases e : k = i
    · subst e; simp
    · rw [if_neg e]
      by_cases e2 : i < k
      · rw [if_pos e2, if_pos e2]
      · rw [if_neg e2, if_neg e2, if_neg (by omega), if_neg (by omega)]
theorem rowU_next (P : List Int) (N k : Nat) : rowU P N k P.length = rowU P N (k + 1) 0 := by
  apply List.ext_getElem
  · simp [rowU]
  · intro i h1 h2
    simp only [rowU, List.getElem_map, List.getElem_range]
    by_cases e2 : i < k
    · rw [if_pos e2, if_pos (by omega)]
    · rw [if_neg e2]
      by_cases e : i = k
      · subst e; rw [if_pos rfl, if_pos (by omega)]
      · rw [if_neg e, if_neg (by omega)]
        split
        · rfl
        · rfl
theorem rowU_zero (P : List Int) (N : Nat) : rowU P N 0 0 = List.replicate N 0 := by
  apply List.ext_getElem
  · simp [rowU]
  · intro i h1 h2
    simp only [rowU, List.getElem_map, List.getElem_range, List.getElem_replicate]
    rw [if_neg (by omega)]
    split
    · rfl
    · rfl
theorem rowU_all (P : List Int) (N : Nat) : rowU P N N 0 = usesL N P := by
  apply List.ext_getElem
  · simp [rowU, usesL]
  · intro i h1 h2
    simp only [rowU, usesL, List.getElem_map, List.getElem_range]
    rw [if_pos (by rw [rowU_len] at h1; exact h1)]
/-- The greatest of z and the first numbers. -/
def mostF (z : Int) (L : List Int) : Nat → Int
  | 0 => z
  | j + 1 => if mostF z L j < L.getD j 0 then L.getD j 0 else mostF z L j
theorem mostF_in {z : Int} {L : List Int} {b : Int} (hz : 0 ≤ z ∧ z ≤ b) (h : ∀ x ∈ L, 0 ≤ x ∧ x ≤ b) : ∀ j, j ≤ L.length → 0 ≤ mostF z L j ∧ mostF z L j ≤ b
  | 0, _ => hz
  | j + 1, hj => by
    have ih := mostF_in hz h j (by omega)
    have := h (L.getD j 0) (by rw [List.getD_eq_getElem?_getD, List.getElem?_eq_getElem (by omega)]; exact List.getElem_mem _)
    unfold mostF
    split <;> omega
theorem usesL_in (N : Nat) (P : List Int) : ∀ x ∈ usesL N P, 0 ≤ x ∧ x ≤ (P.length : Int) := by
  intro x hx
  unfold usesL at hx
  rw [List.mem_map] at hx
  obtain ⟨i, -, rfl⟩ := hx
  have := useN_le P i P.length
  omega
def ceilN (a b : Nat) : Nat := (a + b - 1) / b
def boundI (n : Int) (P : List Int) (m : Int) : Int := if roundsB n P m = true then mostF (ceilN P.length m.toNat) (usesL n.toNat P) n.toNat else -1
/-- Whether pool k fits into a round of m machines. -/
def fitB (P : List Int) (m : Nat) (r : List Nat) (k : Nat) : Bool := decide (r.length < m) && r.all fun i => bits .and .i64 (P.getD i 0) (P.getD k 0) == 0
end Go.Proofs.Ythfnbnjajcigeaa

/- The contracts of the model's l14Ok, UsesOf, RoundBound and l14Fits. Conditions: the slices read as integers; for l14Fits: they are indices of pools. -/
namespace Go.Proofs.Ythfnbnjajcigeaa
open Go.RowKit

set_option maxRecDepth 100000 in
set_option maxHeartbeats 800000 in
theorem specRoundsIn (n m : Int) (v : Value) (P : List Int) (w : World) (h : IntsAt w v P) (hm : P.length ≤ 1048576) :
    Calls Try.prog 35 #[.int .i64 n, v, .int .i64 m] w fun e w' => e = .returned (.bool (roundsB n P m)) ∧ w = w' := by
  have CP := Lib.hid (specPoolsOk n v P w h (by unfold maxLen; omega))
  have CM := Lib.hid (fun W => l01In_is m 1 12 W)
  have HR : Hid (roundsB n P m = (poolsB n P && (decide (1 ≤ m) && decide (m ≤ 12)))) := rfl
  obtain ⟨a, c, rfl, -⟩ := h
  generalize roundsB n P m = r at HR ⊢
  generalize poolsB n P = pb at CP HR
  generalize (decide (1 ≤ m) && decide (m ≤ 12)) = mb at CM HR
  cases pb with
  | false =>
    have HE : Hid (r = false) := HR.out
    go_enter Try.func35, Try.ntmps35
    go_wp2_with fail
    refine CP.out.mono ?_
    rintro e w1 ⟨rfl, rfl⟩
    go_wp2
    go_ret
    exact ⟨ret_bool HE.out.symm, rfl⟩
  | true =>
    have HE : Hid (r = mb) := by unfold Hid; rw [HR.out]; simp
    go_enter Try.func35, Try.ntmps35
    go_wp2_with fail
    refine CP.out.mono ?_
    rintro e w1 ⟨rfl, rfl⟩
    go_wp2_with fail
    refine (CM.out _).mono ?_
    rintro e w1 ⟨rfl, rfl⟩
    go_wp2
    go_ret
    exact ⟨ret_bool HE.out.symm, rfl⟩

/-- A list of the call's own. -/
def ListI (L : List Int) (w : World) (e : Ending) (w' : World) : Prop := ∃ v, e = .returned v ∧ Own w' w.heap.size v L ∧ Below w.heap.size w w'
theorem pow10 : ∀ k : Nat, k < 10 → (0 : Int) ≤ 2 ^ k ∧ (2 : Int) ^ k ≤ 512 := by decide

set_option maxRecDepth 100000 in
set_option maxHeartbeats 3200000 in
theorem specUses (n : Int) (v : Value) (P : List Int) (w : World) (h : IntsAt w v P) (hm : P.length ≤ 1048576) :
    Calls Try.prog 22 #[.int .i64 n, v] w (ListI (usesR n P) w) := by
  obtain ⟨i0, hi, hz0, hz1, hz2⟩ := info_parts infoIntA
  have CP := Lib.hid (specPoolsOk n v P w h (by unfold maxLen; omega))
  have HR : Hid (usesR n P = if poolsB n P = true then usesL n.toNat P else []) := rfl
  have HB : Hid (poolsB n P = true → (1 ≤ n ∧ n ≤ 10) ∧ P.length ≤ 12) := fun h => ⟨(pools_in h).1, (pools_in h).2.1⟩
  obtain ⟨a, c, rfl, h⟩ := h
  have H := Lib.hid h
  clear h
  unfold ListI
  generalize usesR n P = r at HR ⊢
  generalize poolsB n P = pb at CP HR HB
  cases pb with
  | false =>
    have HE : Hid (r = []) := HR.out
    go_enter Try.func22, Try.ntmps22
    go_wp2_with fail
    refine CP.out.mono ?_
    rintro e w1 ⟨rfl, rfl⟩
    go_wp2
    go_ret
    rw [HE.out]
    exact ⟨_, rfl, Own.nil _ _, Below.refl _ _⟩
  | true =>
    obtain ⟨⟨n1, n10⟩, hl12⟩ := HB.out rfl
    obtain ⟨N, hN⟩ : ∃ N : Nat, n.toNat = N := ⟨_, rfl⟩
    have hnN : n = (N : Int) := by omega
    subst hnN
    have HE : Hid (r = usesL N P) := HR.out
    have N10 : N ≤ 10 := by omega
    have HNX : Hid (∀ k, rowU P N k P.length = rowU P N (k + 1) 0) := rowU_next P N
    have HAL : Hid (rowU P N N 0 = usesL N P) := rowU_all P N
    obtain ⟨m, hmm⟩ : ∃ m, P.length = m := ⟨_, rfl⟩
    have HM := Lib.hid hmm
    rw [hmm] at CP HNX hl12 ⊢
    clear hm hmm HR HB hN
    go_enter Try.func22, Try.ntmps22
    go_wp2_with fail
    refine CP.out.mono ?_
    rintro e w1 ⟨rfl, rfl⟩
    go_wp2_with (at_make; refine wpList_make_full _ rfl _ _ 22 rfl w.heap.size 3 i0 (.int .i64 0) 1 Try.underlying22 hi hz0 hz1 .i64 .i64 _ _ N rfl rfl rfl rfl (by rw [hz2]; omega) (by unfold maxLen; omega) (Nat.le_refl _) ?_; intro w1 hown hg)
    have hb := Below.grown (Below.refl w.heap.size w) hg (Nat.le_refl _) (by intro k hk; cases hk)
    have HO : Hid (w1.ownsRow w.heap.size 3 1 (.slice (some ⟨w.heap.size, 0, none⟩) N N) N ((rowU P N 0 0).map (Value.int .i64))) := by
      have : (madeCells (Value.int .i64 0).cells (N * 1)).toList = (rowU P N 0 0).map (Value.int .i64) := by
        rw [rowU_zero]
        simp [madeCells, Value.cells, Nat.mod_one]
        apply List.ext_getElem <;> simp
      rw [← this]
      exact hown
    have HBB := Lib.hid hb
    clear hown hg hb
    go_wp2
    go_loopw [17] (fun iv wr => ∃ k : Nat, k ≤ N ∧ iv = .int .i64 k ∧ Hid (wr.ownsRow w.heap.size 3 1 (.slice (some ⟨w.heap.size, 0, none⟩) N N) N ((rowU P N k 0).map (Value.int .i64))) ∧ Hid (Below w.heap.size w wr)) (fun iv _ => N - (intOf iv).toNat)
    case atStart => exact ⟨0, Nat.zero_le _, rfl, HO, HBB⟩
    case round =>
      clear HO HBB
      obtain ⟨k, hk, rfl, HO, HBB⟩ := hrel
      by_cases hlt : k < N
      · have kN : (k : Int) < (N : Int) := by omega
        have k0 : (0 : Int) ≤ (k : Int) := by omega
        have kb := pow10 k (by omega)
        have kw : IntKind.i64.wrap (2 ^ k) = 2 ^ k := by rw [IntKind.wrap_i64]; omega
        have US : Hid (∀ j, useN P k (j + 1) = if (bits .and .i64 (P.getD j 0) (2 ^ k) != 0) = true then useN P k j + 1 else useN P k j) := fun _ => rfl
        have ks : ((k : Nat) : Int).toNat = k := Int.toNat_natCast k
        have HST : Hid (∀ j, (rowU P N k j).set k ((useN P k (j + 1) : Nat) : Int) = rowU P N k (j + 1)) := rowU_set P N k
        have HAT : Hid (∀ j, ∃ h, (rowU P N k j)[k]'h = ((useN P k j : Nat) : Int)) := fun j => ⟨_, rowU_at P j hlt⟩
        have HUL : Hid (∀ j, useN P k j ≤ j) := useN_le P k
        obtain ⟨wo, hwo⟩ : ∃ wo, wo = wr := ⟨_, rfl⟩
        subst hwo
        go_wp2
        go_loopw [22] (fun jv wr => ∃ j : Nat, j ≤ m ∧ jv = .int .i64 j ∧ Hid (wr.ownsRow w.heap.size 3 1 (.slice (some ⟨w.heap.size, 0, none⟩) N N) N ((rowU P N k j).map (Value.int .i64))) ∧ Hid (Below w.heap.size w wr)) (fun jv _ => m - (intOf jv).toNat)
        case atStart => exact ⟨0, Nat.zero_le _, rfl, HO, HBB⟩
        case round =>
          clear HO HBB
          obtain ⟨j, hj, rfl, HO, HBB⟩ := hrel
          by_cases hlt2 : j < m
          · have h1 : j < P.length := by rw [HM.out]; exact hlt2
            rcases H.out with h0 | ⟨b1, o1, rfl, c1⟩
            · rw [h0] at h1; simp at h1
            have hbl := World.block_lt_of_cell? w _ (c1 j h1)
            have e1 : wr.cell? ⟨b1, o1 + j, none⟩ = some (.int .i64 P[j]) := by rw [HBB.out.cell (p := ⟨b1, o1 + j, none⟩) hbl]; exact c1 j h1
            have HS : Hid (useN P k (j + 1) = if (bits .and .i64 P[j] (2 ^ k) != 0) = true then useN P k j + 1 else useN P k j) := by
              unfold Hid
              rw [US.out, getD_at 0 h1]
            generalize P[j] = p at e1 HS
            have i0' : (0 : Int) ≤ (j : Int) := by omega
            have i1 : (j : Int) < (m : Int) := by omega
            clear c1 h1 hbl
            by_cases hy0 : bits .and .i64 p (2 ^ k) = 0
            · have hyB : (bits .and .i64 p (2 ^ k) == 0) = true := by rw [hy0]; rfl
              have hyN : (bits .and .i64 p (2 ^ k) != 0) = false := by rw [hy0]; rfl
              rw [hyN] at HS
              have HS2 : Hid (useN P k (j + 1) = useN P k j) := HS.out
              have HO2 : Hid (wr.ownsRow w.heap.size 3 1 (.slice (some ⟨w.heap.size, 0, none⟩) N N) N ((rowU P N k (j + 1)).map (Value.int .i64))) := by
                have : rowU P N k (j + 1) = rowU P N k j := by unfold rowU; rw [HS2.out]
                rw [this]
                exact HO.out
              clear HS HO
              go_wp2
              go_roundw
              case rel => exact ⟨j + 1, by omega, by go_num, HO2, HBB⟩
              case measure => simp [intOf]; omega
            · have hyB : (bits .and .i64 p (2 ^ k) == 0) = false := beq_eq_false_iff_ne.2 hy0
              have hyN : (bits .and .i64 p (2 ^ k) != 0) = true := by simpa using hy0
              rw [hyN] at HS
              have HS2 : Hid (useN P k (j + 1) = useN P k j + 1) := HS.out
              clear HS
              have fz := HO.out.frozenAt k
              obtain ⟨hcl, hce⟩ := HAT.out j
              have e2 : wr.cell? ⟨w.heap.size, k, none⟩ = some (.int .i64 ((useN P k j : Nat) : Int)) := by rw [HO.out.cellAt k (by omega), List.getElem?_map, List.getElem?_eq_getElem hcl, hce]; rfl
              have hle := HUL.out j
              have HST2 := Lib.hid (HST.out j)
              obtain ⟨y, hy⟩ : ∃ y, useN P k j = y := ⟨_, rfl⟩
              rw [hy] at e2 HS2 hle
              have HST3 : Hid ((rowU P N k j).set k ((y : Int) + 1) = rowU P N k (j + 1)) := by
                have := HST2.out
                rw [HS2.out] at this
                unfold Hid
                rw [← this]
                congr 1
              clear hce hcl hy HST2
              go_wp2
              go_roundw
              case rel =>
                have h2 := HO.out.stored k (.int .i64 ((y : Int) + 1))
                refine ⟨j + 1, by omega, by go_num, ?_, Below.setCell HBB.out (Nat.le_refl _) _⟩
                unfold Hid
                rw [← HST3.out, List.map_set]
                exact h2.1
              case measure => simp [intOf]; omega
          · obtain rfl : j = m := by omega
            have HO2 : Hid (wr.ownsRow w.heap.size 3 1 (.slice (some ⟨w.heap.size, 0, none⟩) N N) N ((rowU P N (k + 1) 0).map (Value.int .i64))) := by
              have := HO.out
              rw [HNX.out] at this
              exact this
            clear HO
            go_wp2
            go_roundw
            case rel => exact ⟨k + 1, by omega, by go_num, HO2, HBB⟩
            case measure => simp [intOf]; omega
      · obtain rfl : k = N := by omega
        have HO2 := HO.out
        rw [HAL.out] at HO2
        have HOX : Hid (Own wr w.heap.size (.slice (some ⟨w.heap.size, 0, none⟩) k k) (usesL k P)) := by unfold Hid Own; rw [usesL_len]; exact HO2
        clear HO HO2
        go_wp2
        go_ret
        rw [HE.out]
        exact ⟨_, rfl, HOX.out, HBB.out⟩

set_option maxRecDepth 100000 in
set_option maxHeartbeats 3200000 in
theorem specRoundBound (n m : Int) (v : Value) (P : List Int) (w : World) (h : IntsAt w v P) (hm : P.length ≤ 1048576) :
    Calls Try.prog 25 #[.int .i64 n, v, .int .i64 m] w fun e w' => e = .returned (.int .i64 (boundI n P m)) ∧ Below w.heap.size w w' := by
  have CR := Lib.hid (specRoundsIn n m v P w h hm)
  have CU := Lib.hid (specUses n v P w h hm)
  have HB : Hid (boundI n P m = if roundsB n P m = true then mostF (ceilN P.length m.toNat) (usesL n.toNat P) n.toNat else -1) := rfl
  have HR : Hid (roundsB n P m = true → poolsB n P = true ∧ 1 ≤ m ∧ m ≤ 12) := rounds_in
  have HP : Hid (poolsB n P = true → ((1 ≤ n ∧ n ≤ 10) ∧ P.length ≤ 12) ∧ usesR n P = usesL n.toNat P) := fun h => ⟨⟨(pools_in h).1, (pools_in h).2.1⟩, by unfold usesR; rw [if_pos h]⟩
  obtain ⟨a, c, rfl, -⟩ := h
  unfold ListI at CU
  generalize boundI n P m = r at HB ⊢
  generalize roundsB n P m = rb at CR HB HR
  cases rb with
  | false =>
    have HE : Hid (r = -1) := HB.out
    go_enter Try.func25, Try.ntmps25
    go_wp2_with fail
    refine CR.out.mono ?_
    rintro e w1 ⟨rfl, rfl⟩
    go_wp2
    go_ret
    exact ⟨ret_int HE.out.symm, Below.refl _ _⟩
  | true =>
    obtain ⟨hp, m1, m12⟩ := HR.out rfl
    obtain ⟨⟨⟨n1, n10⟩, hl12⟩, hu⟩ := HP.out hp
    rw [hu] at CU
    obtain ⟨N, hN⟩ : ∃ N : Nat, n.toNat = N := ⟨_, rfl⟩
    have hnN : n = (N : Int) := by omega
    subst hnN
    obtain ⟨M, hM⟩ : ∃ M : Nat, m.toNat = M := ⟨_, rfl⟩
    have hmM : m = (M : Int) := by omega
    subst hmM
    have HE : Hid (r = mostF (ceilN P.length M) (usesL N P) N) := HB.out
    have HU := usesL_in N P
    have HL := usesL_len N P
    rw [Int.toNat_natCast] at CU
    generalize usesL N P = U at CU HE HU HL
    obtain ⟨l, hl⟩ : ∃ l, P.length = l := ⟨_, rfl⟩
    rw [hl] at CR CU HE HU hl12 ⊢
    have hq : ceilN l M ≤ 23 := by unfold ceilN; exact Nat.le_trans (Nat.div_le_self _ _) (by omega)
    have hqi : ((l : Int) + (M : Int) - 1) / (M : Int) = ((ceilN l M : Nat) : Int) := by
      unfold ceilN
      rw [Int.natCast_ediv]
      congr 1
      omega
    obtain ⟨C, hC⟩ : ∃ C, ceilN l M = C := ⟨_, rfl⟩
    rw [hC] at hq hqi HE
    have HQI := Lib.hid hqi
    have HMI := Lib.hid (fun j (hj : j ≤ N) => mostF_in (z := (C : Int)) (L := U) (b := 23) (by omega) (fun x hx => by have := HU x hx; omega) j (by omega))
    have M0 : (M : Int) ≠ 0 := by omega
    have MB : ((M : Int) == 0) = false := beq_eq_false_iff_ne.2 M0
    have HLL := Lib.hid HL
    clear hp hu hqi hC hl hm HB HR HP HU HL hN hM
    go_enter Try.func25, Try.ntmps25
    go_wp2_with fail
    refine CR.out.mono ?_
    rintro e w1 ⟨rfl, rfl⟩
    have qi := HQI.out
    have qw : IntKind.i64.wrap (((l : Int) + (M : Int) - 1) / (M : Int)) = (C : Int) := by rw [qi, IntKind.wrap_i64]; omega
    go_wp2_with fail
    refine CU.out.mono ?_
    rintro e w1 ⟨u, rfl, o, bb⟩
    have B1 := Lib.hid bb
    obtain ⟨au, cu, rfl, hu⟩ := o.reads
    have HU := Lib.hid hu
    rw [HLL.out]
    clear bb o hu
    go_wp2_with fail
    clear qi qw
    go_loopw [7, 26] (fun zv jv wr => ∃ j : Nat, j ≤ N ∧ jv = .int .i64 j ∧ zv = .int .i64 (mostF C U j) ∧ wr = w1) (fun _ jv _ => N - (intOf jv).toNat)
    case atStart => exact ⟨0, Nat.zero_le _, rfl, by first | rfl | trivial, by first | rfl | trivial⟩
    case round =>
      obtain ⟨j, hj, rfl, rfl, hwx⟩ := hrel
      obtain rfl := hwx.symm
      by_cases hlt : j < N
      · have h1 : j < U.length := by rw [HLL.out]; exact hlt
        rcases HU.out with h0 | ⟨b1, o1, rfl, c1⟩
        · rw [h0] at h1; simp at h1
        have e1 := c1 j h1
        have HS : Hid (mostF C U (j + 1) = if mostF C U j < U[j] then U[j] else mostF C U j) := by unfold Hid; rw [mostF, getD_at 0 h1]
        generalize U[j] = x at e1 HS
        generalize mostF C U j = z at HS ⊢
        have i0 : (0 : Int) ≤ (j : Int) := by omega
        have i1 : (j : Int) < (N : Int) := by omega
        clear c1 h1
        by_cases hzx : z < x
        · have HS2 : Hid (mostF C U (j + 1) = x) := by unfold Hid; rw [HS.out, if_pos hzx]
          have n1 : ¬ x ≤ z := by omega
          have n2 : z ≤ x := by omega
          have n3 : ¬ x < z := by omega
          clear HS
          go_wp2
          all_goals (go_roundw; (case rel => exact ⟨j + 1, by omega, by go_num, by rw [HS2.out], by first | rfl | trivial⟩); (case measure => simp [intOf]; omega))
        · have HS2 : Hid (mostF C U (j + 1) = z) := by unfold Hid; rw [HS.out, if_neg hzx]
          have n1 : x ≤ z := by omega
          clear HS
          go_wp2
          all_goals (go_roundw; (case rel => exact ⟨j + 1, by omega, by go_num, by rw [HS2.out], by first | rfl | trivial⟩); (case measure => simp [intOf]; omega))
      · obtain rfl : j = N := by omega
        go_wp2
        go_ret
        exact ⟨ret_int HE.out.symm, B1.out⟩
end Go.Proofs.Ythfnbnjajcigeaa

/- The contract of the model's l14Fits. Conditions: the slices read as integers, and the second as indices of the first; the pool's number is one, too. -/
namespace Go.Proofs.Ythfnbnjajcigeaa
open Go.RowKit

theorem natL_at (Q : List Nat) (i : Nat) (h : i < Q.length) : (natL Q)[i]'(by rw [natL_len]; exact h) = ((Q[i] : Nat) : Int) := by simp [natL]

set_option maxRecDepth 100000 in
set_option maxHeartbeats 3200000 in
theorem specFitsR (v vr : Value) (P : List Int) (R : List Nat) (m : Nat) (k : Nat) (w : World) (h : IntsAt w v P) (hr : IntsAt w vr (natL R)) (hm2 : R.length ≤ 1048576)
    (hk : k < P.length) (hR : ∀ i ∈ R, i < P.length) :
    Calls Try.prog 37 #[v, .int .i64 (m : Int), vr, .int .i64 (k : Int)] w fun e w' => e = .returned (.bool (fitB P m R k)) ∧ ∃ d, w' = w.drewN d := by
  have HF : Hid (fitB P m R k = (decide (R.length < m) && R.all fun i => bits .and .i64 (P.getD i 0) (P.getD k 0) == 0)) := rfl
  obtain ⟨q, hq⟩ : ∃ q, P.getD k 0 = q := ⟨_, rfl⟩
  rw [hq] at HF
  have hqk : P[k] = q := by rw [← hq, getD_at 0 hk]
  obtain ⟨a, c, rfl, h⟩ := h
  obtain ⟨ar, cr, rfl, hr⟩ := hr
  have hb : ∃ b o, a = some ⟨b, o, none⟩ ∧ ∀ i (h : i < P.length), w.cell? ⟨b, o + i, none⟩ = some (.int .i64 P[i]) := by
    rcases h with h0 | h
    · rw [h0] at hk; simp at hk
    · exact h
  obtain ⟨b, o, rfl, hc⟩ := hb
  have H := Lib.hid hc
  have ek := hc k hk
  rw [hqk] at ek
  have HRR : Hid (∀ j (h : j < R.length), ∃ b2 o2, ar = some ⟨b2, o2, none⟩ ∧ w.cell? ⟨b2, o2 + j, none⟩ = some (.int .i64 ((R[j] : Nat) : Int))) := fun j hj => by
    rcases hr with h0 | ⟨b2, o2, rfl, c2⟩
    · have : (natL R).length = 0 := by rw [h0]; rfl
      rw [natL_len] at this
      omega
    · refine ⟨b2, o2, rfl, ?_⟩
      rw [c2 j (by rw [natL_len]; exact hj), natL_at R j hj]
  have HIN := Lib.hid hR
  rw [natL_len]
  obtain ⟨l, hl⟩ : ∃ l, R.length = l := ⟨_, rfl⟩
  obtain ⟨p, hp⟩ : ∃ p, P.length = p := ⟨_, rfl⟩
  have HL := Lib.hid hl
  have HP := Lib.hid hp
  rw [hl] at HF hm2 ⊢
  rw [hp] at hk ⊢
  clear h hr hc hR hq hqk hl hp
  generalize fitB P m R k = r at HF ⊢
  by_cases hlm : l < m
  · have t1 : ¬ (m : Int) ≤ (l : Int) := by omega
    have HE : Hid (r = R.all fun i => bits .and .i64 (P.getD i 0) q == 0) := by unfold Hid; rw [HF.out, decide_eq_true hlm]; rfl
    have k0 : (0 : Int) ≤ (k : Int) := by omega
    have k1 : (k : Int) < (p : Int) := by omega
    clear HF hlm
    go_enter Try.func37, Try.ntmps37
    go_wp2
    clear t1
    go_loopw [17] (fun jv wr => ∃ j d : Nat, j ≤ l ∧ jv = .int .i64 j ∧ wr = w.drewN d ∧ Hid ((R.take j).all (fun i => bits .and .i64 (P.getD i 0) q == 0) = true)) (fun jv _ => l - (intOf jv).toNat)
    case atStart => exact ⟨0, 0, Nat.zero_le _, rfl, rfl, by unfold Hid; simp⟩
    case round =>
      obtain ⟨j, d, hj, rfl, rfl, HT⟩ := hrel
      by_cases hlt : j < l
      · have h1 : j < R.length := by rw [HL.out]; exact hlt
        obtain ⟨b2, o2, rfl, e1⟩ := HRR.out j h1
        have hin := HIN.out R[j] (List.getElem_mem h1)
        have HTS : Hid ((R.take (j + 1)).all (fun i => bits .and .i64 (P.getD i 0) q == 0) = (bits .and .i64 P[R[j]] q == 0)) := by
          unfold Hid
          rw [List.take_succ_eq_append_getElem h1, List.all_append, HT.out, ← getD_at 0 hin]
          simp
        have HNO : Hid ((bits .and .i64 P[R[j]] q == 0) = false → (R.all fun i => bits .and .i64 (P.getD i 0) q == 0) = false) := fun hb => by
          rw [List.all_eq_false]
          refine ⟨R[j], List.getElem_mem h1, ?_⟩
          rw [getD_at 0 hin, hb]
          simp
        have e2 := H.out R[j] hin
        generalize P[R[j]] = y at e2 HTS HNO
        rw [HP.out] at hin
        generalize R[j] = x at e1 e2 hin
        have x0 : (0 : Int) ≤ (x : Int) := by omega
        have x1 : (x : Int) < (p : Int) := by omega
        have j0 : (0 : Int) ≤ (j : Int) := by omega
        have j1 : (j : Int) < (l : Int) := by omega
        clear h1
        by_cases hy0 : bits .and .i64 y q = 0
        · have hyB : (bits .and .i64 y q == 0) = true := by rw [hy0]; rfl
          have hyN : (bits .and .i64 y q != 0) = false := by rw [hy0]; rfl
          have HTT : Hid ((R.take (j + 1)).all (fun i => bits .and .i64 (P.getD i 0) q == 0) = true) := by unfold Hid; rw [HTS.out, hyB]
          clear HTS HNO HT
          go_wp2
          go_quiet (fail)
          go_wp2
          go_roundw
          case rel => exact ⟨j + 1, _, by omega, by go_num, rfl, HTT⟩
          case measure => simp [intOf]; omega
        · have hyB : (bits .and .i64 y q == 0) = false := beq_eq_false_iff_ne.2 hy0
          have hyN : (bits .and .i64 y q != 0) = true := by simpa using hy0
          have HZ : Hid (r = false) := by unfold Hid; rw [HE.out]; exact HNO.out hyB
          clear HTS HNO HT HE
          go_wp2
          go_quiet (fail)
          go_wp2
          go_ret
          exact ⟨ret_bool HZ.out.symm, _, World.drewN_drewN ..⟩
      · obtain rfl : j = l := by omega
        have HZ : Hid (r = true) := by
          have := HT.out
          rw [List.take_of_length_le (by rw [HL.out]; omega)] at this
          unfold Hid
          rw [HE.out, this]
        clear HT HE
        go_wp2
        go_ret
        exact ⟨ret_bool HZ.out.symm, _, rfl⟩
  · have t1 : (m : Int) ≤ (l : Int) := by omega
    have HE : Hid (r = false) := by unfold Hid; rw [HF.out, decide_eq_false hlm]; rfl
    clear HF
    go_enter Try.func37, Try.ntmps37
    go_wp2
    go_ret
    exact ⟨ret_bool HE.out.symm, 0, rfl⟩
end Go.Proofs.Ythfnbnjajcigeaa

/- A row of lists of integers of the call's own, each of which may grow; the greedy rounds, plainly. No condition. -/
namespace Go.Proofs.Ythfnbnjajcigeaa
open Go.RowKit

/-- The first round into which pool k fits (their number, if there is none). -/
def placeN (P : List Int) (m k : Nat) : List (List Nat) → Nat
  | [] => 0
  | r :: t => if fitB P m r k = true then 0 else placeN P m k t + 1
theorem placeN_le (P : List Int) (m k : Nat) : ∀ S : List (List Nat), placeN P m k S ≤ S.length
  | [] => Nat.le_refl _
  | r :: t => by
    have := placeN_le P m k t
    unfold placeN
    split
    · omega
    · rw [List.length_cons]; omega
theorem placeN_no (P : List Int) (m k : Nat) : ∀ (S : List (List Nat)) (i : Nat) (h : i < S.length), i < placeN P m k S → fitB P m S[i] k = false
  | [], i, h, _ => absurd h (by simp)
  | r :: t, i, h, hi => by
    unfold placeN at hi
    split at hi
    · omega
    · rename_i hn
      cases i with
      | zero => simpa using hn
      | succ i => exact placeN_no P m k t i (by simpa using h) (by omega)
theorem placeN_yes (P : List Int) (m k : Nat) : ∀ (S : List (List Nat)) (h : placeN P m k S < S.length), fitB P m (S[placeN P m k S]'h) k = true
  | [], h => absurd h (by simp)
  | r :: t, h => by
    by_cases hf : fitB P m r k = true
    · have e : placeN P m k (r :: t) = 0 := by unfold placeN; rw [if_pos hf]
      simp only [e, List.getElem_cons_zero]
      exact hf
    · have e : placeN P m k (r :: t) = placeN P m k t + 1 := by rw [placeN, if_neg hf]
      have h2 : placeN P m k t < t.length := by rw [e, List.length_cons] at h; omega
      simp only [e, List.getElem_cons_succ]
      exact placeN_yes P m k t h2
def openS (S : List (List Nat)) (i : Nat) : List (List Nat) := if i = S.length then S ++ [[]] else S
def putS (S : List (List Nat)) (i k : Nat) : List (List Nat) := (openS S i).set i ((openS S i).getD i [] ++ [k])
def greedyF (P : List Int) (m : Nat) : Nat → List (List Nat)
  | 0 => []
  | k + 1 => putS (greedyF P m k) (placeN P m k (greedyF P m k)) k
def greedyR (n : Int) (P : List Int) (m : Int) : List (List Nat) := if roundsB n P m = true then greedyF P m.toNat P.length else []

/-- The lists of a row lie in blocks of their own, from block lo on, no two in one, none in the row's. -/
structure GRow (w : World) (lo : Nat) (ov : Value) (S : List (List Nat)) (us : List Value) : Prop where
  len : us.length = S.length
  row : w.ownsRow lo 22 1 ov S.length us
  own : ∀ i (h : i < S.length) (h' : i < us.length), Own w lo us[i] (natL S[i])
  away : ∀ i (h' : i < us.length), Sep us[i] ov
  sep : ∀ i j (hi : i < us.length) (hj : j < us.length), i ≠ j → Sep us[i] us[j]
theorem GRow.below {w w' : World} {lo : Nat} {ov : Value} {S : List (List Nat)} {us : List Value} (h : GRow w lo ov S us) (hb : Below w.heap.size w w') : GRow w' lo ov S us :=
  ⟨h.len, owns_below h.row hb, fun i h1 h2 => (h.own i h1 h2).below hb, h.away, h.sep⟩
/-- A list more, at the end: it lies in a block that is none of the others'. -/
theorem GRow.push {w w' : World} {lo : Nat} {ov ov' : Value} {S : List (List Nat)} {us : List Value} {u : Value} {s : List Nat} (h : GRow w lo ov S us)
    (hu : Own w lo u (natL s)) (hs : ∀ i (h' : i < us.length), Sep us[i] u) (hv : Sep u ov)
    (hg : w.grownBy w' ov.ownBlock) (hown : w'.ownsRow lo 22 1 ov' (S.length + 1) (us ++ [u])) (hat : ov'.ownBlock = ov.ownBlock ∨ ov'.ownBlock = some w.heap.size) : GRow w' lo ov' (S ++ [s]) (us ++ [u]) := by
  have T := Only.of_grown hg
  have key : ∀ (x : Value) (l : List Int), Own w lo x l → Sep x ov → Own w' lo x l := fun x l hx hb => hx.only T fun b e e2 => hb b e e2
  have keyA : ∀ (x : Value) (l : List Int), Own w lo x l → Sep x ov → Sep x ov' := fun x l hx hb b e e2 => by
    rcases hat with e' | e'
    · exact hb b e (e' ▸ e2)
    · have := (hx.blk b e).2
      rw [e'] at e2
      have : w.heap.size = b := by simpa using e2
      omega
  have all : ∀ i (h1 : i < (S ++ [s]).length) (h2 : i < (us ++ [u]).length), Own w lo (us ++ [u])[i] (natL (S ++ [s])[i]) ∧ Sep (us ++ [u])[i] ov := fun i h1 h2 => by
    by_cases e : i < S.length
    · have e' : i < us.length := by rw [h.len]; exact e
      rw [List.getElem_append_left e, List.getElem_append_left e']
      exact ⟨h.own i e e', h.away i e'⟩
    · have e1 : i = S.length := by simp at h1; omega
      have g1 : (S ++ [s])[i] = s := by rw [List.getElem_append_right (by omega)]; simp [e1]
      have g2 : (us ++ [u])[i] = u := by rw [List.getElem_append_right (by rw [h.len]; omega)]; simp [e1, h.len]
      rw [g1, g2]
      exact ⟨hu, hv⟩
  have hl : (us ++ [u]).length = (S ++ [s]).length := by simp [h.len]
  refine ⟨hl, by simpa using hown, fun i h1 h2 => key _ _ (all i h1 h2).1 (all i h1 h2).2, fun i h2 => keyA _ _ (all i (hl ▸ h2) h2).1 (all i (hl ▸ h2) h2).2, fun i j hi hj hne => ?_⟩
  by_cases ei : i < us.length
  · by_cases ej : j < us.length
    · rw [List.getElem_append_left ei, List.getElem_append_left ej]
      exact h.sep i j ei ej hne
    · have e1 : j = us.length := by simp at hj; omega
      have g2 : (us ++ [u])[j] = u := by rw [List.getElem_append_right (by omega)]; simp [e1]
      rw [List.getElem_append_left ei, g2]
      exact hs i ei
  · have e0 : i = us.length := by simp at hi; omega
    have ej : j < us.length := by simp at hj; omega
    have g2 : (us ++ [u])[i] = u := by rw [List.getElem_append_right (by omega)]; simp [e0]
    rw [List.getElem_append_left ej, g2]
    exact (hs j ej).symm
/-- One of the lists grows by one number, and is put back. -/
theorem GRow.grow {W X W2 : World} {lo g c o k : Nat} {S : List (List Nat)} {us : List Value} {v' : Value} (h : GRow W lo (.slice (some ⟨g, 0, none⟩) S.length c) S us) (ho : o < S.length) (ho' : o < us.length) (hX : Below W.heap.size W X)
    (hown : Own W2 lo v' (natL (S[o] ++ [k]))) (hg : X.grownBy W2 us[o].ownBlock) (hat : v'.ownBlock = us[o].ownBlock ∨ v'.ownBlock = some X.heap.size) :
    GRow (W2.setCell ⟨g, o, none⟩ v') lo (.slice (some ⟨g, 0, none⟩) S.length c) (S.set o (S[o] ++ [k])) (us.set o v') := by
  have T := Only.of_grown hg
  have T2 := Only.of_grown (grown_one W2 g o v')
  have hgW : g < W.heap.size := (owns_blk h.row g rfl).2
  have hvg : Sep v' (.slice (some ⟨g, 0, none⟩) S.length c) := fun b e e2 => by
    rcases hat with e' | e'
    · exact h.away o ho' b (e' ▸ e) e2
    · rw [e'] at e
      have h1 : X.heap.size = b := by simpa using e
      have h2 : g = b := by simpa [Value.ownBlock] using e2
      have := hX.size
      omega
  have hvs : ∀ i (hi : i < us.length), i ≠ o → Sep us[i] v' := fun i hi hne b e e2 => by
    rcases hat with e' | e'
    · exact h.sep i o hi ho' hne b e (e' ▸ e2)
    · rw [e'] at e2
      have h1 : X.heap.size = b := by simpa using e2
      have h2 := ((h.own i (h.len ▸ hi) hi).blk b e).2
      have := hX.size
      omega
  have toG : ∀ (x : Value), Sep x (.slice (some ⟨g, 0, none⟩) S.length c) → Blk (fun b => ¬ (some g = some b)) x := fun x hx b e e2 => hx b e (by simpa [Value.ownBlock] using e2)
  have row1 := owns_only (owns_below h.row hX) T (fun b e e2 => h.away o ho' b e2 e)
  refine ⟨by simp [h.len], ?_, fun i h1 h2 => ?_, fun i h2 => ?_, fun i j hi hj hne => ?_⟩
  · have := (row1.stored o v').1
    rw [List.length_set]
    exact this
  · rw [List.length_set] at h1 h2
    by_cases e : o = i
    · subst e
      rw [List.getElem_set_self, List.getElem_set_self]
      exact hown.only T2 (toG _ hvg)
    · rw [List.getElem_set_ne e, List.getElem_set_ne e]
      exact (((h.own i h1 h2).below hX).only T (fun b e1 e2 => h.sep i o h2 ho' (fun e' => e e'.symm) b e1 e2)).only T2 (toG _ (h.away i h2))
  · rw [List.length_set] at h2
    by_cases e : o = i
    · subst e
      rw [List.getElem_set_self]
      exact hvg
    · rw [List.getElem_set_ne e]
      exact h.away i h2
  · rw [List.length_set] at hi hj
    by_cases e : o = i
    · subst e
      rw [List.getElem_set_self, List.getElem_set_ne hne]
      exact (hvs j hj (fun e' => hne e'.symm)).symm
    · rw [List.getElem_set_ne e]
      by_cases e2 : o = j
      · subst e2
        rw [List.getElem_set_self]
        exact hvs i hi (fun e' => e e'.symm)
      · rw [List.getElem_set_ne e2]
        exact h.sep i j hi hj hne
end Go.Proofs.Ythfnbnjajcigeaa

/- The contract of the model's GreedyRounds. Condition: the slice reads as integers. -/
namespace Go.Proofs.Ythfnbnjajcigeaa
open Go.RowKit

theorem putS_open (S : List (List Nat)) (k : Nat) : putS S S.length k = S ++ [[k]] := by
  unfold putS openS
  rw [if_pos rfl]
  apply List.ext_getElem
  · simp
  · intro i h1 h2
    rw [List.getElem_set]
    by_cases e : S.length = i
    · subst e
      simp
    · rw [if_neg e]
      have hi : i < S.length := by simp at h2; omega
      rw [List.getElem_append_left hi, List.getElem_append_left hi]
theorem putS_old {S : List (List Nat)} {q : Nat} (k : Nat) (h : q < S.length) : putS S q k = S.set q (S[q] ++ [k]) := by
  unfold putS openS
  rw [if_neg (by omega), List.getD_eq_getElem?_getD, List.getElem?_eq_getElem h]
  rfl
theorem greedy_in (P : List Int) (m : Nat) : ∀ k, (greedyF P m k).length ≤ k ∧ ∀ r ∈ greedyF P m k, r.length ≤ k ∧ ∀ i ∈ r, i < k
  | 0 => ⟨Nat.le_refl _, fun r h => by cases h⟩
  | k + 1 => by
    obtain ⟨h1, h2⟩ := greedy_in P m k
    have hq := placeN_le P m k (greedyF P m k)
    unfold greedyF
    generalize greedyF P m k = S at h1 h2 hq
    generalize placeN P m k S = q at hq
    by_cases e : q = S.length
    · subst e
      rw [putS_open]
      refine ⟨by simp; omega, fun r hr => ?_⟩
      rw [List.mem_append, List.mem_singleton] at hr
      rcases hr with hr | rfl
      · have := h2 r hr
        exact ⟨by omega, fun i hi => by have := this.2 i hi; omega⟩
      · exact ⟨by simp, fun i hi => by simp at hi; omega⟩
    · have hlt : q < S.length := by omega
      rw [putS_old k hlt]
      refine ⟨by rw [List.length_set]; omega, fun r hr => ?_⟩
      rcases List.mem_or_eq_of_mem_set hr with hr | rfl
      · have := h2 r hr
        exact ⟨by omega, fun i hi => by have := this.2 i hi; omega⟩
      · have := h2 S[q] (List.getElem_mem hlt)
        refine ⟨by simp; omega, fun i hi => ?_⟩
        rw [List.mem_append, List.mem_singleton] at hi
        rcases hi with hi | rfl
        · have := this.2 i hi; omega
        · omega
theorem GRow.nil (w : World) (lo : Nat) (ov : Value) (h : w.ownsRow lo 22 1 ov 0 []) : GRow w lo ov [] [] :=
  ⟨rfl, h, fun i h1 => absurd h1 (by simp), fun i h1 => absurd h1 (by simp), fun i j h1 => absurd h1 (by simp)⟩
theorem GRow.form {w : World} {lo : Nat} {ov : Value} {S : List (List Nat)} {us : List Value} (h : GRow w lo ov S us) : ∃ a c, ov = .slice a S.length c ∧ ∀ i (hi : i < us.length), ∃ g, a = some ⟨g, 0, none⟩ ∧ w.cell? ⟨g, i, none⟩ = some us[i] ∧ w.frozen? ⟨g, i, none⟩ = false := by
  have hr := h.row
  rcases h.row.2 with ⟨hv, h0⟩ | ⟨g, cap, cur, hv, hg⟩
  · refine ⟨none, 0, by rw [hv, h0], fun i hi => ?_⟩
    rw [h.len, h0] at hi
    omega
  · subst hv
    refine ⟨some ⟨g, 0, none⟩, cap, rfl, fun i hi => ⟨g, rfl, ?_, hr.frozenAt i⟩⟩
    rw [hr.cellAt i (by rw [← h.len]; omega), List.getElem?_eq_getElem hi]

/-- What GreedyRounds gives back. -/
def GivesG (S : List (List Nat)) (b : Bool) (w : World) (e : Ending) (w' : World) : Prop := ∃ ov us, e = .returned (.tuple #[ov, .bool b]) ∧ GRow w' w.heap.size ov S us ∧ Below w.heap.size w w'
theorem row_nilG (X : World) (B : Nat) (hB : B ≤ X.heap.size) : (X.alloc (.cells #[] 22)).ownsRow B 22 1 (.slice (some ⟨X.heap.size, 0, none⟩) 0 0) 0 [] :=
  World.ownsRow_lit (base := B) (e := 22) (size := 1) X #[] 0 hB (by unfold maxLen; omega) rfl
end Go.Proofs.Ythfnbnjajcigeaa

/- Whether pools can be placed into some rounds, and the fewest rounds, plainly. No condition. -/
namespace Go.Proofs.Ythfnbnjajcigeaa
open Go.RowKit

/-- The rounds from number i on, one after the other: into one that the pool fits into, it is placed. -/
def scanB (fit : List Nat → Bool) (go : Nat → Bool) : List (List Nat) → Nat → Bool
  | [], _ => false
  | r :: t, i => if fit r = true then (if go i = true then true else if r.length = 0 then false else scanB fit go t (i + 1)) else scanB fit go t (i + 1)
/-- Round i gets pool k. -/
def giveS (S : List (List Nat)) (i k : Nat) : List (List Nat) := S.set i (S.getD i [] ++ [k])
theorem giveS_len (S : List (List Nat)) (i k : Nat) : (giveS S i k).length = S.length := by unfold giveS; simp
theorem giveS_at {S : List (List Nat)} {i : Nat} (k : Nat) (h : i < S.length) : giveS S i k = S.set i (S[i] ++ [k]) := by
  unfold giveS
  rw [List.getD_eq_getElem?_getD, List.getElem?_eq_getElem h]
  rfl
/-- Whether the last f pools can be placed. -/
def placeB (P : List Int) (m : Nat) : Nat → List (List Nat) → Bool
  | 0, _ => true
  | f + 1, S => scanB (fun r => fitB P m r (P.length - (f + 1))) (fun i => placeB P m f (giveS S i (P.length - (f + 1)))) S 0
theorem scanB_step (fit : List Nat → Bool) (go : Nat → Bool) {S : List (List Nat)} {i : Nat} (h : i < S.length) :
    scanB fit go (S.drop i) i = if fit S[i] = true then (if go i = true then true else if S[i].length = 0 then false else scanB fit go (S.drop (i + 1)) (i + 1)) else scanB fit go (S.drop (i + 1)) (i + 1) := by
  rw [List.drop_eq_getElem_cons h]
  rfl
theorem scanB_end (fit : List Nat → Bool) (go : Nat → Bool) (S : List (List Nat)) (i : Nat) (h : S.length ≤ i) : scanB fit go (S.drop i) i = false := by
  rw [List.drop_of_length_le h]
  rfl
/-- How many rounds are empty. -/
def emptyN : List (List Nat) → Nat
  | [] => 0
  | r :: t => if r.length = 0 then emptyN t + 1 else emptyN t
theorem emptyN_rep (k : Nat) : emptyN (List.replicate k []) = k := by
  induction k with
  | zero => rfl
  | succ k ih => rw [List.replicate_succ, emptyN, if_pos (by rfl), ih]
theorem emptyN_set (S : List (List Nat)) (r : List Nat) : ∀ i, emptyN S ≤ emptyN (S.set i r) + 1 := by
  induction S with
  | nil => intro i; exact Nat.zero_le _
  | cons s t ih =>
    intro i
    cases i with
    | zero =>
      rw [List.set_cons_zero]
      unfold emptyN
      split <;> split <;> omega
    | succ i =>
      rw [List.set_cons_succ]
      have := ih i
      unfold emptyN
      split <;> omega
theorem fitB_empty {P : List Int} {m : Nat} (hm : 1 ≤ m) {r : List Nat} (hr : r.length = 0) (k : Nat) : fitB P m r k = true := by
  rw [List.eq_nil_of_length_eq_zero hr]
  unfold fitB
  simp
  omega
theorem scanB_yes {fit : List Nat → Bool} {go : Nat → Bool} (S : List (List Nat)) (hf : ∀ r ∈ S, r.length = 0 → fit r = true)
    (hg : ∀ i (h : i < S.length), S[i].length = 0 → go i = true) : ∀ j i, i + j = S.length → 1 ≤ emptyN (S.drop i) → scanB fit go (S.drop i) i = true
  | 0, i, hij, he => by
    rw [List.drop_of_length_le (by omega)] at he
    simp [emptyN] at he
  | j + 1, i, hij, he => by
    have h : i < S.length := by omega
    rw [scanB_step fit go h]
    have ih := scanB_yes S hf hg j (i + 1) (by omega)
    rw [List.drop_eq_getElem_cons h, emptyN] at he
    by_cases e : S[i].length = 0
    · rw [if_pos (hf _ (List.getElem_mem h) e), if_pos (hg i h e)]
    · rw [if_neg e] at he
      have := ih he
      by_cases e1 : fit S[i] = true
      · rw [if_pos e1, if_neg e]
        split
        · rfl
        · exact this
      · rw [if_neg e1]
        exact this
/-- Whoever has an empty round for each pool can place them all. -/
theorem placeB_all {P : List Int} {m : Nat} (hm : 1 ≤ m) : ∀ f (S : List (List Nat)), f ≤ emptyN S → placeB P m f S = true
  | 0, _, _ => rfl
  | f + 1, S, h => by
    unfold placeB
    refine scanB_yes S (fun r _ hr => fitB_empty hm hr _) (fun i hi hr => placeB_all hm f _ ?_) S.length 0 (by omega) (by rw [List.drop_zero]; omega)
    rw [giveS_at _ hi]
    have := emptyN_set S (S[i] ++ [P.length - (f + 1)]) i
    omega
theorem placeB_enough {P : List Int} {m k : Nat} (hm : 1 ≤ m) (hk : P.length ≤ k) : placeB P m P.length (List.replicate k []) = true :=
  placeB_all hm _ _ (by rw [emptyN_rep]; exact hk)
/-- The first number from k on at which p holds (k + f, if none is). -/
def leastK (p : Nat → Bool) : Nat → Nat → Nat
  | 0, k => k
  | f + 1, k => if p k = true then k else leastK p f (k + 1)
theorem leastK_le (p : Nat → Bool) : ∀ f k, k ≤ leastK p f k ∧ leastK p f k ≤ k + f
  | 0, k => ⟨Nat.le_refl _, Nat.le_refl _⟩
  | f + 1, k => by
    have := leastK_le p f (k + 1)
    unfold leastK
    split <;> omega
theorem leastK_yes {p : Nat → Bool} : ∀ f k, p (k + f) = true → p (leastK p f k) = true
  | 0, k, h => h
  | f + 1, k, h => by
    unfold leastK
    split
    · assumption
    · exact leastK_yes f (k + 1) (by rw [show k + 1 + f = k + (f + 1) by omega]; exact h)
theorem leastK_no {p : Nat → Bool} : ∀ f k j, k ≤ j → j < leastK p f k → p j = false
  | 0, k, j, h1, h2 => by unfold leastK at h2; omega
  | f + 1, k, j, h1, h2 => by
    unfold leastK at h2
    split at h2
    · omega
    · rename_i hn
      by_cases e : k = j
      · subst e; simpa using hn
      · exact leastK_no f (k + 1) j (by omega) h2
theorem ceilN_le (a b : Nat) (hb : 1 ≤ b) : ceilN a b ≤ a := by
  unfold ceilN
  rcases Nat.eq_zero_or_pos a with rfl | ha
  · exact Nat.le_of_eq (Nat.div_eq_of_lt (by omega))
  · rw [Nat.div_le_iff_le_mul_add_pred hb]
    have : a ≤ b * a := Nat.le_mul_of_pos_left _ hb
    omega
/-- The bound is at most the number of pools. -/
theorem bound_in {n m : Int} {P : List Int} (h : roundsB n P m = true) : 0 ≤ boundI n P m ∧ boundI n P m ≤ (P.length : Int) := by
  unfold boundI
  rw [if_pos h]
  have hr := rounds_in h
  have := ceilN_le P.length m.toNat (by omega)
  exact mostF_in (b := (P.length : Int)) (by omega) (usesL_in n.toNat P) n.toNat (by rw [usesL_len]; exact Nat.le_refl _)
def fewK (n : Int) (P : List Int) (m : Int) : Nat := leastK (fun k => placeB P m.toNat P.length (List.replicate k [])) (P.length - (boundI n P m).toNat) (boundI n P m).toNat
def fewRI (n : Int) (P : List Int) (m : Int) : Int := if (roundsB n P m && decide (P.length ≤ 7)) = true then (fewK n P m : Int) else -1
end Go.Proofs.Ythfnbnjajcigeaa

/- The greedy rounds, plainly: each is valid, no fewer than the bound, and enough for a placement. No condition. -/
namespace Go.Proofs.Ythfnbnjajcigeaa
open Go.RowKit

/-! ### a step of the greedy way -/
theorem put_split (P : List Int) (m k : Nat) (S : List (List Nat)) (hm : 1 ≤ m) :
    ∃ A r B, (S = A ++ r :: B ∨ S = A ∧ r = [] ∧ B = []) ∧ fitB P m r k = true ∧ putS S (placeN P m k S) k = A ++ (r ++ [k]) :: B := by
  by_cases h : placeN P m k S < S.length
  · refine ⟨S.take (placeN P m k S), S[placeN P m k S], S.drop (placeN P m k S + 1), .inl ?_, placeN_yes P m k S h, ?_⟩
    · rw [← List.drop_eq_getElem_cons h, List.take_append_drop]
    · rw [putS_old k h, List.set_eq_take_append_cons_drop, if_pos h]
  · have e : placeN P m k S = S.length := by have := placeN_le P m k S; omega
    refine ⟨S, [], [], .inr ⟨rfl, rfl, rfl⟩, fitB_empty hm rfl k, ?_⟩
    rw [e, putS_open]
    rfl
theorem greedy_split (P : List Int) (m k : Nat) (hm : 1 ≤ m) :
    ∃ A r B, (greedyF P m k = A ++ r :: B ∨ greedyF P m k = A ∧ r = [] ∧ B = []) ∧ fitB P m r k = true ∧ greedyF P m (k + 1) = A ++ (r ++ [k]) :: B := put_split P m k (greedyF P m k) hm
def sumRg (g : List Nat → Nat) (S : List (List Nat)) : Nat := (S.map g).sum
theorem sumRg_app (g : List Nat → Nat) (A B : List (List Nat)) : sumRg g (A ++ B) = sumRg g A + sumRg g B := by simp [sumRg]
theorem sumRg_cons (g : List Nat → Nat) (r : List Nat) (B : List (List Nat)) : sumRg g (r :: B) = g r + sumRg g B := by simp [sumRg]
theorem sumRg_le {g : List Nat → Nat} {b : Nat} : ∀ {S : List (List Nat)}, (∀ r ∈ S, g r ≤ b) → sumRg g S ≤ S.length * b
  | [], _ => by simp [sumRg]
  | r :: t, h => by
    have h1 := sumRg_le (g := g) (b := b) (S := t) fun x hx => h x (by simp [hx])
    have h2 := h r (by simp)
    rw [sumRg_cons, List.length_cons, Nat.succ_mul]
    omega
theorem greedy_sum (P : List Int) (m : Nat) (hm : 1 ≤ m) {g : List Nat → Nat} {d : Nat → Nat} (h0 : g [] = 0) (hg : ∀ r k, g (r ++ [k]) = g r + d k) (k : Nat) :
    sumRg g (greedyF P m (k + 1)) = sumRg g (greedyF P m k) + d k := by
  obtain ⟨A, r, B, h1, -, h2⟩ := greedy_split P m k hm
  rw [h2, sumRg_app, sumRg_cons, hg]
  rcases h1 with h1 | ⟨h1, rfl, rfl⟩
  · rw [h1, sumRg_app, sumRg_cons]
    omega
  · rw [h1, h0]
    simp [sumRg]
/-- What holds of all rounds: it holds of a round that gets a pool that fits. -/
theorem greedy_all (P : List Int) (m : Nat) (hm : 1 ≤ m) {p : List Nat → Prop} (h0 : p []) (hs : ∀ r k, p r → fitB P m r k = true → p (r ++ [k])) : ∀ k, ∀ r ∈ greedyF P m k, p r
  | 0 => fun r h => by cases h
  | k + 1 => by
    have ih := greedy_all P m hm h0 hs k
    obtain ⟨A, r, B, h1, hf, h2⟩ := greedy_split P m k hm
    rw [h2]
    intro x hx
    rw [List.mem_append, List.mem_cons] at hx
    rcases h1 with h1 | ⟨h1, rfl, rfl⟩
    · rw [h1] at ih
      rcases hx with hx | rfl | hx
      · exact ih x (by simp [hx])
      · exact hs r k (ih r (by simp)) hf
      · exact ih x (by simp [hx])
    · rw [h1] at ih
      rcases hx with hx | rfl | hx
      · exact ih x hx
      · exact hs [] k h0 hf
      · cases hx

/-! ### no fewer rounds than the bound -/
def hasK (P : List Int) (i j : Nat) : Bool := bits .and .i64 (P.getD j 0) (2 ^ i) != 0
theorem getD_in {P : List Int} (hP : ∀ p ∈ P, 0 ≤ p ∧ p ≤ 1023) (j : Nat) : 0 ≤ P.getD j 0 ∧ P.getD j 0 ≤ 1023 := by
  rw [List.getD_eq_getElem?_getD]
  by_cases h : j < P.length
  · rw [List.getElem?_eq_getElem h]
    exact hP _ (List.getElem_mem h)
  · rw [List.getElem?_eq_none (by omega)]
    simp
theorem hasK_bit {P : List Int} (hP : ∀ p ∈ P, 0 ≤ p ∧ p ≤ 1023) (i j : Nat) (hi : i ≤ 62) : hasK P i j = (P.getD j 0).toNat.testBit i := by
  have := getD_in hP j
  exact has_bit this.1 (by omega) hi
theorem fitB_len {P : List Int} {m k : Nat} {r : List Nat} (h : fitB P m r k = true) : r.length < m := by
  unfold fitB at h
  simp only [Bool.and_eq_true, decide_eq_true_eq] at h
  exact h.1
theorem fit_once {P : List Int} {m k i : Nat} {r : List Nat} (hP : ∀ p ∈ P, 0 ≤ p ∧ p ≤ 1023) (hi : i ≤ 62) (h : fitB P m r k = true) (hk : hasK P i k = true) : r.countP (hasK P i) = 0 := by
  unfold fitB at h
  simp only [Bool.and_eq_true, List.all_eq_true] at h
  rw [List.countP_eq_zero]
  intro j hj hjj
  have hz := h.2 j hj
  rw [hasK_bit hP i j hi] at hjj
  rw [hasK_bit hP i k hi] at hk
  have b1 := getD_in hP j
  have b2 := getD_in hP k
  generalize P.getD j 0 = x at hz hjj b1
  generalize P.getD k 0 = y at hz hk b2
  obtain ⟨a, rfl⟩ := Int.eq_ofNat_of_zero_le b1.1
  obtain ⟨b, rfl⟩ := Int.eq_ofNat_of_zero_le b2.1
  have hz2 : andI (a : Int) (b : Int) = 0 := eq_of_beq hz
  rw [and_nat (by omega) (by omega)] at hz2
  have hz3 : a &&& b = 0 := by omega
  have := congrArg (fun q => Nat.testBit q i) hz3
  simp only [Nat.testBit_and, Nat.zero_testBit] at this
  rw [Int.toNat_natCast] at hjj hk
  rw [hjj, hk] at this
  cases this
theorem use_sum (P : List Int) (m : Nat) (hm : 1 ≤ m) (i : Nat) : ∀ k, sumRg (fun r => r.countP (hasK P i)) (greedyF P m k) = useN P i k
  | 0 => rfl
  | k + 1 => by
    rw [greedy_sum P m hm (d := fun k => if hasK P i k = true then 1 else 0) rfl (fun r k => by rw [List.countP_append, List.countP_singleton]), use_sum P m hm i k]
    show _ = if hasK P i k = true then useN P i k + 1 else useN P i k
    split <;> omega
theorem len_sum (P : List Int) (m : Nat) (hm : 1 ≤ m) : ∀ k, sumRg List.length (greedyF P m k) = k
  | 0 => rfl
  | k + 1 => by
    rw [greedy_sum P m hm (d := fun _ => 1) rfl (fun r k => by simp), len_sum P m hm k]
theorem use_le {P : List Int} (hP : ∀ p ∈ P, 0 ≤ p ∧ p ≤ 1023) {m : Nat} (hm : 1 ≤ m) {i : Nat} (hi : i ≤ 62) (k : Nat) : useN P i k ≤ (greedyF P m k).length := by
  rw [← use_sum P m hm i k]
  have := sumRg_le (g := fun r => r.countP (hasK P i)) (b := 1) (S := greedyF P m k) (greedy_all P m hm (p := fun r => r.countP (hasK P i) ≤ 1) (by simp) (fun r j hr hf => by
    rw [List.countP_append, List.countP_singleton]
    split
    · rename_i hj
      rw [fit_once hP hi hf hj]
      exact Nat.le_refl _
    · exact hr) k)
  omega
theorem ceil_le {P : List Int} {m m' : Nat} (hm : 1 ≤ m) (hmm : m ≤ m') (k : Nat) : ceilN k m' ≤ (greedyF P m k).length := by
  have h1 := sumRg_le (g := List.length) (b := m) (S := greedyF P m k) (greedy_all P m hm (p := fun r => r.length ≤ m) (by simp) (fun r j _ hf => by have := fitB_len hf; simp; omega) k)
  rw [len_sum P m hm k] at h1
  have h2 : (greedyF P m k).length * m ≤ (greedyF P m k).length * m' := Nat.mul_le_mul_left _ hmm
  unfold ceilN
  rw [Nat.div_le_iff_le_mul_add_pred (by omega), Nat.mul_comm]
  omega
/-- As many rounds as the greedy way opens are no fewer than the bound, for as many machines or more. -/
theorem bound_greedy {n m m' : Int} {P : List Int} (h : roundsB n P m = true) (h' : roundsB n P m' = true) (hmm : m ≤ m') : boundI n P m' ≤ ((greedyF P m.toNat P.length).length : Int) := by
  unfold boundI
  rw [if_pos h']
  have hr := rounds_in h
  have hp := pools_in hr.1
  have hm : 1 ≤ m.toNat := by omega
  have hc := ceil_le (P := P) hm (show m.toNat ≤ m'.toNat by omega) P.length
  refine (mostF_in (b := ((greedyF P m.toNat P.length).length : Int)) (by omega) (fun x hx => ?_) n.toNat (by rw [usesL_len]; exact Nat.le_refl _)).2
  unfold usesL at hx
  rw [List.mem_map] at hx
  obtain ⟨i, hi, rfl⟩ := hx
  rw [List.mem_range] at hi
  have := use_le hp.2.2 hm (i := i) (by omega) P.length
  omega
theorem mostF_up (z : Int) (L : List Int) : ∀ j i, i < j → L.getD i 0 ≤ mostF z L j
  | 0, i, h => absurd h (Nat.not_lt_zero i)
  | j + 1, i, h => by
    unfold mostF
    by_cases e : i = j
    · subst e
      split <;> omega
    · have := mostF_up z L j i (by omega)
      split <;> omega
/-- No item is used more often than the bound says. -/
theorem uses_bound {n m : Int} {P : List Int} (h : roundsB n P m = true) : ∀ x ∈ usesL n.toNat P, x ≤ boundI n P m := by
  intro x hx
  obtain ⟨i, hi, rfl⟩ := List.mem_iff_getElem.1 hx
  unfold boundI
  rw [if_pos h]
  have hi' : i < n.toNat := by rw [usesL_len] at hi; exact hi
  have := mostF_up (ceilN P.length m.toNat) (usesL n.toNat P) n.toNat i hi'
  rw [List.getD_eq_getElem?_getD, List.getElem?_eq_getElem hi] at this
  exact this
/-! ### placing -/
/-- Whether the last f pools can be placed, in any way. -/
def canP (P : List Int) (m : Nat) : Nat → List (List Nat) → Prop
  | 0, _ => True
  | f + 1, S => ∃ A r B, S = A ++ r :: B ∧ fitB P m r (P.length - (f + 1)) = true ∧ canP P m f (A ++ (r ++ [P.length - (f + 1)]) :: B)
theorem canP_perm {P : List Int} {m : Nat} : ∀ {f : Nat} {S T : List (List Nat)}, S.Perm T → canP P m f S → canP P m f T
  | 0, _, _, _, _ => trivial
  | f + 1, S, T, h, hc => by
    obtain ⟨A, r, B, rfl, hf, hc⟩ := hc
    have hr : r ∈ T := h.mem_iff.1 (by simp)
    obtain ⟨A', B', rfl⟩ := List.append_of_mem hr
    have h2 : (A ++ B).Perm (A' ++ B') := (List.perm_middle.symm.trans (h.trans List.perm_middle)).cons_inv
    exact ⟨A', r, B', rfl, hf, canP_perm (List.perm_middle.trans ((h2.cons _).trans List.perm_middle.symm)) hc⟩
theorem fit_more {P : List Int} {m m' k : Nat} {r : List Nat} (hm : m ≤ m') (h : fitB P m r k = true) : fitB P m' r k = true := by
  unfold fitB at h ⊢
  simp only [Bool.and_eq_true, decide_eq_true_eq] at h ⊢
  exact ⟨by omega, h.2⟩
theorem canP_more {P : List Int} {m m' : Nat} (hm : m ≤ m') : ∀ {f : Nat} {S : List (List Nat)}, canP P m f S → canP P m' f S
  | 0, _, _ => trivial
  | f + 1, S, hc => by
    obtain ⟨A, r, B, rfl, hf, hc⟩ := hc
    exact ⟨A, r, B, rfl, fit_more hm hf, canP_more hm hc⟩
def padS (S : List (List Nat)) (K : Nat) : List (List Nat) := S ++ List.replicate (K - S.length) []
theorem greedy_up (P : List Int) (m : Nat) (hm : 1 ≤ m) (k : Nat) : (greedyF P m k).length ≤ (greedyF P m (k + 1)).length := by
  obtain ⟨A, r, B, h1, -, h2⟩ := greedy_split P m k hm
  rw [h2]
  rcases h1 with h1 | ⟨h1, rfl, rfl⟩
  · rw [h1]; simp
  · rw [h1]; simp
theorem greedy_ups (P : List Int) (m : Nat) (hm : 1 ≤ m) (k : Nat) : ∀ d, (greedyF P m k).length ≤ (greedyF P m (k + d)).length
  | 0 => Nat.le_refl _
  | d + 1 => Nat.le_trans (greedy_ups P m hm k d) (greedy_up P m hm (k + d))
/-- The greedy way places all, in as many rounds as it opens. -/
theorem greedy_can (P : List Int) (m : Nat) (hm : 1 ≤ m) : ∀ f, f ≤ P.length → canP P m f (padS (greedyF P m (P.length - f)) (greedyF P m P.length).length)
  | 0, _ => trivial
  | f + 1, h => by
    have ih := greedy_can P m hm f (by omega)
    obtain ⟨k, hk⟩ : ∃ k, P.length - (f + 1) = k := ⟨_, rfl⟩
    have hk1 : P.length - f = k + 1 := by omega
    have hup := greedy_ups P m hm (k + 1) (P.length - (k + 1))
    rw [show k + 1 + (P.length - (k + 1)) = P.length by omega] at hup
    generalize (greedyF P m P.length).length = K at ih hup ⊢
    obtain ⟨A, r, B, h1, hf, h2⟩ := greedy_split P m k hm
    rw [hk1, h2] at ih
    rw [h2] at hup
    unfold canP
    rw [hk]
    rcases h1 with h1 | ⟨h1, rfl, rfl⟩
    · refine ⟨A, r, B ++ List.replicate (K - (greedyF P m k).length) [], ?_, hf, ?_⟩
      · unfold padS
        rw [h1]
        simp
      · have e : K - (A ++ (r ++ [k]) :: B).length = K - (greedyF P m k).length := by rw [h1]; simp
        unfold padS at ih
        rw [e] at ih
        simpa using ih
    · refine ⟨A, [], List.replicate (K - (greedyF P m k).length - 1) [], ?_, hf, ?_⟩
      · unfold padS
        rw [h1] at *
        simp only [List.length_append, List.length_cons, List.length_nil] at hup
        rw [← List.replicate_succ, show K - A.length - 1 + 1 = K - A.length by omega]
      · have e : K - (A ++ ([] ++ [k]) :: []).length = K - (greedyF P m k).length - 1 := by rw [h1]; simp; omega
        unfold padS at ih
        rw [e] at ih
        simpa using ih
/-- Empty rounds are behind the others. -/
def frontP : List (List Nat) → Prop
  | [] => True
  | r :: t => if r = [] then ∀ x ∈ t, x = [] else frontP t
theorem front_empty : ∀ {t : List (List Nat)}, (∀ x ∈ t, x = []) → frontP t
  | [], _ => trivial
  | r :: t, h => by
    unfold frontP
    rw [if_pos (h r (by simp))]
    exact fun x hx => h x (by simp [hx])
theorem front_tail {r : List Nat} {t : List (List Nat)} (h : frontP (r :: t)) : frontP t := by
  unfold frontP at h
  split at h
  · exact front_empty h
  · exact h
theorem front_app : ∀ {A T : List (List Nat)}, (∀ y ∈ A, y ≠ []) → (frontP (A ++ T) ↔ frontP T)
  | [], _, _ => Iff.rfl
  | a :: A, T, h => by
    rw [List.cons_append, frontP, if_neg (h a (by simp))]
    exact front_app fun y hy => h y (by simp [hy])
theorem front_give {A B : List (List Nat)} {r : List Nat} (k : Nat) (hA : ∀ y ∈ A, y ≠ []) (h : frontP (A ++ r :: B)) : frontP (A ++ (r ++ [k]) :: B) := by
  rw [front_app hA] at h ⊢
  unfold frontP
  rw [if_neg (by simp)]
  exact front_tail h
theorem give_split (A B : List (List Nat)) (r : List Nat) (k : Nat) : giveS (A ++ r :: B) A.length k = A ++ (r ++ [k]) :: B := by
  rw [giveS_at k (by simp)]
  simp
theorem scan_can {fit : List Nat → Bool} {go : Nat → Bool} {can : List (List Nat) → Prop} {k : Nat} {S : List (List Nat)} (hfit : fit [] = true) (hcp : ∀ X Y, X.Perm Y → can X → can Y) (hS : frontP S)
    (hgo : ∀ A r B, S = A ++ r :: B → (∀ y ∈ A, y ≠ []) → can (A ++ (r ++ [k]) :: B) → go A.length = true)
    {A0 B0 : List (List Nat)} {r0 : List Nat} (h0 : S = A0 ++ r0 :: B0) (hf0 : fit r0 = true) (hc0 : can (A0 ++ (r0 ++ [k]) :: B0)) :
    ∀ (T A : List (List Nat)), S = A ++ T → (∀ y ∈ A, y ≠ []) → A.length ≤ A0.length → scanB fit go T A.length = true
  | [], A, h, _, hl => by
    rw [h0] at h
    have := congrArg List.length h
    simp at this
    omega
  | x :: T, A, h, hA, hl => by
    have same : A.length = A0.length → x = r0 ∧ go A.length = true := fun e => by
      rw [h] at h0
      obtain ⟨e1, e2⟩ := List.append_inj h0 e
      injection e2 with e3 e4
      subst e1 e3 e4
      exact ⟨rfl, hgo _ _ _ h hA hc0⟩
    have next : x ≠ [] → A.length ≠ A0.length → scanB fit go T (A.length + 1) = true := fun hx hne => by
      have := scan_can hfit hcp hS hgo h0 hf0 hc0 T (A ++ [x]) (by rw [h]; simp) (fun y hy => by
        rw [List.mem_append, List.mem_singleton] at hy
        rcases hy with hy | rfl
        · exact hA y hy
        · exact hx) (by simp; omega)
      rw [List.length_append] at this
      exact this
    unfold scanB
    by_cases hfx : fit x = true
    · rw [if_pos hfx]
      by_cases hg : go A.length = true
      · rw [if_pos hg]
      · rw [if_neg hg]
        have hne : A.length ≠ A0.length := fun e => hg (same e).2
        by_cases hx : x = []
        · subst hx
          refine absurd ?_ hg
          refine hgo A [] T h hA ?_
          have hfr := hS
          rw [h, front_app hA] at hfr
          unfold frontP at hfr
          rw [if_pos rfl] at hfr
          have hr : r0 ∈ T := by
            have e1 : S[A0.length]? = some r0 := by rw [h0]; simp
            rw [h, List.getElem?_append_right (by omega)] at e1
            obtain ⟨d, hd⟩ : ∃ d, A0.length - A.length = d + 1 := ⟨A0.length - A.length - 1, by omega⟩
            rw [hd, List.getElem?_cons_succ] at e1
            exact List.mem_of_getElem? e1
          have e0 := hfr r0 hr
          subst e0
          have hp : (A0 ++ B0).Perm (A ++ T) := by
            have : (A0 ++ [] :: B0).Perm (A ++ [] :: T) := by rw [← h0, ← h]
            exact (List.perm_middle.symm.trans (this.trans List.perm_middle)).cons_inv
          exact hcp _ _ (List.perm_middle.trans ((hp.cons _).trans List.perm_middle.symm)) hc0
        · rw [if_neg (by intro e; exact hx (List.eq_nil_of_length_eq_zero e))]
          exact next hx hne
    · rw [if_neg hfx]
      have hx : x ≠ [] := fun e => hfx (by rw [e]; exact hfit)
      exact next hx fun e => hfx (by rw [(same e).1]; exact hf0)
/-- Whatever can be placed, the search finds a place for. -/
theorem placeB_can {P : List Int} {m : Nat} (hm : 1 ≤ m) : ∀ {f : Nat} {S : List (List Nat)}, canP P m f S → frontP S → placeB P m f S = true
  | 0, _, _, _ => rfl
  | f + 1, S, hc, hS => by
    obtain ⟨A, r, B, h0, hf, hc⟩ := hc
    unfold placeB
    exact scan_can (can := canP P m f) (fitB_empty hm rfl _) (fun X Y h h' => canP_perm h h') hS
      (fun A r B h hA hc => by
        have e := give_split A B r (P.length - (f + 1))
        rw [← h] at e
        simp only [e]
        exact placeB_can hm hc (front_give _ hA (h ▸ hS))) h0 hf hc S [] rfl (fun y hy => by cases hy) (Nat.zero_le _)
/-- The fewest rounds are no more than the greedy way opens, for as many machines or more. -/
theorem few_greedy {n m m' : Int} {P : List Int} (h : roundsB n P m = true) (h' : roundsB n P m' = true) (hmm : m ≤ m') : fewK n P m' ≤ (greedyF P m.toNat P.length).length := by
  have hb := bound_greedy h h' hmm
  have hr := rounds_in h
  have hm : 1 ≤ m.toNat := by omega
  have hc := canP_more (show m.toNat ≤ m'.toNat by omega) (greedy_can P m.toNat hm P.length (Nat.le_refl _))
  rw [Nat.sub_self] at hc
  have hz : padS (greedyF P m.toNat 0) (greedyF P m.toNat P.length).length = List.replicate (greedyF P m.toNat P.length).length [] := rfl
  rw [hz] at hc
  generalize (greedyF P m.toNat P.length).length = K at hb hc ⊢
  have hp := placeB_can (by omega) hc (front_empty fun x hx => (List.mem_replicate.1 hx).2)
  rcases Nat.lt_or_ge K (fewK n P m') with hlt | hge
  · have := leastK_no (p := fun k => placeB P m'.toNat P.length (List.replicate k [])) (P.length - (boundI n P m').toNat) (boundI n P m').toNat K (by omega) hlt
    simp only [hp] at this
    cases this
  · exact hge
theorem few_bound (n : Int) (P : List Int) (m : Int) : boundI n P m ≤ (fewK n P m : Int) := by
  have := (leastK_le (fun k => placeB P m.toNat P.length (List.replicate k [])) (P.length - (boundI n P m).toNat) (boundI n P m).toNat).1
  unfold fewK
  omega
end Go.Proofs.Ythfnbnjajcigeaa

/- The program's ways, plainly: a round that is filled from a list of pools, its items as one set; filling one round after the other gives the greedy rounds. No condition. -/
namespace Go.Proofs.Ythfnbnjajcigeaa
open Go.RowKit

/-! ### the items of a round as one set -/
def itemsR (P : List Int) (r : List Nat) : Int := r.foldl (fun s i => orI s (P.getD i 0)) 0
theorem itemsR_snoc (P : List Int) (r : List Nat) (k : Nat) : itemsR P (r ++ [k]) = orI (itemsR P r) (P.getD k 0) := by
  unfold itemsR
  rw [List.foldl_append]
  rfl
theorem fold_in {P : List Int} (hP : ∀ p ∈ P, 0 ≤ p ∧ p ≤ 1023) : ∀ (r : List Nat) (s : Int), 0 ≤ s ∧ s ≤ 1023 → 0 ≤ r.foldl (fun s i => orI s (P.getD i 0)) s ∧ r.foldl (fun s i => orI s (P.getD i 0)) s ≤ 1023
  | [], _, h => h
  | k :: r, _, h => fold_in hP r _ (or_in h.1 h.2 (getD_in hP k).1 (getD_in hP k).2)
theorem itemsR_in {P : List Int} (hP : ∀ p ∈ P, 0 ≤ p ∧ p ≤ 1023) (r : List Nat) : 0 ≤ itemsR P r ∧ itemsR P r ≤ 1023 := fold_in hP r 0 (by omega)
theorem or_and {s a b : Int} (hs : 0 ≤ s ∧ s ≤ 1023) (ha : 0 ≤ a ∧ a ≤ 1023) (hb : 0 ≤ b ∧ b ≤ 1023) : andI b (orI s a) = 0 ↔ andI b s = 0 ∧ andI a b = 0 := by
  obtain ⟨x, rfl⟩ := Int.eq_ofNat_of_zero_le hs.1
  obtain ⟨y, rfl⟩ := Int.eq_ofNat_of_zero_le ha.1
  obtain ⟨z, rfl⟩ := Int.eq_ofNat_of_zero_le hb.1
  have hlt : x ||| y < 2 ^ 10 := Nat.or_lt_two_pow (by omega) (by omega)
  rw [or_nat (by omega) (by omega), and_nat (by omega) (by omega), and_nat (by omega) (by omega), and_nat (by omega) (by omega)]
  have e : z &&& (x ||| y) = (z &&& x) ||| (y &&& z) := by
    apply Nat.eq_of_testBit_eq
    intro i
    simp only [Nat.testBit_and, Nat.testBit_or]
    cases x.testBit i <;> cases y.testBit i <;> cases z.testBit i <;> rfl
  have e2 : ∀ p q : Nat, p ||| q = 0 ↔ p = 0 ∧ q = 0 := fun p q => by
    constructor
    · intro h
      have h1 : p ≤ p ||| q := Nat.left_le_or
      have h2 : q ≤ p ||| q := Nat.right_le_or
      omega
    · rintro ⟨rfl, rfl⟩
      rfl
  have := e2 (z &&& x) (y &&& z)
  rw [e]
  omega
theorem zero_and (b : Int) (hb : 0 ≤ b ∧ b ≤ 1023) : andI b 0 = 0 := by
  obtain ⟨z, rfl⟩ := Int.eq_ofNat_of_zero_le hb.1
  have := and_nat (a := z) (b := 0) (by omega) (by omega)
  rw [Nat.and_zero] at this
  exact this
theorem fold_and {P : List Int} (hP : ∀ p ∈ P, 0 ≤ p ∧ p ≤ 1023) {b : Int} (hb : 0 ≤ b ∧ b ≤ 1023) : ∀ (r : List Nat) (s : Int), 0 ≤ s ∧ s ≤ 1023 →
    (andI b (r.foldl (fun s i => orI s (P.getD i 0)) s) == 0) = (andI b s == 0 && r.all fun i => bits .and .i64 (P.getD i 0) b == 0)
  | [], s, h => by simp
  | k :: r, s, h => by
    have hk := getD_in hP k
    rw [List.foldl_cons, fold_and hP hb r _ (or_in h.1 h.2 hk.1 hk.2), List.all_cons, ← Bool.and_assoc]
    congr 1
    rw [Bool.eq_iff_iff, Bool.and_eq_true, beq_iff_eq, beq_iff_eq, beq_iff_eq]
    exact or_and h hk hb
/-- What the program asks of a round and a pool, by the round's number of pools and its set of items. -/
def takesB (P : List Int) (m : Nat) (r : List Nat) (k : Nat) : Bool := decide (r.length < m) && !(andI (P.getD k 0) (itemsR P r) != 0)
theorem takes_fit {P : List Int} (hP : ∀ p ∈ P, 0 ≤ p ∧ p ≤ 1023) (m : Nat) (r : List Nat) (k : Nat) : takesB P m r k = fitB P m r k := by
  have hk := getD_in hP k
  have h := fold_and hP hk r 0 (by omega)
  rw [zero_and _ hk, beq_self_eq_true, Bool.true_and] at h
  unfold takesB fitB
  rw [← h, bne, Bool.not_not]
  rfl

/-! ### filling -/
def fillC (P : List Int) (m : Nat) : List Nat → List Nat → List Nat × List Nat
  | t, [] => (t, [])
  | t, k :: r => if fitB P m t k = true then fillC P m (t ++ [k]) r else ((fillC P m t r).1, k :: (fillC P m t r).2)
/-- The loop's way: behind the first j pools, what is taken and what is left. -/
def fillS (P : List Int) (m : Nat) (L : List Nat) : Nat → List Nat × List Nat
  | 0 => ([], [])
  | j + 1 => if fitB P m (fillS P m L j).1 (L.getD j 0) = true then ((fillS P m L j).1 ++ [L.getD j 0], (fillS P m L j).2) else ((fillS P m L j).1, (fillS P m L j).2 ++ [L.getD j 0])
theorem fillS_step (P : List Int) (m : Nat) (L : List Nat) (j : Nat) : fillS P m L (j + 1) = if fitB P m (fillS P m L j).1 (L.getD j 0) = true then ((fillS P m L j).1 ++ [L.getD j 0], (fillS P m L j).2) else ((fillS P m L j).1, (fillS P m L j).2 ++ [L.getD j 0]) := rfl
theorem fillS_pre (P : List Int) (m : Nat) (L : List Nat) : ∀ (d j : Nat), j + d = L.length → (fillC P m (fillS P m L j).1 (L.drop j)).1 = (fillS P m L L.length).1 ∧ (fillS P m L j).2 ++ (fillC P m (fillS P m L j).1 (L.drop j)).2 = (fillS P m L L.length).2
  | 0, j, h => by
    obtain rfl : j = L.length := by omega
    rw [List.drop_of_length_le (Nat.le_refl _)]
    simp [fillC]
  | d + 1, j, h => by
    have hj : j < L.length := by omega
    have ih := fillS_pre P m L d (j + 1) (by omega)
    rw [List.drop_eq_getElem_cons hj]
    have e : L.getD j 0 = L[j] := by rw [List.getD_eq_getElem?_getD, List.getElem?_eq_getElem hj]; rfl
    rw [fillS_step, e] at ih
    unfold fillC
    by_cases hf : fitB P m (fillS P m L j).1 L[j] = true
    · rw [if_pos hf] at ih ⊢
      exact ih
    · rw [if_neg hf] at ih ⊢
      refine ⟨ih.1, ?_⟩
      rw [← ih.2]
      simp
theorem fillS_all (P : List Int) (m : Nat) (L : List Nat) : fillS P m L L.length = fillC P m [] L := by
  have h := fillS_pre P m L L.length 0 (by omega)
  rw [List.drop_zero] at h
  have h1 : fillS P m L 0 = ([], []) := rfl
  rw [h1] at h
  exact Prod.ext h.1.symm (by rw [← h.2]; rfl)
theorem fillS_in (P : List Int) (m : Nat) (L : List Nat) : ∀ j, j ≤ L.length → (fillS P m L j).1.length + (fillS P m L j).2.length = j ∧ (∀ k ∈ (fillS P m L j).1, k ∈ L) ∧ (∀ k ∈ (fillS P m L j).2, k ∈ L)
  | 0, _ => ⟨rfl, fun k (h : k ∈ ([] : List Nat)) => (by cases h), fun k (h : k ∈ ([] : List Nat)) => (by cases h)⟩
  | j + 1, hj => by
    obtain ⟨h1, h2, h3⟩ := fillS_in P m L j (by omega)
    have hl : L.getD j 0 ∈ L := by rw [List.getD_eq_getElem?_getD, List.getElem?_eq_getElem (by omega)]; exact List.getElem_mem _
    rw [fillS_step]
    split
    · refine ⟨by simp; omega, fun k hk => ?_, h3⟩
      rw [List.mem_append, List.mem_singleton] at hk
      rcases hk with hk | rfl
      · exact h2 k hk
      · exact hl
    · refine ⟨by simp; omega, h2, fun k hk => ?_⟩
      rw [List.mem_append, List.mem_singleton] at hk
      rcases hk with hk | rfl
      · exact h3 k hk
      · exact hl

/-! ### one pool after the other, each into the first round that it fits into -/
def stepA (P : List Int) (m : Nat) (S : List (List Nat)) (k : Nat) : List (List Nat) := putS S (placeN P m k S) k
def putA (P : List Int) (m : Nat) (S : List (List Nat)) (L : List Nat) : List (List Nat) := L.foldl (stepA P m) S
theorem greedy_put (P : List Int) (m : Nat) : ∀ k, greedyF P m k = putA P m [] (List.range k)
  | 0 => rfl
  | k + 1 => by
    have ih := greedy_put P m k
    unfold putA at ih ⊢
    rw [List.range_succ, List.foldl_append, ← ih]
    rfl
theorem put_more (r : List Nat) (t : List (List Nat)) (i k : Nat) : putS (r :: t) (i + 1) k = r :: putS t i k := by
  unfold putS openS
  by_cases h : i = t.length
  · subst h
    rw [if_pos (by simp), if_pos rfl]
    simp
  · rw [if_neg (by simpa using h), if_neg h]
    simp
theorem step_yes {P : List Int} {m k : Nat} {r : List Nat} (t : List (List Nat)) (h : fitB P m r k = true) : stepA P m (r :: t) k = (r ++ [k]) :: t := by
  unfold stepA placeN
  rw [if_pos h, putS_old k (by simp)]
  simp
theorem step_no {P : List Int} {m k : Nat} {r : List Nat} (t : List (List Nat)) (h : ¬ fitB P m r k = true) : stepA P m (r :: t) k = r :: stepA P m t k := by
  unfold stepA
  rw [placeN, if_neg h, put_more]
theorem putA_cons (P : List Int) (m : Nat) : ∀ (L : List Nat) (r : List Nat) (t : List (List Nat)), putA P m (r :: t) L = (fillC P m r L).1 :: putA P m t (fillC P m r L).2
  | [], r, t => rfl
  | k :: L, r, t => by
    unfold putA fillC
    rw [List.foldl_cons]
    by_cases h : fitB P m r k = true
    · rw [if_pos h, step_yes t h]
      exact putA_cons P m L (r ++ [k]) t
    · rw [if_neg h, step_no t h]
      exact putA_cons P m L r (stepA P m t k)
/-- The program's rounds: a round is filled from what is left. -/
theorem putA_nil (P : List Int) {m : Nat} (hm : 1 ≤ m) (k : Nat) (L : List Nat) : putA P m [] (k :: L) = (fillC P m [] (k :: L)).1 :: putA P m [] (fillC P m [] (k :: L)).2 := by
  have h1 : stepA P m [] k = [[k]] := by unfold stepA placeN; exact putS_open [] k
  have h2 : fillC P m [] (k :: L) = fillC P m [k] L := by
    rw [fillC, if_pos (fitB_empty hm rfl k)]
    rfl
  rw [h2]
  have h3 : putA P m [] (k :: L) = putA P m [[k]] L := by unfold putA; rw [List.foldl_cons, h1]
  rw [h3, putA_cons]
theorem fillC_less (P : List Int) {m : Nat} (hm : 1 ≤ m) (k : Nat) (L : List Nat) : (fillC P m [] (k :: L)).2.length ≤ L.length := by
  have key : ∀ (L t : List Nat), (fillC P m t L).2.length ≤ L.length := by
    intro L
    induction L with
    | nil => intro t; exact Nat.le_refl _
    | cons k L ih =>
      intro t
      unfold fillC
      split
      · have := ih (t ++ [k]); simp; omega
      · have := ih t; simpa using this
  rw [fillC, if_pos (fitB_empty hm rfl k)]
  exact key L _
theorem fillC_some (P : List Int) {m : Nat} (hm : 1 ≤ m) (k : Nat) (L : List Nat) : 1 ≤ (fillC P m [] (k :: L)).1.length := by
  have key : ∀ (L t : List Nat), t.length ≤ (fillC P m t L).1.length := by
    intro L
    induction L with
    | nil => intro t; exact Nat.le_refl _
    | cons k L ih =>
      intro t
      unfold fillC
      split
      · have := ih (t ++ [k]); simp at this; omega
      · exact ih t
  rw [fillC, if_pos (fitB_empty hm rfl k)]
  have := key L ([] ++ [k])
  simpa using this
end Go.Proofs.Ythfnbnjajcigeaa

/- The fewest rounds, plainly: partitions of the pools into rounds; the least number of them, and the program's way to it. No condition. -/
namespace Go.Proofs.Ythfnbnjajcigeaa
open Go.RowKit

theorem andI_comm (x y : Int) : andI x y = andI y x := by
  show IntKind.i64.wrap ((BitVec.ofInt 64 x &&& BitVec.ofInt 64 y).toNat : Nat) = IntKind.i64.wrap ((BitVec.ofInt 64 y &&& BitVec.ofInt 64 x).toNat : Nat)
  rw [BitVec.and_comm]
/-- A round of pools, by their values. -/
def okR (m : Nat) (r : List Int) : Prop := r.length ≤ m ∧ r.Pairwise fun x y => andI x y = 0
theorem okR_perm {m : Nat} {r s : List Int} (h : r.Perm s) (hr : okR m r) : okR m s :=
  ⟨by rw [← h.length_eq]; exact hr.1, (h.pairwise_iff (fun {x y} e => (andI_comm y x).trans e)).1 hr.2⟩
theorem okR_left {m : Nat} {r s : List Int} (h : okR m (r ++ s)) : okR m r := ⟨by have := h.1; rw [List.length_append] at this; omega, (List.pairwise_append.1 h.2).1⟩
/-- The pools of L can be tested in k rounds. -/
def canV (m : Nat) (L : List Int) (k : Nat) : Prop := ∃ S : List (List Int), S.length = k ∧ (∀ r ∈ S, okR m r) ∧ S.flatten.Perm L
theorem canV_perm {m k : Nat} {L M : List Int} (h : L.Perm M) (hc : canV m L k) : canV m M k := by
  obtain ⟨S, h1, h2, h3⟩ := hc
  exact ⟨S, h1, h2, h3.trans h⟩
def IsMin (m : Nat) (L : List Int) (N : Nat) : Prop := canV m L N ∧ ∀ k, canV m L k → N ≤ k
theorem isMin_uniq {m N N' : Nat} {L : List Int} (h : IsMin m L N) (h' : IsMin m L N') : N = N' := Nat.le_antisymm (h.2 _ h'.1) (h'.2 _ h.1)
theorem isMin_nil (m : Nat) : IsMin m [] 0 := ⟨⟨[], rfl, fun r h => (by cases h), List.Perm.refl _⟩, fun _ _ => Nat.zero_le _⟩

/-- A part of a list, in its order. -/
theorem sub_perm : ∀ (t a b : List Int), (a ++ b).Perm t → ∃ a' : List Int, a'.Perm a ∧ a'.Sublist t
  | [], a, b, h => by
    have := List.append_eq_nil_iff.1 (List.Perm.eq_nil h)
    exact ⟨[], by rw [this.1], List.Sublist.refl _⟩
  | y :: t, a, b, h => by
    have hy : y ∈ a ++ b := h.mem_iff.2 (by simp)
    by_cases ha : y ∈ a
    · have h1 : a.Perm (y :: a.erase y) := List.perm_cons_erase ha
      have h2 : (y :: (a.erase y ++ b)).Perm (y :: t) := (h1.append_right b).symm.trans h
      obtain ⟨a', p1, p2⟩ := sub_perm t (a.erase y) b h2.cons_inv
      exact ⟨y :: a', (p1.cons y).trans h1.symm, p2.cons_cons y⟩
    · have hb : y ∈ b := by
        rw [List.mem_append] at hy
        exact hy.resolve_left ha
      have h1 : b.Perm (y :: b.erase y) := List.perm_cons_erase hb
      have h2 : (y :: (a ++ b.erase y)).Perm (y :: t) := (List.perm_middle.symm.trans (h1.append_left a).symm).trans h
      obtain ⟨a', p1, p2⟩ := sub_perm t a (b.erase y) h2.cons_inv
      exact ⟨a', p1, p2.cons y⟩
theorem sub_cons {y : Int} {r : List Int} : ∀ {l : List Int}, (y :: r).Sublist l → ∃ j, ∃ h : j < l.length, l[j] = y ∧ r.Sublist (l.drop (j + 1))
  | [], h => by cases h
  | x :: l, h => by
    rcases List.sublist_cons_iff.1 h with h | ⟨s, e, hs⟩
    · obtain ⟨j, hj, e1, e2⟩ := sub_cons h
      exact ⟨j + 1, by simpa using hj, by simpa using e1, by simpa using e2⟩
    · injection e with e1 e2
      subst e1 e2
      exact ⟨0, by simp, rfl, by simpa using hs⟩

/-- What fewestAfter gives: the least number of rounds for what a round leaves that may take more from place next on. -/
def AftMin (m : Nat) (r left : List Int) (next N : Nat) : Prop :=
  (∃ r' rest, (r' ++ rest).Perm left ∧ okR m (r ++ r') ∧ canV m rest N) ∧
    ∀ r' rest k, r'.Sublist (left.drop next) → (r' ++ rest).Perm left → okR m (r ++ r') → canV m rest k → N ≤ k
theorem isMin_cons {m N : Nat} {x : Int} {t : List Int} (h : AftMin m [x] t 0 N) : IsMin m (x :: t) (N + 1) := by
  obtain ⟨⟨r', rest, h1, h2, S, s1, s2, s3⟩, hmin⟩ := h
  refine ⟨⟨(x :: r') :: S, by simp [s1], ?_, ?_⟩, fun k hk => ?_⟩
  · intro r hr
    rw [List.mem_cons] at hr
    rcases hr with rfl | hr
    · exact h2
    · exact s2 r hr
  · rw [List.flatten_cons, List.cons_append]
    exact ((s3.append_left r').trans h1).cons x
  · obtain ⟨S, s1, s2, s3⟩ := hk
    have hx : x ∈ S.flatten := s3.mem_iff.2 (by simp)
    obtain ⟨r0, hr0, hx0⟩ := List.mem_flatten.1 hx
    obtain ⟨A, B, rfl⟩ := List.append_of_mem hr0
    have p0 : r0.Perm (x :: r0.erase x) := List.perm_cons_erase hx0
    have p1 : (A ++ r0 :: B).flatten.Perm (r0 ++ (A ++ B).flatten) := by
      rw [List.flatten_append, List.flatten_cons, List.flatten_append]
      have := List.perm_append_comm_assoc A.flatten r0 B.flatten
      exact this
    have p2 : (x :: (r0.erase x ++ (A ++ B).flatten)).Perm (x :: t) := (p0.append_right _).symm.trans (p1.symm.trans s3)
    have p3 := p2.cons_inv
    obtain ⟨a', q1, q2⟩ := sub_perm t _ _ p3
    have hk1 : (A ++ B).length + 1 = k := by rw [← s1]; simp; omega
    have := hmin a' (A ++ B).flatten (A ++ B).length (by rw [List.drop_zero]; exact q2) ((q1.append_right _).trans p3)
      (okR_perm (p0.trans (q1.symm.cons x)) (s2 r0 (by simp))) ⟨A ++ B, rfl, fun r hr => s2 r (by rw [List.mem_append] at hr; simp; rcases hr with h | h <;> simp [h]), List.Perm.refl _⟩
    omega
/-- What the loop has found behind place i. -/
def LoopMin (m : Nat) (r left : List Int) (next i N : Nat) : Prop :=
  (∃ r' rest, (r' ++ rest).Perm left ∧ okR m (r ++ r') ∧ canV m rest N) ∧ (∀ k, canV m left k → N ≤ k) ∧
    ∀ j, next ≤ j → j < i → ∀ (h : j < left.length) r' rest k, r'.Sublist (left.drop (j + 1)) → (left[j] :: (r' ++ rest)).Perm left → okR m (r ++ left[j] :: r') → canV m rest k → N ≤ k
theorem loop_start {m next N : Nat} {r left : List Int} (hr : okR m r) (h : IsMin m left N) : LoopMin m r left next next N :=
  ⟨⟨[], left, List.Perm.refl _, by rw [List.append_nil]; exact hr, h.1⟩, h.2, fun j h1 h2 => by omega⟩
theorem loop_skip {m next i N : Nat} {r left : List Int} (hi : i < left.length) (hno : ¬ (r.length < m ∧ ∀ x ∈ r, andI x left[i] = 0)) (h : LoopMin m r left next i N) : LoopMin m r left next (i + 1) N := by
  refine ⟨h.1, h.2.1, fun j h1 h2 hj r' rest k q1 q2 q3 q4 => ?_⟩
  by_cases e : j = i
  · subst e
    refine absurd ⟨?_, ?_⟩ hno
    · have := q3.1
      simp at this
      omega
    · intro x hx
      exact (List.pairwise_append.1 q3.2).2.2 x hx _ (by simp)
  · exact h.2.2 j h1 (by omega) hj r' rest k q1 q2 q3 q4
theorem erase_perm (l : List Int) (i : Nat) (hi : i < l.length) : (l[i] :: l.eraseIdx i).Perm l := by
  rw [List.eraseIdx_eq_take_drop_succ]
  have h : l = l.take i ++ l[i] :: l.drop (i + 1) := by rw [← List.drop_eq_getElem_cons hi, List.take_append_drop]
  have h2 : (l.take i ++ l[i] :: l.drop (i + 1)).Perm (l[i] :: (l.take i ++ l.drop (i + 1))) := List.perm_middle
  rw [← h] at h2
  exact h2.symm
theorem erase_drop (l : List Int) (i : Nat) (hi : i < l.length) : (l.eraseIdx i).drop i = l.drop (i + 1) := by
  rw [List.eraseIdx_eq_take_drop_succ, List.drop_append_of_le_length (by rw [List.length_take]; omega), List.drop_of_length_le (by rw [List.length_take]; omega), List.nil_append]
theorem loop_take {m next i N A : Nat} {r left : List Int} (hi : i < left.length) (h : LoopMin m r left next i N) (ha : AftMin m (r ++ [left[i]]) (left.eraseIdx i) i A) : LoopMin m r left next (i + 1) (min N A) := by
  have hp := erase_perm left i hi
  refine ⟨?_, fun k hk => by have := h.2.1 k hk; omega, fun j h1 h2 hj r' rest k q1 q2 q3 q4 => ?_⟩
  · rcases Nat.le_total N A with hle | hle
    · rw [Nat.min_eq_left hle]
      exact h.1
    · rw [Nat.min_eq_right hle]
      obtain ⟨r', rest, p1, p2, p3⟩ := ha.1
      refine ⟨left[i] :: r', rest, (p1.cons _).trans hp, ?_, p3⟩
      rw [List.append_assoc] at p2
      exact p2
  · by_cases e : j = i
    · subst e
      have := ha.2 r' rest k (by rw [erase_drop left j hi]; exact q1) (q2.trans hp.symm).cons_inv (by rw [List.append_assoc]; exact q3) q4
      omega
    · have := h.2.2 j h1 (by omega) hj r' rest k q1 q2 q3 q4
      omega
theorem loop_end {m next i N : Nat} {r left : List Int} (hi : left.length ≤ i) (h : LoopMin m r left next i N) : AftMin m r left next N := by
  refine ⟨h.1, fun r' rest k q1 q2 q3 q4 => ?_⟩
  cases r' with
  | nil => exact h.2.1 k (canV_perm q2 q4)
  | cons y r' =>
    obtain ⟨j, hj, e1, e2⟩ := sub_cons q1
    rw [List.length_drop] at hj
    rw [List.getElem_drop] at e1
    rw [List.drop_drop] at e2
    refine h.2.2 (next + j) (by omega) (by omega) (by omega) r' rest k (by rw [show next + j + 1 = next + (j + 1) by omega]; exact e2) ?_ ?_ q4
    · rw [e1]; exact q2
    · rw [e1]; exact q3

/-! ### the set of a round's items -/
def orV (r : List Int) : Int := r.foldl orI 0
theorem orV_snoc (r : List Int) (x : Int) : orV (r ++ [x]) = orI (orV r) x := by
  unfold orV
  rw [List.foldl_append]
  rfl
theorem foldV_and {b : Int} (hb : 0 ≤ b ∧ b ≤ 1023) : ∀ (r : List Int) (s : Int), (∀ x ∈ r, 0 ≤ x ∧ x ≤ 1023) → 0 ≤ s ∧ s ≤ 1023 → (0 ≤ r.foldl orI s ∧ r.foldl orI s ≤ 1023) ∧ (andI b (r.foldl orI s) = 0 ↔ andI b s = 0 ∧ ∀ x ∈ r, andI x b = 0)
  | [], s, _, h => ⟨h, by simp⟩
  | x :: r, s, hr, h => by
    have hx := hr x (by simp)
    obtain ⟨h1, h2⟩ := foldV_and hb r (orI s x) (fun y hy => hr y (by simp [hy])) (or_in h.1 h.2 hx.1 hx.2)
    refine ⟨h1, ?_⟩
    rw [List.foldl_cons, h2, or_and h hx hb]
    simp only [List.mem_cons, forall_eq_or_imp]
    exact and_assoc
theorem orV_in {r : List Int} (hr : ∀ x ∈ r, 0 ≤ x ∧ x ≤ 1023) : 0 ≤ orV r ∧ orV r ≤ 1023 := (foldV_and (b := 0) (by omega) r 0 hr (by omega)).1
theorem takesV {m : Nat} {r : List Int} {p : Int} (hr : ∀ x ∈ r, 0 ≤ x ∧ x ≤ 1023) (hp : 0 ≤ p ∧ p ≤ 1023) : (decide (r.length < m) && !(andI p (orV r) != 0)) = true ↔ r.length < m ∧ ∀ x ∈ r, andI x p = 0 := by
  have h := (foldV_and hp r 0 hr (by omega)).2
  rw [show andI p 0 = 0 from zero_and p hp] at h
  rw [Bool.and_eq_true, decide_eq_true_eq, bne, Bool.not_not, beq_iff_eq]
  unfold orV
  rw [h]
  simp
theorem okR_snoc {m : Nat} {r : List Int} {p : Int} (hr : okR m r) (h : r.length < m ∧ ∀ x ∈ r, andI x p = 0) : okR m (r ++ [p]) := by
  refine ⟨by simp; omega, List.pairwise_append.2 ⟨hr.2, by simp, fun a ha b hb => ?_⟩⟩
  rw [List.mem_singleton] at hb
  subst hb
  exact h.2 a ha
theorem okR_one {m : Nat} (hm : 1 ≤ m) (x : Int) : okR m [x] := ⟨by simpa using hm, by simp⟩
end Go.Proofs.Ythfnbnjajcigeaa

/- The model's fewest rounds are the least number of rounds in which the pools can be tested, plainly. No condition. -/
namespace Go.Proofs.Ythfnbnjajcigeaa
open Go.RowKit

def vals (P : List Int) (r : List Nat) : List Int := r.map fun i => P.getD i 0
theorem vals_snoc (P : List Int) (r : List Nat) (k : Nat) : vals P (r ++ [k]) = vals P r ++ [P.getD k 0] := by simp [vals]
theorem drop_here {P : List Int} {f : Nat} (h : f + 1 ≤ P.length) : P.drop (P.length - (f + 1)) = P.getD (P.length - (f + 1)) 0 :: P.drop (P.length - f) := by
  have hi : P.length - (f + 1) < P.length := by omega
  rw [List.drop_eq_getElem_cons hi, getD_at 0 hi, show P.length - (f + 1) + 1 = P.length - f by omega]
theorem fit_vals (P : List Int) (m : Nat) (r : List Nat) (k : Nat) : fitB P m r k = true ↔ r.length < m ∧ ∀ x ∈ vals P r, andI x (P.getD k 0) = 0 := by
  unfold fitB vals
  rw [Bool.and_eq_true, decide_eq_true_eq, List.all_eq_true]
  constructor
  · rintro ⟨h1, h2⟩
    refine ⟨h1, fun x hx => ?_⟩
    obtain ⟨i, hi, rfl⟩ := List.mem_map.1 hx
    exact eq_of_beq (h2 i hi)
  · rintro ⟨h1, h2⟩
    exact ⟨h1, fun i hi => beq_iff_eq.2 (h2 _ (List.mem_map.2 ⟨i, hi, rfl⟩))⟩
abbrev Pairs := List (List Nat × List Int)
theorem canP_of {P : List Int} {m : Nat} : ∀ (f : Nat) (Q : Pairs), f ≤ P.length → (∀ q ∈ Q, okR m (vals P q.1 ++ q.2)) → (Q.map (·.2)).flatten.Perm (P.drop (P.length - f)) → canP P m f (Q.map (·.1))
  | 0, _, _, _, _ => trivial
  | f + 1, Q, hf, hok, hp => by
    rw [drop_here hf] at hp
    obtain ⟨q0, hq0⟩ : ∃ q0, P.getD (P.length - (f + 1)) 0 = q0 := ⟨_, rfl⟩
    rw [hq0] at hp
    obtain ⟨t, ht, hqt⟩ := List.mem_flatten.1 (hp.mem_iff.2 (List.mem_cons_self))
    obtain ⟨q, hq, rfl⟩ := List.mem_map.1 ht
    obtain ⟨A, B, rfl⟩ := List.append_of_mem hq
    have h0 := hok q hq
    have pe : q.2.Perm (q0 :: q.2.erase q0) := List.perm_cons_erase hqt
    refine ⟨A.map (·.1), q.1, B.map (·.1), by simp, (fit_vals P m _ _).2 ⟨?_, fun x hx => ?_⟩, ?_⟩
    · have h1 := h0.1
      have h2 := pe.length_eq
      rw [List.length_append] at h1
      simp [vals] at h1
      simp at h2
      omega
    · rw [hq0]
      exact (List.pairwise_append.1 h0.2).2.2 x hx q0 hqt
    · have ih := canP_of (P := P) (m := m) f (A ++ (q.1 ++ [P.length - (f + 1)], q.2.erase q0) :: B) (by omega) ?_ ?_
      · simpa using ih
      · intro r hr
        rw [List.mem_append, List.mem_cons] at hr
        rcases hr with hr | rfl | hr
        · exact hok r (by simp [hr])
        · simp only
          rw [vals_snoc, hq0, List.append_assoc]
          exact okR_perm (pe.append_left _) h0
        · exact hok r (by simp [hr])
      · refine List.Perm.cons_inv (a := q0) (List.Perm.trans ?_ hp)
        simp only [List.map_append, List.map_cons, List.flatten_append, List.flatten_cons]
        have h1 : (q0 :: ((A.map (·.2)).flatten ++ (q.2.erase q0 ++ (B.map (·.2)).flatten))).Perm ((A.map (·.2)).flatten ++ (q0 :: (q.2.erase q0 ++ (B.map (·.2)).flatten))) := List.perm_middle.symm
        refine h1.trans (List.Perm.append_left _ ?_)
        exact (pe.append_right _).symm
theorem canP_to {P : List Int} {m : Nat} : ∀ (f : Nat) (S : List (List Nat)), f ≤ P.length → (∀ r ∈ S, okR m (vals P r)) → canP P m f S →
    ∃ Q : Pairs, Q.map (·.1) = S ∧ (∀ q ∈ Q, okR m (vals P q.1 ++ q.2)) ∧ (Q.map (·.2)).flatten.Perm (P.drop (P.length - f))
  | 0, S, _, hok, _ => by
    refine ⟨S.map fun r => (r, []), by rw [List.map_map]; exact List.map_id S, fun q hq => ?_, ?_⟩
    · obtain ⟨r, hr, rfl⟩ := List.mem_map.1 hq
      simp only
      rw [List.append_nil]
      exact hok r hr
    · rw [Nat.sub_zero, List.drop_length]
      have : ((S.map fun r => ((r, []) : List Nat × List Int)).map (·.2)).flatten = [] := by
        rw [List.flatten_eq_nil_iff]
        intro l hl
        simp at hl
        exact hl.2
      rw [this]
  | f + 1, S, hf, hok, hc => by
    obtain ⟨A, r, B, rfl, hfit, hc⟩ := hc
    have hr := hok r (by simp)
    have hfv := (fit_vals P m r _).1 hfit
    have h1 : okR m (vals P (r ++ [P.length - (f + 1)])) := by
      rw [vals_snoc]
      exact okR_snoc hr ⟨by simpa [vals] using hfv.1, hfv.2⟩
    obtain ⟨Q, e, q1, q2⟩ := canP_to f _ (by omega) (fun s hs => by
      rw [List.mem_append, List.mem_cons] at hs
      rcases hs with hs | rfl | hs
      · exact hok s (by simp [hs])
      · exact h1
      · exact hok s (by simp [hs])) hc
    obtain ⟨QA, Q2, rfl, eA, e2⟩ := List.map_eq_append_iff.1 e
    obtain ⟨q, QB, rfl, e3, eB⟩ := List.map_eq_cons_iff.1 e2
    refine ⟨QA ++ (r, P.getD (P.length - (f + 1)) 0 :: q.2) :: QB, by simp [eA, eB], fun s hs => ?_, ?_⟩
    · rw [List.mem_append, List.mem_cons] at hs
      rcases hs with hs | rfl | hs
      · exact q1 s (by simp [hs])
      · simp only
        have := q1 q (by simp)
        rw [e3, vals_snoc, List.append_assoc] at this
        exact this
      · exact q1 s (by simp [hs])
    · rw [drop_here hf]
      simp only [List.map_append, List.map_cons, List.flatten_append, List.flatten_cons, List.cons_append] at q2 ⊢
      exact List.perm_middle.trans (q2.cons _)
theorem scan_some {fit : List Nat → Bool} {go : Nat → Bool} : ∀ (T : List (List Nat)) (i : Nat), scanB fit go T i = true → ∃ A r B, T = A ++ r :: B ∧ fit r = true ∧ go (i + A.length) = true
  | [], i, h => by cases h
  | r :: T, i, h => by
    have next : scanB fit go T (i + 1) = true → ∃ A r' B, r :: T = A ++ r' :: B ∧ fit r' = true ∧ go (i + A.length) = true := fun h => by
      obtain ⟨A, r', B, e, h1, h2⟩ := scan_some T (i + 1) h
      exact ⟨r :: A, r', B, by rw [e]; rfl, h1, by rw [List.length_cons, show i + (A.length + 1) = i + 1 + A.length by omega]; exact h2⟩
    unfold scanB at h
    split at h
    · rename_i hf
      split at h
      · rename_i hg
        exact ⟨[], r, T, rfl, hf, hg⟩
      · split at h
        · cases h
        · exact next h
    · exact next h
theorem can_placeB {P : List Int} {m : Nat} : ∀ {f : Nat} {S : List (List Nat)}, placeB P m f S = true → canP P m f S
  | 0, _, _ => trivial
  | f + 1, S, h => by
    unfold placeB at h
    obtain ⟨A, r, B, rfl, h1, h2⟩ := scan_some S 0 h
    rw [Nat.zero_add, give_split] at h2
    exact ⟨A, r, B, rfl, h1, can_placeB h2⟩
/-- As many rounds are enough just where the model finds a place for each pool. -/
theorem canV_place {P : List Int} {m : Nat} (hm : 1 ≤ m) (k : Nat) : canV m P k ↔ placeB P m P.length (List.replicate k []) = true := by
  constructor
  · rintro ⟨S, h1, h2, h3⟩
    have hc := canP_of (P := P) (m := m) P.length (S.map fun t => ([], t)) (Nat.le_refl _) (fun q hq => by
      obtain ⟨t, ht, rfl⟩ := List.mem_map.1 hq
      exact h2 t ht) (by
      rw [Nat.sub_self, List.drop_zero]
      have : ((S.map fun t => (([], t) : List Nat × List Int)).map (·.2)) = S := by rw [List.map_map]; exact List.map_id S
      rw [this]
      exact h3)
    have e : ((S.map fun t => (([], t) : List Nat × List Int)).map (·.1)) = List.replicate k [] := by
      rw [List.map_map, ← h1]
      exact List.map_const (l := S) (b := ([] : List Nat))
    rw [e] at hc
    exact placeB_can hm hc (front_empty fun x hx => (List.mem_replicate.1 hx).2)
  · intro h
    obtain ⟨Q, e, q1, q2⟩ := canP_to P.length (List.replicate k []) (Nat.le_refl _) (fun r hr => by
      rw [(List.mem_replicate.1 hr).2]
      exact ⟨Nat.zero_le _, List.Pairwise.nil⟩) (can_placeB h)
    rw [Nat.sub_self, List.drop_zero] at q2
    refine ⟨Q.map (·.2), ?_, fun r hr => ?_, q2⟩
    · have := congrArg List.length e
      simpa using this
    · obtain ⟨q, hq, rfl⟩ := List.mem_map.1 hr
      have h1 := q1 q hq
      have h2 : q.1 = [] := (List.mem_replicate.1 (show q.1 ∈ List.replicate k [] by rw [← e]; exact List.mem_map.2 ⟨q, hq, rfl⟩)).2
      rw [h2] at h1
      exact h1

/-! ### no fewer than the bound -/
def hasV (i : Nat) (x : Int) : Bool := bits .and .i64 x (2 ^ i) != 0
theorem useN_count (P : List Int) (i : Nat) : ∀ j, j ≤ P.length → useN P i j = (P.take j).countP (hasV i)
  | 0, _ => rfl
  | j + 1, h => by
    have hj : j < P.length := by omega
    rw [List.take_succ_eq_append_getElem hj, List.countP_append, List.countP_singleton, ← useN_count P i j (by omega), ← getD_at 0 hj]
    show (if hasV i (P.getD j 0) = true then useN P i j + 1 else useN P i j) = _
    split <;> omega
theorem one_has {i : Nat} (hi : i ≤ 62) : ∀ (r : List Int), (∀ x ∈ r, 0 ≤ x ∧ x ≤ 1023) → r.Pairwise (fun x y => andI x y = 0) → r.countP (hasV i) ≤ 1
  | [], _, _ => Nat.zero_le _
  | x :: r, hr, hp => by
    rw [List.pairwise_cons] at hp
    have ih := one_has hi r (fun y hy => hr y (by simp [hy])) hp.2
    rw [List.countP_cons]
    by_cases hx : hasV i x = true
    · have hz : r.countP (hasV i) = 0 := by
        rw [List.countP_eq_zero]
        intro y hy hh
        have b1 := hr x (by simp)
        have b2 := hr y (by simp [hy])
        have h0 := hp.1 y hy
        unfold hasV at hx hh
        rw [has_bit b1.1 (by omega) hi] at hx
        rw [has_bit b2.1 (by omega) hi] at hh
        obtain ⟨a, rfl⟩ := Int.eq_ofNat_of_zero_le b1.1
        obtain ⟨b, rfl⟩ := Int.eq_ofNat_of_zero_le b2.1
        rw [and_nat (by omega) (by omega)] at h0
        have h3 : a &&& b = 0 := by omega
        have := congrArg (fun q => Nat.testBit q i) h3
        simp only [Nat.testBit_and, Nat.zero_testBit] at this
        rw [Int.toNat_natCast] at hx hh
        rw [hx, hh] at this
        cases this
      rw [hz, if_pos hx]
      exact Nat.le_refl _
    · rw [if_neg hx]
      exact ih
theorem flat_le {g : List Int → Nat} {b : Nat} (g0 : g [] = 0) (ga : ∀ a c, g (a ++ c) = g a + g c) : ∀ (S : List (List Int)), (∀ r ∈ S, g r ≤ b) → g S.flatten ≤ S.length * b
  | [], _ => by simp [g0]
  | r :: S, h => by
    have h1 := flat_le g0 ga S fun x hx => h x (by simp [hx])
    have h2 := h r (by simp)
    rw [List.flatten_cons, ga, List.length_cons, Nat.succ_mul]
    omega
theorem bound_canV {n m : Int} {P : List Int} {k : Nat} (h : roundsB n P m = true) (hc : canV m.toNat P k) : boundI n P m ≤ (k : Int) := by
  have hr := rounds_in h
  have hp := pools_in hr.1
  obtain ⟨S, h1, h2, h3⟩ := hc
  have hin : ∀ r ∈ S, ∀ x ∈ r, 0 ≤ x ∧ x ≤ 1023 := fun r hr' x hx => hp.2.2 x (h3.mem_iff.1 (List.mem_flatten.2 ⟨r, hr', hx⟩))
  have hlen : P.length ≤ k * m.toNat := by
    have := flat_le (g := List.length) (b := m.toNat) rfl (fun a c => List.length_append) S fun r hr' => (h2 r hr').1
    rw [h3.length_eq, h1] at this
    exact this
  have hceil : ceilN P.length m.toNat ≤ k := by
    unfold ceilN
    rw [Nat.div_le_iff_le_mul_add_pred (by omega), Nat.mul_comm]
    omega
  have huse : ∀ i, i ≤ 62 → useN P i P.length ≤ k := fun i hi => by
    rw [useN_count P i P.length (Nat.le_refl _), List.take_length, ← h3.countP_eq]
    have := flat_le (g := List.countP (hasV i)) (b := 1) rfl (fun a c => List.countP_append) S fun r hr' => one_has hi r (hin r hr') (h2 r hr').2
    rw [h1] at this
    omega
  unfold boundI
  rw [if_pos h]
  refine (mostF_in (b := (k : Int)) (by omega) (fun x hx => ?_) n.toNat (by rw [usesL_len]; exact Nat.le_refl _)).2
  unfold usesL at hx
  rw [List.mem_map] at hx
  obtain ⟨i, hi, rfl⟩ := hx
  rw [List.mem_range] at hi
  have := huse i (by omega)
  omega
/-- The least number of rounds is the one that the model finds. -/
theorem few_least {n m : Int} {P : List Int} {N : Nat} (h : roundsB n P m = true) (hN : IsMin m.toNat P N) : N = fewK n P m := by
  have hr := rounds_in h
  have hm : 1 ≤ m.toNat := by omega
  have hb := bound_in h
  have hbN := bound_canV h hN.1
  have hle : N ≤ fewK n P m := by
    refine hN.2 _ ((canV_place hm _).2 ?_)
    refine leastK_yes (p := fun k => placeB P m.toNat P.length (List.replicate k [])) _ _ ?_
    exact placeB_enough hm (by omega)
  rcases Nat.lt_or_ge N (fewK n P m) with hlt | hge
  · have := leastK_no (p := fun k => placeB P m.toNat P.length (List.replicate k [])) (P.length - (boundI n P m).toNat) (boundI n P m).toNat N (by omega) hlt
    simp only [(canV_place hm N).1 hN.1] at this
    cases this
  · omega
end Go.Proofs.Ythfnbnjajcigeaa

/- How often the items are used, plainly: pool by pool, item by item; the greatest of a list. No condition. -/
namespace Go.Proofs.Ythfnbnjajcigeaa
open Go.RowKit

/-- One use more of item x. -/
def incL (L : List Int) (x : Nat) : List Int := L.set x (L.getD x 0 + 1)
def addIts (L : List Int) (xs : List Nat) : List Int := xs.foldl incL L
theorem addIts_snoc (L : List Int) (xs : List Nat) (x : Nat) : addIts L (xs ++ [x]) = incL (addIts L xs) x := by
  unfold addIts
  rw [List.foldl_append]
  rfl
theorem addIts_len : ∀ (xs : List Nat) (L : List Int), (addIts L xs).length = L.length
  | [], _ => rfl
  | x :: xs, L => by
    show (addIts (incL L x) xs).length = L.length
    rw [addIts_len xs (incL L x)]
    unfold incL
    rw [List.length_set]
theorem incL_at (L : List Int) (x i : Nat) (hi : i < L.length) : (incL L x).getD i 0 = L.getD i 0 + (if x = i then 1 else 0) := by
  unfold incL
  rw [List.getD_eq_getElem?_getD, List.getElem?_set]
  by_cases e : x = i
  · subst e
    rw [if_pos rfl, if_pos hi, if_pos rfl]
    rfl
  · rw [if_neg e, if_neg e, ← List.getD_eq_getElem?_getD]
    omega
theorem addIts_at : ∀ (xs : List Nat) (L : List Int) (i : Nat), i < L.length → (addIts L xs).getD i 0 = L.getD i 0 + (xs.count i : Nat)
  | [], L, i, _ => by simp [addIts]
  | x :: xs, L, i, hi => by
    show (addIts (incL L x) xs).getD i 0 = _
    rw [addIts_at xs (incL L x) i (by unfold incL; rw [List.length_set]; exact hi), incL_at L x i hi, List.count_cons]
    by_cases e : x = i
    · subst e; simp; omega
    · simp [e]
/-- The list behind the first j pools. -/
def usesAt (P : List Int) (N j : Nat) : List Int := (List.range N).map fun i => ((useN P i j : Nat) : Int)
theorem usesAt_len (P : List Int) (N j : Nat) : (usesAt P N j).length = N := by simp [usesAt]
theorem usesAt_all (P : List Int) (N : Nat) : usesAt P N P.length = usesL N P := rfl
theorem usesAt_zero (P : List Int) (N : Nat) : usesAt P N 0 = List.replicate N 0 := by
  apply List.ext_getElem
  · simp [usesAt]
  · intro i h1 h2
    simp [usesAt, useN]
theorem usesAt_in (P : List Int) (N j i : Nat) (hi : i < N) : (usesAt P N j).getD i 0 = ((useN P i j : Nat) : Int) := by
  rw [List.getD_eq_getElem?_getD, List.getElem?_eq_getElem (by rw [usesAt_len]; exact hi)]
  simp [usesAt]
theorem its_count (s : Int) (i : Nat) (hi : i < 63) : (itsL s).count i = if s.toNat.testBit i = true then 1 else 0 := by
  have hn : (itsL s).Nodup := by
    unfold itsL itsK
    exact List.Nodup.sublist (List.filter_sublist) List.nodup_range
  by_cases h : s.toNat.testBit i = true
  · rw [if_pos h]
    have hm : i ∈ itsL s := its_mem.2 ⟨hi, h⟩
    have h1 := List.count_pos_iff.2 hm
    have h2 := List.nodup_iff_count.1 hn i
    omega
  · rw [if_neg h]
    exact List.count_eq_zero.2 fun hm => h (its_mem.1 hm).2
theorem uses_step {P : List Int} {N j : Nat} (hN : N ≤ 10) (h0 : 0 ≤ P.getD j 0) (h1 : P.getD j 0 ≤ 1023) : addIts (usesAt P N j) (itsL (P.getD j 0)) = usesAt P N (j + 1) := by
  have hl : (addIts (usesAt P N j) (itsL (P.getD j 0))).length = N := by rw [addIts_len, usesAt_len]
  apply List.ext_getElem
  · rw [hl, usesAt_len]
  · intro i g1 g2
    have hi : i < N := by rw [hl] at g1; exact g1
    have e1 := addIts_at (itsL (P.getD j 0)) (usesAt P N j) i (by rw [usesAt_len]; exact hi)
    have e2 := usesAt_in P N (j + 1) i hi
    rw [List.getD_eq_getElem?_getD, List.getElem?_eq_getElem g1] at e1
    rw [List.getD_eq_getElem?_getD, List.getElem?_eq_getElem g2] at e2
    have e1' : (addIts (usesAt P N j) (itsL (P.getD j 0)))[i] = (usesAt P N j).getD i 0 + ((itsL (P.getD j 0)).count i : Nat) := e1
    have e2' : (usesAt P N (j + 1))[i] = ((useN P i (j + 1) : Nat) : Int) := e2
    rw [e1', e2', usesAt_in P N j i hi, its_count _ i (by omega)]
    have hb := has_bit (i := i) h0 (by omega) (by omega)
    show _ = (((if (bits .and .i64 (P.getD j 0) (2 ^ i) != 0) = true then useN P i j + 1 else useN P i j) : Nat) : Int)
    rw [hb]
    split <;> omega
theorem below_top {p : Int} {N x : Nat} (h0 : 0 ≤ p) (h1 : p < 2 ^ N) (hx : p.toNat.testBit x = true) : x < N := by
  rcases Nat.lt_or_ge x N with h | h
  · exact h
  · have hc : ((2 ^ N : Nat) : Int) = (2 : Int) ^ N := by simp
    have h2 : p.toNat < 2 ^ x := Nat.lt_of_lt_of_le (show p.toNat < 2 ^ N by omega) (Nat.pow_le_pow_right (by decide) h)
    rw [Nat.testBit_lt_two_pow h2] at hx
    cases hx
/-! ### the greatest -/
theorem mostF_max (z : Int) (L : List Int) : ∀ j, mostF z L (j + 1) = if z < mostF (L.getD 0 0) L (j + 1) then mostF (L.getD 0 0) L (j + 1) else z
  | 0 => by simp [mostF]
  | j + 1 => by
    have ih := mostF_max z L j
    rw [mostF, mostF.eq_def (L.getD 0 0)]
    simp only
    generalize mostF z L (j + 1) = a at *
    generalize mostF (L.getD 0 0) L (j + 1) = b at *
    generalize L.getD (j + 1) 0 = x at *
    by_cases h1 : a < x <;> by_cases h2 : b < x <;> simp only [if_pos, if_neg, h1, h2, not_false_eq_true] <;> split at ih <;> (try split) <;> omega
end Go.Proofs.Ythfnbnjajcigeaa

/- Whether rounds are valid, plainly: which pools have been placed, round by round. No condition. -/
namespace Go.Proofs.Ythfnbnjajcigeaa
open Go.RowKit

/-- Whether the pool at place i of the round r may be tested there. -/
def okK (P : List Int) (m : Nat) (r : List Int) (i : Nat) (U : List Bool) : Bool :=
  (decide (0 ≤ r.getD i 0) && decide (r.getD i 0 ≤ (P.length : Int) - 1)) && (!(U.getD (r.getD i 0).toNat false) && fitB P m ((r.take i).map Int.toNat) (r.getD i 0).toNat)
/-- What has been placed behind the first i pools of a round, if all was right. -/
def rowK (P : List Int) (m : Nat) (r : List Int) (s : Option (List Bool × Nat)) : Nat → Option (List Bool × Nat)
  | 0 => s
  | i + 1 => match rowK P m r s i with
    | none => none
    | some (U, c) => if okK P m r i U = true then some (U.set (r.getD i 0).toNat true, c + 1) else none
def allK (P : List Int) (m : Nat) (S : List (List Int)) : Nat → Option (List Bool × Nat)
  | 0 => some (List.replicate P.length false, 0)
  | j + 1 => rowK P m (S.getD j []) (allK P m S j) (S.getD j []).length
def roundsOkB (n : Int) (P : List Int) (m : Int) (S : List (List Int)) : Bool := roundsB n P m && (match allK P m.toNat S S.length with
  | none => false
  | some (_, c) => c == P.length)
theorem rowK_up {P : List Int} {m : Nat} {r : List Int} {s : Option (List Bool × Nat)} {i : Nat} (h : rowK P m r s i = none) : ∀ d, rowK P m r s (i + d) = none
  | 0 => h
  | d + 1 => by
    have ih := rowK_up h d
    show rowK P m r s ((i + d) + 1) = none
    simp only [rowK, ih]
theorem rowK_none {P : List Int} {m : Nat} {r : List Int} {s : Option (List Bool × Nat)} {i l : Nat} (h : rowK P m r s i = none) (hl : i ≤ l) : rowK P m r s l = none := by
  have := rowK_up h (l - i)
  rwa [show i + (l - i) = l by omega] at this
theorem allK_up {P : List Int} {m : Nat} {S : List (List Int)} {j : Nat} (h : allK P m S j = none) : ∀ d, allK P m S (j + d) = none
  | 0 => h
  | d + 1 => by
    have ih := allK_up h d
    show allK P m S ((j + d) + 1) = none
    simp only [allK]
    exact rowK_none (i := 0) (by simp only [rowK]; exact ih) (Nat.zero_le _)
theorem allK_none {P : List Int} {m : Nat} {S : List (List Int)} {j l : Nat} (h : allK P m S j = none) (hl : j ≤ l) : allK P m S l = none := by
  have := allK_up h (l - j)
  rwa [show j + (l - j) = l by omega] at this
theorem roundsOkB_no {n m : Int} {P : List Int} {S : List (List Int)} (h : allK P m.toNat S S.length = none) : roundsOkB n P m S = false := by
  unfold roundsOkB
  rw [h]
  simp
/-- What is known of a state: as many marks as pools; and of the places behind it: numbers of pools. -/
theorem rowK_in {P : List Int} {m : Nat} {r : List Int} {s : List Bool × Nat} (hs : s.1.length = P.length) : ∀ {i : Nat} {U : List Bool} {c : Nat}, rowK P m r (some s) i = some (U, c) → U.length = P.length ∧ c = s.2 + i ∧ ∀ j, j < i → 0 ≤ r.getD j 0 ∧ r.getD j 0 ≤ (P.length : Int) - 1
  | 0, U, c, h => by
    simp only [rowK] at h
    cases h
    exact ⟨hs, rfl, fun j hj => absurd hj (Nat.not_lt_zero j)⟩
  | i + 1, U, c, h => by
    simp only [rowK] at h
    cases hr : rowK P m r (some s) i with
    | none => rw [hr] at h; cases h
    | some t =>
      obtain ⟨U0, c0⟩ := t
      rw [hr] at h
      simp only at h
      split at h
      · rename_i hok
        obtain ⟨h1, h2, h3⟩ := rowK_in hs hr
        cases h
        unfold okK at hok
        simp only [Bool.and_eq_true, decide_eq_true_eq] at hok
        refine ⟨by rw [List.length_set]; exact h1, by omega, fun j hj => ?_⟩
        by_cases e : j = i
        · subst e; exact hok.1
        · exact h3 j (by omega)
      · cases h
theorem allK_in {P : List Int} {m : Nat} {S : List (List Int)} : ∀ {j : Nat} {U : List Bool} {c : Nat}, j ≤ S.length → allK P m S j = some (U, c) → U.length = P.length ∧ c = totL (S.take j)
  | 0, U, c, _, h => by
    simp only [allK] at h
    cases h
    exact ⟨by simp, rfl⟩
  | j + 1, U, c, hj, h => by
    simp only [allK] at h
    cases hr : allK P m S j with
    | none =>
      rw [hr] at h
      have := rowK_none (P := P) (m := m) (r := S.getD j []) (s := none) (i := 0) rfl (Nat.zero_le (S.getD j []).length)
      rw [this] at h
      cases h
    | some t =>
      obtain ⟨U0, c0⟩ := t
      rw [hr] at h
      obtain ⟨h1, h2⟩ := allK_in (by omega) hr
      obtain ⟨h3, h4, -⟩ := rowK_in (s := (U0, c0)) h1 h
      refine ⟨h3, ?_⟩
      rw [totL_take (by omega), h4, h2, getD_at [] (show j < S.length by omega)]
theorem totL_leS {S : List (List Int)} : ∀ k, totL (S.take k) ≤ totL S := fun k => by
  have := totL_app (S.take k) (S.drop k)
  rw [List.take_append_drop] at this
  omega
theorem natL_back {l : List Int} (h : ∀ x ∈ l, 0 ≤ x) : natL (l.map Int.toNat) = l := by
  induction l with
  | nil => rfl
  | cons a t ih =>
    have h0 := h a (by simp)
    have := ih fun x hx => h x (by simp [hx])
    unfold natL at this ⊢
    simp only [List.map_cons]
    rw [this]
    congr 1
    omega
end Go.Proofs.Ythfnbnjajcigeaa

/- The program's way to look at rounds, plainly: each round by itself, and what has been tested as a set of bits; it says what the model says. No condition. -/
namespace Go.Proofs.Ythfnbnjajcigeaa
open Go.RowKit

def natT (r : List Int) (i : Nat) : List Nat := (r.take i).map Int.toNat
theorem natT_snoc {r : List Int} {i : Nat} (h : i < r.length) : natT r (i + 1) = natT r i ++ [(r[i]).toNat] := by
  unfold natT
  rw [List.take_succ_eq_append_getElem h, List.map_append]
  rfl
theorem natT_len {r : List Int} {i : Nat} (h : i ≤ r.length) : (natT r i).length = i := by
  unfold natT
  rw [List.length_map, List.length_take]
  omega
def rangeI (P : List Int) (r : List Int) (i : Nat) : Bool := decide (0 ≤ r.getD i 0) && decide (r.getD i 0 ≤ (P.length : Int) - 1)
def okI (P : List Int) (m : Nat) (r : List Int) (i : Nat) : Bool := rangeI P r i && fitB P m (natT r i) (r.getD i 0).toNat
/-- Whether the first i pools of a round may be tested there, whatever has been tested before. -/
def isRB (P : List Int) (m : Nat) (r : List Int) : Nat → Bool
  | 0 => true
  | i + 1 => isRB P m r i && okI P m r i
theorem isRB_step (P : List Int) (m : Nat) (r : List Int) (i : Nat) : isRB P m r (i + 1) = (isRB P m r i && okI P m r i) := rfl
theorem isRB_no {P : List Int} {m : Nat} {r : List Int} {i : Nat} (h : okI P m r i = false) : ∀ l, i < l → isRB P m r l = false
  | 0, hl => absurd hl (Nat.not_lt_zero i)
  | l + 1, hl => by
    rw [isRB_step]
    by_cases e : i = l
    · subst e; rw [h, Bool.and_false]
    · rw [isRB_no h l (by omega), Bool.false_and]
theorem isRB_all {P : List Int} {m : Nat} {r : List Int} : ∀ l, isRB P m r l = true → ∀ i, i < l → okI P m r i = true
  | 0, _, i, hi => absurd hi (Nat.not_lt_zero i)
  | l + 1, h, i, hi => by
    rw [isRB_step, Bool.and_eq_true] at h
    by_cases e : i = l
    · subst e; exact h.2
    · exact isRB_all l h.1 i (by omega)
theorem isRB_some {P : List Int} {m : Nat} {r : List Int} : ∀ l, isRB P m r l = false → ∃ i, i < l ∧ okI P m r i = false
  | 0, h => by cases h
  | l + 1, h => by
    rw [isRB_step, Bool.and_eq_false_iff] at h
    rcases h with h | h
    · obtain ⟨i, hi, hk⟩ := isRB_some l h
      exact ⟨i, by omega, hk⟩
    · exact ⟨l, by omega, h⟩
theorem okK_okI (P : List Int) (m : Nat) (r : List Int) (i : Nat) (U : List Bool) : okK P m r i U = (okI P m r i && !(U.getD (r.getD i 0).toNat false)) := by
  unfold okK okI rangeI natT
  cases decide (0 ≤ r.getD i 0) <;> cases decide (r.getD i 0 ≤ (P.length : Int) - 1) <;> cases (U.getD (r.getD i 0).toNat false) <;> cases fitB P m ((r.take i).map Int.toNat) (r.getD i 0).toNat <;> rfl
theorem rowK_bad {P : List Int} {m : Nat} {r : List Int} {s : Option (List Bool × Nat)} {l : Nat} (h : isRB P m r l = false) : rowK P m r s l = none := by
  obtain ⟨i, hi, hk⟩ := isRB_some l h
  refine rowK_none (i := i + 1) ?_ (by omega)
  rw [rowK]
  cases rowK P m r s i with
  | none => rfl
  | some t =>
    obtain ⟨U, c⟩ := t
    simp only
    rw [okK_okI, hk, Bool.false_and]
    rfl
theorem rowK_good {P : List Int} {m : Nat} {r : List Int} {s : Option (List Bool × Nat)} {i : Nat} {U : List Bool} {c : Nat} (hk : okI P m r i = true) (h : rowK P m r s i = some (U, c)) :
    rowK P m r s (i + 1) = if U.getD (r.getD i 0).toNat false = true then none else some (U.set (r.getD i 0).toNat true, c + 1) := by
  rw [rowK, h]
  simp only
  rw [okK_okI, hk, Bool.true_and]
  cases U.getD (r.getD i 0).toNat false <;> rfl

/-! ### what has been tested, as a set of bits -/
/-- The set T has just the bits of the marks U. -/
def Marks (T : Nat) (U : List Bool) : Prop := T < 2 ^ U.length ∧ ∀ i, i < U.length → T.testBit i = U.getD i false
theorem marks_zero (p : Nat) : Marks 0 (List.replicate p false) := by
  refine ⟨Nat.pow_pos (by decide), fun i hi => ?_⟩
  rw [Nat.zero_testBit, List.getD_eq_getElem?_getD, List.getElem?_eq_getElem hi]
  simp
theorem marks_set {T : Nat} {U : List Bool} (h : Marks T U) {k : Nat} (hk : k < U.length) : Marks (T ||| 2 ^ k) (U.set k true) := by
  refine ⟨?_, fun i hi => ?_⟩
  · rw [List.length_set]
    exact Nat.or_lt_two_pow h.1 (Nat.pow_lt_pow_right (by decide) hk)
  · rw [List.length_set] at hi
    rw [Nat.testBit_or, Nat.testBit_two_pow, List.getD_eq_getElem?_getD, List.getElem?_set]
    by_cases e : k = i
    · subst e
      rw [if_pos rfl, if_pos hk]
      simp
    · rw [if_neg e, ← List.getD_eq_getElem?_getD, h.2 i hi]
      simp [e]
theorem count_set : ∀ (U : List Bool) (k : Nat), k < U.length → U.getD k false = false → (U.set k true).countP id = U.countP id + 1
  | [], k, h, _ => absurd h (by simp)
  | b :: U, 0, _, hb => by
    have : b = false := by simpa using hb
    subst this
    simp
  | b :: U, k + 1, h, hb => by
    have ih := count_set U k (by simpa using h) (by simpa using hb)
    rw [List.set_cons_succ, List.countP_cons, List.countP_cons, ih]
    omega
theorem marks_full {T : Nat} {U : List Bool} (h : Marks T U) : T = 2 ^ U.length - 1 ↔ U.countP id = U.length := by
  rw [List.countP_eq_length]
  constructor
  · intro e b hb
    obtain ⟨i, hi, rfl⟩ := List.mem_iff_getElem.1 hb
    have h1 := h.2 i hi
    rw [e, Nat.testBit_two_pow_sub_one, List.getD_eq_getElem?_getD, List.getElem?_eq_getElem hi] at h1
    simpa [hi] using h1.symm
  · intro e
    apply Nat.eq_of_testBit_eq
    intro i
    rw [Nat.testBit_two_pow_sub_one]
    by_cases hi : i < U.length
    · rw [h.2 i hi, List.getD_eq_getElem?_getD, List.getElem?_eq_getElem hi]
      have := e _ (List.getElem_mem hi)
      simpa [hi] using this
    · rw [Nat.testBit_lt_two_pow (Nat.lt_of_lt_of_le h.1 (Nat.pow_le_pow_right (by decide) (by omega)))]
      simp [hi]
theorem rowK_cnt {P : List Int} {m : Nat} {r : List Int} {s : List Bool × Nat} (hs : s.1.countP id = s.2) (hl : s.1.length = P.length) : ∀ {i : Nat} {U : List Bool} {c : Nat}, rowK P m r (some s) i = some (U, c) → U.countP id = c
  | 0, U, c, h => by
    simp only [rowK] at h
    cases h
    exact hs
  | i + 1, U, c, h => by
    simp only [rowK] at h
    cases hr : rowK P m r (some s) i with
    | none => rw [hr] at h; cases h
    | some t =>
      obtain ⟨U0, c0⟩ := t
      rw [hr] at h
      simp only at h
      split at h
      · rename_i hok
        have h1 := rowK_cnt hs hl hr
        obtain ⟨h2, -, -⟩ := rowK_in (P := P) (m := m) hl hr
        cases h
        unfold okK at hok
        simp only [Bool.and_eq_true, decide_eq_true_eq, Bool.not_eq_true'] at hok
        rw [count_set U0 _ (by rw [h2]; omega) hok.2.1, h1]
      · cases h
theorem allK_cnt {P : List Int} {m : Nat} {S : List (List Int)} : ∀ {j : Nat} {U : List Bool} {c : Nat}, j ≤ S.length → allK P m S j = some (U, c) → U.countP id = c
  | 0, U, c, _, h => by
    simp only [allK] at h
    cases h
    simp
  | j + 1, U, c, hj, h => by
    simp only [allK] at h
    cases hr : allK P m S j with
    | none =>
      rw [hr] at h
      have := rowK_none (P := P) (m := m) (r := S.getD j []) (s := none) (i := 0) rfl (Nat.zero_le (S.getD j []).length)
      rw [this] at h
      cases h
    | some t =>
      obtain ⟨U0, c0⟩ := t
      rw [hr] at h
      obtain ⟨h1, -⟩ := allK_in (by omega) hr
      exact rowK_cnt (s := (U0, c0)) (allK_cnt (by omega) hr) h1 h
end Go.Proofs.Ythfnbnjajcigeaa
