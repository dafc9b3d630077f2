/- Several texts in one file; each says what it proves and under which condition. No condition. -/
import Derived.Test.YtlflblngbneacaaGreatDoorGDis
import Derived.Test.YtlflblngbneacaaGreatDoorGBase
import Derived.Maps.AppendAt
import Derived.Test.YtlflblngbneacaaGreatDoorPoolsSpec
/- Pools that are counted, plainly: what they show, whether they detect all sets, which sets have such and such numbers. No condition. -/
namespace Go.Proofs.YtlflblngbneacaaGreatDoor
open Go.RowKit

/-- How many bad items each pool has. -/
def sumL (P : List Int) (bad : Int) : List Int := P.map fun p => cntI (andI p bad)
theorem sumL_len (P : List Int) (bad : Int) : (sumL P bad).length = P.length := by simp [sumL]
theorem sumL_take (P : List Int) (bad : Int) {i : Nat} (h : i < P.length) : sumL (P.take (i + 1)) bad = sumL (P.take i) bad ++ [cntI (andI P[i] bad)] := by
  rw [List.take_succ_eq_append_getElem h]
  unfold sumL
  rw [List.map_append]
  rfl
def sumO (n : Int) (P : List Int) (bad : Int) : List Int := if testsB n P bad = true then sumL P bad else []
/-- Whether no two of the first N sets have the same numbers. -/
def detAt (P : List Int) (a b : Nat) : Bool := !decide (sumL P a = sumL P b)
def detF (P : List Int) (N : Nat) : Bool := allFrom (fun a => allFrom (detAt P a) a 0) N 0
def detB (n : Int) (P : List Int) : Bool := poolsB n P && detF P (2 ^ n.toNat)
/-- The first k sets that have these numbers. -/
def decK (P S : List Int) : Nat → List Int
  | 0 => []
  | k + 1 => if sumL P (k : Int) = S then decK P S k ++ [(k : Int)] else decK P S k
theorem decK_len (P S : List Int) : ∀ k, (decK P S k).length ≤ k
  | 0 => by simp [decK]
  | k + 1 => by
    have := decK_len P S k
    unfold decK
    split
    · rw [List.length_append]; simp; omega
    · omega
def decS (n : Int) (P S : List Int) : List Int := if poolsB n P = true then decK P S (2 ^ n.toNat) else []
theorem decS_len (n : Int) (P S : List Int) : (decS n P S).length ≤ 1024 := by
  unfold decS
  split
  · rename_i h
    obtain ⟨⟨n1, n10⟩, -, -⟩ := pools_in h
    have h1 : 2 ^ n.toNat ≤ 1024 := Nat.pow_le_pow_right (n := 2) (by decide) (show n.toNat ≤ 10 by omega)
    have := decK_len P S (2 ^ n.toNat)
    omega
  · simp
theorem sumO_len (n : Int) (P : List Int) (bad : Int) : (sumO n P bad).length ≤ 12 := by
  unfold sumO
  split
  · rename_i h
    unfold testsB at h
    rw [Bool.and_eq_true] at h
    have := (pools_in h.1).2.1
    rw [sumL_len]
    exact this
  · simp
/-- One more item, and its pool. -/
def extB (n : Int) (P : List Int) : Bool := detB n P && (!decide (n = 10) && !decide (P.length = 12))
def extL (n : Int) (P : List Int) : List Int := if extB n P = true then P ++ [2 ^ n.toNat] else []
theorem detB_in {n : Int} {P : List Int} (h : detB n P = true) : poolsB n P = true := by
  unfold detB at h
  rw [Bool.and_eq_true] at h
  exact h.1
theorem extL_len (n : Int) (P : List Int) : (extL n P).length ≤ 13 := by
  unfold extL
  split
  · rename_i h
    unfold extB at h
    rw [Bool.and_eq_true] at h
    have := (pools_in (detB_in h.1)).2.1
    rw [List.length_append]
    simp
    exact this
  · simp
/-- The different lists of numbers of the first k sets. -/
def seenK (P : List Int) : Nat → List (List Int)
  | 0 => []
  | k + 1 => if ((seenK P k).any fun x => decide (x = sumL P (k : Int))) = true then seenK P k else seenK P k ++ [sumL P (k : Int)]
theorem seenK_len (P : List Int) : ∀ k, (seenK P k).length ≤ k
  | 0 => by simp [seenK]
  | k + 1 => by
    have := seenK_len P k
    unfold seenK
    split
    · omega
    · rw [List.length_append]; simp; omega
theorem seenK_in (P : List Int) : ∀ k, ∀ s ∈ seenK P k, s.length = P.length
  | 0, s, h => by simp [seenK] at h
  | k + 1, s, h => by
    unfold seenK at h
    split at h
    · exact seenK_in P k s h
    · rw [List.mem_append, List.mem_singleton] at h
      rcases h with h | rfl
      · exact seenK_in P k s h
      · exact sumL_len _ _
def tellI (n : Int) (P : List Int) : Int := if poolsB n P = true then ((seenK P (2 ^ n.toNat)).length : Int) else -1
end Go.Proofs.YtlflblngbneacaaGreatDoor

/- The contract of the model's comparison of two lists of integers. Conditions: both read as integers and are short enough to be counted. -/
namespace Go.Proofs.YtlflblngbneacaaGreatDoor
open Go.RowKit

set_option maxHeartbeats 800000 in
theorem specSameI (u v : Value) (A B : List Int) (w : World) (h1 : IntsAt w u A) (h2 : IntsAt w v B) (m1 : A.length ≤ 1048576) (m2 : B.length ≤ 1048576) :
    Calls Tryz.prog 66 #[u, v] w fun e w' => e = .returned (.bool (decide (A = B))) ∧ w = w' := by
  obtain ⟨a1, c1, rfl, h1⟩ := h1
  obtain ⟨a2, c2, rfl, h2⟩ := h2
  have H1 : Hid (∀ i (h : i < A.length), ∃ b o, a1 = some ⟨b, o, none⟩ ∧ w.cell? ⟨b, o + i, none⟩ = some (.int .i64 A[i])) := by
    intro i hi
    rcases h1 with rfl | ⟨b, o, rfl, hc⟩
    · simp at hi
    · exact ⟨b, o, rfl, hc i hi⟩
  have H2 : Hid (∀ i (h : i < B.length), ∃ b o, a2 = some ⟨b, o, none⟩ ∧ w.cell? ⟨b, o + i, none⟩ = some (.int .i64 B[i])) := by
    intro i hi
    rcases h2 with rfl | ⟨b, o, rfl, hc⟩
    · simp at hi
    · exact ⟨b, o, rfl, hc i hi⟩
  clear h1 h2
  by_cases hl : A.length = B.length
  · have HX : Hid (∀ k, k ≤ A.length → decide (A = B) = decide (A.drop k = B.drop k ∧ A.take k = B.take k)) := fun k _ => by
      congr 1
      refine propext ⟨fun h => by rw [h]; exact ⟨rfl, rfl⟩, fun h => ?_⟩
      rw [← List.take_append_drop k A, h.1, h.2, List.take_append_drop]
    obtain ⟨r, hr⟩ : ∃ r, decide (A = B) = r := ⟨_, rfl⟩
    have HR := Lib.hid hr
    rw [hr]
    clear hr
    obtain ⟨n, hn⟩ : ∃ n, A.length = n := ⟨_, rfl⟩
    have hm : B.length = n := by omega
    have HN := Lib.hid hn
    have HM := Lib.hid hm
    rw [hn] at m1 ⊢
    rw [hm]
    clear hn hm hl m2
    have hne : ((n : Int) != (n : Int)) = false := by simp
    go_enter Tryz.func66, Tryz.ntmps66
    go_wp2
    go_loop [5, 6, 14] (fun _ _ i => ∃ k : Nat, k ≤ n ∧ i = .int .i64 k ∧ Hid (A.take k = B.take k)) (fun _ _ i => n - (intOf i).toNat)
    case atStart => exact ⟨0, Nat.zero_le _, rfl, by simp [Hid]⟩
    case round =>
      obtain ⟨k, hk, rfl, HF⟩ := hrel
      by_cases hlt : k < n
      · have k1 : k < A.length := by rw [HN.out]; exact hlt
        have k2 : k < B.length := by rw [HM.out]; exact hlt
        obtain ⟨b, o, rfl, e0⟩ := H1.out k k1
        obtain ⟨b', o', rfl, e1⟩ := H2.out k k2
        have hst : A.take (k + 1) = A.take k ++ [A[k]] := List.take_succ_eq_append_getElem k1
        have hsu : B.take (k + 1) = B.take k ++ [B[k]] := List.take_succ_eq_append_getElem k2
        have hno : A[k] ≠ B[k] → r = false := fun h => by
          rw [← HR.out]
          refine decide_eq_false fun e => h ?_
          subst e; rfl
        obtain ⟨x, hx⟩ : ∃ x, A[k] = x := ⟨_, rfl⟩
        obtain ⟨y, hy⟩ : ∃ y, B[k] = y := ⟨_, rfl⟩
        rw [hx] at e0 hst hno
        rw [hy] at e1 hsu hno
        have i0 : (0 : Int) ≤ (k : Int) := by omega
        have i1 : (k : Int) < (n : Int) := by omega
        clear hx hy k1 k2 hne
        by_cases hxy : x = y
        · subst hxy
          have HF2 : Hid (A.take (k + 1) = B.take (k + 1)) := by unfold Hid; rw [hst, hsu, HF.out]
          clear hst hsu hno
          go_wp2
          go_round
          case rel => exact ⟨k + 1, by omega, by go_num, HF2⟩
          case measure => simp [intOf]; omega
        · have hne : (x != y) = true := by simp [hxy]
          have HF2 := Lib.hid (hno hxy)
          clear hst hsu hno
          go_wp2
          go_ret
          exact ⟨ret_bool HF2.out.symm, rfl⟩
      · have HF2 : Hid (r = true) := by
          unfold Hid
          rw [← HR.out]
          have := HF.out
          rw [List.take_of_length_le (by rw [HN.out]; omega), List.take_of_length_le (by rw [HM.out]; omega)] at this
          exact decide_eq_true this
        clear hne
        go_wp2
        go_ret
        exact ⟨ret_bool HF2.out.symm, rfl⟩
  · have HE : Hid (decide (A = B) = false) := decide_eq_false fun e => hl (by rw [e])
    generalize decide (A = B) = r at HE ⊢
    clear H1 H2
    generalize A.length = n1 at *
    generalize B.length = n2 at *
    have hne : ((n1 : Int) != (n2 : Int)) = true := by simp; omega
    go_enter Tryz.func66, Tryz.ntmps66
    go_wp2
    go_ret
    exact ⟨ret_bool HE.out.symm, rfl⟩
end Go.Proofs.YtlflblngbneacaaGreatDoor

/- A row of lists of integers of the call's own that grows. No condition. -/
namespace Go.Proofs.YtlflblngbneacaaGreatDoor
open Go.RowKit

theorem infoLstI : (Tryz.prog.info? 22).map (fun i => (i.zero, i.size, i.bytes)) = some (some (.slice none 0 0), 1, 24) := by kernel_rfl
theorem rowFormI {w : World} {B e s n : Nat} {v : Value} {xs : List Value} (h : w.ownsRow B e s v n xs) : ∃ a m c, v = .slice a m c := by
  rcases h.2 with ⟨rfl, _⟩ | ⟨g, cap, cur, rfl, _⟩
  · exact ⟨_, _, _, rfl⟩
  · exact ⟨_, _, _, rfl⟩
/-- A row of lists of integers of the call's own; the lists lie in other blocks. -/
def RowsI (w : World) (lo : Nat) (ov : Value) (S : List (List Int)) (us : List Value) : Prop :=
  us.length = S.length ∧ w.ownsRow lo 22 1 ov S.length us ∧ ∀ i (h : i < S.length) (h' : i < us.length), IntsAt w us[i] S[i] ∧ Blk (fun b => ov.ownBlock ≠ some b ∧ b < w.heap.size) us[i]
theorem RowsI.below {w w' : World} {lo : Nat} {ov : Value} {S : List (List Int)} {us : List Value} (h : RowsI w lo ov S us) (hb : Below w.heap.size w w') : RowsI w' lo ov S us :=
  ⟨h.1, owns_below h.2.1 hb, fun i h1 h2 => ⟨(h.2.2 i h1 h2).1.below hb, fun b e => ⟨((h.2.2 i h1 h2).2 b e).1, Nat.lt_of_lt_of_le ((h.2.2 i h1 h2).2 b e).2 hb.size⟩⟩⟩
theorem RowsI.push {w w' : World} {lo : Nat} {ov ov' : Value} {S : List (List Int)} {us : List Value} (h : RowsI w lo ov S us) {s : List Int} {u : Value}
    (hg : w.grownBy w' ov.ownBlock) (hown : w'.ownsRow lo 22 1 ov' (S.length + 1) (us ++ [u])) (hat : ov'.ownBlock = ov.ownBlock ∨ ov'.ownBlock = some w.heap.size)
    (hu : IntsAt w u s) (hbu : Blk (fun b => ov.ownBlock ≠ some b ∧ b < w.heap.size) u) : RowsI w' lo ov' (S ++ [s]) (us ++ [u]) := by
  have T := Only.of_grown hg
  have key : ∀ (x : Value) (l : List Int), IntsAt w x l → Blk (fun b => ov.ownBlock ≠ some b ∧ b < w.heap.size) x → IntsAt w' x l ∧ Blk (fun b => ov'.ownBlock ≠ some b ∧ b < w'.heap.size) x := fun x l hx hb =>
    ⟨hx.only T fun b e => (hb b e).1, fun b e => ⟨by
      have h1 := hb b e
      rcases hat with e' | e'
      · rw [e']; exact h1.1
      · rw [e']; intro e2; simp at e2; omega, Nat.lt_of_lt_of_le (hb b e).2 T.size⟩⟩
  refine ⟨by simp [h.1], by simpa using hown, fun i h1 h2 => ?_⟩
  by_cases e : i < S.length
  · have e' : i < us.length := by rw [h.1]; exact e
    rw [List.getElem_append_left e, List.getElem_append_left e']
    exact key _ _ (h.2.2 i e e').1 (h.2.2 i e e').2
  · have e1 : i = S.length := by simp at h1; omega
    have g1 : (S ++ [s])[i] = s := by rw [List.getElem_append_right (by omega)]; simp [e1]
    have g2 : (us ++ [u])[i] = u := by rw [List.getElem_append_right (by rw [h.1]; omega)]; simp [e1, h.1]
    rw [g1, g2]
    exact key u s hu hbu
theorem any_takeI {S : List (List Int)} {s : List Int} {j : Nat} (h : j < S.length) : ((S.take (j + 1)).any fun x => decide (x = s)) = (((S.take j).any fun x => decide (x = s)) || decide (S[j] = s)) := by
  rw [List.take_succ_eq_append_getElem h, List.any_append]
  simp
end Go.Proofs.YtlflblngbneacaaGreatDoor

/- The contracts of the model's SumPools, IsDetecting and DecodeSums, and of what they call. Conditions: the slices read as integers. -/
namespace Go.Proofs.YtlflblngbneacaaGreatDoor
open Go.RowKit

/-- A list of the call's own. -/
def ListsS (L : List Int) (w : World) (e : Ending) (w' : World) : Prop := ∃ v, e = .returned v ∧ Own w' w.heap.size v L ∧ Below w.heap.size w w'
/-- .. and whether it is one. -/
def GivesS (L : List Int) (b : Bool) (w : World) (e : Ending) (w' : World) : Prop :=
  ∃ u, e = .returned (.tuple #[u, .bool b]) ∧ Own w' w.heap.size u L ∧ Below w.heap.size w w'

set_option maxRecDepth 100000 in
set_option maxHeartbeats 1600000 in
theorem specSums (v : Value) (P : List Int) (bad : Int) (w : World) (h : IntsAt w v P) (hm : P.length ≤ 1048576) (hP : ∀ p ∈ P, 0 ≤ p ∧ p ≤ 1023) (b0 : 0 ≤ bad) (b1 : bad ≤ 1023) :
    Calls Tryz.prog 65 #[v, .int .i64 bad] w (ListsS (sumL P bad) w) := by
  obtain ⟨i0, hi, hz0, hz1, hz2⟩ := info_parts infoIntA
  obtain ⟨a, c, rfl, h⟩ := h
  have H := Lib.hid h
  have HR : Hid (∀ i (h : i < P.length), sumL (P.take (i + 1)) bad = sumL (P.take i) bad ++ [cntI (bits .and .i64 P[i] bad)]) := fun i h => sumL_take P bad h
  have HA : Hid (sumL P bad = sumL (P.take P.length) bad) := by unfold Hid; rw [List.take_length]
  have HL : Hid (∀ i, i ≤ P.length → (sumL (P.take i) bad).length = i) := fun i h => by rw [sumL_len, List.length_take]; omega
  have HC : Hid (∀ i (h : i < P.length) W, Calls Tryz.prog 93 #[.int .i64 (bits .and .i64 P[i] bad)] W fun e w' => e = .returned (.int .i64 (cntI (bits .and .i64 P[i] bad))) ∧ W = w') := fun i h W => by
    have hp := hP _ (List.getElem_mem h)
    have := and_in hp.1 hp.2 b0 b1
    exact specCount _ (by unfold andI at this; omega) W
  clear h hP
  unfold ListsS
  generalize sumL P bad = R at HA ⊢
  obtain ⟨m, hmm⟩ : ∃ m, P.length = m := ⟨_, rfl⟩
  rw [hmm] at HA hm ⊢
  have HN := Lib.hid hmm
  clear hmm
  have O1 : Hid (Own (w.alloc (.cells #[] 3)) w.heap.size (.slice (some ⟨w.heap.size, 0, none⟩) 0 0) (sumL (P.take 0) bad)) := Own.lit w w.heap.size (Nat.le_refl _)
  have B1 := Lib.hid (alloc_below w (.cells #[] 3))
  go_enter Tryz.func65, Tryz.ntmps65
  go_wp2
  go_loopw [5, 11] (fun ov iv wr => ∃ i : Nat, i ≤ m ∧ iv = .int .i64 i ∧ Hid (Own wr w.heap.size ov (sumL (P.take i) bad)) ∧ Hid (Below w.heap.size w wr)) (fun _ iv _ => m - (intOf iv).toNat)
  case atStart => exact ⟨0, Nat.zero_le _, rfl, O1, B1⟩
  case round =>
    clear O1 B1
    obtain ⟨i, hi2, rfl, O2, B2⟩ := hrel
    by_cases hlt : i < m
    · have hil : i < P.length := by rw [HN.out]; exact hlt
      rcases H.out with h0 | ⟨b, o, rfl, hc⟩
      · rw [h0] at hil; simp at hil
      have hbl := World.block_lt_of_cell? w _ (hc i hil)
      have e0 : wr.cell? ⟨b, o + i, none⟩ = some (.int .i64 P[i]) := by rw [B2.out.cell (p := ⟨b, o + i, none⟩) hbl]; exact hc i hil
      have hst := HR.out i hil
      have hlen := HL.out i (by omega)
      have CC := Lib.hid (HC.out i hil)
      obtain ⟨p, hp⟩ : ∃ p, P[i] = p := ⟨_, rfl⟩
      rw [hp] at e0 hst CC
      have HST := Lib.hid hst
      have hown := O2.out
      obtain ⟨g, mm, cc, rfl⟩ := O2.out.form
      generalize sumL (P.take i) bad = L at hown hlen HST
      generalize cntI (bits .and .i64 p bad) = k at CC HST
      have i0' : (0 : Int) ≤ (i : Int) := by omega
      have i1 : (i : Int) < (m : Int) := by omega
      have hbs : w.heap.size ≤ wr.heap.size := B2.out.size
      unfold Own at hown
      clear hc hbl hst hp hil O2
      go_wp2_with fail
      refine (CC.out _).mono ?_
      rintro e w1 ⟨rfl, rfl⟩
      go_wp2_with (at_builtin; refine wpList_append_own _ rfl _ _ 22 rfl w.heap.size 3 i0 (.int .i64 0) 1 8 Tryz.underlying22 hi hz0 hz1 hz2 rfl (by decide) _ _ _ rfl (hown.alloc _) ⟨wr.heap.size, 0, none⟩ 1 1 [.int .i64 k] rfl rfl (cell_one_new _ _ _) (by simp [Value.oneCell']) (by unfold maxLen; omega) (by omega) (by simp; omega) ?_; intro v' w2 hown' hg1 _)
      have hb2 := Below.grown (B2.out.alloc hbs _) hg1 (by simp; omega) (fun j hj => (hown.lt j hj).1)
      go_wp2
      go_roundw
      case rel =>
        refine ⟨i + 1, by omega, by go_num, ?_, Lib.hid hb2⟩
        unfold Hid Own
        rw [HST.out]
        simpa using hown'
      case measure => simp [intOf]; omega
    · obtain rfl : i = m := by omega
      have HE := HA.out
      obtain ⟨g, mm, cc, rfl⟩ := O2.out.form
      go_wp2
      go_ret
      exact ⟨_, rfl, by rw [HE]; exact O2.out, B2.out⟩

end Go.Proofs.YtlflblngbneacaaGreatDoor

/- The contracts of the model's IsDetecting, DecodeSums, SumsTell and ExtendDetecting. Conditions: the slices read as integers. -/
namespace Go.Proofs.YtlflblngbneacaaGreatDoor
open Go.RowKit

end Go.Proofs.YtlflblngbneacaaGreatDoor

/- The contracts of the model's SumsTell and ExtendDetecting. Conditions: the slices read as integers. -/
namespace Go.Proofs.YtlflblngbneacaaGreatDoor
open Go.RowKit

theorem rowsI_cells {w : World} {lo : Nat} {ov : Value} {S : List (List Int)} {us : List Value} (h : RowsI w lo ov S us) :
    ∃ av cv, ov = .slice av S.length cv ∧ ∀ j (hj : j < S.length), ∃ g u, av = some ⟨g, 0, none⟩ ∧ w.cell? ⟨g, j, none⟩ = some u ∧ IntsAt w u S[j] := by
  rcases h.2.1.2 with ⟨h0, hn⟩ | ⟨g, cap, cur, h0, _⟩
  · exact ⟨none, 0, by rw [h0, hn], fun i hi => by omega⟩
  · have h1 := h.2.1
    subst h0
    refine ⟨_, cap, rfl, fun i hi => ?_⟩
    have hi' : i < us.length := by rw [h.1]; exact hi
    exact ⟨g, us[i], rfl, by rw [h1.cellAt i (by omega), List.getElem?_eq_getElem hi'], (h.2.2 i hi hi').1⟩

set_option maxRecDepth 100000 in
set_option maxHeartbeats 3200000 in
theorem specTell (n : Int) (v : Value) (P : List Int) (w : World) (h : IntsAt w v P) (hm : P.length ≤ 1048576) :
    Calls Tryz.prog 37 #[.int .i64 n, v] w fun e w' => e = .returned (.int .i64 (tellI n P)) ∧ Below w.heap.size w w' := by
  obtain ⟨i0, hi, hz0, hz1, hz2⟩ := info_parts infoLstI
  have CP := Lib.hid (specPoolsOk n v P w h (by unfold maxLen; omega))
  by_cases hp : poolsB n P = true
  · obtain ⟨⟨n1, n10⟩, hl, hin⟩ := pools_in hp
    have HE0 : Hid (tellI n P = ((seenK P (2 ^ n.toNat)).length : Int)) := by unfold Hid tellI; rw [if_pos hp]
    rw [hp] at CP
    obtain ⟨hs1, hs2, hs3, hs4⟩ := shl_top n1 n10
    obtain ⟨N, hN⟩ : ∃ N : Nat, 2 ^ n.toNat = N := ⟨_, rfl⟩
    have hN2 : (2 : Int) ^ n.toNat = (N : Int) := by rw [← hN]; push_cast; rfl
    have hNb : N ≤ 1024 := by omega
    rw [hN2] at hs1
    rw [hN] at HE0
    have CS := Lib.hid (fun (k : Nat) (hk : k ≤ 1023) W hW => specSums v P (k : Int) W hW hm hin (by omega) (by omega))
    have HSL : Hid (∀ bad, (sumL P bad).length ≤ 1048576) := fun bad => by rw [sumL_len]; omega
    have HK : Hid (∀ k, seenK P (k + 1) = if ((seenK P k).any fun x => decide (x = sumL P (k : Int))) = true then seenK P k else seenK P k ++ [sumL P (k : Int)]) := fun _ => rfl
    have HLN := Lib.hid (seenK_len P)
    have HSN : Hid (∀ k, ∀ s ∈ seenK P k, s.length ≤ 1048576) := fun k s hs => by rw [seenK_in P k s hs]; omega
    have H := Lib.hid h
    obtain ⟨a, c, rfl, -⟩ := h
    have A1 := alloc_below w (.cells #[] 22)
    have R1 : Hid (RowsI (w.alloc (.cells #[] 22)) w.heap.size (.slice (some ⟨w.heap.size, 0, none⟩) 0 0) (seenK P 0) []) :=
      ⟨rfl, World.ownsRow_lit (base := w.heap.size) (e := 22) (size := 1) w #[] 0 (Nat.le_refl _) (by unfold maxLen; omega) rfl, fun i h1 _ => by simp [seenK] at h1⟩
    have B1 := Lib.hid A1
    unfold ListsS at CS
    generalize tellI n P = r at HE0 ⊢
    generalize seenK P = K at HE0 HK HLN HSN R1
    clear hs2 hs3 hs4 hN hp hin hl A1
    go_enter Tryz.func37, Tryz.ntmps37
    go_wp2_with fail
    refine CP.out.mono ?_
    rintro e w1 ⟨rfl, rfl⟩
    go_wp2_with fail
    go_loopw [5, 6] (fun ov kv wr => ∃ (k : Nat) (us : List Value), k ≤ N ∧ kv = .int .i64 k ∧ Hid (RowsI wr w.heap.size ov (K k) us) ∧ Hid (Below w.heap.size w wr)) (fun _ kv _ => N - (intOf kv).toNat)
    case atStart => exact ⟨0, [], Nat.zero_le _, rfl, R1, B1⟩
    case round =>
      clear R1 B1
      obtain ⟨k, us, hk, rfl, O2, B2⟩ := hrel
      by_cases hlt : k < N
      · have HKS := Lib.hid (HK.out k)
        have hlen := HLN.out k
        have HSK := Lib.hid (HSN.out k)
        have C1 := Lib.hid (CS.out k (by omega))
        have l1 := HSL.out (k : Int)
        have k1 : (k : Int) < (N : Int) := by omega
        generalize K k = S at O2 hlen HKS HSK
        generalize sumL P (k : Int) = X at C1 HKS l1
        obtain ⟨av, cv, hov, -⟩ := rowsI_cells O2.out
        subst hov
        obtain ⟨m, hmS⟩ : ∃ m, S.length = m := ⟨_, rfl⟩
        have HMS := Lib.hid hmS
        rw [hmS] at O2 hlen ⊢
        clear hmS
        go_wp2_with fail
        refine (C1.out _ (H.out.below B2.out)).mono ?_
        rintro e w3 ⟨u, rfl, ou, bb⟩
        have B3 := Lib.hid (below_up B2.out bb)
        have O3 := Lib.hid (O2.out.below bb)
        have OU := Lib.hid ou.reads
        have BU : Hid (Blk (fun b => (Value.slice av m cv).ownBlock ≠ some b ∧ b < w3.heap.size) u) := fun b hb => by
          have h1 := owns_blk ou b hb
          exact ⟨fun e => by have h2 := (O2.out.2.1.lt b e).2; omega, h1.2⟩
        have HROW : Hid (∀ j (hj : j < S.length), ∃ g u, av = some ⟨g, 0, none⟩ ∧ w3.cell? ⟨g, j, none⟩ = some u ∧ IntsAt w3 u S[j]) := by
          obtain ⟨av', cv', e, hr⟩ := rowsI_cells O3.out
          cases e
          exact hr
        obtain ⟨gu, nu, cu, rfl⟩ := ou.form
        clear ou bb B2 O2
        go_wp2
        go_loopw [8, 27] (fun fv jv ws => ∃ j : Nat, j ≤ m ∧ jv = .int .i64 j ∧ fv = .bool ((S.take j).any fun y => decide (y = X)) ∧ ws = w3) (fun _ jv _ => m - (intOf jv).toNat)
        case atStart => exact ⟨0, Nat.zero_le _, rfl, rfl, rfl⟩
        case round =>
          obtain ⟨j, hj, rfl, rfl, rfl⟩ := hrel
          by_cases hjm : j < m
          · have hjl : j < S.length := by rw [HMS.out]; exact hjm
            obtain ⟨g, u, hav, e2, IY⟩ := HROW.out j hjl
            have hyl := HSK.out S[j] (List.getElem_mem hjl)
            have HA := any_takeI (s := X) hjl
            obtain ⟨y, hy⟩ : ∃ y, S[j] = y := ⟨_, rfl⟩
            rw [hy] at IY hyl HA
            obtain ⟨ay, cy, hu, -⟩ := id IY
            subst hu hav
            have SM := Lib.hid (specSameI _ _ y X wr IY OU.out hyl l1)
            have j0 : (0 : Int) ≤ (j : Int) := by omega
            have j1 : (j : Int) < (m : Int) := by omega
            have HAA := Lib.hid HA
            generalize ((S.take j).any fun y => decide (y = X)) = t1 at HAA ⊢
            generalize decide (y = X) = t3 at HAA SM
            clear IY HA hy hjl hyl
            cases t1 with
            | true =>
              have HT : Hid (((S.take (j + 1)).any fun y => decide (y = X)) = true) := by unfold Hid; rw [HAA.out]; rfl
              go_wp2
              go_roundw
              case rel => exact ⟨j + 1, by omega, by go_num, by rw [HT.out], by first | rfl | trivial⟩
              case measure => simp [intOf]; omega
            | false =>
              have HT : Hid (((S.take (j + 1)).any fun y => decide (y = X)) = t3) := by unfold Hid; rw [HAA.out]; rfl
              go_wp2_with fail
              refine SM.out.mono ?_
              rintro e w5 ⟨rfl, rfl⟩
              go_wp2
              go_roundw
              case rel => exact ⟨j + 1, by omega, by go_num, by rw [HT.out], by first | rfl | trivial⟩
              case measure => simp [intOf]; omega
          · obtain rfl : j = m := by omega
            rw [List.take_of_length_le (by rw [HMS.out]; exact Nat.le_refl _)]
            obtain ⟨t, ht⟩ : ∃ t, (S.any fun y => decide (y = X)) = t := ⟨_, rfl⟩
            rw [ht] at HKS ⊢
            clear ht
            cases t with
            | true =>
              have HK2 : Hid (K (k + 1) = S) := HKS.out
              go_wp2
              go_roundw
              case rel => exact ⟨k + 1, us, by omega, by go_num, by rw [HK2.out]; exact O3, B3⟩
              case measure => simp [intOf]; omega
            | false =>
              have HK2 : Hid (K (k + 1) = S ++ [X]) := HKS.out
              have A4 := Lib.hid (alloc_below wr (.cells #[.slice gu nu cu] 22))
              have OX := Lib.hid (O3.out.below A4.out)
              have OXR : Hid ((wr.alloc (.cells #[.slice gu nu cu] 22)).ownsRow w.heap.size 22 1 (.slice av j cv) j us) := by
                have := OX.out.2.1
                rw [HMS.out] at this
                exact this
              have hsz2 : w.heap.size ≤ (wr.alloc (.cells #[.slice gu nu cu] 22)).heap.size := by have := B3.out.size; simp; omega
              go_wp2_with (at_builtin; refine wpList_append_own_at _ rfl _ _ 80 rfl w.heap.size 22 i0 (.slice none 0 0) 1 24 Tryz.underlying80 hi hz0 hz1 hz2 rfl (by decide) (.slice av j cv) j us rfl OXR.out ⟨wr.heap.size, 0, none⟩ 1 1 [.slice gu nu cu] rfl rfl (cell_one_new _ _ _) (by simp [Value.oneCell']) (by unfold maxLen; omega) (by omega) hsz2 ?_; intro v' w6 hown' hg1 _ hat; have hg2 : (wr.alloc (.cells #[.slice gu nu cu] 22)).grownBy w6 (Value.slice av j cv).ownBlock := hg1; have HG2 := Lib.hid hg2; have HO2 := Lib.hid hown'; have HAT := Lib.hid hat; clear hg1 hg2 hown' hat)
              have O6 : Hid (RowsI w6 w.heap.size v' (S ++ [X]) (us ++ [.slice gu nu cu])) := OX.out.push HG2.out (by rw [HMS.out]; exact HO2.out) HAT.out (OU.out.below A4.out) (fun q hq => ⟨(BU.out q hq).1, Nat.lt_of_lt_of_le (BU.out q hq).2 A4.out.size⟩)
              have B6 := Lib.hid (Below.grown (below_up B3.out A4.out) HG2.out hsz2 (fun q hq => by have := (OXR.out.lt q hq).1; omega))
              rw [← HK2.out] at O6
              go_wp2
              go_roundw
              case rel => exact ⟨k + 1, us ++ [.slice gu nu cu], by omega, by go_num, O6, B6⟩
              case measure => simp [intOf]; omega
      · obtain rfl : k = N := by omega
        obtain ⟨av, cv, hov, -⟩ := rowsI_cells O2.out
        subst hov
        generalize K k = S at O2 HE0
        go_wp2
        go_ret
        exact ⟨ret_int HE0.out.symm, B2.out⟩
  · have hp2 : poolsB n P = false := by simpa using hp
    have HE : Hid (tellI n P = -1) := by unfold Hid tellI; rw [if_neg hp]
    rw [hp2] at CP
    obtain ⟨a, c, rfl, -⟩ := h
    generalize tellI n P = r at HE ⊢
    clear hp hp2
    go_enter Tryz.func37, Tryz.ntmps37
    go_wp2_with fail
    refine CP.out.mono ?_
    rintro e w1 ⟨rfl, rfl⟩
    go_wp2
    go_ret
    exact ⟨ret_int HE.out.symm, Below.refl _ _⟩
end Go.Proofs.YtlflblngbneacaaGreatDoor
