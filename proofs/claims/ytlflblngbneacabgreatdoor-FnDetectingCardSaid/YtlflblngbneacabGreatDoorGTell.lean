/- Several texts in one file; each says what it proves and under which condition. No condition. -/
import Derived.Test.YtlflblngbneacabGreatDoorGSum
import Derived.Test.YtlflblngbneacabGreatDoorGBase
import Derived.Deep.QuietTactic
import Derived.Test.YtlflblngbneacabGreatDoorGSep
import Derived.Test.YtlflblngbneacabGreatDoorGPool
import Derived.Test.YtlflblngbneacabGreatDoorShelf
import Derived.Lib.SliceRun
/- Lists of numbers in their order; how many different ones a sorted row has; sums of all sets are different exactly if there are as many as sets. No condition. -/
namespace Go.Proofs.YtlflblngbneacabGreatDoor
open Go.RowKit

/-- -1, 0 or 1, as the first list stands ahead of the second, is it, or stands behind it. -/
def cmpL : List Int → List Int → Int
  | [], [] => 0
  | [], _ :: _ => -1
  | _ :: _, [] => 1
  | a :: x, b :: y => if a < b then -1 else if b < a then 1 else cmpL x y
theorem cmpL_self : ∀ x, cmpL x x = 0
  | [] => rfl
  | a :: x => by unfold cmpL; rw [if_neg (by omega), if_neg (by omega)]; exact cmpL_self x
theorem cmpL_zero : ∀ x y, cmpL x y = 0 → x = y
  | [], [], _ => rfl
  | [], _ :: _, h => by simp [cmpL] at h
  | _ :: _, [], h => by simp [cmpL] at h
  | a :: x, b :: y, h => by
    unfold cmpL at h
    split at h
    · omega
    · split at h
      · omega
      · rw [cmpL_zero x y h, show a = b by omega]
theorem cmpL_neg : ∀ x y, cmpL y x = - cmpL x y
  | [], [] => rfl
  | [], _ :: _ => rfl
  | _ :: _, [] => rfl
  | a :: x, b :: y => by
    unfold cmpL
    by_cases h1 : a < b
    · rw [if_neg (by omega), if_pos h1, if_pos h1]; rfl
    · by_cases h2 : b < a
      · rw [if_pos h2, if_neg h1, if_pos h2]
      · rw [if_neg h2, if_neg h1, if_neg h1, if_neg h2]; exact cmpL_neg x y
theorem cmpL_trans : ∀ x y z, cmpL x y < 0 → cmpL y z < 0 → cmpL x z < 0
  | [], [], _, h, _ => by simp [cmpL] at h
  | [], _ :: _, [], _, h => by simp [cmpL] at h
  | [], _ :: _, _ :: _, _, _ => by simp [cmpL]
  | _ :: _, [], _, h, _ => by simp [cmpL] at h
  | _ :: _, _ :: _, [], _, h => by simp [cmpL] at h
  | a :: x, b :: y, c :: z, h1, h2 => by
    unfold cmpL at h1 h2 ⊢
    by_cases e1 : a < b
    · by_cases e2 : b < c
      · rw [if_pos (by omega)]; omega
      · rw [if_neg e2] at h2
        by_cases e3 : c < b
        · rw [if_pos e3] at h2; omega
        · rw [if_pos (by omega)]; omega
    · rw [if_neg e1] at h1
      by_cases e4 : b < a
      · rw [if_pos e4] at h1; omega
      · rw [if_neg e4] at h1
        by_cases e2 : b < c
        · rw [if_pos (by omega)]; omega
        · rw [if_neg e2] at h2
          by_cases e3 : c < b
          · rw [if_pos e3] at h2; omega
          · rw [if_neg e3] at h2
            rw [if_neg (by omega), if_neg (by omega)]
            exact cmpL_trans x y z h1 h2
theorem cmpL_ntrans (x y z : List Int) (h1 : ¬ cmpL x y < 0) (h2 : ¬ cmpL y z < 0) : ¬ cmpL x z < 0 := by
  intro h
  have a1 := cmpL_neg x y
  have a2 := cmpL_neg y z
  have a3 := cmpL_neg x z
  by_cases e1 : cmpL x y = 0
  · rw [cmpL_zero x y e1] at h; exact h2 h
  · by_cases e2 : cmpL y z = 0
    · rw [cmpL_zero y z e2] at h1; exact h1 h
    · have := cmpL_trans z y x (by omega) (by omega)
      omega
theorem cmpL_anti (x y : List Int) (h1 : ¬ cmpL x y < 0) (h2 : ¬ cmpL y x < 0) : x = y := cmpL_zero x y (by have := cmpL_neg x y; omega)
theorem cmpL_in : ∀ x y, -1 ≤ cmpL x y ∧ cmpL x y ≤ 1
  | [], [] => by simp [cmpL]
  | [], _ :: _ => by simp [cmpL]
  | _ :: _, [] => by simp [cmpL]
  | a :: x, b :: y => by
    unfold cmpL
    split
    · omega
    · split
      · omega
      · exact cmpL_in x y

/-- The lists of a row without those that are as the one ahead of them. -/
def uniqF (f : Nat → List Int) : Nat → List (List Int)
  | 0 => []
  | k + 1 => if k = 0 ∨ f k ≠ f (k - 1) then uniqF f k ++ [f k] else uniqF f k
theorem uniqF_pos {f : Nat → List Int} {k : Nat} (h : k = 0 ∨ f k ≠ f (k - 1)) : (uniqF f (k + 1)).length = (uniqF f k).length + 1 := by
  have : uniqF f (k + 1) = uniqF f k ++ [f k] := by rw [uniqF, if_pos h]
  rw [this]; simp
theorem uniqF_neg {f : Nat → List Int} {k : Nat} (h0 : k ≠ 0) (h : f k = f (k - 1)) : (uniqF f (k + 1)).length = (uniqF f k).length := by
  have : uniqF f (k + 1) = uniqF f k := by rw [uniqF, if_neg (fun e => e.elim h0 (fun e => e h))]
  rw [this]
theorem uniqF_len (f : Nat → List Int) : ∀ k, (uniqF f k).length ≤ k
  | 0 => by simp [uniqF]
  | k + 1 => by
    have := uniqF_len f k
    unfold uniqF
    split
    · simp; omega
    · omega
theorem uniqF_mem (f : Nat → List Int) (x : List Int) : ∀ k, x ∈ uniqF f k ↔ ∃ i, i < k ∧ f i = x
  | 0 => by simp [uniqF]
  | k + 1 => by
    have ih := uniqF_mem f x k
    unfold uniqF
    split
    · rw [List.mem_append, List.mem_singleton, ih]
      constructor
      · rintro (⟨i, h1, h2⟩ | h)
        · exact ⟨i, by omega, h2⟩
        · exact ⟨k, by omega, h.symm⟩
      · rintro ⟨i, h1, h2⟩
        by_cases e : i = k
        · subst e; exact .inr h2.symm
        · exact .inl ⟨i, by omega, h2⟩
    · rename_i hn
      rw [ih]
      constructor
      · rintro ⟨i, h1, h2⟩; exact ⟨i, by omega, h2⟩
      · rintro ⟨i, h1, h2⟩
        by_cases e : i = k
        · subst e
          have h0 : i ≠ 0 := fun e => hn (.inl e)
          have h3 : f i = f (i - 1) := Classical.byContradiction fun e => hn (.inr e)
          exact ⟨i - 1, by omega, by rw [← h3, h2]⟩
        · exact ⟨i, by omega, h2⟩
theorem uniqF_nodup (f : Nat → List Int) (N : Nat) (hs : ∀ i j, i < j → j < N → ¬ cmpL (f j) (f i) < 0) : ∀ k, k ≤ N → (uniqF f k).Nodup
  | 0, _ => by simp [uniqF]
  | k + 1, hk => by
    have ih := uniqF_nodup f N hs k (by omega)
    unfold uniqF
    split
    · rename_i hp
      rw [List.nodup_append]
      refine ⟨ih, by simp, fun a ha b hb => ?_⟩
      rw [List.mem_singleton] at hb
      subst hb
      intro e
      subst e
      obtain ⟨i, h1, h2⟩ := (uniqF_mem f _ k).1 ha
      rcases hp with h0 | hp
      · omega
      · by_cases e : i = k - 1
        · subst e; exact hp h2.symm
        · have s1 := hs i (k - 1) (by omega) (by omega)
          have s2 := hs (k - 1) k (by omega) (by omega)
          rw [h2] at s1
          exact hp (cmpL_anti _ _ s2 s1)
    · exact ih
theorem seenK_memS (P : List Int) (x : List Int) : ∀ k, x ∈ seenK P k ↔ ∃ i : Nat, i < k ∧ sumL P (i : Int) = x
  | 0 => by simp [seenK]
  | k + 1 => by
    have ih := seenK_memS P x k
    unfold seenK
    split
    · rename_i hp
      rw [ih]
      constructor
      · rintro ⟨i, h1, h2⟩; exact ⟨i, by omega, h2⟩
      · rintro ⟨i, h1, h2⟩
        by_cases e : i = k
        · subst e
          obtain ⟨y, hy, he⟩ := List.any_eq_true.1 hp
          have he' := of_decide_eq_true he
          obtain ⟨j, h3, h4⟩ := (seenK_memS P y i).1 hy
          exact ⟨j, h3, by rw [h4, he', h2]⟩
        · exact ⟨i, by omega, h2⟩
    · rw [List.mem_append, List.mem_singleton, ih]
      constructor
      · rintro (⟨i, h1, h2⟩ | h)
        · exact ⟨i, by omega, h2⟩
        · exact ⟨k, by omega, h.symm⟩
      · rintro ⟨i, h1, h2⟩
        by_cases e : i = k
        · subst e; exact .inr h2.symm
        · exact .inl ⟨i, by omega, h2⟩
theorem seenK_nodup (P : List Int) : ∀ k, (seenK P k).Nodup
  | 0 => by simp [seenK]
  | k + 1 => by
    have ih := seenK_nodup P k
    unfold seenK
    split
    · exact ih
    · rename_i hn
      rw [List.nodup_append]
      refine ⟨ih, by simp, fun a ha b hb => ?_⟩
      rw [List.mem_singleton] at hb
      intro e
      exact hn (List.any_eq_true.2 ⟨a, ha, decide_eq_true (e.trans hb)⟩)
theorem nodup_leL {α : Type} [DecidableEq α] : ∀ (l m : List α), l.Nodup → (∀ x ∈ l, x ∈ m) → l.length ≤ m.length
  | [], m, _, _ => by simp
  | a :: l, m, hn, hs => by
    rw [List.nodup_cons] at hn
    have ha := hs a (by simp)
    have h1 := nodup_leL l (m.erase a) hn.2 fun x hx => (List.mem_erase_of_ne (fun e => by subst e; exact hn.1 hx)).2 (hs x (by simp [hx]))
    have h2 := List.length_erase_of_mem ha
    have h3 := List.length_pos_of_mem ha
    simp
    omega
/-- A sorted row that has the lists of all sets, and no other, has as many different ones as there are. -/
theorem runs_seen (P : List Int) (N : Nat) (f : Nat → List Int) (hs : ∀ i j, i < j → j < N → ¬ cmpL (f j) (f i) < 0) (h1 : ∀ i, i < N → ∃ k : Nat, k < N ∧ sumL P (k : Int) = f i) (h2 : ∀ k : Nat, k < N → ∃ i, i < N ∧ f i = sumL P (k : Int)) :
    (uniqF f N).length = (seenK P N).length := by
  have a := nodup_leL _ (seenK P N) (uniqF_nodup f N hs N (Nat.le_refl _)) fun x hx => by
    obtain ⟨i, hi, rfl⟩ := (uniqF_mem f x N).1 hx
    exact (seenK_memS P _ N).2 (h1 i hi)
  have b := nodup_leL _ (uniqF f N) (seenK_nodup P N) fun x hx => by
    obtain ⟨i, hi, rfl⟩ := (seenK_memS P x N).1 hx
    exact (uniqF_mem f _ N).2 (h2 i hi)
  omega
theorem allFrom_iffS (f : Nat → Bool) : ∀ (m a : Nat), allFrom f m a = true ↔ ∀ i, a ≤ i → i < a + m → f i = true
  | 0, a => by simp [allFrom]; intro i h1 h2; omega
  | m + 1, a => by
    unfold allFrom
    rw [Bool.and_eq_true, allFrom_iffS f m (a + 1)]
    constructor
    · rintro ⟨h1, h2⟩ i h3 h4
      by_cases e : i = a
      · subst e; exact h1
      · exact h2 i (by omega) (by omega)
    · intro h
      exact ⟨h a (Nat.le_refl _) (by omega), fun i h1 h2 => h i (by omega) (by omega)⟩
theorem detF_iffS (P : List Int) (N : Nat) : detF P N = true ↔ ∀ a, a < N → ∀ b, b < a → sumL P (a : Int) ≠ sumL P (b : Int) := by
  unfold detF
  rw [allFrom_iffS]
  constructor
  · intro h a ha b hb
    have h1 := (allFrom_iffS _ _ _).1 (h a (Nat.zero_le _) (by omega)) b (Nat.zero_le _) (by omega)
    unfold detAt at h1
    simpa using h1
  · intro h a _ ha
    rw [allFrom_iffS]
    intro b _ hb
    unfold detAt
    simpa using h a (by omega) b (by omega)
theorem seen_full (P : List Int) : ∀ N, (seenK P N).length = N ↔ ∀ a, a < N → ∀ b, b < a → sumL P (a : Int) ≠ sumL P (b : Int)
  | 0 => by simp [seenK]
  | N + 1 => by
    have ih := seen_full P N
    have hl := seenK_len P N
    have hm := seenK_memS P (sumL P (N : Int)) N
    unfold seenK
    split
    · rename_i hp
      obtain ⟨y, hy, he⟩ := List.any_eq_true.1 hp
      have he' := of_decide_eq_true he
      rw [he'] at hy
      obtain ⟨i, h1, h2⟩ := hm.1 hy
      constructor
      · intro h; omega
      · intro h; exact absurd h2.symm (h N (by omega) i h1)
    · rename_i hn
      rw [List.length_append, List.length_singleton]
      have hnm : ¬ ∃ i : Nat, i < N ∧ sumL P (i : Int) = sumL P (N : Int) := fun h => hn (List.any_eq_true.2 ⟨_, hm.2 h, decide_eq_true rfl⟩)
      constructor
      · intro h a ha b hb
        by_cases e : a = N
        · subst e; intro e; exact hnm ⟨b, hb, e.symm⟩
        · exact ih.1 (by omega) a (by omega) b hb
      · intro h
        have := ih.2 fun a ha b hb => h a (by omega) b hb
        omega
theorem det_tell {n : Int} {P : List Int} (h : poolsB n P = true) : detB n P = (tellI n P == ((2 ^ n.toNat : Nat) : Int)) := by
  unfold detB tellI
  rw [h, if_pos rfl, Bool.true_and, Bool.eq_iff_iff, detF_iffS, ← seen_full, beq_iff_eq]
  omega
end Go.Proofs.YtlflblngbneacabGreatDoor

/- The contract of slices.Equal on integers. Conditions: the slices read as integers and are short enough to be counted. -/
namespace Go.Proofs.YtlflblngbneacabGreatDoor
open Go.RowKit

set_option maxHeartbeats 1600000 in
theorem implEqual (u v : Value) (A B : List Int) (w : World) (h1 : IntsAt w u A) (h2 : IntsAt w v B) (m1 : A.length ≤ 1048576) (m2 : B.length ≤ 1048576) :
    Calls Tryz.prog 118 #[u, v] w fun e w' => e = .returned (.bool (decide (A = B))) ∧ ∃ m, w' = w.drewN m := by
  obtain ⟨a1, c1, rfl, h1⟩ := h1
  obtain ⟨a2, c2, rfl, h2⟩ := h2
  have H1 : Hid (∀ i (h : i < A.length), ∃ b o, a1 = some ⟨b, o, none⟩ ∧ w.cell? ⟨b, o + i, none⟩ = some (.int .i64 A[i])) := by
    intro i hi
    rcases h1 with rfl | ⟨b, o, rfl, hc⟩
    · simp at hi
    · exact ⟨b, o, rfl, hc i hi⟩
  have H2 : Hid (∀ i (h : i < B.length), ∃ b o, a2 = some ⟨b, o, none⟩ ∧ w.cell? ⟨b, o + i, none⟩ = some (.int .i64 B[i])) := by
    intro i hi
    rcases h2 with rfl | ⟨b, o, rfl, hc⟩
    · simp at hi
    · exact ⟨b, o, rfl, hc i hi⟩
  clear h1 h2
  by_cases hl : A.length = B.length
  · obtain ⟨r, hr⟩ : ∃ r, decide (A = B) = r := ⟨_, rfl⟩
    have HR := Lib.hid hr
    rw [hr]
    clear hr
    obtain ⟨n, hn⟩ : ∃ n, A.length = n := ⟨_, rfl⟩
    have hm : B.length = n := by omega
    have HN := Lib.hid hn
    have HM := Lib.hid hm
    rw [hn] at m1 ⊢
    rw [hm]
    clear hn hm hl m2
    have hne : ((n : Int) != (n : Int)) = false := by simp
    go_enter Tryz.func118, Tryz.ntmps118
    go_wp2
    go_loopw [5, 13] (fun _ i wr => ∃ k m : Nat, k ≤ n ∧ i = .int .i64 k ∧ Hid (A.take k = B.take k) ∧ wr = w.drewN m) (fun _ i _ => n - (intOf i).toNat)
    case atStart => exact ⟨0, 0, Nat.zero_le _, rfl, by simp [Hid], rfl⟩
    case round =>
      obtain ⟨k, m, hk, rfl, HF, rfl⟩ := hrel
      by_cases hlt : k < n
      · have k1 : k < A.length := by rw [HN.out]; exact hlt
        have k2 : k < B.length := by rw [HM.out]; exact hlt
        obtain ⟨b, o, rfl, e0⟩ := H1.out k k1
        obtain ⟨b', o', rfl, e1⟩ := H2.out k k2
        have hst : A.take (k + 1) = A.take k ++ [A[k]] := List.take_succ_eq_append_getElem k1
        have hsu : B.take (k + 1) = B.take k ++ [B[k]] := List.take_succ_eq_append_getElem k2
        have hno : A[k] ≠ B[k] → r = false := fun h => by
          rw [← HR.out]
          refine decide_eq_false fun e => h ?_
          subst e; rfl
        obtain ⟨x, hx⟩ : ∃ x, A[k] = x := ⟨_, rfl⟩
        obtain ⟨y, hy⟩ : ∃ y, B[k] = y := ⟨_, rfl⟩
        rw [hx] at e0 hst hno
        rw [hy] at e1 hsu hno
        have i0 : (0 : Int) ≤ (k : Int) := by omega
        have i1 : (k : Int) < (n : Int) := by omega
        clear hx hy k1 k2 hne
        by_cases hxy : x = y
        · subst hxy
          have HF2 : Hid (A.take (k + 1) = B.take (k + 1)) := by unfold Hid; rw [hst, hsu, HF.out]
          have hnx : (x != x) = false := by simp
          clear hst hsu hno
          go_wp2
          go_quiet (fail)
          go_wp2
          go_roundw
          case rel => exact ⟨k + 1, _, by omega, by go_num, HF2, rfl⟩
          case measure => simp [intOf]; omega
        · have hne : (x != y) = true := by simp [hxy]
          have HF2 := Lib.hid (hno hxy)
          clear hst hsu hno
          go_wp2
          go_quiet (fail)
          go_wp2
          go_ret
          exact ⟨ret_bool HF2.out.symm, _, World.drewN_drewN ..⟩
      · have HF2 : Hid (r = true) := by
          unfold Hid
          rw [← HR.out]
          have := HF.out
          rw [List.take_of_length_le (by rw [HN.out]; omega), List.take_of_length_le (by rw [HM.out]; omega)] at this
          exact decide_eq_true this
        clear hne
        go_wp2
        go_ret
        exact ⟨ret_bool HF2.out.symm, _, rfl⟩
  · have HE : Hid (decide (A = B) = false) := decide_eq_false fun e => hl (by rw [e])
    generalize decide (A = B) = r at HE ⊢
    clear H1 H2
    generalize A.length = n1 at *
    generalize B.length = n2 at *
    have hne : ((n1 : Int) != (n2 : Int)) = true := by simp; omega
    go_enter Tryz.func118, Tryz.ntmps118
    go_wp2
    go_ret
    exact ⟨ret_bool HE.out.symm, 0, rfl⟩
end Go.Proofs.YtlflblngbneacabGreatDoor

/- The contracts of the program's overRange at numbers, of the closure that counts a pool's bad items, of sumsOf and of SumPools. Conditions: the slice reads as integers; for sumsOf valid pools and a set of their items. -/
namespace Go.Proofs.YtlflblngbneacabGreatDoor
open Go.RowKit Go.Shelf

set_option maxHeartbeats 1600000 in
theorem implSums1 (b1 b2 : Nat) (v : Value) (P : List Int) (bad : Int) (W : World) (h1 : W.cell? ⟨b1, 0, none⟩ = some v) (h2 : W.cell? ⟨b2, 0, none⟩ = some (.int .i64 bad)) (hP : IntsAt W v P) (hin : ∀ p ∈ P, 0 ≤ p ∧ p ≤ 1023) (g0 : 0 ≤ bad) (g1 : bad ≤ 1023) (i : Nat) (hi : i < P.length) :
    Calls Tryz.prog 173 #[.int .i64 (i : Int), .pointer (some ⟨b1, 0, none⟩), .pointer (some ⟨b2, 0, none⟩)] W fun e w' => e = .returned (.int .i64 (cntI (bits .and .i64 P[i] bad))) ∧ Below W.heap.size W w' := by
  have hp := hin _ (List.getElem_mem hi)
  have CC : Hid (∀ V, Calls Tryz.prog 174 #[.int .i64 (bits .and .i64 P[i] bad)] V fun e W' => e = .returned (.int .i64 (cntI (bits .and .i64 P[i] bad))) ∧ Below V.heap.size V W') := fun V => implCount _ (by have := and_in hp.1 hp.2 g0 g1; unfold andI at this; omega) V
  obtain ⟨a, c, rfl, h⟩ := hP
  rcases h with h | ⟨b, o, rfl, hc⟩
  · rw [h] at hi; simp at hi
  have e0 := hc i hi
  obtain ⟨p, hpp⟩ : ∃ p, P[i] = p := ⟨_, rfl⟩
  rw [hpp] at e0 CC ⊢
  have i0 : (0 : Int) ≤ (i : Int) := by omega
  have i1 : (i : Int) < (P.length : Int) := by omega
  generalize P.length = m at h1 i1
  generalize cntI (bits .and .i64 p bad) = r at CC ⊢
  clear hc hpp hin hp hi
  go_enter Tryz.func173, Tryz.ntmps173
  go_wp2_with fail
  first | (go_region_with (first | (go_at_call 174; refine (CC.out _).mono ?_; rintro e w1 ⟨rfl, hb1⟩; have HB := Lib.hid hb1; clear hb1) | fail)) | fail
  all_goals (go_wp2; go_ret; exact ⟨rfl, ⟨HB.out.os, HB.out.tape, HB.out.output, HB.out.size, HB.out.block⟩⟩)

/-- What the closure has in its boxes, in every world above the one where they were made. -/
theorem sums1_above (b1 b2 : Nat) (v : Value) (P : List Int) (bad : Int) (W0 : World) (h1 : W0.cell? ⟨b1, 0, none⟩ = some v) (h2 : W0.cell? ⟨b2, 0, none⟩ = some (.int .i64 bad)) (hP : IntsAt W0 v P) (hin : ∀ p ∈ P, 0 ≤ p ∧ p ≤ 1023) (g0 : 0 ≤ bad) (g1 : bad ≤ 1023) (i : Nat) (hi : i < P.length) (W : World) (hb : Below W0.heap.size W0 W) :
    Calls Tryz.prog 173 #[.int .i64 (i : Int), .pointer (some ⟨b1, 0, none⟩), .pointer (some ⟨b2, 0, none⟩)] W fun e w' => e = .returned (.int .i64 (cntI (bits .and .i64 P[i] bad))) ∧ Below W.heap.size W w' :=
  implSums1 b1 b2 v P bad W (by rw [hb.cell (p := ⟨b1, 0, none⟩) (World.block_lt_of_cell? W0 _ h1)]; exact h1) (by rw [hb.cell (p := ⟨b2, 0, none⟩) (World.block_lt_of_cell? W0 _ h2)]; exact h2) (hP.below hb) hin g0 g1 i hi

set_option maxRecDepth 100000 in
set_option maxHeartbeats 1600000 in
theorem implOverI (b1 b2 : Nat) (v : Value) (P : List Int) (bad : Int) (w : World) (h1 : w.cell? ⟨b1, 0, none⟩ = some v) (h2 : w.cell? ⟨b2, 0, none⟩ = some (.int .i64 bad)) (hP : IntsAt w v P) (hm : P.length ≤ 12) (hin : ∀ p ∈ P, 0 ≤ p ∧ p ≤ 1023) (g0 : 0 ≤ bad) (g1 : bad ≤ 1023) :
    Calls Tryz.prog 172 #[.int .i64 (P.length : Int), .func (.func 173) #[] #[.pointer (some ⟨b1, 0, none⟩), .pointer (some ⟨b2, 0, none⟩)]] w (ListsS (sumL P bad) w) := by
  obtain ⟨i0, hi, hz0, hz1, hz2⟩ := info_parts infoIntA
  have HC : Hid (∀ i (h : i < P.length) W, Below w.heap.size w W → Calls Tryz.prog 173 #[.int .i64 (i : Int), .pointer (some ⟨b1, 0, none⟩), .pointer (some ⟨b2, 0, none⟩)] W fun e w' => e = .returned (.int .i64 (cntI (bits .and .i64 P[i] bad))) ∧ Below W.heap.size W w') := fun i h W hb =>
    sums1_above b1 b2 v P bad w h1 h2 hP hin g0 g1 i h W hb
  have HR : Hid (∀ i (h : i < P.length), sumL (P.take (i + 1)) bad = sumL (P.take i) bad ++ [cntI (bits .and .i64 P[i] bad)]) := fun i h => sumL_take P bad h
  have HA : Hid (sumL P bad = sumL (P.take P.length) bad) := by unfold Hid; rw [List.take_length]
  have HL : Hid (∀ i, i ≤ P.length → (sumL (P.take i) bad).length = i) := fun i h => by rw [sumL_len, List.length_take]; omega
  unfold ListsS
  generalize sumL P bad = R at HA ⊢
  obtain ⟨m, hmm⟩ : ∃ m, P.length = m := ⟨_, rfl⟩
  rw [hmm] at HA hm ⊢
  have HN := Lib.hid hmm
  clear hmm h1 h2 hP hin g0 g1
  have O1 : Hid (Own w w.heap.size (.slice none 0 0) (sumL (P.take 0) bad)) := World.ownsRow_nil _ _ _ _
  go_enter Tryz.func172, Tryz.ntmps172
  go_wp2
  go_loopw [5, 8] (fun ov iv wr => ∃ i : Nat, i ≤ m ∧ iv = .int .i64 i ∧ Hid (Own wr w.heap.size ov (sumL (P.take i) bad)) ∧ Hid (Below w.heap.size w wr)) (fun _ iv _ => m - (intOf iv).toNat)
  case atStart => exact ⟨0, Nat.zero_le _, rfl, O1, Lib.hid (Below.refl _ _)⟩
  case round =>
    clear O1
    obtain ⟨i, hi2, rfl, O2, B2⟩ := hrel
    by_cases hlt : i < m
    · have hil : i < P.length := by rw [HN.out]; exact hlt
      have hst := HR.out i hil
      have hlen := HL.out i (by omega)
      have CC := Lib.hid (HC.out i hil wr B2.out)
      obtain ⟨p, hp⟩ : ∃ p, P[i] = p := ⟨_, rfl⟩
      rw [hp] at hst CC
      have HST := Lib.hid hst
      have O3 := Lib.hid O2.out
      obtain ⟨g, mm, cc, rfl⟩ := O2.out.form
      generalize sumL (P.take i) bad = L at O3 hlen HST
      generalize cntI (bits .and .i64 p bad) = k at CC HST
      have i0' : (0 : Int) ≤ (i : Int) := by omega
      have i1 : (i : Int) < (m : Int) := by omega
      clear hst hp hil O2
      go_wp2_with fail
      refine CC.out.mono ?_
      rintro e w1 ⟨rfl, bb⟩
      have O4 := Lib.hid (O3.out.below bb)
      have B4 := Lib.hid (below_up B2.out bb)
      have hown := O4.out
      unfold Own at hown
      have hbs : w.heap.size ≤ w1.heap.size := B4.out.size
      clear bb
      go_wp2_with (at_builtin; refine wpList_append_own _ rfl _ _ 26 rfl w.heap.size 3 i0 (.int .i64 0) 1 8 Tryz.underlying26 hi hz0 hz1 hz2 rfl (by decide) _ _ _ rfl (hown.alloc _) ⟨w1.heap.size, 0, none⟩ 1 1 [.int .i64 k] rfl rfl (cell_one_new _ _ _) (by simp [Value.oneCell']) (by unfold maxLen; omega) (by omega) (by simp; omega) ?_; intro v' w2 hown' hg1 _)
      have hb2 := Below.grown (B4.out.alloc hbs _) hg1 (by simp; omega) (fun j hj => (hown.lt j hj).1)
      go_wp2
      go_roundw
      case rel =>
        refine ⟨i + 1, by omega, by go_num, ?_, Lib.hid hb2⟩
        unfold Hid Own
        rw [HST.out]
        simpa using hown'
      case measure => simp [intOf]; omega
    · obtain rfl : i = m := by omega
      have HE := HA.out
      obtain ⟨g, mm, cc, rfl⟩ := O2.out.form
      go_wp2
      go_ret
      exact ⟨_, rfl, by rw [HE]; exact O2.out, B2.out⟩

set_option maxRecDepth 100000 in
set_option maxHeartbeats 1600000 in
theorem implSumsOf (v : Value) (P : List Int) (bad : Int) (w : World) (h : IntsAt w v P) (hm : P.length ≤ 12) (hin : ∀ p ∈ P, 0 ≤ p ∧ p ≤ 1023) (g0 : 0 ≤ bad) (g1 : bad ≤ 1023) :
    Calls Tryz.prog 145 #[v, .int .i64 bad] w (ListsS (sumL P bad) w) := by
  obtain ⟨a, c, hv, -⟩ := id h
  have b1 := Boxed.new w 26 v
  have B1 := alloc_below w (.cells #[v] 26)
  have H1 := h.below B1
  have s1 : (w.alloc (.cells #[v] 26)).heap.size = w.heap.size + 1 := by simp
  generalize hX1 : w.alloc (.cells #[v] 26) = X1 at b1 B1 H1 s1
  have b2 := Boxed.new X1 3 (.int .i64 bad)
  have B2 := alloc_below X1 (.cells #[.int .i64 bad] 3)
  have c1 := (b1.alloc (.cells #[.int .i64 bad] 3)).cell
  have H2 := H1.below B2
  rw [s1] at b2
  have c2 := b2.cell
  generalize hX2 : X1.alloc (.cells #[.int .i64 bad] 3) = X2 at b2 B2 c1 H2 c2
  have BB := Lib.hid (below_up B1 B2)
  have CO := Lib.hid (implOverI _ _ v P bad X2 c1 c2 H2 hm hin g0 g1)
  subst hv
  unfold ListsS at CO ⊢
  generalize sumL P bad = R at CO ⊢
  generalize P.length = m at CO hX1 c1 hm
  clear b1 B1 H1 b2 B2 H2 h hin
  go_enter Tryz.func145, Tryz.ntmps145
  go_wp2_with fail
  refine CO.out.mono ?_
  rintro e w1 ⟨u, rfl, o, bb⟩
  obtain ⟨ga, na, ca, rfl⟩ := o.form
  have O := Lib.hid o
  have B := Lib.hid (below_up BB.out bb)
  have hs := Lib.hid BB.out.size
  clear o bb
  go_wp2
  go_ret
  exact ⟨_, rfl, Own.lower O.out hs.out, B.out⟩

end Go.Proofs.YtlflblngbneacabGreatDoor

/- The contracts of the program's overRange at lists, of the closure that lists a set's numbers, and of sumsOfAll. Conditions: valid pools. -/
namespace Go.Proofs.YtlflblngbneacabGreatDoor
open Go.RowKit Go.Shelf

/-- The numbers of the first k sets. -/
def allSL (P : List Int) (k : Nat) : List (List Int) := (List.range k).map fun (i : Nat) => sumL P (i : Int)
theorem allSL_len (P : List Int) (k : Nat) : (allSL P k).length = k := by simp [allSL]
theorem allSL_succ (P : List Int) (k : Nat) : allSL P (k + 1) = allSL P k ++ [sumL P (k : Int)] := by simp [allSL, List.range_succ]
theorem allSL_at (P : List Int) (k i : Nat) (h : i < (allSL P k).length) : (allSL P k)[i] = sumL P (i : Int) := by simp [allSL]
/-- A row of the call's own of lists. -/
def RowsS (S : List (List Int)) (w : World) (e : Ending) (w' : World) : Prop := ∃ v us, e = .returned v ∧ RowsI w' w.heap.size v S us ∧ Below w.heap.size w w'

theorem rowsI_lower {w : World} {B B' : Nat} {ov : Value} {S : List (List Int)} {us : List Value} (h : RowsI w B ov S us) (hB : B' ≤ B) : RowsI w B' ov S us :=
  ⟨h.1, ⟨h.2.1.1, h.2.1.2.imp id fun ⟨g, cap, cur, a, b, c⟩ => ⟨g, cap, cur, a, Nat.le_trans hB b, c⟩⟩, h.2.2⟩

set_option maxHeartbeats 1600000 in
theorem implAll1 (b1 : Nat) (v : Value) (P : List Int) (W : World) (h1 : W.cell? ⟨b1, 0, none⟩ = some v) (hP : IntsAt W v P) (hm : P.length ≤ 12) (hin : ∀ p ∈ P, 0 ≤ p ∧ p ≤ 1023) (i : Nat) (hi : i < 1024) :
    Calls Tryz.prog 144 #[.int .i64 (i : Int), .pointer (some ⟨b1, 0, none⟩)] W (ListsS (sumL P (i : Int)) W) := by
  have CC := Lib.hid (implSumsOf v P (i : Int) W hP hm hin (by omega) (by omega))
  obtain ⟨a, c, rfl, -⟩ := hP
  unfold ListsS at CC ⊢
  generalize sumL P (i : Int) = R at CC ⊢
  generalize P.length = m at CC h1
  clear hin hm hi
  go_enter Tryz.func144, Tryz.ntmps144
  go_wp2_with fail
  refine CC.out.mono ?_
  rintro e w1 ⟨u, rfl, o, bb⟩
  obtain ⟨ga, na, ca, rfl⟩ := o.form
  have O := Lib.hid o
  have B := Lib.hid bb
  clear o bb
  go_wp2
  go_ret
  exact ⟨_, rfl, O.out, B.out⟩

set_option maxRecDepth 100000 in
set_option maxHeartbeats 3200000 in
theorem implOverL (b1 : Nat) (v : Value) (P : List Int) (N : Nat) (hN : N ≤ 1024) (w : World) (h1 : w.cell? ⟨b1, 0, none⟩ = some v) (hP : IntsAt w v P) (hm : P.length ≤ 12) (hin : ∀ p ∈ P, 0 ≤ p ∧ p ≤ 1023) :
    Calls Tryz.prog 143 #[.int .i64 (N : Int), .func (.func 144) #[] #[.pointer (some ⟨b1, 0, none⟩)]] w (RowsS (allSL P N) w) := by
  obtain ⟨i0, hi, hz0, hz1, hz2⟩ := info_parts infoLstI
  have HC : Hid (∀ (i : Nat), i < 1024 → ∀ W, Below w.heap.size w W → Calls Tryz.prog 144 #[.int .i64 (i : Int), .pointer (some ⟨b1, 0, none⟩)] W (ListsS (sumL P (i : Int)) W)) := fun i h W hb =>
    implAll1 b1 v P W (by rw [hb.cell (p := ⟨b1, 0, none⟩) (World.block_lt_of_cell? w _ h1)]; exact h1) (hP.below hb) hm hin i h
  have HR := Lib.hid (fun k => allSL_succ P k)
  have HL := Lib.hid (fun k => allSL_len P k)
  unfold RowsS
  clear h1 hP hin hm
  have R1 : Hid (RowsI w w.heap.size (.slice none 0 0) (allSL P 0) []) := ⟨rfl, World.ownsRow_nil _ _ _ _, fun i h _ => by simp [allSL] at h⟩
  generalize allSL P = K at HR HL R1 ⊢
  unfold ListsS at HC
  go_enter Tryz.func143, Tryz.ntmps143
  go_wp2
  go_loopw [5, 8] (fun ov kv wr => ∃ (k : Nat) (us : List Value), k ≤ N ∧ kv = .int .i64 k ∧ Hid (RowsI wr w.heap.size ov (K k) us) ∧ Hid (Below w.heap.size w wr)) (fun _ kv _ => N - (intOf kv).toNat)
  case atStart => exact ⟨0, [], Nat.zero_le _, rfl, R1, Lib.hid (Below.refl _ _)⟩
  case round =>
    clear R1
    obtain ⟨k, us, hk, rfl, O2, B2⟩ := hrel
    by_cases hlt : k < N
    · have HKS := Lib.hid (HR.out k)
      have hlen := HL.out k
      have C1 := Lib.hid (HC.out k (by omega) wr B2.out)
      generalize K k = S at O2 hlen HKS
      generalize sumL P (k : Int) = X at C1 HKS
      obtain ⟨av, cv, hov, -⟩ := rowsI_cells O2.out
      subst hov
      rw [hlen]
      have HLN := Lib.hid hlen
      have k0 : (0 : Int) ≤ (k : Int) := by omega
      have k1 : (k : Int) < (N : Int) := by omega
      clear hlen
      go_wp2_with fail
      refine C1.out.mono ?_
      rintro e w1 ⟨u, rfl, o, bb⟩
      obtain ⟨gu, nu, cu, rfl⟩ := o.form
      have OW := Lib.hid (O2.out.below bb)
      have BW := Lib.hid (below_up B2.out bb)
      have OU := Lib.hid o.reads
      have BU : Hid (Blk (fun q => (Value.slice av S.length cv).ownBlock ≠ some q ∧ q < w1.heap.size) (.slice gu nu cu)) := fun q hq => ⟨fun e => by
        have h1 := o.blk q hq
        have h2 := O2.out.2.1.lt q e
        omega, (o.blk q hq).2⟩
      rw [HLN.out] at BU
      clear o bb
      have A4 := Lib.hid (alloc_below w1 (.cells #[.slice gu nu cu] 26))
      have OX := Lib.hid (OW.out.below A4.out)
      have OXR : Hid ((w1.alloc (.cells #[.slice gu nu cu] 26)).ownsRow w.heap.size 26 1 (.slice av k cv) k us) := by
        have := OX.out.2.1
        rw [HLN.out] at this
        exact this
      rw [HLN.out] at OW OX
      have hsz2 : w.heap.size ≤ (w1.alloc (.cells #[.slice gu nu cu] 26)).heap.size := by have := BW.out.size; simp; omega
      go_wp2_with (at_builtin; refine wpList_append_own_at _ rfl _ _ 61 rfl w.heap.size 26 i0 (.slice none 0 0) 1 24 Tryz.underlying61 hi hz0 hz1 hz2 rfl (by decide) (.slice av k cv) k us rfl OXR.out ⟨w1.heap.size, 0, none⟩ 1 1 [.slice gu nu cu] rfl rfl (cell_one_new _ _ _) (by simp [Value.oneCell']) (by unfold maxLen; omega) (by omega) hsz2 ?_; intro v' w6 hown' hg1 _ hat; have hg2 : (w1.alloc (.cells #[.slice gu nu cu] 26)).grownBy w6 (Value.slice av k cv).ownBlock := hg1; have HG2 := Lib.hid hg2; have HO2 := Lib.hid hown'; have HAT := Lib.hid hat; clear hg1 hg2 hown' hat)
      have O6 : Hid (RowsI w6 w.heap.size v' (S ++ [X]) (us ++ [.slice gu nu cu])) := OX.out.push HG2.out (by rw [HLN.out]; exact HO2.out) HAT.out (OU.out.below A4.out) (fun q hq => ⟨(BU.out q hq).1, Nat.lt_of_lt_of_le (BU.out q hq).2 A4.out.size⟩)
      have B6 := Lib.hid (Below.grown (below_up BW.out A4.out) HG2.out hsz2 (fun q hq => by have := (OXR.out.lt q hq).1; omega))
      rw [← HKS.out] at O6
      go_wp2
      go_roundw
      case rel => exact ⟨k + 1, us ++ [.slice gu nu cu], by omega, by go_num, O6, B6⟩
      case measure => simp [intOf]; omega
    · obtain rfl : k = N := by omega
      obtain ⟨av, cv, hov, -⟩ := rowsI_cells O2.out
      subst hov
      go_wp2
      go_ret
      exact ⟨_, us, rfl, O2.out, B2.out⟩

set_option maxRecDepth 100000 in
set_option maxHeartbeats 1600000 in
theorem implAllS (n : Int) (n1 : 1 ≤ n) (n10 : n ≤ 10) (N : Nat) (hN : 2 ^ n.toNat = N) (v : Value) (P : List Int) (w : World) (h : IntsAt w v P) (hm : P.length ≤ 12) (hin : ∀ p ∈ P, 0 ≤ p ∧ p ≤ 1023) :
    Calls Tryz.prog 114 #[.int .i64 n, v] w (RowsS (allSL P N) w) := by
  obtain ⟨hs1, hs2, hs3, hs4⟩ := shl_top n1 n10
  have hN2 : (2 : Int) ^ n.toNat = (N : Int) := by rw [← hN]; push_cast; rfl
  have hNb : N ≤ 1024 := by omega
  rw [hN2] at hs1
  obtain ⟨a, c, hv, -⟩ := id h
  have b1 := Boxed.new w 26 v
  have B1 := alloc_below w (.cells #[v] 26)
  have H1 := h.below B1
  have c1 := b1.cell
  generalize hX1 : w.alloc (.cells #[v] 26) = X1 at B1 H1 c1
  have BB := Lib.hid B1
  have CO := Lib.hid (implOverL _ v P N hNb X1 c1 H1 hm hin)
  subst hv
  unfold RowsS at CO ⊢
  generalize allSL P N = R at CO ⊢
  generalize P.length = m at CO hX1 c1 hm
  clear b1 B1 H1 h hin hs2 hs3 hs4 hN
  go_enter Tryz.func114, Tryz.ntmps114
  go_wp2_with fail
  refine CO.out.mono ?_
  rintro e w1 ⟨u, us, rfl, o, bb⟩
  obtain ⟨ga, ca, rfl, -⟩ := rowsI_cells o
  have O := Lib.hid o
  have B := Lib.hid (below_up BB.out bb)
  have hs := Lib.hid BB.out.size
  clear o bb
  go_wp2
  go_ret
  exact ⟨_, us, rfl, rowsI_lower O.out hs.out, B.out⟩
end Go.Proofs.YtlflblngbneacabGreatDoor

/- The contracts of cmp.Compare, slices.Compare and slices.SortFunc at lists of integers, and of slices.CompactFunc as far as its length goes. Conditions: the lists read as integers and lie in other blocks than the row; at most 1024 of them. -/
namespace Go.Proofs.YtlflblngbneacabGreatDoor
open Go.RowKit

set_option maxHeartbeats 800000 in
theorem implCmp (x y : Int) (W : World) : Calls Tryz.prog 148 #[.int .i64 x, .int .i64 y] W fun e w' => e = .returned (.int .i64 (if x < y then -1 else if y < x then 1 else 0)) ∧ W = w' := by
  have nx : (x != x) = false := by simp
  have ny : (y != y) = false := by simp
  by_cases h1 : x < y
  · rw [if_pos h1]
    go_enter Tryz.func148, Tryz.ntmps148
    go_wp2
    go_ret
    exact ⟨rfl, rfl⟩
  · rw [if_neg h1]
    by_cases h2 : y < x
    · rw [if_pos h2]
      go_enter Tryz.func148, Tryz.ntmps148
      go_wp2
      go_ret
      exact ⟨rfl, rfl⟩
    · rw [if_neg h2]
      go_enter Tryz.func148, Tryz.ntmps148
      go_wp2
      go_ret
      exact ⟨rfl, rfl⟩

set_option maxHeartbeats 1600000 in
theorem implCompare (u v : Value) (A B : List Int) (w : World) (h1 : IntsAt w u A) (h2 : IntsAt w v B) (m1 : A.length ≤ 1048576) (m2 : B.length ≤ 1048576) :
    Calls Tryz.prog 116 #[u, v] w fun e w' => e = .returned (.int .i64 (cmpL A B)) ∧ w = w' := by
  obtain ⟨a1, c1, rfl, h1⟩ := h1
  obtain ⟨a2, c2, rfl, h2⟩ := h2
  have H1 : Hid (∀ i (h : i < A.length), ∃ b o, a1 = some ⟨b, o, none⟩ ∧ w.cell? ⟨b, o + i, none⟩ = some (.int .i64 A[i])) := by
    intro i hi
    rcases h1 with rfl | ⟨b, o, rfl, hc⟩
    · simp at hi
    · exact ⟨b, o, rfl, hc i hi⟩
  have H2 : Hid (∀ i (h : i < B.length), ∃ b o, a2 = some ⟨b, o, none⟩ ∧ w.cell? ⟨b, o + i, none⟩ = some (.int .i64 B[i])) := by
    intro i hi
    rcases h2 with rfl | ⟨b, o, rfl, hc⟩
    · simp at hi
    · exact ⟨b, o, rfl, hc i hi⟩
  clear h1 h2
  have HS0 : Hid (cmpL A B = cmpL (A.drop 0) (B.drop 0)) := rfl
  generalize cmpL A B = r at HS0 ⊢
  obtain ⟨n, hn⟩ : ∃ n, A.length = n := ⟨_, rfl⟩
  obtain ⟨m, hm⟩ : ∃ m, B.length = m := ⟨_, rfl⟩
  have HN := Lib.hid hn
  have HM := Lib.hid hm
  rw [hn] at m1 ⊢
  rw [hm] at m2 ⊢
  clear hn hm
  go_enter Tryz.func116, Tryz.ntmps116
  go_wp2
  go_loop [11] (fun i => ∃ k : Nat, k ≤ n ∧ k ≤ m ∧ i = .int .i64 k ∧ Hid (r = cmpL (A.drop k) (B.drop k))) (fun i => n - (intOf i).toNat)
  case atStart => exact ⟨0, Nat.zero_le _, Nat.zero_le _, rfl, HS0⟩
  case round =>
    clear HS0
    obtain ⟨k, hk, hk2, rfl, HS⟩ := hrel
    by_cases hlt : k < n
    · have hkl : k < A.length := by rw [HN.out]; exact hlt
      obtain ⟨b, o, rfl, e0⟩ := H1.out k hkl
      by_cases hl2 : k < m
      · have hkm : k < B.length := by rw [HM.out]; exact hl2
        obtain ⟨b', o', rfl, e1⟩ := H2.out k hkm
        have HD := HS.out
        rw [List.drop_eq_getElem_cons hkl, List.drop_eq_getElem_cons hkm, cmpL] at HD
        obtain ⟨x, hx⟩ : ∃ x, A[k] = x := ⟨_, rfl⟩
        obtain ⟨y, hy⟩ : ∃ y, B[k] = y := ⟨_, rfl⟩
        rw [hx] at e0 HD
        rw [hy] at e1 HD
        have CC := Lib.hid (implCmp x y w)
        have HDD := Lib.hid HD
        have k0 : (0 : Int) ≤ (k : Int) := by omega
        have k1 : (k : Int) < (n : Int) := by omega
        have k2 : ¬ (m : Int) ≤ (k : Int) := by omega
        have k3 : (k : Int) < (m : Int) := by omega
        clear hx hy hkl hkm HD HS
        by_cases g1 : x < y
        · have HE : Hid (r = -1) := by unfold Hid; rw [HDD.out, if_pos g1]
          rw [if_pos g1] at CC
          clear g1
          go_wp2_with fail
          refine CC.out.mono ?_
          rintro e w1 ⟨rfl, rfl⟩
          go_wp2
          go_ret
          exact ⟨ret_int HE.out.symm, rfl⟩
        · by_cases g2 : y < x
          · have HE : Hid (r = 1) := by unfold Hid; rw [HDD.out, if_neg g1, if_pos g2]
            rw [if_neg g1, if_pos g2] at CC
            clear g1 g2
            go_wp2_with fail
            refine CC.out.mono ?_
            rintro e w1 ⟨rfl, rfl⟩
            go_wp2
            go_ret
            exact ⟨ret_int HE.out.symm, rfl⟩
          · have HE : Hid (r = cmpL (A.drop (k + 1)) (B.drop (k + 1))) := by unfold Hid; rw [HDD.out, if_neg g1, if_neg g2]
            rw [if_neg g1, if_neg g2] at CC
            clear g1 g2
            go_wp2_with fail
            refine CC.out.mono ?_
            rintro e w1 ⟨rfl, rfl⟩
            go_wp2
            go_round
            case rel => exact ⟨k + 1, by omega, by omega, by go_num, HE⟩
            case measure => simp [intOf]; omega
      · have HE : Hid (r = 1) := by
          unfold Hid
          have hd : B.drop k = [] := List.drop_of_length_le (by rw [HM.out]; omega)
          rw [HS.out, hd, List.drop_eq_getElem_cons hkl]
          rfl
        have k0 : (0 : Int) ≤ (k : Int) := by omega
        have k1 : (k : Int) < (n : Int) := by omega
        have k2 : (m : Int) ≤ (k : Int) := by omega
        obtain ⟨x, hx⟩ : ∃ x, A[k] = x := ⟨_, rfl⟩
        rw [hx] at e0
        clear hx hkl HS
        go_wp2
        go_ret
        exact ⟨ret_int HE.out.symm, rfl⟩
    · obtain rfl : k = n := by omega
      by_cases hl2 : k < m
      · have hkm : k < B.length := by rw [HM.out]; exact hl2
        have HE : Hid (r = -1) := by
          unfold Hid
          have hd : A.drop k = [] := List.drop_of_length_le (by rw [HN.out]; omega)
          rw [HS.out, hd, List.drop_eq_getElem_cons hkm]
          rfl
        have k1 : (k : Int) < (m : Int) := by omega
        clear hkm HS
        go_wp2
        go_ret
        exact ⟨ret_int HE.out.symm, rfl⟩
      · have HE : Hid (r = 0) := by
          unfold Hid
          have hd : A.drop k = [] := List.drop_of_length_le (by rw [HN.out]; omega)
          have hd2 : B.drop k = [] := List.drop_of_length_le (by rw [HM.out]; omega)
          rw [HS.out, hd, hd2]
          rfl
        have k1 : ¬ (k : Int) < (m : Int) := by omega
        clear HS
        go_wp2
        go_ret
        exact ⟨ret_int HE.out.symm, rfl⟩

section
variable {α : Type} [Inhabited α] {enc : α → Value} {w : World} {g n : Nat} {os : Array Obj}
theorem heap_sortedL {cur : Array Value} {e : TypeId} {fr : Nat × Nat} (d : Array α) (hb : w.heap[g]? = some (.cells cur e fr)) :
    (sortWorld enc w g 0 n d os).heap[g]? = some (.cells (Sort.putCells enc 0 d cur) e fr) := by
  have hg : g < w.heap.size := (Array.getElem?_eq_some_iff.1 hb).1
  unfold sortWorld
  rw [Sort.heap_grow_old _ _ (by simpa using hg)]
  simp [Sort.putRow, Sort.mapBlock, Sort.ahead, Array.getElem?_modify, hb, Sort.onCells]
theorem grownBy_sortedL (d : Array α) : w.grownBy (sortWorld enc w g 0 n d os) (some g) := by
  refine ⟨rfl, rfl, rfl, by simp [sortWorld], fun k hk hne => ?_⟩
  unfold sortWorld
  rw [Sort.heap_grow_old _ _ (by simpa using hk)]
  have : g ≠ k := fun e => hne (by rw [e])
  simp [Sort.putRow, Sort.mapBlock, Sort.ahead, Array.getElem?_modify, this]
theorem take_putCellsL (cur : Array Value) (d : Array α) (h : d.size ≤ cur.size) : (Sort.putCells enc 0 d cur).toList.take d.size = (List.range d.size).map fun i => enc d[i]! := by
  apply List.ext_getElem?
  intro j
  by_cases hj : j < d.size
  · rw [List.getElem?_take_of_lt hj, Array.getElem?_toList]
    simp [Sort.putCells, hj, show j < cur.size by omega]
  · rw [List.getElem?_take_eq_none (by omega), List.getElem?_eq_none (by simp; omega)]
theorem ownsRow_sortedL {base cap m : Nat} {e : TypeId} {xs : List Value} {d : Array α} (h : w.ownsRow base e 1 (.slice (some ⟨g, 0, none⟩) m cap) m xs) (hd : d.size = m) :
    (sortWorld enc w g 0 n d os).ownsRow base e 1 (.slice (some ⟨g, 0, none⟩) m cap) m ((List.range m).map fun i => enc d[i]!) := by
  rcases h.2 with ⟨h0, _⟩ | ⟨g', cap', cur, h0, hbase, hb, h1, h2, h3, _⟩
  · cases h0
  · cases h0
    refine ⟨by simp, .inr ⟨g, cap, _, rfl, hbase, heap_sortedL _ hb, h1, h2, by simp [Sort.putCells, h3], ?_⟩⟩
    rw [Nat.mul_one, ← hd]
    exact take_putCellsL cur d (by omega)
end
theorem extract_all {β : Type} (d : Array β) {m : Nat} (h : d.size = m) : d.extract 0 m = d := by subst h; simp
/-- A row that is sorted: what lies where. -/
structure Sorted (P : List Int) (N : Nat) (p : Nat → Nat) : Prop where
  lt : ∀ i, i < N → p i < N
  all : ∀ k, k < N → ∃ i, i < N ∧ p i = k
  up : ∀ i j, i < j → j < N → ¬ cmpL (sumL P (p j : Nat)) (sumL P (p i : Nat)) < 0

theorem swoL (P : List Int) (N : Nat) : Sort.SWO (ltOf fun (x y : Fin N) => cmpL (sumL P (x.1 : Int)) (sumL P (y.1 : Int))) where
  irrefl x := by
    show decide (cmpL (sumL P (x.1 : Int)) (sumL P (x.1 : Int)) < 0) = false
    rw [cmpL_self]
    rfl
  trans x y z h1 h2 := by
    unfold ltOf at *
    exact decide_eq_true (cmpL_trans _ _ _ (of_decide_eq_true h1) (of_decide_eq_true h2))
  ntrans x y z h1 h2 := by
    unfold ltOf at *
    exact decide_eq_false (cmpL_ntrans _ _ _ (of_decide_eq_false h1) (of_decide_eq_false h2))

set_option maxRecDepth 100000 in
set_option maxHeartbeats 3200000 in
theorem implSortRows (P : List Int) (hP : P.length ≤ 1048576) (w : World) (lo g cap N : Nat) (us : List Value) (h0 : 0 < N) (hN : N ≤ 1024) (h : RowsI w lo (.slice (some ⟨g, 0, none⟩) N cap) (allSL P N) us) :
    Calls Tryz.prog 115 #[.slice (some ⟨g, 0, none⟩) N cap, .func (.func 116) #[] #[]] w fun e w' => e = .returned (.tuple #[]) ∧
      ∃ (p : Nat → Nat) (us' : List Value), Sorted P N p ∧ RowsI w' lo (.slice (some ⟨g, 0, none⟩) N cap) ((List.range N).map fun i => sumL P (p i : Nat)) us' ∧ w.grownBy w' (some g) := by
  haveI : Inhabited (Fin N) := ⟨⟨0, h0⟩⟩
  have hlen : us.length = N := by rw [h.1, allSL_len]
  have hrow := h.2.1
  rw [allSL_len] at hrow
  have hget : ∀ x : Fin N, IntsAt w (us[x.1]'(by rw [hlen]; exact x.2)) (sumL P (x.1 : Int)) ∧ Blk (fun b => (Value.slice (some ⟨g, 0, none⟩) N cap).ownBlock ≠ some b ∧ b < w.heap.size) (us[x.1]'(by rw [hlen]; exact x.2)) := fun x => by
    have := h.2.2 x.1 (by rw [allSL_len]; exact x.2) (by rw [hlen]; exact x.2)
    rw [allSL_at] at this
    exact this
  let enc : Fin N → Value := fun x => us[x.1]'(by rw [hlen]; exact x.2)
  have hone : OneCell enc := fun x => by
    obtain ⟨a, n, c, e⟩ := (hget x).1.form
    show (us[x.1]'(by rw [hlen]; exact x.2)).oneCell' = true
    rw [e]
    rfl
  let d : Array (Fin N) := Array.ofFn fun x => x
  have hd : d.size = N := by simp [d]
  have hdi : ∀ i (hi : i < N), d[i]! = ⟨i, hi⟩ := fun i hi => by
    rw [getElem!_pos d i (by rw [hd]; exact hi)]
    simp [d]
  have hH : Sort.Holds enc w g 0 d := fun j hj => by
    have hj' : j < N := by rw [← hd]; exact hj
    rw [Nat.zero_add, hrow.cellAt j (by omega), hdi j hj', List.getElem?_eq_getElem (by rw [hlen]; exact hj')]
    exact ⟨rfl, hrow.frozenAt j⟩
  have hone' : ∀ (m : Nat) (os : Array Obj) (dk : Array (Fin N)) (x : Fin N), IntsAt (sortWorld enc w g 0 m dk os) (enc x) (sumL P (x.1 : Int)) := fun m os dk x =>
    (hget x).1.only (Only.of_grown (grownBy_sortedL dk)) fun b hb e => ((hget x).2 b hb).1 e
  have hcmp : CmpReads Tryz.prog 116 #[] enc (fun x y => cmpL (sumL P (x.1 : Int)) (sumL P (y.1 : Int))) g 0 d.size w := fun m os dk _ x y =>
    (implCompare _ _ _ _ _ (hone' m os dk x) (hone' m os dk y) (by rw [sumL_len]; exact hP) (by rw [sumL_len]; exact hP)).mono fun _ _ ⟨he, hw⟩ => ⟨he, 0, hw.symm⟩
  have eg : ∀ args w, (callFunc 116 args).run Tryz.prog w = .ok (.enter 116 args) w := enters_of Tryz.func116 (by kernel_rfl) rfl
  have hg : g < w.heap.size := (hrow.lt g rfl).2
  have hs := Tryz.slices_SortFunc enc hone (fun x y => cmpL (sumL P (x.1 : Int)) (sumL P (y.1 : Int))) (swoL P N) 116 #[] g 0 cap d w eg hcmp.lays hH hg (by rw [hd]; omega)
  rw [hd] at hs
  refine hs.mono ?_
  rintro e w' ⟨rfl, d', n, os, hp, hso, rfl⟩
  obtain ⟨hsz, -, hperm⟩ := hp
  rw [hd] at hsz
  refine ⟨rfl, fun i => (d'[i]!).1, (List.range N).map fun i => enc d'[i]!, ⟨fun i _ => (d'[i]!).2, fun k hk => ?_, fun i j h1 h2 => ?_⟩, ⟨by simp, ?_, fun i h1 h2 => ?_⟩, grownBy_sortedL d'⟩
  · have hm : (⟨k, hk⟩ : Fin N) ∈ d'.toList := by
      rw [extract_all d' hsz, extract_all d hd] at hperm
      exact hperm.mem_iff.2 (by simp [d])
    obtain ⟨i, hi, he⟩ := List.mem_iff_getElem.1 hm
    have hi' : i < d'.size := by simpa using hi
    refine ⟨i, by rw [← hsz]; exact hi', ?_⟩
    have : d'[i]! = ⟨k, hk⟩ := by rw [getElem!_pos d' i hi', ← he]; simp
    rw [this]
  · have := hso i j (Nat.zero_le _) h1 (by rw [hd] at *; exact h2)
    unfold ltOf at this
    exact of_decide_eq_false this
  · rw [List.length_map, List.length_range]
    exact ownsRow_sortedL hrow hsz
  · simp only [List.getElem_map, List.getElem_range]
    exact ⟨hone' n os d' _, fun b hb => ⟨((hget _).2 b hb).1, Nat.lt_of_lt_of_le ((hget _).2 b hb).2 (grownBy_sortedL d').size⟩⟩
end Go.Proofs.YtlflblngbneacabGreatDoor

/- The contract of slices.CompactFunc with slices.Equal at lists of integers, as far as the length of what it returns goes. Conditions: a row of the call's own of at most 1024 lists, each short enough to be counted, in other blocks than the row. -/
namespace Go.Proofs.YtlflblngbneacabGreatDoor
open Go.RowKit

theorem grownBy_setCells {w : World} {g : Nat} : ∀ (vs : List Value) (o : Nat) (w' : World), w.grownBy w' (some g) → w.grownBy (w'.setCells g o vs) (some g)
  | [], _, _, h => h
  | v :: r, o, _, h => grownBy_setCells r (o + 1) _ (grown_set h o v)
theorem grown_drewS {w w' : World} {row : Option Nat} (h : w.grownBy w' row) (n : Nat) : w.grownBy (w'.drewN n) row := ⟨h.os, h.tape, h.output, h.size, h.block⟩

set_option maxRecDepth 100000 in
set_option maxHeartbeats 6400000 in
theorem implCompact (F : Nat → List Int) (hF : ∀ i, (F i).length ≤ 1048576) (w : World) (lo g cap N : Nat) (us : List Value) (h0 : 0 < N) (hN : N ≤ 1024) (h : RowsI w lo (.slice (some ⟨g, 0, none⟩) N cap) ((List.range N).map F) us) :
    Calls Tryz.prog 117 #[.slice (some ⟨g, 0, none⟩) N cap, .func (.func 118) #[] #[]] w fun e w' => (∃ a c, e = .returned (.slice a (uniqF F N).length c)) ∧ w.grownBy w' (some g) := by
  have hlen : us.length = N := by rw [h.1]; simp
  have hrow := h.2.1
  rw [List.length_map, List.length_range] at hrow
  have hcap : N ≤ cap ∧ cap ≤ maxLen := by
    rcases hrow.2 with ⟨h1, _⟩ | ⟨g', cap', cur, h1, _, _, h2, h3, _⟩
    · cases h1
    · cases h1; exact ⟨h2, h3⟩
  have hcap1 := hcap.1
  have hcap2 : ¬ (cap : Int) < (N : Int) := by omega
  have HGET : Hid (∀ i, i < N → ∃ a n c, us[i]? = some (.slice a n c) ∧ ∀ W, w.grownBy W (some g) → IntsAt W (.slice a n c) (F i)) := fun i hi => by
    have h1 := h.2.2 i (by simpa using hi) (by rw [hlen]; exact hi)
    rw [List.getElem_map, List.getElem_range] at h1
    obtain ⟨a, n, c, e⟩ := h1.1.form
    rw [e] at h1
    exact ⟨a, n, c, by rw [List.getElem?_eq_getElem (by rw [hlen]; exact hi), e], fun W hW => h1.1.only (Only.of_grown hW) fun b hb e2 => (h1.2 b hb).1 e2⟩
  have HU := Lib.hid (fun k (hk : k = 0 ∨ F k ≠ F (k - 1)) => uniqF_pos hk)
  have HV := Lib.hid (fun k (hk : k ≠ 0) (he : F k = F (k - 1)) => uniqF_neg hk he)
  have HF := Lib.hid hF
  have HROW := Lib.hid hrow
  have HL := Lib.hid hlen
  have hv : ∀ w, (zeroValue 26).run Tryz.prog w = .ok (.slice none 0 0) w := by intro w; kernel_rfl
  clear h hrow hF hlen
  have U1 : Hid ((uniqF F 1).length = 1) := rfl
  generalize uniqF F = U at HU HV U1 ⊢
  by_cases h2 : N < 2
  · obtain rfl : N = 1 := by omega
    clear HGET HU HV
    go_enter Tryz.func117, Tryz.ntmps117
    go_wp2
    go_ret
    exact ⟨⟨_, _, by rw [U1.out]; rfl⟩, rfl, rfl, rfl, Nat.le_refl _, fun _ _ _ => rfl⟩
  · go_enter Tryz.func117, Tryz.ntmps117
    go_wp2
    go_loopw [5] (fun s5 wr => ∃ k : Nat, 1 ≤ k ∧ k ≤ N ∧ s5 = .int .i64 k ∧ Hid (∃ q, wr = w.drewN q) ∧ Hid ((U k).length = k)) (fun s5 _ => N - (intOf s5).toNat)
    case atStart => exact ⟨1, Nat.le_refl _, by omega, rfl, Lib.hid ⟨0, rfl⟩, U1⟩
    case round =>
      clear U1
      obtain ⟨k, hk1, hk, rfl, HQ, HK⟩ := hrel
      have HG : Hid (w.grownBy wr (some g)) := by
        obtain ⟨q, hq⟩ := HQ.out
        rw [hq]
        exact grown_drewS ⟨rfl, rfl, rfl, Nat.le_refl _, fun _ _ _ => rfl⟩ _
      by_cases hlt : k < N
      · obtain ⟨a1, n1, c1, g1, i1⟩ := HGET.out k hlt
        obtain ⟨a0, n0, c0, g0, i0⟩ := HGET.out (k - 1) (by omega)
        have HROW2 : wr.ownsRow lo 26 1 (.slice (some ⟨g, 0, none⟩) N cap) N us := by
          obtain ⟨q, hq⟩ := HQ.out
          rw [hq]
          exact HROW.out
        have e1 : wr.cell? ⟨g, k, none⟩ = some (.slice a1 n1 c1) := by rw [← g1]; exact HROW2.cellAt k (by omega)
        have e0 : wr.cell? ⟨g, k - 1, none⟩ = some (.slice a0 n0 c0) := by rw [← g0]; exact HROW2.cellAt (k - 1) (by omega)
        have CE : Hid (∀ m, Calls Tryz.prog 118 #[.slice a1 n1 c1, .slice a0 n0 c0] (wr.drewN m) fun e w' => e = .returned (.bool (decide (F k = F (k - 1)))) ∧ ∃ m', w' = (wr.drewN m).drewN m') := fun m =>
          implEqual _ _ _ _ _ (i1 _ (grown_drewS HG.out _)) (i0 _ (grown_drewS HG.out _)) (HF.out _) (HF.out _)
        have k0 : (0 : Int) ≤ (k : Int) := by omega
        have k1 : (k : Int) < (N : Int) := by omega
        have k2 : (1 : Int) ≤ (k : Int) := by omega
        have k3 : IntKind.i64.wrap ((k : Int) - 1) = (k : Int) - 1 := by rw [IntKind.wrap_i64]; omega
        have k4 : (0 : Int) ≤ (k : Int) - 1 := by omega
        have k5 : (k : Int) - 1 < (N : Int) := by omega
        have HR2 := Lib.hid HROW2
        clear g1 i1 g0 i0 HROW2
        by_cases hdup : F k = F (k - 1)
        · rw [decide_eq_true hdup] at CE
          have HK2 : Hid ((U (k + 1)).length = k) := by unfold Hid; rw [HV.out k (by omega) hdup]; exact HK.out
          clear hdup
          go_wp2_with fail
          go_quiet (first | (go_at_call 118; exact Calls.quiet_of (CE.out _)) | fail)
          go_wp2
          go_loopw [5, 7] (fun s5 s7 ws => ∃ (kk k2 : Nat) (xs : List Value), s5 = .int .i64 kk ∧ s7 = .int .i64 k2 ∧ 1 ≤ k2 ∧ k + k2 ≤ N ∧ kk + 1 ≤ k + k2 ∧ 1 ≤ kk ∧ Hid ((U (k + k2)).length = kk) ∧ Hid (ws.ownsRow lo 26 1 (.slice (some ⟨g, 0, none⟩) N cap) N xs) ∧ Hid (∀ j, kk ≤ j → xs[j]? = us[j]?) ∧ Hid (w.grownBy ws (some g))) (fun _ s7 _ => N - (intOf s7).toNat)
          case atStart => exact ⟨k, 1, us, rfl, rfl, Nat.le_refl _, by omega, by omega, by omega, HK2, Lib.hid (by exact owns_only HR2.out (Only.fresh (below_drewN (Below.refl _ _) _)) (fun _ _ e => e)), Lib.hid (fun _ _ => rfl), Lib.hid (grown_drewS HG.out _)⟩
          case round =>
            clear HK2 HR2 HG HQ HK e0 e1 CE k3 k4 k5
            obtain ⟨kk, k2', xs, rfl, rfl, h1, h3, h4, h5, HK, HR, HX, HG⟩ := hrel
            have kN : kk < N := by omega
            have fk := HR.out.frozenAt kk
            have hxl : xs.length = N := by have := HR.out.1; omega
            have ck : wr.cell? ⟨g, kk, none⟩ = some (xs[kk]'(by omega)) := by rw [HR.out.cellAt kk (by omega), List.getElem?_eq_getElem (by omega)]
            have q0 : (0 : Int) ≤ (kk : Int) := by omega
            have q1 : (kk : Int) < (N : Int) := by omega
            have q2 : ¬ (N : Int) < (kk : Int) := by omega
            have q3 : ¬ (cap : Int) < (kk : Int) := by omega
            by_cases hlt2 : k + k2' < N
            · obtain ⟨a1, n1, c1, g1, i1⟩ := HGET.out (k + k2') hlt2
              obtain ⟨a0, n0, c0, g0, i0⟩ := HGET.out (k + k2' - 1) (by omega)
              have e1 : wr.cell? ⟨g, k + k2', none⟩ = some (.slice a1 n1 c1) := by rw [HR.out.cellAt _ (by omega), HX.out _ (by omega)]; exact g1
              have e0 : wr.cell? ⟨g, k + (k2' - 1), none⟩ = some (.slice a0 n0 c0) := by rw [HR.out.cellAt _ (by omega), HX.out _ (by omega), show k + (k2' - 1) = k + k2' - 1 by omega]; exact g0
              have CE : Hid (∀ m, Calls Tryz.prog 118 #[.slice a1 n1 c1, .slice a0 n0 c0] (wr.drewN m) fun e w' => e = .returned (.bool (decide (F (k + k2') = F (k + k2' - 1)))) ∧ ∃ m', w' = (wr.drewN m).drewN m') := fun m =>
                implEqual _ _ _ _ _ (i1 _ (grown_drewS HG.out _)) (i0 _ (grown_drewS HG.out _)) (HF.out _) (HF.out _)
              have j0 : (0 : Int) ≤ (k2' : Int) := by omega
              have j1 : (k2' : Int) < ((N - k : Nat) : Int) := by omega
              have j2 : IntKind.i64.wrap ((k2' : Int) - 1) = (k2' : Int) - 1 := by rw [IntKind.wrap_i64]; omega
              have j3 : (0 : Int) ≤ (k2' : Int) - 1 := by omega
              have j4 : (k2' : Int) - 1 < ((N - k : Nat) : Int) := by omega
              have j5 : (1 : Int) ≤ (k2' : Int) := by omega
              clear g1 i1 g0 i0
              generalize xs[kk]'(by omega) = old at ck
              by_cases hdup : F (k + k2') = F (k + k2' - 1)
              · rw [decide_eq_true hdup] at CE
                have HK2 : Hid ((U (k + (k2' + 1))).length = kk) := by unfold Hid; rw [← Nat.add_assoc, HV.out (k + k2') (by omega) hdup]; exact HK.out
                clear hdup ck fk
                go_wp2_with fail
                go_quiet (first | (go_at_call 118; exact Calls.quiet_of (CE.out _)) | fail)
                go_wp2
                go_roundw
                case rel => exact ⟨kk, k2' + 1, xs, rfl, by go_num, by omega, by omega, by omega, by omega, HK2, Lib.hid (by exact owns_only HR.out (Only.fresh (below_drewN (Below.refl _ _) _)) (fun _ _ e => e)), HX, Lib.hid (grown_drewS HG.out _)⟩
                case measure => simp [intOf]; omega
              · have HK2 : Hid ((U (k + (k2' + 1))).length = kk + 1) := by unfold Hid; rw [← Nat.add_assoc, HU.out (k + k2') (.inr hdup), HK.out]
                rw [decide_eq_false hdup] at CE
                clear hdup
                have HR3 := fun n => (owns_only HR.out (Only.fresh (below_drewN (Below.refl _ _) n)) (fun _ _ e => e) : (wr.drewN n).ownsRow lo 26 1 (.slice (some ⟨g, 0, none⟩) N cap) N xs).stored kk (.slice a1 n1 c1)
                have HR4 := Lib.hid HR3
                clear HR3
                have HX2 : Hid (∀ j, kk + 1 ≤ j → (xs.set kk (.slice a1 n1 c1))[j]? = us[j]?) := fun j hj => by rw [List.getElem?_set_ne (by omega)]; exact HX.out j (by omega)
                go_wp2_with fail
                go_quiet (first | (go_at_call 118; exact Calls.quiet_of (CE.out _)) | fail)
                go_wp2
                go_roundw
                case rel => exact ⟨kk + 1, k2' + 1, _, by go_num, by go_num, by omega, by omega, by omega, by omega, HK2, Lib.hid (HR4.out _).1, HX2, Lib.hid (grown_set (grown_drewS HG.out _) _ _)⟩
                case measure => simp [intOf]; omega
            · have hend : k + k2' = N := by omega
              have HK2 : Hid ((U N).length = kk) := by unfold Hid; rw [← hend]; exact HK.out
              have hcl : ∀ ty, (Builtin.clear_ #[61] ty #[.slice (some ⟨g, kk, none⟩) (N - kk) (cap - kk)]).run Tryz.prog wr = .ok (.tuple #[]) (wr.setCells g kk (List.replicate (N - kk) (.slice none 0 0))) :=
                fun ty => Lib.run_clear_slice wr _ _ ty _ Tryz.underlying61 hv rfl rfl g kk _ _ (by omega) (fun j hj => by rw [HR.out.cellAt _ (by omega), List.getElem?_eq_getElem (by omega)]; rfl) (fun j _ => HR.out.frozenAt _)
              have HEND := Lib.hid (grownBy_setCells (List.replicate (N - kk) (.slice none 0 0)) kk _ HG.out)
              have j1 : ¬ (k2' : Int) < ((N - k : Nat) : Int) := by omega
              clear ck fk hxl
              go_wp2
              go_ret
              exact ⟨⟨_, _, by rw [HK2.out]; rfl⟩, HEND.out⟩
        · have HK2 : Hid ((U (k + 1)).length = k + 1) := by unfold Hid; rw [HU.out k (.inr hdup), HK.out]
          rw [decide_eq_false hdup] at CE
          clear hdup
          go_wp2_with fail
          go_quiet (first | (go_at_call 118; exact Calls.quiet_of (CE.out _)) | fail)
          go_wp2
          go_roundw
          case rel => exact ⟨k + 1, by omega, by omega, by go_num, Lib.hid (by obtain ⟨q, hq⟩ := HQ.out; exact ⟨_, by rw [hq]; exact World.drewN_drewN ..⟩), HK2⟩
          case measure => simp [intOf]; omega
      · obtain rfl : k = N := by omega
        go_wp2
        go_ret
        exact ⟨⟨_, _, by rw [HK.out]; rfl⟩, HG.out⟩
end Go.Proofs.YtlflblngbneacabGreatDoor

/- The contracts of the program's SumsTell, IsDetecting and DecodeSums. Conditions: the slices read as integers. -/
namespace Go.Proofs.YtlflblngbneacabGreatDoor
open Go.RowKit

set_option maxRecDepth 100000 in
set_option maxHeartbeats 3200000 in
theorem implTell (n : Int) (v : Value) (P : List Int) (w : World) (h : IntsAt w v P) (hm : P.length ≤ 1048576) :
    Calls Tryz.prog 76 #[.int .i64 n, v] w fun e w' => e = .returned (.int .i64 (tellI n P)) ∧ Below w.heap.size w w' := by
  have CP := Lib.hid (implPoolsOk n v P w h (by unfold maxLen; omega))
  by_cases hp : poolsB n P = true
  · obtain ⟨⟨n1, n10⟩, hl, hin⟩ := pools_in hp
    obtain ⟨hs1, hs2, hs3, hs4⟩ := shl_top n1 n10
    obtain ⟨N, hN⟩ : ∃ N : Nat, 2 ^ n.toNat = N := ⟨_, rfl⟩
    have hN2 : (2 : Int) ^ n.toNat = (N : Int) := by rw [← hN]; push_cast; rfl
    have hNb : N ≤ 1024 := by omega
    have h0 : 0 < N := by omega
    have HE : Hid (tellI n P = ((seenK P N).length : Int)) := by unfold Hid tellI; rw [if_pos hp, hN]
    rw [hp] at CP
    have CA := Lib.hid (implAllS n n1 n10 N hN v P w h hl hin)
    have HSO := Lib.hid (fun W lo g cap us (hR : RowsI W lo (.slice (some ⟨g, 0, none⟩) N cap) (allSL P N) us) => implSortRows P hm W lo g cap N us h0 hNb hR)
    have HCO := Lib.hid (fun (p : Nat → Nat) W lo g cap us (hR : RowsI W lo (.slice (some ⟨g, 0, none⟩) N cap) ((List.range N).map fun i => sumL P (p i : Nat)) us) => implCompact (fun i => sumL P (p i : Nat)) (fun i => by rw [sumL_len]; exact hm) W lo g cap N us h0 hNb hR)
    have HLE : Hid (∀ p : Nat → Nat, Sorted P N p → (uniqF (fun i => sumL P (p i : Nat)) N).length = (seenK P N).length) := fun p hp =>
      runs_seen P N _ hp.up (fun i hi => ⟨p i, hp.lt i hi, rfl⟩) (fun k hk => by obtain ⟨i, hi, e⟩ := hp.all k hk; exact ⟨i, hi, by rw [e]⟩)
    obtain ⟨a, c, rfl, -⟩ := h
    unfold RowsS at CA
    have HAL := Lib.hid (allSL_len P N)
    generalize allSL P N = S at CA HSO HAL
    generalize (seenK P N).length = ans at HE HLE
    clear hin hs1 hs2 hs3 hs4 hN hN2 hp
    generalize P.length = m at CP CA hm hl ⊢
    go_enter Tryz.func76, Tryz.ntmps76
    go_wp2_with fail
    refine CP.out.mono ?_
    rintro e w1 ⟨rfl, rfl⟩
    go_wp2_with fail
    refine CA.out.mono ?_
    rintro e w1 ⟨u, us, rfl, o, bb⟩
    have hNo : ∃ g cap, u = .slice (some ⟨g, 0, none⟩) N cap ∧ w.heap.size ≤ g := by
      have h1 := o.2.1
      rw [HAL.out] at h1
      rcases h1.2 with ⟨_, e⟩ | ⟨g, cap, cur, e, e2, _⟩
      · omega
      · exact ⟨g, cap, e, e2⟩
    obtain ⟨g, cap, rfl, hg⟩ := hNo
    have O := Lib.hid o
    have B := Lib.hid bb
    have hgs := (o.2.1.lt g rfl).2
    clear o bb
    go_wp2_with fail
    refine (HSO.out _ _ _ _ _ O.out).mono ?_
    rintro e w2 ⟨rfl, p, us2, hS, o2, gr⟩
    have O2 := Lib.hid o2
    have B2 := Lib.hid (Below.grown B.out gr (by have := B.out.size; exact this) (fun j hj => by cases hj; exact hg))
    have HEQ := Lib.hid (HLE.out p hS)
    clear o2 gr hS O
    go_wp2_with fail
    refine (HCO.out p _ _ _ _ _ O2.out).mono ?_
    rintro e w3 ⟨⟨a3, c3, rfl⟩, gr⟩
    have B3 := Lib.hid (Below.grown B2.out gr (by have := B2.out.size; exact this) (fun j hj => by cases hj; exact hg))
    have HEE := HEQ.out
    clear gr
    generalize (uniqF (fun i => sumL P (p i : Nat)) N).length = ans2 at HEE ⊢
    subst HEE
    go_wp2
    go_ret
    exact ⟨ret_int HE.out.symm, B3.out⟩
  · have hp2 : poolsB n P = false := by simpa using hp
    have HE : Hid (tellI n P = -1) := by unfold Hid tellI; rw [if_neg hp]
    rw [hp2] at CP
    obtain ⟨a, c, rfl, -⟩ := h
    generalize tellI n P = r at HE ⊢
    clear hp hp2
    go_enter Tryz.func76, Tryz.ntmps76
    go_wp2_with fail
    refine CP.out.mono ?_
    rintro e w1 ⟨rfl, rfl⟩
    go_wp2
    go_ret
    exact ⟨ret_int HE.out.symm, Below.refl _ _⟩

set_option maxRecDepth 100000 in
set_option maxHeartbeats 3200000 in
theorem implDetecting (n : Int) (v : Value) (P : List Int) (w : World) (h : IntsAt w v P) (hm : P.length ≤ 1048576) :
    Calls Tryz.prog 27 #[.int .i64 n, v] w fun e w' => e = .returned (.bool (detB n P)) ∧ Below w.heap.size w w' := by
  have CP := Lib.hid (fun W hW => implPoolsOk n v P W hW (by unfold maxLen; omega))
  have CT := Lib.hid (fun W hW => implTell n v P W hW hm)
  by_cases hp : poolsB n P = true
  · obtain ⟨⟨n1, n10⟩, hl, hin⟩ := pools_in hp
    obtain ⟨hs1, hs2, hs3, hs4⟩ := shl_top n1 n10
    obtain ⟨N, hN⟩ : ∃ N : Nat, 2 ^ n.toNat = N := ⟨_, rfl⟩
    have hN2 : (2 : Int) ^ n.toNat = (N : Int) := by rw [← hN]; push_cast; rfl
    rw [hN2] at hs1
    have HE := Lib.hid (det_tell hp)
    rw [hN] at HE
    rw [hp] at CP
    have H := Lib.hid h
    obtain ⟨a, c, rfl, -⟩ := h
    generalize detB n P = r at HE ⊢
    generalize tellI n P = t at HE CT
    clear hin hs2 hs3 hs4 hN hp hl
    generalize P.length = m at CP CT H hm ⊢
    have hr := HE.out
    clear HE
    subst hr
    go_enter Tryz.func27, Tryz.ntmps27
    go_wp2_with fail
    first | (go_region_with (first | (go_at_call 65; refine (CP.out _ (H.out.below (below_drewN (Below.refl _ _) 1))).mono ?_; rintro e w1 ⟨rfl, rfl⟩) | (go_at_call 76; refine (CT.out _ (H.out.below (below_drewN (Below.refl _ _) 1))).mono ?_; rintro e w1 ⟨rfl, hb1⟩; have HB := Lib.hid hb1; clear hb1) | fail)) | fail
    all_goals (go_wp2; go_ret; exact ⟨rfl, ⟨HB.out.os, HB.out.tape, HB.out.output, HB.out.size, HB.out.block⟩⟩)
  · have hp2 : poolsB n P = false := by simpa using hp
    have HE : Hid (detB n P = false) := by unfold Hid detB; rw [hp2]; rfl
    rw [hp2] at CP
    have H := Lib.hid h
    obtain ⟨a, c, rfl, -⟩ := h
    rw [HE.out]
    clear hp hp2 CT HE
    generalize P.length = m at CP H hm ⊢
    go_enter Tryz.func27, Tryz.ntmps27
    go_wp2_with fail
    go_quiet (first | (go_at_call 65; exact quiet_of (CP.out _ (H.out.drewN _))) | fail)
    go_wp2
    go_ret
    exact ⟨rfl, below_drewN (Below.refl _ _) _⟩
end Go.Proofs.YtlflblngbneacabGreatDoor
