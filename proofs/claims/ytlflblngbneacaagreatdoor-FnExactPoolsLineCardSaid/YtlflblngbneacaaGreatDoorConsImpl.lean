/- The contracts of slices.Equal on truth values and of the program's ConsistentSets. Conditions: the slices read as integers and as truth values, and are short enough to be counted. -/
import Derived.Test.YtlflblngbneacaaGreatDoorSetsOf
import Derived.Test.YtlflblngbneacaaGreatDoorSureImpl
import Derived.Test.YtlflblngbneacaaGreatDoorGSet
import Derived.Deep.QuietTactic
import Derived.Maps.AppendAt
namespace Go.Proofs.YtlflblngbneacaaGreatDoor
open Go.RowKit Go.Shelf

set_option maxHeartbeats 1600000 in
theorem implEqualB (u v : Value) (A B : List Bool) (w : World) (h1 : BoolsAt w u A) (h2 : BoolsAt w v B) (m1 : A.length ≤ 1048576) :
    Calls Tryz.prog 127 #[u, v] w fun e w' => e = .returned (.bool (A == B)) ∧ ∃ m, w' = w.drewN m := by
  obtain ⟨a1, c1, rfl, h1⟩ := h1
  obtain ⟨a2, c2, rfl, h2⟩ := h2
  have H1 : Hid (∀ i (h : i < A.length), ∃ b o, a1 = some ⟨b, o, none⟩ ∧ w.cell? ⟨b, o + i, none⟩ = some (.bool A[i])) := by
    intro i hi
    rcases h1 with rfl | ⟨b, o, rfl, hc⟩
    · simp at hi
    · exact ⟨b, o, rfl, hc i hi⟩
  have H2 : Hid (∀ i (h : i < B.length), ∃ b o, a2 = some ⟨b, o, none⟩ ∧ w.cell? ⟨b, o + i, none⟩ = some (.bool B[i])) := by
    intro i hi
    rcases h2 with rfl | ⟨b, o, rfl, hc⟩
    · simp at hi
    · exact ⟨b, o, rfl, hc i hi⟩
  clear h1 h2
  by_cases hl : A.length = B.length
  · obtain ⟨r, hr⟩ : ∃ r, (A == B) = r := ⟨_, rfl⟩
    have HR := Lib.hid hr
    rw [hr]
    clear hr
    obtain ⟨n, hn⟩ : ∃ n, A.length = n := ⟨_, rfl⟩
    have hm : B.length = n := by omega
    have HN := Lib.hid hn
    have HM := Lib.hid hm
    rw [hn] at m1 ⊢
    rw [hm]
    clear hn hm hl
    have hne : ((n : Int) != (n : Int)) = false := by simp
    go_enter Tryz.func127, Tryz.ntmps127
    go_wp2
    go_loopw [5, 13] (fun _ i wr => ∃ k m : Nat, k ≤ n ∧ i = .int .i64 k ∧ Hid (A.take k = B.take k) ∧ wr = w.drewN m) (fun _ i _ => n - (intOf i).toNat)
    case atStart => exact ⟨0, 0, Nat.zero_le _, rfl, by simp [Hid], rfl⟩
    case round =>
      obtain ⟨k, m, hk, rfl, HF, rfl⟩ := hrel
      by_cases hlt : k < n
      · have k1 : k < A.length := by rw [HN.out]; exact hlt
        have k2 : k < B.length := by rw [HM.out]; exact hlt
        obtain ⟨b, o, rfl, e0⟩ := H1.out k k1
        obtain ⟨b', o', rfl, e1⟩ := H2.out k k2
        have hst : A.take (k + 1) = A.take k ++ [A[k]] := List.take_succ_eq_append_getElem k1
        have hsu : B.take (k + 1) = B.take k ++ [B[k]] := List.take_succ_eq_append_getElem k2
        have hno : A[k] ≠ B[k] → r = false := fun h => by
          rw [← HR.out, beq_eq_false_iff_ne]
          intro e
          subst e
          exact h rfl
        obtain ⟨x, hx⟩ : ∃ x, A[k] = x := ⟨_, rfl⟩
        obtain ⟨y, hy⟩ : ∃ y, B[k] = y := ⟨_, rfl⟩
        rw [hx] at e0 hst hno
        rw [hy] at e1 hsu hno
        have i0 : (0 : Int) ≤ (k : Int) := by omega
        have i1 : (k : Int) < (n : Int) := by omega
        clear hx hy k1 k2 hne
        by_cases hxy : x = y
        · subst hxy
          have HF2 : Hid (A.take (k + 1) = B.take (k + 1)) := by unfold Hid; rw [hst, hsu, HF.out]
          have hnx : (x != x) = false := by simp
          clear hst hsu hno
          go_wp2
          go_quiet (fail)
          go_wp2
          go_roundw
          case rel => exact ⟨k + 1, _, by omega, by go_num, HF2, rfl⟩
          case measure => simp [intOf]; omega
        · have hne : (x == y) = false := beq_eq_false_iff_ne.2 hxy
          have HF2 := Lib.hid (hno hxy)
          clear hst hsu hno
          go_wp2
          go_quiet (fail)
          go_wp2
          go_ret
          exact ⟨ret_bool HF2.out.symm, _, World.drewN_drewN ..⟩
      · have HF2 : Hid (r = true) := by
          obtain rfl : k = n := by omega
          have h3 := HF.out
          rw [List.take_of_length_le (by rw [HN.out]; omega), List.take_of_length_le (by rw [HM.out]; omega)] at h3
          unfold Hid
          rw [← HR.out, h3]
          simp
        have hk2 : ¬ ((k : Int) < (n : Int)) := by omega
        clear hne
        go_wp2
        go_ret
        exact ⟨ret_bool HF2.out.symm, _, rfl⟩
  · have HE : Hid ((A == B) = false) := beq_len hl
    generalize (A == B) = r at HE ⊢
    obtain ⟨p, hp⟩ : ∃ p, A.length = p := ⟨_, rfl⟩
    obtain ⟨q, hq⟩ : ∃ q, B.length = q := ⟨_, rfl⟩
    rw [hp, hq] at hl
    rw [hp] at m1 ⊢
    rw [hq]
    have hne : ((p : Int) != (q : Int)) = true := by simp; omega
    clear hp hq H1 H2
    go_enter Tryz.func127, Tryz.ntmps127
    go_wp2
    go_ret
    exact ⟨ret_bool HE.out.symm, 0, rfl⟩

/-- A set of at most ten items. -/
abbrev SetN := { x : Nat // x ≤ 1023 }
def sets0 (l : List SetN) : List Nat := l.map (·.1)
theorem sets0_snoc (l : List SetN) (x : SetN) : sets0 (l ++ [x]) = sets0 l ++ [x.1] := by simp [sets0]
theorem sets0_len (l : List SetN) : (sets0 l).length = l.length := by simp [sets0]

/-- The value that setsOf returns yields all such sets in their order, or a part of them where a round has said 'no more'. -/
theorem sets_stops (n : Nat) (hn : 6 ≤ n) (b1 b2 : Nat) (m most : Int) (m1 : 1 ≤ m) (m10 : m ≤ 10) (N : Nat) (hN : 2 ^ m.toNat = N) (w : World) (hb1 : Boxed w b1 3 (.int .i64 m)) (hb2 : Boxed w b2 3 (.int .i64 most)) :
    SeqStopsK Fence.wide n Tryz.prog 150 #[.pointer (some ⟨b1, 0, none⟩), .pointer (some ⟨b2, 0, none⟩)] (fun x : SetN => #[Value.int .i64 (x.1 : Nat)]) (SameBlk b2) (fun ys => sets0 ys = setsK most N) (fun pre => sets0 pre <+: setsK most N) 1024 w := fun l J Jx W hW hJ _ hY h0 => by
  refine (sets1_in n hn l b1 b2 m most m1 m10 N hN (fun pre V => ∃ q, sets0 q = pre ∧ J q V) (fun pre V => ∃ q, sets0 q = pre ∧ Jx q V) W
    (fun s V V' row ⟨q, hq, hj⟩ hg hr => ⟨q, hq, hJ q V V' row hj hg hr⟩) ?_ (boxedDeep hb1 hW) (boxedDeep hb2 hW) ⟨[], rfl, h0⟩).mono ?_
  · rintro pre x V ⟨q, rfl, hj⟩ hx hl
    rw [sets0_len] at hl
    refine (hY q ⟨x, hx⟩ V hj hl).mono ?_
    rintro e V' (⟨he, hj', hk⟩ | ⟨he, hj'⟩)
    · exact .inl ⟨he, ⟨_, sets0_snoc _ _, hj'⟩, hk⟩
    · exact .inr ⟨he, ⟨_, sets0_snoc _ _, hj'⟩⟩
  · rintro e V ⟨hv, (⟨ys, rfl, q, hq, hj⟩ | ⟨pre, hp, q, rfl, hj⟩)⟩
    · exact ⟨hv, .inl ⟨q, hq, hj⟩⟩
    · exact ⟨hv, .inr ⟨q, hp, hj⟩⟩

/-- The consistent ones among the sets that have come. -/
def fitL (P : List Int) (R : List Bool) (l : List Nat) : List Int := (l.map fun (j : Nat) => (j : Int)).filter fun b => resL P b == R
theorem fit_snoc (P : List Int) (R : List Bool) (l : List SetN) (x : SetN) : fitL P R (sets0 (l ++ [x])) = if (resL P (x.1 : Nat) == R) = true then fitL P R (sets0 l) ++ [(x.1 : Int)] else fitL P R (sets0 l) := by
  rw [sets0_snoc]
  unfold fitL
  rw [List.map_append, List.filter_append]
  split <;> rename_i h <;> simp [h]
theorem fit_len (P : List Int) (R : List Bool) (l : List Nat) : (fitL P R l).length ≤ l.length := by
  unfold fitL
  refine Nat.le_trans (List.length_filter_le _ _) ?_
  simp
theorem fit_cons (n : Int) (P : List Int) (R : List Bool) (most : Int) : fitL P R (setsK most (2 ^ n.toNat)) = consL n P R most := by
  unfold fitL setsK consL
  rw [List.filter_map, List.filter_map, List.filter_filter]
  congr 1
  refine List.filter_congr fun x _ => ?_
  simp [Function.comp, Bool.and_comm]
theorem cons_none {n : Int} {P : List Int} {R : List Bool} {most : Int} (h : rokB n P R = false) : consR n P R most = [] := by
  unfold consR
  split
  · rename_i hp
    unfold rokB at h
    rw [hp, Bool.true_and, beq_eq_false_iff_ne] at h
    unfold consL
    rw [List.filter_eq_nil_iff]
    intro x _
    rw [Bool.and_eq_true, not_and]
    intro _ he
    rw [beq_iff_eq] at he
    exact h (by rw [← he, resL_len])
  · rfl
end Go.Proofs.YtlflblngbneacaaGreatDoor
