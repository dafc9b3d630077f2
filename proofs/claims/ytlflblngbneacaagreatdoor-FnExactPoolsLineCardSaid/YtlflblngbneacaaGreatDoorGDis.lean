/- Several texts in one file; each says what it proves and under which condition. No condition. -/
import Derived.Test.YtlflblngbneacaaGreatDoorGPool
import Derived.Test.YtlflblngbneacaaGreatDoorPoolsSpec
/- Disjunct and separable pools, plainly. No condition. -/
namespace Go.Proofs.YtlflblngbneacaaGreatDoor
open Go.RowKit

/-- All of so many numbers from one on. -/
def allFrom (f : Nat → Bool) : Nat → Nat → Bool
  | 0, _ => true
  | m + 1, a => f a && allFrom f m (a + 1)
/-- The first of so many numbers from one on that has something. -/
def seekF {α : Type} (f : Nat → Option α) : Nat → Nat → Option α
  | 0, _ => none
  | m + 1, a => (f a).or (seekF f m (a + 1))
theorem allFrom_step (f : Nat → Bool) {N a : Nat} (h : a < N) : allFrom f (N - a) a = (f a && allFrom f (N - (a + 1)) (a + 1)) := by
  rw [show N - a = (N - (a + 1)) + 1 by omega]
  rfl
theorem allFrom_end (f : Nat → Bool) {m : Nat} (a : Nat) (h : m = 0) : allFrom f m a = true := by subst h; rfl
theorem seekF_step {α : Type} (f : Nat → Option α) {N a : Nat} (h : a < N) : seekF f (N - a) a = (f a).or (seekF f (N - (a + 1)) (a + 1)) := by
  rw [show N - a = (N - (a + 1)) + 1 by omega]
  rfl
theorem seekF_end {α : Type} (f : Nat → Option α) {m : Nat} (a : Nat) (h : m = 0) : seekF f m a = none := by subst h; rfl

/-- Whether a pool holds the item and none of the set. -/
def freeB (P : List Int) (item set : Int) : Bool := P.any fun p => andI p item != 0 && andI p set == 0
def disAt (P : List Int) (d : Int) (k s : Nat) : Bool := !((andI s (2 ^ k) == 0 && decide (cntI s ≤ d)) && !freeB P (2 ^ k) s)
def okD (n : Int) (P : List Int) (d : Int) : Bool := poolsB n P && (decide (1 ≤ d) && decide (d ≤ 3))
def disR (n : Int) (P : List Int) (d : Int) : Bool := okD n P d && allFrom (fun k => allFrom (disAt P d k) (2 ^ n.toNat) 0) n.toNat 0
def sameAt (P : List Int) (d : Int) (a b : Nat) : Option (Int × Int) := if (decide (cntI b ≤ d) && (resL P a == resL P b)) = true then some ((a : Int), (b : Int)) else none
def weakA (P : List Int) (d : Int) (N a : Nat) : Option (Int × Int) := if cntI a ≤ d then seekF (sameAt P d a) (N - (a + 1)) (a + 1) else none
/-- Two sets that the pools do not tell apart. -/
def weakO (n : Int) (P : List Int) (d : Int) : Option (Int × Int) := if okD n P d = true then seekF (weakA P d (2 ^ n.toNat)) (2 ^ n.toNat) 0 else none
def weakL : Option (Int × Int) → List Int
  | none => []
  | some (a, b) => [a, b]
def sepR (n : Int) (P : List Int) (d : Int) : Bool := okD n P d && !(weakO n P d).isSome
theorem weakL_len : ∀ o, (weakL o).length ≤ 2
  | none => by decide
  | some (_, _) => Nat.le_refl _
theorem and_top {x y : Int} (h0 : 0 ≤ x) (h1 : x ≤ 1023) (g0 : 0 ≤ y) (g1 : y ≤ 1023) : 0 ≤ andI x y ∧ andI x y ≤ 1023 := by
  have := and_in h0 h1 g0 g1
  omega
end Go.Proofs.YtlflblngbneacaaGreatDoor

/- The contracts of the model's TestPools, ConsistentSets, SurelyGood and SurelyBad. Conditions: the slices read as integers and as truth values, and are short enough to be counted. -/
namespace Go.Proofs.YtlflblngbneacaaGreatDoor
open Go.RowKit

/-- What a function that tests pools gives back. -/
def TestsR (n : Int) (P : List Int) (bad : Int) (w : World) (e : Ending) (w' : World) : Prop :=
  ∃ u, e = .returned (.tuple #[u, .bool (testsB n P bad)]) ∧ OwnB w' w.heap.size u (testR n P bad) ∧ Below w.heap.size w w'
theorem OwnB.nil (X : World) (B : Nat) : OwnB X B (.slice none 0 0) [] := World.ownsRow_nil _ _ _ _
theorem TestsR.no {n : Int} {P : List Int} {bad : Int} {w w' : World} (h : testsB n P bad = false) (hb : Below w.heap.size w w') : TestsR n P bad w (.returned (.tuple #[.slice none 0 0, .bool false])) w' := by
  refine ⟨_, by rw [h], ?_, hb⟩
  unfold testR
  rw [h]
  exact OwnB.nil _ _
theorem TestsR.yes {n : Int} {P : List Int} {bad : Int} {w w' : World} {u : Value} (h : testsB n P bad = true) (ho : OwnB w' w.heap.size u (resL P bad)) (hb : Below w.heap.size w w') : TestsR n P bad w (.returned (.tuple #[u, .bool true])) w' := by
  refine ⟨u, by rw [h], ?_, hb⟩
  unfold testR
  rwa [h]

theorem beq_len {A B : List Bool} (h : A.length ≠ B.length) : (A == B) = false := by
  rw [beq_eq_false_iff_ne]
  exact fun e => h (by rw [e])
set_option maxHeartbeats 1600000 in
theorem specSame (va vb : Value) (A B : List Bool) (w : World) (ha : BoolsAt w va A) (hb : BoolsAt w vb B) (hm : A.length ≤ maxLen) :
    Calls Tryz.prog 94 #[va, vb] w fun e w' => e = .returned (.bool (A == B)) ∧ w = w' := by
  obtain ⟨a, ca, rfl, ha⟩ := ha
  obtain ⟨b, cb, rfl, hb⟩ := hb
  have HA := Lib.hid ha
  have HB := Lib.hid hb
  unfold maxLen at hm
  obtain ⟨r, hr⟩ : ∃ r, (A == B) = r := ⟨_, rfl⟩
  have HR := Lib.hid hr
  rw [hr]
  clear ha hb hr
  by_cases hl : A.length = B.length
  · obtain ⟨m, hmm⟩ : ∃ m, A.length = m := ⟨_, rfl⟩
    have HL : Hid (A.length = m ∧ B.length = m) := ⟨hmm, by rw [← hl]; exact hmm⟩
    rw [← hl, hmm]
    rw [hmm] at hm
    have hne : ((m : Int) != (m : Int)) = false := by simp
    clear hl hmm
    go_enter Tryz.func94, Tryz.ntmps94
    go_wp2
    clear hne
    go_loopw [14] (fun iv wr => ∃ i : Nat, i ≤ m ∧ iv = .int .i64 i ∧ wr = w ∧ Hid (A.take i = B.take i)) (fun iv _ => m - (intOf iv).toNat)
    case atStart => exact ⟨0, Nat.zero_le _, rfl, rfl, by unfold Hid; simp⟩
    case round =>
      obtain ⟨i, hi, rfl, rfl, HT⟩ := hrel
      by_cases hlt : i < m
      · have h1 : i < A.length := by rw [HL.out.1]; exact hlt
        have h2 : i < B.length := by rw [HL.out.2]; exact hlt
        rcases HA.out with h0 | ⟨b1, o1, rfl, c1⟩
        · rw [h0] at h1; simp at h1
        rcases HB.out with h0 | ⟨b2, o2, rfl, c2⟩
        · rw [h0] at h2; simp at h2
        have e1 := c1 i h1
        have e2 := c2 i h2
        have HS : Hid (A[i] = B[i] → A.take (i + 1) = B.take (i + 1)) := fun h => by
          rw [List.take_succ_eq_append_getElem h1, List.take_succ_eq_append_getElem h2, HT.out, h]
        have HF : Hid (A[i] ≠ B[i] → r = false) := fun h => by
          rw [← HR.out, beq_eq_false_iff_ne]
          intro e
          subst e
          exact h rfl
        generalize A[i] = x at e1 HS HF
        generalize B[i] = y at e2 HS HF
        have i0 : (0 : Int) ≤ (i : Int) := by omega
        have i1 : (i : Int) < (m : Int) := by omega
        clear c1 c2 h1 h2
        by_cases hxy : x = y
        · subst hxy
          have HS2 := Lib.hid (HS.out rfl)
          have hne : (x != x) = false := by simp
          go_wp2
          go_roundw
          case rel => exact ⟨i + 1, by omega, by go_num, by first | rfl | trivial, HS2⟩
          case measure => simp [intOf]; omega
        · have hne : (x == y) = false := beq_eq_false_iff_ne.2 hxy
          have HE := Lib.hid (HF.out hxy)
          go_wp2
          go_ret
          exact ⟨ret_bool HE.out.symm, rfl⟩
      · obtain rfl : i = m := by omega
        have HE : Hid (r = true) := by
          have := HT.out
          rw [List.take_of_length_le (by rw [HL.out.1]; omega), List.take_of_length_le (by rw [HL.out.2]; omega)] at this
          unfold Hid
          rw [← HR.out, this]
          simp
        go_wp2
        go_ret
        exact ⟨ret_bool HE.out.symm, rfl⟩
  · have HE : Hid (r = false) := by unfold Hid; rw [← HR.out]; exact beq_len hl
    obtain ⟨m, hmm⟩ : ∃ m, A.length = m := ⟨_, rfl⟩
    obtain ⟨k, hk⟩ : ∃ k, B.length = k := ⟨_, rfl⟩
    rw [hmm, hk] at hl
    rw [hmm] at hm ⊢
    rw [hk]
    have hne : ((m : Int) != (k : Int)) = true := by simp; omega
    clear hmm hk
    go_enter Tryz.func94, Tryz.ntmps94
    go_wp2
    go_ret
    exact ⟨ret_bool HE.out.symm, rfl⟩

/-- The sets among the first k. -/
def consK (P : List Int) (R : List Bool) (most : Int) (k : Nat) : List Int :=
  ((List.range k).map fun (j : Nat) => (j : Int)).filter fun b => decide (cntI b ≤ most) && (resL P b == R)
theorem consK_succ (P : List Int) (R : List Bool) (most : Int) (k : Nat) : consK P R most (k + 1) = if (decide (cntI k ≤ most) && (resL P k == R)) = true then consK P R most k ++ [(k : Int)] else consK P R most k := by
  unfold consK
  rw [List.range_succ, List.map_append, List.filter_append]
  simp only [List.map_cons, List.map_nil, List.filter_cons, List.filter_nil]
  split <;> simp
theorem consK_len (P : List Int) (R : List Bool) (most : Int) (k : Nat) : (consK P R most k).length ≤ k := by
  unfold consK
  refine Nat.le_trans (List.length_filter_le _ _) ?_
  simp
def ListsI2 (L : List Int) (w : World) (e : Ending) (w' : World) : Prop := ∃ v, e = .returned v ∧ Own w' w.heap.size v L ∧ Below w.heap.size w w'

theorem getD_at {α : Type} {l : List α} {k : Nat} (d : α) (h : k < l.length) : l.getD k d = l[k] := by
  rw [List.getD_eq_getElem?_getD, List.getElem?_eq_getElem h]
  rfl
end Go.Proofs.YtlflblngbneacaaGreatDoor

/- The contracts of the model's IsDisjunct, Weakness and IsSeparable. Condition: the slice reads as integers. -/
namespace Go.Proofs.YtlflblngbneacaaGreatDoor
open Go.RowKit

theorem pow_small {k : Nat} (h : k ≤ 10) : IntKind.i64.wrap (2 ^ k) = 2 ^ k ∧ (1 : Int) ≤ 2 ^ k ∧ (2 : Int) ^ k ≤ 1024 := by
  have := two_pow_in k h
  refine ⟨?_, this⟩
  rw [IntKind.wrap_i64]
  omega

theorem Own.lit2 (X : World) (B : Nat) (a b : Int) (hB : B ≤ X.heap.size) : Own (X.alloc (.cells #[.int .i64 a, .int .i64 b] 3)) B (.slice (some ⟨X.heap.size, 0, none⟩) 2 2) [a, b] :=
  World.ownsRow_lit (base := B) (e := 3) (size := 1) X #[.int .i64 a, .int .i64 b] 2 hB (by unfold maxLen; omega) rfl
/-- What a function that looks for two sets gives back. -/
def Weaks (o : Option (Int × Int)) (w : World) (e : Ending) (w' : World) : Prop :=
  ∃ u, e = .returned (.tuple #[u, .bool o.isSome]) ∧ Own w' w.heap.size u (weakL o) ∧ Below w.heap.size w w'
theorem Weaks.no {o : Option (Int × Int)} {w w' : World} (h : o = none) (hb : Below w.heap.size w w') : Weaks o w (.returned (.tuple #[.slice none 0 0, .bool false])) w' := by
  subst h
  exact ⟨_, rfl, Own.nil _ _, hb⟩
theorem Weaks.yes {o : Option (Int × Int)} {w w' : World} {a b : Int} {u : Value} (h : o = some (a, b)) (ho : Own w' w.heap.size u [a, b]) (hb : Below w.heap.size w w') : Weaks o w (.returned (.tuple #[u, .bool true])) w' := by
  subst h
  exact ⟨_, rfl, ho, hb⟩

set_option maxRecDepth 100000 in
set_option maxHeartbeats 3200000 in
theorem specWeakness (n : Int) (v : Value) (P : List Int) (d : Int) (w : World) (h : IntsAt w v P) (hm : P.length ≤ 1048576) :
    Calls Tryz.prog 63 #[.int .i64 n, v, .int .i64 d] w (Weaks (weakO n P d) w) := by
  have CP := Lib.hid (specPoolsOk n v P w h (by unfold maxLen; omega))
  have CI := Lib.hid (fun W => l01In_is d 1 3 W)
  have CC := Lib.hid (fun s hs W => specCount s hs W)
  have CT := Lib.hid (fun bad W hW => specTest v P bad W hW hm)
  have CS := Lib.hid (fun va vb A B W ha hb h1 => specSame va vb A B W ha hb h1)
  have HRL : Hid (∀ bad, (resL P bad).length ≤ maxLen) := fun bad => by rw [resL_len]; unfold maxLen; omega
  have HR : Hid (weakO n P d = if (poolsB n P && (decide (1 ≤ d) && decide (d ≤ 3))) = true then seekF (weakA P d (2 ^ n.toNat)) (2 ^ n.toNat) 0 else none) := rfl
  have HI : Hid (poolsB n P = true → 1 ≤ n ∧ n ≤ 10) := fun hp => (pools_in hp).1
  have HG : Hid (∀ N a, weakA P d N a = if cntI (a : Int) ≤ d then seekF (sameAt P d a) (N - (a + 1)) (a + 1) else none) := fun _ _ => rfl
  have HD : Hid (∀ a b, sameAt P d a b = if (decide (cntI (b : Int) ≤ d) && (resL P a == resL P b)) = true then some ((a : Int), (b : Int)) else none) := fun _ _ => rfl
  have H := Lib.hid h
  obtain ⟨a0, c, rfl, -⟩ := h
  clear hm
  unfold ListsB at CT
  generalize hr : weakO n P d = r at HR ⊢
  clear hr
  generalize poolsB n P = pb at CP HR HI
  generalize (decide (1 ≤ d) && decide (d ≤ 3)) = ib at CI HR
  generalize weakA P d = G at HR HG
  generalize sameAt P d = D at HG HD
  cases pb with
  | false =>
    have HE : Hid (r = none) := HR.out
    go_enter Tryz.func63, Tryz.ntmps63
    go_wp2_with fail
    refine CP.out.mono ?_
    rintro e w1 ⟨rfl, rfl⟩
    go_wp2
    go_ret2
    exact Weaks.no HE.out (Below.refl _ _)
  | true =>
    cases ib with
    | false =>
      have HE : Hid (r = none) := HR.out
      go_enter Tryz.func63, Tryz.ntmps63
      go_wp2_with fail
      refine CP.out.mono ?_
      rintro e w1 ⟨rfl, rfl⟩
      go_wp2_with fail
      refine (CI.out _).mono ?_
      rintro e w2 ⟨rfl, rfl⟩
      go_wp2
      go_ret2
      exact Weaks.no HE.out (Below.refl _ _)
    | true =>
      obtain ⟨n1, n10⟩ := HI.out rfl
      obtain ⟨m, rfl⟩ : ∃ m : Nat, n = m := ⟨n.toNat, by omega⟩
      obtain ⟨hs1, -, -⟩ := pow_small (k := m) (by omega)
      obtain ⟨N, hN⟩ : ∃ N : Nat, 2 ^ m = N := ⟨_, rfl⟩
      have hN2 : (2 : Int) ^ m = (N : Int) := by rw [← hN]; exact_mod_cast rfl
      have hNb : N ≤ 1024 := by have := pow_small (k := m) (by omega); omega
      have HE : Hid (r = seekF (G N) (N - 0) 0) := by
        unfold Hid
        rw [HR.out, Int.toNat_natCast, hN]
        rfl
      have HG2 := Lib.hid (HG.out N)
      rw [hN2] at hs1
      clear HR HI hN HG
      go_enter Tryz.func63, Tryz.ntmps63
      go_wp2_with fail
      refine CP.out.mono ?_
      rintro e w1 ⟨rfl, rfl⟩
      go_wp2_with fail
      refine (CI.out _).mono ?_
      rintro e w2 ⟨rfl, rfl⟩
      clear CP CI
      go_wp2
      go_loopw [8] (fun av wr => ∃ a : Nat, a ≤ N ∧ av = .int .i64 a ∧ Hid (Below w.heap.size w wr) ∧ Hid (r = seekF (G N) (N - a) a)) (fun av _ => N - (intOf av).toNat)
      case atStart => exact ⟨0, Nat.zero_le _, rfl, Below.refl _ _, HE⟩
      case round =>
        clear HE
        obtain ⟨a, ha, rfl, B1, HE⟩ := hrel
        by_cases hlt : a < N
        · obtain ⟨t, ht⟩ : ∃ t, seekF (G N) (N - (a + 1)) (a + 1) = t := ⟨_, rfl⟩
          have HT := Lib.hid ht
          have HE1 : Hid (r = (if cntI (a : Int) ≤ d then seekF (D a) (N - (a + 1)) (a + 1) else none).or t) := by
            unfold Hid
            rw [HE.out, seekF_step _ hlt, HG2.out, ht]
          have aN : (a : Int) < (N : Int) := by omega
          have CC1 := Lib.hid (CC.out (a : Int) (by omega))
          have HDA := Lib.hid (HD.out a)
          clear HE ht
          generalize cntI (a : Int) = ca at CC1 HE1
          by_cases hc : ca ≤ d
          · rw [if_pos hc] at HE1
            go_wp2_with fail
            refine (CC1.out _).mono ?_
            rintro e w3 ⟨rfl, rfl⟩
            clear CC1
            go_wp2
            go_loopw [9] (fun bv ws => ∃ b : Nat, a + 1 ≤ b ∧ b ≤ N ∧ bv = .int .i64 b ∧ Hid (Below w.heap.size w ws) ∧ Hid (r = (seekF (D a) (N - b) b).or t)) (fun bv _ => N - (intOf bv).toNat)
            case atStart => exact ⟨a + 1, Nat.le_refl _, by omega, by go_num, B1, HE1⟩
            case round =>
              clear HE1 B1
              obtain ⟨b, hab, hb, rfl, B2, HE⟩ := hrel
              by_cases hlb : b < N
              · have bN : (b : Int) < (N : Int) := by omega
                have HS : Hid (r = (if (decide (cntI (b : Int) ≤ d) && (resL P a == resL P b)) = true then some ((a : Int), (b : Int)) else none).or ((seekF (D a) (N - (b + 1)) (b + 1)).or t)) := by
                  unfold Hid
                  rw [HE.out, seekF_step _ hlb, HDA.out, Option.or_assoc]
                have CC2 := Lib.hid (CC.out (b : Int) (by omega))
                have CTA := Lib.hid (CT.out (a : Int))
                have CTB := Lib.hid (CT.out (b : Int))
                have RLA := Lib.hid (HRL.out (a : Int))
                clear HE
                generalize cntI (b : Int) = cb at CC2 HS
                generalize resL P (a : Int) = ra at CTA HS RLA
                generalize resL P (b : Int) = rb at CTB HS
                by_cases hcb : cb ≤ d
                · rw [decide_eq_true hcb, Bool.true_and] at HS
                  go_wp2_with fail
                  refine (CC2.out _).mono ?_
                  rintro e w4 ⟨rfl, rfl⟩
                  go_wp2_with fail
                  refine (CTA.out _ (H.out.below B2.out)).mono ?_
                  rintro e w5 ⟨ua, rfl, oa, bb⟩
                  obtain ⟨ga, na, qa, rfl⟩ := oa.form
                  have B3 := Lib.hid (below_up B2.out bb)
                  have OA := Lib.hid oa
                  clear bb oa B2
                  go_wp2_with fail
                  refine (CTB.out _ (H.out.below B3.out)).mono ?_
                  rintro e w6 ⟨ub, rfl, ob, bb⟩
                  obtain ⟨gb, nb, qb, rfl⟩ := ob.form
                  have B4 := Lib.hid (below_up B3.out bb)
                  have OA2 := Lib.hid (OA.out.below bb).reads
                  have OB := Lib.hid ob.reads
                  clear bb ob B3 OA
                  have CS1 := Lib.hid (CS.out _ _ ra rb _ OA2.out OB.out RLA.out)
                  clear OA2 OB RLA
                  generalize (ra == rb) = sb at CS1 HS
                  go_wp2_with fail
                  refine CS1.out.mono ?_
                  rintro e w7 ⟨rfl, rfl⟩
                  have hbs : w.heap.size ≤ w6.heap.size := B4.out.size
                  cases sb with
                  | false =>
                    have HZ : Hid (r = (seekF (D a) (N - (b + 1)) (b + 1)).or t) := HS.out
                    clear HS
                    go_wp2
                    go_roundw
                    case rel => exact ⟨b + 1, by omega, by omega, by go_num, B4, HZ⟩
                    case measure => simp [intOf]; omega
                  | true =>
                    have HZ : Hid (r = some ((a : Int), (b : Int))) := HS.out
                    have O5 := Lib.hid (Own.lit2 w6 w.heap.size a b hbs)
                    have B5 := Lib.hid (below_up B4.out (alloc_below w6 (.cells #[.int .i64 (a : Int), .int .i64 (b : Int)] 3)))
                    clear HS
                    go_wp2
                    go_ret2
                    exact Weaks.yes HZ.out O5.out B5.out
                · rw [decide_eq_false hcb, Bool.false_and] at HS
                  have HZ : Hid (r = (seekF (D a) (N - (b + 1)) (b + 1)).or t) := HS.out
                  clear HS
                  go_wp2_with fail
                  refine (CC2.out _).mono ?_
                  rintro e w4 ⟨rfl, rfl⟩
                  go_wp2
                  go_roundw
                  case rel => exact ⟨b + 1, by omega, by omega, by go_num, B2, HZ⟩
                  case measure => simp [intOf]; omega
              · have HZ : Hid (r = seekF (G N) (N - (a + 1)) (a + 1)) := by
                  unfold Hid
                  rw [HE.out, seekF_end _ _ (by omega), HT.out]
                  rfl
                clear HE HT
                go_wp2
                go_roundw
                case rel => exact ⟨a + 1, by omega, by go_num, B2, HZ⟩
                case measure => simp [intOf]; omega
          · rw [if_neg hc] at HE1
            have HZ : Hid (r = seekF (G N) (N - (a + 1)) (a + 1)) := by
              unfold Hid
              rw [HE1.out, HT.out]
              rfl
            have hc2 : d < ca := by omega
            clear HE1 HT
            go_wp2_with fail
            refine (CC1.out _).mono ?_
            rintro e w3 ⟨rfl, rfl⟩
            go_wp2
            go_roundw
            case rel => exact ⟨a + 1, by omega, by go_num, B1, HZ⟩
            case measure => simp [intOf]; omega
        · have HZ : Hid (r = none) := by unfold Hid; rw [HE.out, seekF_end _ _ (by omega)]
          go_wp2
          go_ret2
          exact Weaks.no HZ.out B1.out

set_option maxHeartbeats 1600000 in
theorem specIsSeparable (n : Int) (v : Value) (P : List Int) (d : Int) (w : World) (h : IntsAt w v P) (hm : P.length ≤ 1048576) :
    Calls Tryz.prog 35 #[.int .i64 n, v, .int .i64 d] w fun e w' => e = .returned (.bool (sepR n P d)) ∧ Below w.heap.size w w' := by
  have CP := Lib.hid (fun W hW => specPoolsOk n v P W hW (by unfold maxLen; omega))
  have CI := Lib.hid (fun W => l01In_is d 1 3 W)
  have CW := Lib.hid (specWeakness n v P d w h hm)
  have HR : Hid (sepR n P d = ((poolsB n P && (decide (1 ≤ d) && decide (d ≤ 3))) && !(weakO n P d).isSome)) := rfl
  have H := Lib.hid h
  obtain ⟨a0, c, rfl, -⟩ := h
  clear hm
  unfold Weaks at CW
  generalize sepR n P d = r at HR ⊢
  generalize weakL (weakO n P d) = L at CW
  generalize (weakO n P d).isSome = o at CW HR
  generalize poolsB n P = pb at CP HR
  generalize (decide (1 ≤ d) && decide (d ≤ 3)) = ib at CI HR
  go_enter Tryz.func35, Tryz.ntmps35
  go_wp2_with fail
  refine CW.out.mono ?_
  rintro e w1 ⟨u, rfl, ou, bb⟩
  have B1 := Lib.hid bb
  clear bb ou
  cases pb with
  | false =>
    have HE : Hid (r = false) := HR.out
    go_wp2_with fail
    refine (CP.out _ (H.out.below B1.out)).mono ?_
    rintro e w2 ⟨rfl, rfl⟩
    go_wp2
    go_ret
    exact ⟨ret_bool HE.out.symm, B1.out⟩
  | true =>
    cases ib with
    | false =>
      have HE : Hid (r = false) := HR.out
      go_wp2_with fail
      refine (CP.out _ (H.out.below B1.out)).mono ?_
      rintro e w2 ⟨rfl, rfl⟩
      go_wp2_with fail
      refine (CI.out _).mono ?_
      rintro e w3 ⟨rfl, rfl⟩
      go_wp2
      go_ret
      exact ⟨ret_bool HE.out.symm, B1.out⟩
    | true =>
      have HE : Hid (r = !o) := HR.out
      go_wp2_with fail
      refine (CP.out _ (H.out.below B1.out)).mono ?_
      rintro e w2 ⟨rfl, rfl⟩
      go_wp2_with fail
      refine (CI.out _).mono ?_
      rintro e w3 ⟨rfl, rfl⟩
      go_wp2
      go_ret
      exact ⟨ret_bool HE.out.symm, B1.out⟩
end Go.Proofs.YtlflblngbneacaaGreatDoor
