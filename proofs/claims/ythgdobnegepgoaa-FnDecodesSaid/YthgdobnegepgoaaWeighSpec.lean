/- The contracts of the model's functions on weighings: a number in a list, a valid side, a valid weighing, an outcome. Conditions: the sides read as integers and are short enough to be counted. -/
import Derived.Test.YthgdobnegepgoaaWeigh
import Derived.Test.YthgdobnegepgoaaCaseIn
namespace Go.Proofs.Ythgdobnegepgoaa
open Go.RowKit

/-- Whether a number is in a list. -/
def hasI (l : List Int) (x : Int) : Bool := l.contains x
theorem hasI_mem {l : List Int} {x : Int} : hasI l x = true ↔ x ∈ l := by simp [hasI]
theorem hasI_yes {l : List Int} {k : Nat} {x : Int} (h : k < l.length) (e : l[k] = x) : hasI l x = true := by
  rw [hasI_mem, ← e]
  exact List.getElem_mem h
theorem hasI_step {l : List Int} {k : Nat} {x : Int} (h : k < l.length) (h0 : hasI (l.take k) x = false) (e : ¬ l[k] = x) : hasI (l.take (k + 1)) x = false := by
  unfold hasI at h0 ⊢
  rw [List.take_succ_eq_append_getElem h]
  simp only [List.contains_eq_mem, decide_eq_false_iff_not, List.mem_append, List.mem_singleton] at h0 ⊢
  rintro (h1 | h1)
  · exact h0 h1
  · exact e h1.symm
theorem hasI_end {l : List Int} {k : Nat} {x : Int} (h : l.length ≤ k) (h0 : hasI (l.take k) x = false) : hasI l x = false := by
  rwa [List.take_of_length_le h] at h0

set_option maxHeartbeats 800000 in
theorem specHas (v : Value) (l : List Int) (x : Int) (w : World) (h : IntsAt w v l) (hm : l.length ≤ 100000000) :
    Calls Try.prog 74 #[v, .int .i64 x] w fun e w' => e = .returned (.bool (hasI l x)) ∧ w = w' := by
  obtain ⟨a, c, rfl, h⟩ := h
  have H : Hid (∀ i (h : i < l.length), ∃ b o, a = some ⟨b, o, none⟩ ∧ w.cell? ⟨b, o + i, none⟩ = some (.int .i64 l[i])) := by
    intro i hi
    rcases h with rfl | ⟨b, o, rfl, hc⟩
    · simp at hi
    · exact ⟨b, o, rfl, hc i hi⟩
  clear h
  obtain ⟨n, hn⟩ : ∃ n, l.length = n := ⟨_, rfl⟩
  rw [hn] at hm ⊢
  have HN := Lib.hid hn
  clear hn
  go_enter Try.func74, Try.ntmps74
  go_wp2
  go_loop [6, 9] (fun _ i => ∃ k : Nat, k ≤ n ∧ i = .int .i64 k ∧ Hid (hasI (l.take k) x = false)) (fun _ i => n - (intOf i).toNat)
  case atStart => exact ⟨0, Nat.zero_le _, rfl, by simp [Hid, hasI]⟩
  case round =>
    obtain ⟨k, hk, rfl, HF⟩ := hrel
    by_cases hlt : k < n
    · have hkl : k < l.length := by rw [HN.out]; exact hlt
      obtain ⟨b, o, rfl, e0⟩ := H.out k hkl
      have i0 : (0 : Int) ≤ (k : Int) := by omega
      have i1 : (k : Int) < (n : Int) := by omega
      obtain ⟨y, hy⟩ : ∃ y, l[k] = y := ⟨_, rfl⟩
      rw [hy] at e0
      cases hc : (y == x) with
      | true =>
        have HY := Lib.hid (hasI_yes hkl (hy.trans (eq_of_beq hc)))
        clear hy hkl
        go_wp2
        go_ret
        exact ⟨ret_bool HY.out.symm, rfl⟩
      | false =>
        have HY := Lib.hid (hasI_step hkl HF.out (fun e => by rw [hy] at e; subst e; simp at hc))
        clear hy hkl
        go_wp2
        go_round
        case rel => exact ⟨k + 1, by omega, by go_num, HY⟩
        case measure => simp [intOf]; omega
    · have HY := Lib.hid (hasI_end (by rw [HN.out]; omega) HF.out)
      go_wp2
      go_ret
      exact ⟨ret_bool HY.out.symm, rfl⟩

/-! ### a side -/
/-- Whether a list is ascending and holds numbers from 1 to n. -/
def ascB (l : List Int) (n : Int) : Bool := decide (l.Pairwise (· < ·)) && l.all (fun x => decide (1 ≤ x) && decide (x ≤ n))
/-- Whether a list is a valid side. -/
def sideB (l : List Int) (n : Int) : Bool := ascB l n && decide (0 < l.length)

theorem up_snoc (m : List Int) (y x : Int) : ((m ++ [y]) ++ [x]).Pairwise (· < ·) ↔ (m ++ [y]).Pairwise (· < ·) ∧ y < x := by
  rw [List.pairwise_append (l₁ := m ++ [y])]
  constructor
  · rintro ⟨h1, _, h3⟩
    exact ⟨h1, h3 y (by simp) x (by simp)⟩
  · rintro ⟨h1, h2⟩
    refine ⟨h1, by simp, fun a ha b hb => ?_⟩
    simp only [List.mem_singleton] at hb
    subst hb
    simp only [List.mem_append, List.mem_singleton] at ha
    rcases ha with ha | rfl
    · have := (List.pairwise_append.1 h1).2.2 a ha y (by simp)
      omega
    · exact h2

theorem asc_zero (l : List Int) (n : Int) : ascB (l.take 0) n = true := by simp [ascB]
theorem asc_first {l : List Int} {n : Int} (h : 0 < l.length) : ascB (l.take 1) n = (decide (1 ≤ l[0]) && decide (l[0] ≤ n)) := by
  cases l with
  | nil => simp at h
  | cons a r => simp [ascB]
theorem asc_next {l : List Int} {n : Int} {m : Nat} (h : m + 1 < l.length) (h0 : ascB (l.take (m + 1)) n = true) : ascB (l.take (m + 1 + 1)) n = ((decide (1 ≤ l[m + 1]) && decide (l[m + 1] ≤ n)) && decide (l[m] < l[m + 1])) := by
  have e1 : l.take (m + 1) = l.take m ++ [l[m]] := by rw [List.take_succ_eq_append_getElem (by omega)]
  have e2 : l.take (m + 1 + 1) = (l.take m ++ [l[m]]) ++ [l[m + 1]] := by rw [List.take_succ_eq_append_getElem h, e1]
  rw [Bool.eq_iff_iff]
  unfold ascB at h0 ⊢
  rw [e1] at h0
  rw [e2]
  simp only [Bool.and_eq_true, decide_eq_true_eq, up_snoc, List.all_append, List.all_cons, List.all_nil, Bool.and_true] at h0 ⊢
  constructor
  · rintro ⟨⟨_, h2⟩, _, h3⟩
    exact ⟨h3, h2⟩
  · rintro ⟨h3, h2⟩
    exact ⟨⟨h0.1, h2⟩, h0.2, h3⟩
theorem asc_bad {l : List Int} {n : Int} {k : Nat} (h : ascB (l.take k) n = false) : sideB l n = false := by
  cases hs : sideB l n with
  | false => rfl
  | true =>
    unfold sideB ascB at hs
    simp only [Bool.and_eq_true, decide_eq_true_eq, List.all_eq_true] at hs
    have : ascB (l.take k) n = true := by
      unfold ascB
      simp only [Bool.and_eq_true, decide_eq_true_eq, List.all_eq_true]
      exact ⟨hs.1.1.sublist (List.take_sublist _ _), fun x hx => hs.1.2 x (List.mem_of_mem_take hx)⟩
    rw [this] at h
    cases h
theorem asc_end {l : List Int} {n : Int} {k : Nat} (h : l.length ≤ k) (h0 : ascB (l.take k) n = true) : sideB l n = decide (0 < l.length) := by
  rw [List.take_of_length_le h] at h0
  unfold sideB
  rw [h0, Bool.true_and]

set_option maxHeartbeats 1600000 in
theorem specSide (v : Value) (l : List Int) (q : Int) (w : World) (h : IntsAt w v l) (hm : l.length ≤ 100000000) :
    Calls Try.prog 73 #[v, .int .i64 q] w fun e w' => e = .returned (.bool (sideB l q)) ∧ w = w' := by
  obtain ⟨a, c, rfl, h⟩ := h
  have H : Hid (∀ i (h : i < l.length), ∃ b o, a = some ⟨b, o, none⟩ ∧ w.cell? ⟨b, o + i, none⟩ = some (.int .i64 l[i])) := by
    intro i hi
    rcases h with rfl | ⟨b, o, rfl, hc⟩
    · simp at hi
    · exact ⟨b, o, rfl, hc i hi⟩
  clear h
  have I := Lib.hid (fun n w => l01In_is n 1 q w)
  obtain ⟨n, hn⟩ : ∃ n, l.length = n := ⟨_, rfl⟩
  rw [hn] at hm ⊢
  have HN := Lib.hid hn
  clear hn
  go_enter Try.func73, Try.ntmps73
  go_wp2
  go_loop [5, 6, 9] (fun _ _ i => ∃ k : Nat, k ≤ n ∧ i = .int .i64 k ∧ Hid (ascB (l.take k) q = true)) (fun _ _ i => n - (intOf i).toNat)
  case atStart => exact ⟨0, Nat.zero_le _, rfl, asc_zero _ _⟩
  case round =>
    obtain ⟨k, hk, rfl, HF⟩ := hrel
    by_cases hlt : k < n
    · have hkl : k < l.length := by rw [HN.out]; exact hlt
      obtain ⟨b, o, rfl, e0⟩ := H.out k hkl
      obtain ⟨x, hx⟩ : ∃ x, l[k] = x := ⟨_, rfl⟩
      rw [hx] at e0
      obtain ⟨t, ht⟩ : ∃ t, (decide (1 ≤ x) && decide (x ≤ q)) = t := ⟨_, rfl⟩
      have I1 := Lib.hid (I.out x)
      rw [ht] at I1
      have i0 : (0 : Int) ≤ (k : Int) := by omega
      have i1 : (k : Int) < (n : Int) := by omega
      cases k with
      | zero =>
        have HA : Hid (ascB (l.take (0 + 1)) q = t) := by unfold Hid; rw [asc_first hkl, hx]; exact ht
        rw [Nat.add_zero] at e0
        clear hx hkl ht
        cases t with
        | false =>
          have HY := Lib.hid (asc_bad HA.out)
          go_wp2_with fail
          refine (I1.out _).mono ?_
          rintro e w1 ⟨rfl, rfl⟩
          go_wp2
          go_ret
          exact ⟨ret_bool HY.out.symm, rfl⟩
        | true =>
          go_wp2_with fail
          refine (I1.out _).mono ?_
          rintro e w1 ⟨rfl, rfl⟩
          go_wp2
          go_round
          case rel => exact ⟨0 + 1, by omega, by go_num, HA⟩
          case measure => simp [intOf]; omega
      | succ m =>
        obtain ⟨b', o', e', e1⟩ := H.out m (by omega)
        cases e'
        obtain ⟨y, hy⟩ : ∃ y, l[m]'(by omega) = y := ⟨_, rfl⟩
        rw [hy] at e1
        have HA : Hid (ascB (l.take (m + 1 + 1)) q = (t && decide (y < x))) := by unfold Hid; rw [asc_next hkl HF.out, hx, hy, ht]
        clear hx hkl ht hy
        have i2 : (0 : Int) ≤ (m : Int) := by omega
        have i3 : (m : Int) < (n : Int) := by omega
        cases t with
        | false =>
          have HY := Lib.hid (asc_bad HA.out)
          go_wp2_with fail
          refine (I1.out _).mono ?_
          rintro e w1 ⟨rfl, rfl⟩
          go_wp2
          go_ret
          exact ⟨ret_bool HY.out.symm, rfl⟩
        | true =>
          by_cases hyx : y < x
          · have HB : Hid (ascB (l.take (m + 1 + 1)) q = true) := by unfold Hid; rw [HA.out, decide_eq_true hyx]; rfl
            have hnot : ¬ x ≤ y := by omega
            go_wp2_with fail
            refine (I1.out _).mono ?_
            rintro e w1 ⟨rfl, rfl⟩
            go_wp2
            go_round
            case rel => exact ⟨m + 1 + 1, by omega, by go_num, HB⟩
            case measure => simp [intOf]; omega
          · have HY : Hid (sideB l q = false) := asc_bad (k := m + 1 + 1) (by rw [HA.out, decide_eq_false hyx]; rfl)
            have hle : x ≤ y := by omega
            go_wp2_with fail
            refine (I1.out _).mono ?_
            rintro e w1 ⟨rfl, rfl⟩
            go_wp2
            go_ret
            exact ⟨ret_bool HY.out.symm, rfl⟩
    · have HY := Lib.hid (asc_end (by rw [HN.out]; omega) HF.out)
      have HZ : Hid (sideB l q = decide (0 < n)) := by unfold Hid; rw [HY.out, HN.out]
      go_wp2
      go_ret
      exact ⟨ret_bool HZ.out.symm, rfl⟩

/-! ### a weighing -/
/-- Whether no number of the first list is in the second. -/
def apartB (L R : List Int) : Bool := L.all fun x => !hasI R x
/-- Whether the sides are those of a valid weighing of n coins. -/
def weighB (L R : List Int) (n : Int) : Bool := ((((decide (1 ≤ n) && decide (n ≤ 13)) && sideB L n) && sideB R n) && decide (L.length = R.length)) && apartB L R

theorem apart_bad {L R : List Int} {k : Nat} (h : k < L.length) (e : hasI R L[k] = true) : apartB L R = false := by
  unfold apartB
  rw [List.all_eq_false]
  exact ⟨L[k], List.getElem_mem h, by simp [e]⟩
theorem apart_step {L R : List Int} {k : Nat} (h : k < L.length) (h0 : apartB (L.take k) R = true) (e : hasI R L[k] = false) : apartB (L.take (k + 1)) R = true := by
  unfold apartB at h0 ⊢
  rw [List.take_succ_eq_append_getElem h, List.all_append, h0]
  simp [e]
theorem apart_end {L R : List Int} {k : Nat} (h : L.length ≤ k) (h0 : apartB (L.take k) R = true) : apartB L R = true := by
  rwa [List.take_of_length_le h] at h0

set_option maxHeartbeats 1600000 in
theorem specWeighingOk (vl vr : Value) (L R : List Int) (n : Int) (w : World) (h1 : IntsAt w vl L) (h2 : IntsAt w vr R) (ml : L.length ≤ 100000000) (mr : R.length ≤ 100000000) :
    Calls Try.prog 52 #[.agg #[vl, vr], .int .i64 n] w fun e w' => e = .returned (.bool (weighB L R n)) ∧ Below w.heap.size w w' := by
  have C0 := Lib.hid (fun W => l01In_is n 1 13 W)
  have C1 := Lib.hid (fun W h => specSide vl L n W h ml)
  have C2 := Lib.hid (fun W h => specSide vr R n W h mr)
  have C3 := Lib.hid (fun x W h => specHas vr R x W h mr)
  have HW : Hid (weighB L R n = (((((decide (1 ≤ n) && decide (n ≤ 13)) && sideB L n) && sideB R n) && decide (L.length = R.length)) && apartB L R)) := rfl
  have P1 := Lib.hid (TwoAt.new w 30 vl vr)
  have B1 := Lib.hid (alloc_below w (.cells #[vl, vr] 30))
  generalize hX1 : w.alloc (.cells #[vl, vr] 30) = X1 at P1 B1
  have H1 := Lib.hid (h1.below B1.out)
  have H2 := Lib.hid (h2.below B1.out)
  generalize weighB L R n = r at HW ⊢
  generalize (decide (1 ≤ n) && decide (n ≤ 13)) = t0 at C0 HW
  generalize sideB L n = t1 at C1 HW
  generalize sideB R n = t2 at C2 HW
  obtain ⟨e0, e1, -⟩ := P1.out
  obtain ⟨al, cl, rfl, hl⟩ := h1
  obtain ⟨ar, cr, rfl, hr⟩ := h2
  clear hl hr
  cases t0 with
  | false =>
    have HE : Hid (r = false) := by unfold Hid; rw [HW.out]; rfl
    clear HW C1 C2 C3
    go_enter Try.func52, Try.ntmps52
    go_wp2_with fail
    refine (C0.out _).mono ?_
    rintro e w1 ⟨rfl, rfl⟩
    go_wp2
    go_ret
    exact ⟨ret_bool HE.out.symm, B1.out⟩
  | true =>
    cases t1 with
    | false =>
      have HE : Hid (r = false) := by unfold Hid; rw [HW.out]; rfl
      clear HW C2 C3
      go_enter Try.func52, Try.ntmps52
      go_wp2_with fail
      refine (C0.out _).mono ?_
      rintro e w1 ⟨rfl, rfl⟩
      go_wp2_with fail
      refine (C1.out _ H1.out).mono ?_
      rintro e w1 ⟨rfl, rfl⟩
      go_wp2
      go_ret
      exact ⟨ret_bool HE.out.symm, B1.out⟩
    | true =>
      cases t2 with
      | false =>
        have HE : Hid (r = false) := by unfold Hid; rw [HW.out]; rfl
        clear HW C3
        go_enter Try.func52, Try.ntmps52
        go_wp2_with fail
        refine (C0.out _).mono ?_
        rintro e w1 ⟨rfl, rfl⟩
        go_wp2_with fail
        refine (C1.out _ H1.out).mono ?_
        rintro e w1 ⟨rfl, rfl⟩
        go_wp2_with fail
        refine (C2.out _ H2.out).mono ?_
        rintro e w1 ⟨rfl, rfl⟩
        go_wp2
        go_ret
        exact ⟨ret_bool HE.out.symm, B1.out⟩
      | true =>
        have HE : Hid (r = (decide (L.length = R.length) && apartB L R)) := by unfold Hid; rw [HW.out]; rfl
        obtain ⟨a, ha⟩ : ∃ a, L.length = a := ⟨_, rfl⟩
        obtain ⟨b, hb⟩ : ∃ b, R.length = b := ⟨_, rfl⟩
        have HL := Lib.hid ha
        rw [ha] at C1 HE e0 ml H1 hX1 ⊢
        rw [hb] at C2 C3 HE e1 mr H2 hX1 ⊢
        have HC : Hid (∀ i (h : i < L.length), ∃ b o, al = some ⟨b, o, none⟩ ∧ X1.cell? ⟨b, o + i, none⟩ = some (.int .i64 L[i])) := by
          intro i hi
          obtain ⟨a', c', hv, hh⟩ := H1.out
          cases hv
          rcases hh with rfl | ⟨b, o, rfl, hc⟩
          · simp at hi
          · exact ⟨b, o, rfl, hc i hi⟩
        clear ha hb HW P1
        by_cases hab : a = b
        · subst hab
          have HE2 : Hid (r = apartB L R) := by unfold Hid; rw [HE.out]; simp
          clear HE
          go_enter Try.func52, Try.ntmps52
          go_wp2_with fail
          refine (C0.out _).mono ?_
          rintro e w1 ⟨rfl, rfl⟩
          go_wp2_with fail
          refine (C1.out _ H1.out).mono ?_
          rintro e w1 ⟨rfl, rfl⟩
          go_wp2_with fail
          refine (C2.out _ H2.out).mono ?_
          rintro e w1 ⟨rfl, rfl⟩
          go_wp2
          go_loop [6, 36] (fun _ i => ∃ k : Nat, k ≤ a ∧ i = .int .i64 k ∧ Hid (apartB (L.take k) R = true)) (fun _ i => a - (intOf i).toNat)
          case atStart => exact ⟨0, Nat.zero_le _, rfl, by simp [Hid, apartB]⟩
          case round =>
            obtain ⟨k, hk, rfl, HF⟩ := hrel
            by_cases hlt : k < a
            · have hkl : k < L.length := by rw [HL.out]; exact hlt
              obtain ⟨b, o, rfl, e2⟩ := HC.out k hkl
              obtain ⟨x, hx⟩ : ∃ x, L[k] = x := ⟨_, rfl⟩
              rw [hx] at e2
              obtain ⟨t, ht⟩ : ∃ t, hasI R x = t := ⟨_, rfl⟩
              have D := Lib.hid (C3.out x)
              rw [ht] at D
              have i0 : (0 : Int) ≤ (k : Int) := by omega
              have i1 : (k : Int) < (a : Int) := by omega
              cases t with
              | true =>
                have HY : Hid (r = false) := by unfold Hid; rw [HE2.out]; exact apart_bad hkl (by rw [hx]; exact ht)
                clear hx hkl ht
                go_wp2_with fail
                refine (D.out _ H2.out).mono ?_
                rintro e w1 ⟨rfl, rfl⟩
                go_wp2
                go_ret
                exact ⟨ret_bool HY.out.symm, B1.out⟩
              | false =>
                have HY : Hid (apartB (L.take (k + 1)) R = true) := apart_step hkl HF.out (by rw [hx]; exact ht)
                clear hx hkl ht
                go_wp2_with fail
                refine (D.out _ H2.out).mono ?_
                rintro e w1 ⟨rfl, rfl⟩
                go_wp2
                go_round
                case rel => exact ⟨k + 1, by omega, by go_num, HY⟩
                case measure => simp [intOf]; omega
            · have HY : Hid (r = true) := by unfold Hid; rw [HE2.out]; exact apart_end (by rw [HL.out]; omega) HF.out
              go_wp2
              go_ret
              exact ⟨ret_bool HY.out.symm, B1.out⟩
        · have HE2 : Hid (r = false) := by unfold Hid; rw [HE.out, decide_eq_false hab]; rfl
          have hne : ((a : Int) == (b : Int)) = false := beq_eq_false_iff_ne.2 (by omega)
          clear HE hab
          go_enter Try.func52, Try.ntmps52
          go_wp2_with fail
          refine (C0.out _).mono ?_
          rintro e w1 ⟨rfl, rfl⟩
          go_wp2_with fail
          refine (C1.out _ H1.out).mono ?_
          rintro e w1 ⟨rfl, rfl⟩
          go_wp2_with fail
          refine (C2.out _ H2.out).mono ?_
          rintro e w1 ⟨rfl, rfl⟩
          go_wp2
          go_ret
          exact ⟨ret_bool HE2.out.symm, B1.out⟩
end Go.Proofs.Ythgdobnegepgoaa
