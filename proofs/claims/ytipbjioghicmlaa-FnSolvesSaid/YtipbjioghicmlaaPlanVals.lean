/- The contracts of the model's SolvesFor, FindsCoin, TotalCost and WorstCase. Conditions: the plan's slice reads as nodes and is short enough to be counted. -/
import Derived.Test.YtipbjioghicmlaaDepthSpec
namespace Go.Proofs.Ytipbjioghicmlaa
open Go.RowKit

set_option maxHeartbeats 800000 in
theorem specSame (u v : Value) (A B : List Int) (w : World) (h1 : IntsAt w u A) (h2 : IntsAt w v B) (m1 : A.length ≤ 1048576) (m2 : B.length ≤ 1048576) :
    Calls Try.prog 67 #[u, v] w fun e w' => e = .returned (.bool (decide (A = B))) ∧ w = w' := by
  obtain ⟨a1, c1, rfl, h1⟩ := h1
  obtain ⟨a2, c2, rfl, h2⟩ := h2
  have H1 : Hid (∀ i (h : i < A.length), ∃ b o, a1 = some ⟨b, o, none⟩ ∧ w.cell? ⟨b, o + i, none⟩ = some (.int .i64 A[i])) := by
    intro i hi
    rcases h1 with rfl | ⟨b, o, rfl, hc⟩
    · simp at hi
    · exact ⟨b, o, rfl, hc i hi⟩
  have H2 : Hid (∀ i (h : i < B.length), ∃ b o, a2 = some ⟨b, o, none⟩ ∧ w.cell? ⟨b, o + i, none⟩ = some (.int .i64 B[i])) := by
    intro i hi
    rcases h2 with rfl | ⟨b, o, rfl, hc⟩
    · simp at hi
    · exact ⟨b, o, rfl, hc i hi⟩
  clear h1 h2
  by_cases hl : A.length = B.length
  · have HX : Hid (∀ k, k ≤ A.length → decide (A = B) = decide (A.drop k = B.drop k ∧ A.take k = B.take k)) := fun k _ => by
      congr 1
      refine propext ⟨fun h => by rw [h]; exact ⟨rfl, rfl⟩, fun h => ?_⟩
      rw [← List.take_append_drop k A, h.1, h.2, List.take_append_drop]
    obtain ⟨r, hr⟩ : ∃ r, decide (A = B) = r := ⟨_, rfl⟩
    have HR := Lib.hid hr
    rw [hr]
    clear hr
    obtain ⟨n, hn⟩ : ∃ n, A.length = n := ⟨_, rfl⟩
    have hm : B.length = n := by omega
    have HN := Lib.hid hn
    have HM := Lib.hid hm
    rw [hn] at m1 ⊢
    rw [hm]
    clear hn hm hl m2
    have hne : ((n : Int) != (n : Int)) = false := by simp
    go_enter Try.func67, Try.ntmps67
    go_wp2
    go_loop [5, 6, 14] (fun _ _ i => ∃ k : Nat, k ≤ n ∧ i = .int .i64 k ∧ Hid (A.take k = B.take k)) (fun _ _ i => n - (intOf i).toNat)
    case atStart => exact ⟨0, Nat.zero_le _, rfl, by simp [Hid]⟩
    case round =>
      obtain ⟨k, hk, rfl, HF⟩ := hrel
      by_cases hlt : k < n
      · have k1 : k < A.length := by rw [HN.out]; exact hlt
        have k2 : k < B.length := by rw [HM.out]; exact hlt
        obtain ⟨b, o, rfl, e0⟩ := H1.out k k1
        obtain ⟨b', o', rfl, e1⟩ := H2.out k k2
        have hst : A.take (k + 1) = A.take k ++ [A[k]] := List.take_succ_eq_append_getElem k1
        have hsu : B.take (k + 1) = B.take k ++ [B[k]] := List.take_succ_eq_append_getElem k2
        have hno : A[k] ≠ B[k] → r = false := fun h => by
          rw [← HR.out]
          refine decide_eq_false fun e => h ?_
          subst e; rfl
        obtain ⟨x, hx⟩ : ∃ x, A[k] = x := ⟨_, rfl⟩
        obtain ⟨y, hy⟩ : ∃ y, B[k] = y := ⟨_, rfl⟩
        rw [hx] at e0 hst hno
        rw [hy] at e1 hsu hno
        have i0 : (0 : Int) ≤ (k : Int) := by omega
        have i1 : (k : Int) < (n : Int) := by omega
        clear hx hy k1 k2 hne
        by_cases hxy : x = y
        · subst hxy
          have HF2 : Hid (A.take (k + 1) = B.take (k + 1)) := by unfold Hid; rw [hst, hsu, HF.out]
          clear hst hsu hno
          go_wp2
          go_round
          case rel => exact ⟨k + 1, by omega, by go_num, HF2⟩
          case measure => simp [intOf]; omega
        · have hne : (x != y) = true := by simp [hxy]
          have HF2 := Lib.hid (hno hxy)
          clear hst hsu hno
          go_wp2
          go_ret
          exact ⟨ret_bool HF2.out.symm, rfl⟩
      · have HF2 : Hid (r = true) := by
          unfold Hid
          rw [← HR.out]
          have := HF.out
          rw [List.take_of_length_le (by rw [HN.out]; omega), List.take_of_length_le (by rw [HM.out]; omega)] at this
          exact decide_eq_true this
        clear hne
        go_wp2
        go_ret
        exact ⟨ret_bool HF2.out.symm, rfl⟩
  · have HE : Hid (decide (A = B) = false) := decide_eq_false fun e => hl (by rw [e])
    generalize decide (A = B) = r at HE ⊢
    clear H1 H2
    generalize A.length = n1 at *
    generalize B.length = n2 at *
    have hne : ((n1 : Int) != (n2 : Int)) = true := by simp; omega
    go_enter Try.func67, Try.ntmps67
    go_wp2
    go_ret
    exact ⟨ret_bool HE.out.symm, rfl⟩

/-! ### a valid problem and a valid plan -/
/-- Whether a problem and a plan are valid. -/
def goodB (P : List ND) (n : Int) (h l _z : Bool) : Bool := probB n h l && planB P n

set_option maxHeartbeats 1600000 in
theorem specGood (v : Value) (P : List ND) (n : Int) (h l z : Bool) (w : World) (hp : NodesAt w v P) (hm : P.length ≤ 1048576) (hl : ∀ d ∈ P, d.L.length ≤ 1048576 ∧ d.R.length ≤ 1048576) :
    Calls Try.prog 65 #[probV n h l z, v] w fun e w' => e = .returned (.bool (goodB P n h l z)) ∧ Below w.heap.size w w' := by
  have C0 := Lib.hid (fun W => specProblemOk n h l z W)
  have C1 := Lib.hid (fun W hW => specPlanOk v P n W hW hm hl)
  have HG : Hid (goodB P n h l z = (probB n h l && planB P n)) := rfl
  have P0 := Lib.hid (ProbAt.new w 24 n h l z)
  have B0 := Lib.hid (alloc_below w (.cells #[.int .i64 n, .bool h, .bool l, .bool z] 24))
  unfold probV at C0 ⊢
  generalize hX0 : w.alloc (.cells #[.int .i64 n, .bool h, .bool l, .bool z] 24) = X0 at P0 B0
  have H0 := Lib.hid (hp.below B0.out)
  obtain ⟨a0, c0, rfl⟩ := hp.form
  clear hp hm hl
  generalize P.length = k at H0 C1
  generalize goodB P n h l z = r at HG ⊢
  generalize probB n h l = t at C0 HG
  generalize planB P n = t2 at C1 HG
  obtain ⟨e0, e1, e2, e3, -⟩ := P0.out
  cases t with
  | false =>
    have HE : Hid (r = false) := HG.out
    go_enter Try.func65, Try.ntmps65
    go_wp2_with fail
    refine (C0.out _).mono ?_
    rintro e w1 ⟨rfl, b1⟩
    have B1 := Lib.hid (below_up B0.out b1)
    clear b1
    go_wp2
    go_ret
    exact ⟨ret_bool HE.out.symm, B1.out⟩
  | true =>
    have HE : Hid (r = t2) := HG.out
    go_enter Try.func65, Try.ntmps65
    go_wp2_with fail
    refine (C0.out _).mono ?_
    rintro e w1 ⟨rfl, b1⟩
    have B1 := Lib.hid (below_up B0.out b1)
    have H1 := Lib.hid (H0.out.below b1)
    have P1 := Lib.hid (P0.out.below b1)
    clear b1 e0 e1 e2 e3 hX0
    obtain ⟨e0, e1, e2, e3, -⟩ := P1.out
    go_wp2_with fail
    refine (C1.out _ H1.out).mono ?_
    rintro e w2 ⟨rfl, b2⟩
    have B2 := Lib.hid (below_up B1.out b2)
    clear b2
    go_wp2
    go_ret
    exact ⟨ret_bool HE.out.symm, B2.out⟩

/-! ### all cases -/
theorem cases_in {n : Int} {h l z : Bool} {x : Int} (hx : x ∈ casesL n h l z) : -13 ≤ x ∧ x ≤ 13 := by
  unfold casesL casesIn at hx
  rw [List.mem_filter] at hx
  have := seg_mem hx.1
  omega
theorem cases_len (n : Int) (h l z : Bool) : (casesL n h l z).length ≤ 27 := casesIn_len _ _ _
theorem followL_len {P : List ND} {m : Int} (hv : planB P m = true) (c : Int) : (followL P c).length ≤ 60 := Nat.le_trans (followF_len P c P.length 0) (plan_size hv).1
theorem IntsAt.of_lists {w : World} {B : Nat} {v : Value} {L : List Int} (h : w.ownsRow B 3 1 v L.length (L.map (Value.int .i64))) : IntsAt w v L := IntsAt.of_owns h

/-- The sum of a function's values. -/
def sumF (f : Int → Int) : List Int → Int
  | [] => 0
  | c :: r => f c + sumF f r
theorem sumF_take (f : Int → Int) {l : List Int} {k : Nat} (h : k < l.length) : sumF f (l.take (k + 1)) = sumF f (l.take k) + f l[k] := by
  have app : ∀ a b : List Int, sumF f (a ++ b) = sumF f a + sumF f b := fun a b => by
    induction a with
    | nil => simp [sumF]
    | cons x r ih => simp [sumF, ih]; omega
  rw [List.take_succ_eq_append_getElem h, app]
  simp [sumF]
/-- The number of weighings in a case. -/
def costI (P : List ND) (c : Int) : Int := ((followL P c).length : Int)
/-- The cost that is given back. -/
def costR (P : List ND) (n : Int) (h l z : Bool) : Int := if goodB P n h l z = true then sumF (costI P) (casesL n h l z) else -1

set_option maxRecDepth 100000 in
set_option maxHeartbeats 3200000 in
theorem specTotalCost (v : Value) (P : List ND) (n : Int) (h l z : Bool) (w : World) (hp : NodesAt w v P) (hm : P.length ≤ 1048576) (hl : ∀ d ∈ P, d.L.length ≤ 1048576 ∧ d.R.length ≤ 1048576) (_ : -9223372036854775808 ≤ n ∧ n ≤ 9223372036854775807) :
    Calls Try.prog 38 #[probV n h l z, v] w fun e w' => e = .returned (.int .i64 (costR P n h l z)) ∧ Below w.heap.size w w' := by
  have C0 := Lib.hid (fun W hW => specGood v P n h l z W hW hm hl)
  have C1 := Lib.hid (fun W => specCasesOf n h l z W)
  have HG : Hid (costR P n h l z = if goodB P n h l z = true then sumF (costI P) (casesL n h l z) else -1) := rfl
  have C2 : Hid (goodB P n h l z = true → ∀ c ∈ casesL n h l z, (costI P c ≤ 60) ∧ ∀ W, NodesAt W v P → Calls Try.prog 63 #[v, .int .i64 c] W (Lists (followL P c) W)) := fun hg c hc => by
    unfold goodB at hg
    rw [Bool.and_eq_true] at hg
    have := cases_in hc
    have hf := followL_len hg.2 c
    exact ⟨by unfold costI; omega, fun W hW => specFollow v P n c W hW hl hg.2 (by omega) (by omega)⟩
  have hcl := cases_len n h l z
  have P0 := Lib.hid (ProbAt.new w 24 n h l z)
  have B0 := Lib.hid (alloc_below w (.cells #[.int .i64 n, .bool h, .bool l, .bool z] 24))
  unfold probV at C0 C1 ⊢
  unfold Lists at C1
  generalize hX0 : w.alloc (.cells #[.int .i64 n, .bool h, .bool l, .bool z] 24) = X0 at P0 B0
  have H0 := Lib.hid (hp.below B0.out)
  obtain ⟨a0, c0, rfl⟩ := hp.form
  clear hp hm hl
  generalize P.length = k0 at H0 C0 C2
  generalize costR P n h l z = r at HG ⊢
  generalize goodB P n h l z = t at C0 HG C2
  generalize casesL n h l z = L at C1 C2 HG hcl
  obtain ⟨e0, e1, e2, e3, -⟩ := P0.out
  cases t with
  | false =>
    have HE : Hid (r = -1) := HG.out
    clear C2 C1
    go_enter Try.func38, Try.ntmps38
    go_wp2_with fail
    refine (C0.out _ H0.out).mono ?_
    rintro e w1 ⟨rfl, b1⟩
    have B1 := Lib.hid (below_up B0.out b1)
    clear b1
    go_wp2
    go_ret
    exact ⟨ret_int HE.out.symm, B1.out⟩
  | true =>
    have HE : Hid (r = sumF (costI P) L) := HG.out
    have D := Lib.hid (C2.out rfl)
    clear C2 HG
    go_enter Try.func38, Try.ntmps38
    go_wp2_with fail
    refine (C0.out _ H0.out).mono ?_
    rintro e w1 ⟨rfl, b1⟩
    have B1 := Lib.hid (below_up B0.out b1)
    have H1 := Lib.hid (H0.out.below b1)
    have P1 := Lib.hid (P0.out.below b1)
    clear b1 e0 e1 e2 e3 hX0
    obtain ⟨e0, e1, e2, e3, -⟩ := P1.out
    go_wp2_with fail
    refine (C1.out _).mono ?_
    rintro e w2 ⟨vl, rfl, ol, b2⟩
    have B2 := Lib.hid (below_up B1.out b2)
    have H2 := Lib.hid (H1.out.below b2)
    have L2 := Lib.hid (IntsAt.of_lists ol)
    obtain ⟨al, cl, rfl, hc⟩ := L2.out
    have HC : Hid (∀ i (h : i < L.length), ∃ b o, al = some ⟨b, o, none⟩ ∧ w2.cell? ⟨b, o + i, none⟩ = some (.int .i64 L[i])) := by
      intro i hi
      rcases hc with rfl | ⟨b, o, rfl, hc⟩
      · simp at hi
      · exact ⟨b, o, rfl, hc i hi⟩
    clear b2 ol hc e0 e1 e2 e3
    obtain ⟨nl, hn⟩ : ∃ nl, L.length = nl := ⟨_, rfl⟩
    rw [hn] at hcl L2 ⊢
    have HN := Lib.hid hn
    clear hn
    go_wp2
    go_loopw [5, 7, 15] (fun sv _ i wr => ∃ (k : Nat) (s : Int), k ≤ nl ∧ i = .int .i64 k ∧ sv = .int .i64 s ∧ 0 ≤ s ∧ s ≤ 60 * k ∧ Hid (s = sumF (costI P) (L.take k)) ∧ Below w2.heap.size w2 wr) (fun _ _ i _ => nl - (intOf i).toNat)
    case atStart => exact ⟨0, 0, Nat.zero_le _, rfl, rfl, by omega, by omega, by simp [Hid, sumF], Below.refl _ _⟩
    case round =>
      obtain ⟨k, s, hk, rfl, rfl, s0, s1, HS, hb⟩ := hrel
      have HB := Lib.hid hb
      clear hb
      by_cases hlt : k < nl
      · have hkl : k < L.length := by rw [HN.out]; exact hlt
        obtain ⟨b, o, rfl, e0⟩ := HC.out k hkl
        have hbl := World.block_lt_of_cell? w2 _ e0
        have hst := sumF_take (costI P) hkl
        obtain ⟨hco, hfo⟩ := D.out L[k] (List.getElem_mem hkl)
        obtain ⟨x, hx⟩ : ∃ x, L[k] = x := ⟨_, rfl⟩
        rw [hx] at e0 hst hco hfo
        have e1 : wr.cell? ⟨b, o + k, none⟩ = some (.int .i64 x) := by rw [HB.out.cell (p := ⟨b, o + k, none⟩) hbl]; exact e0
        have F := Lib.hid (hfo wr (H2.out.below HB.out))
        unfold Lists at F
        have HQ : Hid (costI P x = ((followL P x).length : Int)) := rfl
        have HST := Lib.hid hst
        have hc0 : 0 ≤ costI P x := by unfold costI; omega
        generalize costI P x = q at HQ HST hco hc0
        generalize followL P x = A at F HQ
        have i0 : (0 : Int) ≤ (k : Int) := by omega
        have i1 : (k : Int) < (nl : Int) := by omega
        clear e0 hbl hx hkl hst hfo
        go_wp2_with fail
        refine F.out.mono ?_
        rintro e w3 ⟨va, rfl, oa, b3⟩
        have B3 := Lib.hid (HB.out.trans (b3.mono HB.out.size))
        obtain ⟨aa, ca, rfl, -⟩ := IntsAt.of_lists oa
        have hqa := HQ.out
        clear oa b3
        obtain ⟨na, hna⟩ : ∃ na, A.length = na := ⟨_, rfl⟩
        rw [hna] at hqa ⊢
        subst hqa
        clear hna HQ
        go_wp2
        go_roundw
        case rel => exact ⟨k + 1, s + (na : Int), by omega, by go_num, by go_num, by omega, by omega, by unfold Hid; rw [HST.out, HS.out], B3.out⟩
        case measure => simp [intOf]; omega
      · have HR : Hid (r = s) := by
          unfold Hid
          rw [HE.out, HS.out, List.take_of_length_le (by rw [HN.out]; omega)]
        go_wp2
        go_ret
        exact ⟨ret_int HR.out.symm, below_up B2.out HB.out⟩
/-! ### the worst case -/
theorem ret_pair {a b : Int} {t : Bool} (h : a = b) : Ending.returned (.tuple #[.int .i64 a, .bool t]) = .returned (.tuple #[.int .i64 b, .bool t]) := by rw [h]
/-- The first case with the greatest value, from a value and a case on. -/
def worstF (f : Int → Int) : List Int → Int → Int → Int
  | [], _, s => s
  | c :: r, q, s => if q < f c then worstF f r (f c) c else worstF f r q s
/-- The worst case that is given back. -/
def worstR (P : List ND) (n : Int) (h l z : Bool) : Int := if goodB P n h l z = true then worstF (costI P) (casesL n h l z) (-1) 0 else 0

set_option maxRecDepth 100000 in
set_option maxHeartbeats 3200000 in
theorem specWorstCase (v : Value) (P : List ND) (n : Int) (h l z : Bool) (w : World) (hp : NodesAt w v P) (hm : P.length ≤ 1048576) (hl : ∀ d ∈ P, d.L.length ≤ 1048576 ∧ d.R.length ≤ 1048576) (_ : -9223372036854775808 ≤ n ∧ n ≤ 9223372036854775807) :
    Calls Try.prog 39 #[probV n h l z, v] w fun e w' => e = .returned (.tuple #[.int .i64 (worstR P n h l z), .bool (goodB P n h l z)]) ∧ Below w.heap.size w w' := by
  have C0 := Lib.hid (fun W hW => specGood v P n h l z W hW hm hl)
  have C1 := Lib.hid (fun W => specCasesOf n h l z W)
  have HG : Hid (worstR P n h l z = if goodB P n h l z = true then worstF (costI P) (casesL n h l z) (-1) 0 else 0) := rfl
  have C2 : Hid (goodB P n h l z = true → ∀ c ∈ casesL n h l z, (costI P c ≤ 60) ∧ ∀ W, NodesAt W v P → Calls Try.prog 63 #[v, .int .i64 c] W (Lists (followL P c) W)) := fun hg c hc => by
    unfold goodB at hg
    rw [Bool.and_eq_true] at hg
    have := cases_in hc
    have hf := followL_len hg.2 c
    exact ⟨by unfold costI; omega, fun W hW => specFollow v P n c W hW hl hg.2 (by omega) (by omega)⟩
  have hcl := cases_len n h l z
  have P0 := Lib.hid (ProbAt.new w 24 n h l z)
  have B0 := Lib.hid (alloc_below w (.cells #[.int .i64 n, .bool h, .bool l, .bool z] 24))
  unfold probV at C0 C1 ⊢
  unfold Lists at C1
  generalize hX0 : w.alloc (.cells #[.int .i64 n, .bool h, .bool l, .bool z] 24) = X0 at P0 B0
  have H0 := Lib.hid (hp.below B0.out)
  obtain ⟨a0, c0, rfl⟩ := hp.form
  clear hp hm hl
  generalize P.length = k0 at H0 C0 C2
  generalize worstR P n h l z = r at HG ⊢
  generalize goodB P n h l z = t at C0 HG C2 ⊢
  generalize casesL n h l z = L at C1 C2 HG hcl
  obtain ⟨e0, e1, e2, e3, -⟩ := P0.out
  cases t with
  | false =>
    have HE : Hid (r = 0) := HG.out
    clear C2 C1
    go_enter Try.func39, Try.ntmps39
    go_wp2_with fail
    refine (C0.out _ H0.out).mono ?_
    rintro e w1 ⟨rfl, b1⟩
    have B1 := Lib.hid (below_up B0.out b1)
    clear b1
    go_wp2
    go_ret2
    exact ⟨ret_pair HE.out.symm, B1.out⟩
  | true =>
    have HE : Hid (r = worstF (costI P) L (-1) 0) := HG.out
    have D := Lib.hid (C2.out rfl)
    clear C2 HG
    go_enter Try.func39, Try.ntmps39
    go_wp2_with fail
    refine (C0.out _ H0.out).mono ?_
    rintro e w1 ⟨rfl, b1⟩
    have B1 := Lib.hid (below_up B0.out b1)
    have H1 := Lib.hid (H0.out.below b1)
    have P1 := Lib.hid (P0.out.below b1)
    clear b1 e0 e1 e2 e3 hX0
    obtain ⟨e0, e1, e2, e3, -⟩ := P1.out
    go_wp2_with fail
    refine (C1.out _).mono ?_
    rintro e w2 ⟨vl, rfl, ol, b2⟩
    have B2 := Lib.hid (below_up B1.out b2)
    have H2 := Lib.hid (H1.out.below b2)
    have L2 := Lib.hid (IntsAt.of_lists ol)
    obtain ⟨al, cl, rfl, hc⟩ := L2.out
    have HC : Hid (∀ i (h : i < L.length), ∃ b o, al = some ⟨b, o, none⟩ ∧ w2.cell? ⟨b, o + i, none⟩ = some (.int .i64 L[i])) := by
      intro i hi
      rcases hc with rfl | ⟨b, o, rfl, hc⟩
      · simp at hi
      · exact ⟨b, o, rfl, hc i hi⟩
    clear b2 ol hc e0 e1 e2 e3
    obtain ⟨nl, hn⟩ : ∃ nl, L.length = nl := ⟨_, rfl⟩
    rw [hn] at hcl L2 ⊢
    have HN := Lib.hid hn
    clear hn
    go_wp2
    go_loopw [6, 7, 9, 10, 18] (fun ov mv _ _ i wr => ∃ (k : Nat) (s q : Int), k ≤ nl ∧ i = .int .i64 k ∧ ov = .int .i64 s ∧ mv = .int .i64 q ∧ Hid (r = worstF (costI P) (L.drop k) q s) ∧ Below w2.heap.size w2 wr) (fun _ _ _ _ i _ => nl - (intOf i).toNat)
    case atStart => exact ⟨0, 0, -1, Nat.zero_le _, rfl, rfl, rfl, HE, Below.refl _ _⟩
    case round =>
      clear HE
      obtain ⟨k, s, q, hk, rfl, rfl, rfl, HS, hb⟩ := hrel
      have HB := Lib.hid hb
      clear hb
      by_cases hlt : k < nl
      · have hkl : k < L.length := by rw [HN.out]; exact hlt
        obtain ⟨b, o, rfl, e0⟩ := HC.out k hkl
        have hbl := World.block_lt_of_cell? w2 _ e0
        have hst : worstF (costI P) (L.drop k) q s = if q < costI P L[k] then worstF (costI P) (L.drop (k + 1)) (costI P L[k]) L[k] else worstF (costI P) (L.drop (k + 1)) q s := by
          rw [List.drop_eq_getElem_cons hkl]; rfl
        obtain ⟨hco, hfo⟩ := D.out L[k] (List.getElem_mem hkl)
        obtain ⟨x, hx⟩ : ∃ x, L[k] = x := ⟨_, rfl⟩
        rw [hx] at e0 hst hco hfo
        have e1 : wr.cell? ⟨b, o + k, none⟩ = some (.int .i64 x) := by rw [HB.out.cell (p := ⟨b, o + k, none⟩) hbl]; exact e0
        have F := Lib.hid (hfo wr (H2.out.below HB.out))
        unfold Lists at F
        have HQ : Hid (costI P x = ((followL P x).length : Int)) := rfl
        have HST := Lib.hid hst
        generalize costI P x = y at HQ HST hco
        generalize followL P x = A at F HQ
        have i0 : (0 : Int) ≤ (k : Int) := by omega
        have i1 : (k : Int) < (nl : Int) := by omega
        clear e0 hbl hx hkl hst hfo
        go_wp2_with fail
        refine F.out.mono ?_
        rintro e w3 ⟨va, rfl, oa, b3⟩
        have B3 := Lib.hid (HB.out.trans (b3.mono HB.out.size))
        obtain ⟨aa, ca, rfl, -⟩ := IntsAt.of_lists oa
        have hqa := HQ.out
        clear oa b3
        obtain ⟨na, hna⟩ : ∃ na, A.length = na := ⟨_, rfl⟩
        rw [hna] at hqa ⊢
        subst hqa
        clear hna HQ
        by_cases hgt : q < (na : Int)
        · have HS2 : Hid (r = worstF (costI P) (L.drop (k + 1)) (na : Int) x) := by unfold Hid; rw [HS.out, HST.out, if_pos hgt]
          go_wp2
          go_roundw
          case rel => exact ⟨k + 1, x, (na : Int), by omega, by go_num, rfl, rfl, HS2, B3.out⟩
          case measure => simp [intOf]; omega
        · have HS2 : Hid (r = worstF (costI P) (L.drop (k + 1)) q s) := by unfold Hid; rw [HS.out, HST.out, if_neg hgt]
          go_wp2
          go_roundw
          case rel => exact ⟨k + 1, s, q, by omega, by go_num, rfl, rfl, HS2, B3.out⟩
          case measure => simp [intOf]; omega
      · have HR : Hid (r = s) := by
          unfold Hid
          rw [HS.out, List.drop_of_length_le (by rw [HN.out]; omega)]; rfl
        go_wp2
        go_ret2
        exact ⟨ret_pair HR.out.symm, below_up B2.out HB.out⟩
/-! ### pairs of cases -/
/-- Whether f says no of x and each of a list. -/
def rowB (f : Int → Int → Bool) (x : Int) (l : List Int) : Bool := l.all fun y => !f x y
/-- Whether f says no of each of a list and each one before it. -/
def pairsF (f : Int → Int → Bool) : List Int → List Int → Bool
  | _, [] => true
  | pre, x :: r => rowB f x pre && pairsF f (pre ++ [x]) r
def sameF (P : List ND) (x y : Int) : Bool := decide (followL P x = followL P y)
def coinF (P : List ND) (x y : Int) : Bool := !(coinI x == coinI y) && decide (followL P x = followL P y)
/-- Whether a plan tells all cases of a problem apart. -/
def solvesB (P : List ND) (n : Int) (h l z : Bool) : Bool := goodB P n h l z && pairsF (sameF P) [] (casesL n h l z)
/-- Whether a plan finds the coin. -/
def findsB (P : List ND) (n : Int) (h l z : Bool) : Bool := goodB P n h l z && pairsF (coinF P) [] (casesL n h l z)
theorem row_cap {w : World} {B e n : Nat} {v : Value} {xs : List Value} (h : w.ownsRow B e 1 v n xs) : ∀ a m c, v = .slice a m c → n ≤ c := by
  intro a m c hv
  rcases h.2 with ⟨h1, h2⟩ | ⟨g, cap, cur, h1, _, _, h2, _⟩
  · omega
  · rw [h1] at hv; cases hv; exact h2

set_option maxRecDepth 100000 in
set_option maxHeartbeats 3200000 in
theorem specSolvesFor (v : Value) (P : List ND) (n : Int) (h l z : Bool) (w : World) (hp : NodesAt w v P) (hm : P.length ≤ 1048576) (hl : ∀ d ∈ P, d.L.length ≤ 1048576 ∧ d.R.length ≤ 1048576) (_ : -9223372036854775808 ≤ n ∧ n ≤ 9223372036854775807) :
    Calls Try.prog 35 #[probV n h l z, v] w fun e w' => e = .returned (.bool (solvesB P n h l z)) ∧ Below w.heap.size w w' := by
  have C0 := Lib.hid (fun W hW => specGood v P n h l z W hW hm hl)
  have C1 := Lib.hid (fun W => specCasesOf n h l z W)
  have HG : Hid (solvesB P n h l z = (goodB P n h l z && pairsF (sameF P) [] (casesL n h l z))) := rfl
  have C2 : Hid (goodB P n h l z = true → ∀ c ∈ casesL n h l z, ((followL P c).length ≤ 60) ∧ ∀ W, NodesAt W v P → Calls Try.prog 63 #[v, .int .i64 c] W (Lists (followL P c) W)) := fun hg c hc => by
    unfold goodB at hg
    rw [Bool.and_eq_true] at hg
    have := cases_in hc
    have hf := followL_len hg.2 c
    exact ⟨hf, fun W hW => specFollow v P n c W hW hl hg.2 (by omega) (by omega)⟩
  have hcl := cases_len n h l z
  have P0 := Lib.hid (ProbAt.new w 24 n h l z)
  have B0 := Lib.hid (alloc_below w (.cells #[.int .i64 n, .bool h, .bool l, .bool z] 24))
  unfold probV at C0 C1 ⊢
  unfold Lists at C1
  generalize hX0 : w.alloc (.cells #[.int .i64 n, .bool h, .bool l, .bool z] 24) = X0 at P0 B0
  have H0 := Lib.hid (hp.below B0.out)
  obtain ⟨a0, c0, rfl⟩ := hp.form
  clear hp hm hl
  generalize P.length = k0 at H0 C0 C2
  generalize solvesB P n h l z = r at HG ⊢
  generalize goodB P n h l z = t at C0 HG C2
  generalize casesL n h l z = L at C1 C2 HG hcl
  obtain ⟨e0, e1, e2, e3, -⟩ := P0.out
  cases t with
  | false =>
    have HE : Hid (r = false) := HG.out
    clear C2 C1
    go_enter Try.func35, Try.ntmps35
    go_wp2_with fail
    refine (C0.out _ H0.out).mono ?_
    rintro e w1 ⟨rfl, b1⟩
    have B1 := Lib.hid (below_up B0.out b1)
    clear b1
    go_wp2
    go_ret
    exact ⟨ret_bool HE.out.symm, B1.out⟩
  | true =>
    have HE : Hid (r = pairsF (sameF P) (L.take 0) (L.drop 0)) := HG.out
    have D := Lib.hid (C2.out rfl)
    clear C2 HG
    go_enter Try.func35, Try.ntmps35
    go_wp2_with fail
    refine (C0.out _ H0.out).mono ?_
    rintro e w1 ⟨rfl, b1⟩
    have B1 := Lib.hid (below_up B0.out b1)
    have H1 := Lib.hid (H0.out.below b1)
    have P1 := Lib.hid (P0.out.below b1)
    clear b1 e0 e1 e2 e3 hX0
    obtain ⟨e0, e1, e2, e3, -⟩ := P1.out
    go_wp2_with fail
    refine (C1.out _).mono ?_
    rintro e w2 ⟨vl, rfl, ol, b2⟩
    have B2 := Lib.hid (below_up B1.out b2)
    have H2 := Lib.hid (H1.out.below b2)
    have L2 := Lib.hid (IntsAt.of_lists ol)
    have hcp := row_cap ol
    obtain ⟨al, cl, rfl, hc⟩ := L2.out
    have HCAP : Hid (L.length ≤ cl) := hcp _ _ _ rfl
    clear hcp
    have HC : Hid (∀ i (h : i < L.length), ∃ b o, al = some ⟨b, o, none⟩ ∧ w2.cell? ⟨b, o + i, none⟩ = some (.int .i64 L[i])) := by
      intro i hi
      rcases hc with rfl | ⟨b, o, rfl, hc⟩
      · simp at hi
      · exact ⟨b, o, rfl, hc i hi⟩
    clear b2 ol hc e0 e1 e2 e3
    obtain ⟨nl, hn⟩ : ∃ nl, L.length = nl := ⟨_, rfl⟩
    have hcap : nl ≤ cl := by
      rw [← hn]
      exact HCAP.out
    rw [hn] at hcl L2 ⊢
    have HN := Lib.hid hn
    clear hn
    go_wp2
    go_loopw [6, 7, 18] (fun _ _ i wr => ∃ k : Nat, k ≤ nl ∧ i = .int .i64 k ∧ Hid (r = pairsF (sameF P) (L.take k) (L.drop k)) ∧ Below w2.heap.size w2 wr) (fun _ _ i _ => nl - (intOf i).toNat)
    case atStart => exact ⟨0, Nat.zero_le _, rfl, HE, Below.refl _ _⟩
    case round =>
      clear HE
      obtain ⟨k, hk, rfl, HS, hb⟩ := hrel
      have HB := Lib.hid hb
      clear hb
      by_cases hlt : k < nl
      · have hkl : k < L.length := by rw [HN.out]; exact hlt
        obtain ⟨b, o, rfl, e0⟩ := HC.out k hkl
        have hbl := World.block_lt_of_cell? w2 _ e0
        obtain ⟨hx60, hfx⟩ := D.out L[k] (List.getElem_mem hkl)
        obtain ⟨x, hx⟩ : ∃ x, L[k] = x := ⟨_, rfl⟩
        have HST : Hid (r = (rowB (sameF P) x ((L.take k).drop 0) && pairsF (sameF P) (L.take (k + 1)) (L.drop (k + 1)))) := by
          unfold Hid
          rw [HS.out, List.drop_eq_getElem_cons hkl, List.take_succ_eq_append_getElem hkl, hx]; rfl
        rw [hx] at e0 hx60 hfx
        have e1 : wr.cell? ⟨b, o + k, none⟩ = some (.int .i64 x) := by rw [HB.out.cell (p := ⟨b, o + k, none⟩) hbl]; exact e0
        obtain ⟨q, hq⟩ : ∃ q, pairsF (sameF P) (L.take (k + 1)) (L.drop (k + 1)) = q := ⟨_, rfl⟩
        have HQ := Lib.hid hq
        rw [hq] at HST
        have HFX := Lib.hid hfx
        have i0 : (0 : Int) ≤ (k : Int) := by omega
        have i1 : (k : Int) < (nl : Int) := by omega
        have i2 : ¬ (cl : Int) < (k : Int) := by omega
        have i3 : k ≤ cl := by omega
        clear e0 hbl hx hkl hfx hq HS
        go_wp2
        obtain ⟨wo, hwo⟩ : ∃ wo : World, wo = wr := ⟨_, rfl⟩
        have HB0 : Hid (Below w2.heap.size w2 wo) := by unfold Hid; rw [hwo]; exact HB.out
        clear e1
        go_loopw [9, 27] (fun _ jv ws => ∃ j : Nat, j ≤ k ∧ jv = .int .i64 j ∧ Hid (r = (rowB (sameF P) x ((L.take k).drop j) && q)) ∧ Below w2.heap.size w2 ws) (fun _ jv _ => k - (intOf jv).toNat)
        case atStart => exact ⟨0, Nat.zero_le _, rfl, HST, HB.out⟩
        case round =>
          clear HST HB hwo
          obtain ⟨j, hj, rfl, HST, hb5⟩ := hrel
          have HB5 := Lib.hid hb5
          clear hb5
          by_cases hjk : j < k
          · have hjl : j < L.length := by rw [HN.out]; omega
            obtain ⟨b', o', hbb, e0⟩ := HC.out j hjl
            cases hbb
            have hbl := World.block_lt_of_cell? w2 _ e0
            obtain ⟨hy60, hfy⟩ := D.out L[j] (List.getElem_mem hjl)
            have hjt : j < (L.take k).length := by simp; omega
            have hgt : (L.take k)[j] = L[j] := by simp
            obtain ⟨y, hy⟩ : ∃ y, L[j] = y := ⟨_, rfl⟩
            have HST2 : Hid (r = ((!(sameF P) x y && rowB (sameF P) x ((L.take k).drop (j + 1))) && q)) := by
              unfold Hid
              rw [HST.out, List.drop_eq_getElem_cons hjt, hgt, hy]; rfl
            rw [hy] at e0 hy60 hfy
            have e1 : wr.cell? ⟨b, o + j, none⟩ = some (.int .i64 y) := by rw [HB5.out.cell (p := ⟨b, o + j, none⟩) hbl]; exact e0
            have HFY := Lib.hid hfy
            have j0 : (0 : Int) ≤ (j : Int) := by omega
            have j1 : (j : Int) < (k : Int) := by omega
            clear e0 hbl hy hjl hfy hjt hgt HST
            have FX := Lib.hid (HFX.out wr (H2.out.below HB5.out))
            unfold Lists at FX
            go_wp2_with fail
            refine FX.out.mono ?_
            rintro e w3 ⟨va, rfl, oa, b3⟩
            have B3 := Lib.hid (HB5.out.trans (b3.mono HB5.out.size))
            have RA := Lib.hid (IntsAt.of_lists oa)
            have FY := Lib.hid (HFY.out w3 (H2.out.below B3.out))
            unfold Lists at FY
            obtain ⟨aa, na, ca, rfl⟩ := RA.out.form
            clear oa b3
            go_wp2_with fail
            refine FY.out.mono ?_
            rintro e w4 ⟨vb, rfl, ob, b4⟩
            have B4 := Lib.hid (B3.out.trans (b4.mono B3.out.size))
            have RA4 := Lib.hid (RA.out.below b4)
            have RB := Lib.hid (IntsAt.of_lists ob)
            obtain ⟨ab, nb, cb, rfl⟩ := RB.out.form
            have SM := Lib.hid (specSame _ _ _ _ w4 RA4.out RB.out (by omega) (by omega))
            clear ob b4
            go_wp2_with fail
            refine SM.out.mono ?_
            rintro e w5 ⟨rfl, rfl⟩
            have HsameF : Hid (sameF P x y = decide (followL P x = followL P y)) := rfl
            generalize decide (followL P x = followL P y) = tt at HsameF ⊢
            cases tt with
            | true =>
              have HR : Hid (r = false) := by unfold Hid; rw [HST2.out, HsameF.out]; rfl
              go_wp2
              go_ret
              exact ⟨ret_bool HR.out.symm, below_up B2.out B4.out⟩
            | false =>
              have HS2 : Hid (r = (rowB (sameF P) x ((L.take k).drop (j + 1)) && q)) := by unfold Hid; rw [HST2.out, HsameF.out]; rfl
              go_wp2
              go_roundw
              case rel => exact ⟨j + 1, by omega, by go_num, HS2, B4.out⟩
              case measure => simp [intOf]; omega
          · have HS2 : Hid (r = pairsF (sameF P) (L.take (k + 1)) (L.drop (k + 1))) := by
              unfold Hid
              rw [HST.out, HQ.out, List.drop_of_length_le (by simp; omega)]; rfl
            go_wp2
            go_roundw
            case rel => exact ⟨k + 1, by omega, by go_num, HS2, HB5.out⟩
            case measure => simp [intOf]; omega
      · have HR : Hid (r = true) := by
          unfold Hid
          rw [HS.out, List.drop_of_length_le (by rw [HN.out]; omega)]; rfl
        go_wp2
        go_ret
        exact ⟨ret_bool HR.out.symm, below_up B2.out HB.out⟩

set_option maxRecDepth 100000 in
set_option maxHeartbeats 3200000 in
theorem specFindsCoin (v : Value) (P : List ND) (n : Int) (h l z : Bool) (w : World) (hp : NodesAt w v P) (hm : P.length ≤ 1048576) (hl : ∀ d ∈ P, d.L.length ≤ 1048576 ∧ d.R.length ≤ 1048576) (_ : -9223372036854775808 ≤ n ∧ n ≤ 9223372036854775807) :
    Calls Try.prog 37 #[probV n h l z, v] w fun e w' => e = .returned (.bool (findsB P n h l z)) ∧ Below w.heap.size w w' := by
  have C0 := Lib.hid (fun W hW => specGood v P n h l z W hW hm hl)
  have C1 := Lib.hid (fun W => specCasesOf n h l z W)
  have HG : Hid (findsB P n h l z = (goodB P n h l z && pairsF (coinF P) [] (casesL n h l z))) := rfl
  have C2 : Hid (goodB P n h l z = true → ∀ c ∈ casesL n h l z, ((followL P c).length ≤ 60) ∧ ∀ W, NodesAt W v P → Calls Try.prog 63 #[v, .int .i64 c] W (Lists (followL P c) W)) := fun hg c hc => by
    unfold goodB at hg
    rw [Bool.and_eq_true] at hg
    have := cases_in hc
    have hf := followL_len hg.2 c
    exact ⟨hf, fun W hW => specFollow v P n c W hW hl hg.2 (by omega) (by omega)⟩
  have hcl := cases_len n h l z
  have HC13 : Hid (∀ c ∈ casesL n h l z, -13 ≤ c ∧ c ≤ 13) := fun c hc => cases_in hc
  have P0 := Lib.hid (ProbAt.new w 24 n h l z)
  have B0 := Lib.hid (alloc_below w (.cells #[.int .i64 n, .bool h, .bool l, .bool z] 24))
  unfold probV at C0 C1 ⊢
  unfold Lists at C1
  generalize hX0 : w.alloc (.cells #[.int .i64 n, .bool h, .bool l, .bool z] 24) = X0 at P0 B0
  have H0 := Lib.hid (hp.below B0.out)
  obtain ⟨a0, c0, rfl⟩ := hp.form
  clear hp hm hl
  generalize P.length = k0 at H0 C0 C2
  generalize findsB P n h l z = r at HG ⊢
  generalize goodB P n h l z = t at C0 HG C2
  generalize casesL n h l z = L at C1 C2 HG hcl HC13
  obtain ⟨e0, e1, e2, e3, -⟩ := P0.out
  cases t with
  | false =>
    have HE : Hid (r = false) := HG.out
    clear C2 C1
    go_enter Try.func37, Try.ntmps37
    go_wp2_with fail
    refine (C0.out _ H0.out).mono ?_
    rintro e w1 ⟨rfl, b1⟩
    have B1 := Lib.hid (below_up B0.out b1)
    clear b1
    go_wp2
    go_ret
    exact ⟨ret_bool HE.out.symm, B1.out⟩
  | true =>
    have HE : Hid (r = pairsF (coinF P) (L.take 0) (L.drop 0)) := HG.out
    have D := Lib.hid (C2.out rfl)
    clear C2 HG
    have KC : Hid (∀ c ∈ L, ∀ W, Calls Try.prog 68 #[.int .i64 c] W fun e w' => e = .returned (.int .i64 (coinI c)) ∧ W = w') := fun c hc W => specCoinOf c W (by have := HC13.out c hc; omega) (by have := HC13.out c hc; omega)
    go_enter Try.func37, Try.ntmps37
    go_wp2_with fail
    refine (C0.out _ H0.out).mono ?_
    rintro e w1 ⟨rfl, b1⟩
    have B1 := Lib.hid (below_up B0.out b1)
    have H1 := Lib.hid (H0.out.below b1)
    have P1 := Lib.hid (P0.out.below b1)
    clear b1 e0 e1 e2 e3 hX0
    obtain ⟨e0, e1, e2, e3, -⟩ := P1.out
    go_wp2_with fail
    refine (C1.out _).mono ?_
    rintro e w2 ⟨vl, rfl, ol, b2⟩
    have B2 := Lib.hid (below_up B1.out b2)
    have H2 := Lib.hid (H1.out.below b2)
    have L2 := Lib.hid (IntsAt.of_lists ol)
    have hcp := row_cap ol
    obtain ⟨al, cl, rfl, hc⟩ := L2.out
    have HCAP : Hid (L.length ≤ cl) := hcp _ _ _ rfl
    clear hcp
    have HC : Hid (∀ i (h : i < L.length), ∃ b o, al = some ⟨b, o, none⟩ ∧ w2.cell? ⟨b, o + i, none⟩ = some (.int .i64 L[i])) := by
      intro i hi
      rcases hc with rfl | ⟨b, o, rfl, hc⟩
      · simp at hi
      · exact ⟨b, o, rfl, hc i hi⟩
    clear b2 ol hc e0 e1 e2 e3
    obtain ⟨nl, hn⟩ : ∃ nl, L.length = nl := ⟨_, rfl⟩
    have hcap : nl ≤ cl := by
      rw [← hn]
      exact HCAP.out
    rw [hn] at hcl L2 ⊢
    have HN := Lib.hid hn
    clear hn
    go_wp2
    go_loopw [6, 7, 18] (fun _ _ i wr => ∃ k : Nat, k ≤ nl ∧ i = .int .i64 k ∧ Hid (r = pairsF (coinF P) (L.take k) (L.drop k)) ∧ Below w2.heap.size w2 wr) (fun _ _ i _ => nl - (intOf i).toNat)
    case atStart => exact ⟨0, Nat.zero_le _, rfl, HE, Below.refl _ _⟩
    case round =>
      clear HE
      obtain ⟨k, hk, rfl, HS, hb⟩ := hrel
      have HB := Lib.hid hb
      clear hb
      by_cases hlt : k < nl
      · have hkl : k < L.length := by rw [HN.out]; exact hlt
        obtain ⟨b, o, rfl, e0⟩ := HC.out k hkl
        have hbl := World.block_lt_of_cell? w2 _ e0
        obtain ⟨hx60, hfx⟩ := D.out L[k] (List.getElem_mem hkl)
        have hcx := KC.out L[k] (List.getElem_mem hkl)
        obtain ⟨x, hx⟩ : ∃ x, L[k] = x := ⟨_, rfl⟩
        have HST : Hid (r = (rowB (coinF P) x ((L.take k).drop 0) && pairsF (coinF P) (L.take (k + 1)) (L.drop (k + 1)))) := by
          unfold Hid
          rw [HS.out, List.drop_eq_getElem_cons hkl, List.take_succ_eq_append_getElem hkl, hx]; rfl
        rw [hx] at e0 hx60 hfx hcx
        have e1 : wr.cell? ⟨b, o + k, none⟩ = some (.int .i64 x) := by rw [HB.out.cell (p := ⟨b, o + k, none⟩) hbl]; exact e0
        obtain ⟨q, hq⟩ : ∃ q, pairsF (coinF P) (L.take (k + 1)) (L.drop (k + 1)) = q := ⟨_, rfl⟩
        have HQ := Lib.hid hq
        rw [hq] at HST
        have HFX := Lib.hid hfx
        have HCX := Lib.hid hcx
        clear hcx
        have i0 : (0 : Int) ≤ (k : Int) := by omega
        have i1 : (k : Int) < (nl : Int) := by omega
        have i2 : ¬ (cl : Int) < (k : Int) := by omega
        have i3 : k ≤ cl := by omega
        clear e0 hbl hx hkl hfx hq HS
        go_wp2
        obtain ⟨wo, hwo⟩ : ∃ wo : World, wo = wr := ⟨_, rfl⟩
        have HB0 : Hid (Below w2.heap.size w2 wo) := by unfold Hid; rw [hwo]; exact HB.out
        clear e1
        go_loopw [9, 27] (fun _ jv ws => ∃ j : Nat, j ≤ k ∧ jv = .int .i64 j ∧ Hid (r = (rowB (coinF P) x ((L.take k).drop j) && q)) ∧ Below w2.heap.size w2 ws) (fun _ jv _ => k - (intOf jv).toNat)
        case atStart => exact ⟨0, Nat.zero_le _, rfl, HST, HB.out⟩
        case round =>
          clear HST HB hwo
          obtain ⟨j, hj, rfl, HST, hb5⟩ := hrel
          have HB5 := Lib.hid hb5
          clear hb5
          by_cases hjk : j < k
          · have hjl : j < L.length := by rw [HN.out]; omega
            obtain ⟨b', o', hbb, e0⟩ := HC.out j hjl
            cases hbb
            have hbl := World.block_lt_of_cell? w2 _ e0
            obtain ⟨hy60, hfy⟩ := D.out L[j] (List.getElem_mem hjl)
            have hcy := KC.out L[j] (List.getElem_mem hjl)
            have hjt : j < (L.take k).length := by simp; omega
            have hgt : (L.take k)[j] = L[j] := by simp
            obtain ⟨y, hy⟩ : ∃ y, L[j] = y := ⟨_, rfl⟩
            have HST2 : Hid (r = ((!(coinF P) x y && rowB (coinF P) x ((L.take k).drop (j + 1))) && q)) := by
              unfold Hid
              rw [HST.out, List.drop_eq_getElem_cons hjt, hgt, hy]; rfl
            rw [hy] at e0 hy60 hfy hcy
            have e1 : wr.cell? ⟨b, o + j, none⟩ = some (.int .i64 y) := by rw [HB5.out.cell (p := ⟨b, o + j, none⟩) hbl]; exact e0
            have HFY := Lib.hid hfy
            have HCY := Lib.hid hcy
            clear hcy
            have j0 : (0 : Int) ≤ (j : Int) := by omega
            have j1 : (j : Int) < (k : Int) := by omega
            clear e0 hbl hy hjl hfy hjt hgt HST
            have HcoinF : Hid (coinF P x y = (!(coinI x == coinI y) && decide (followL P x = followL P y))) := rfl
            go_wp2_with fail
            refine (HCX.out _).mono ?_
            rintro e w3 ⟨rfl, rfl⟩
            go_wp2_with fail
            refine (HCY.out _).mono ?_
            rintro e w3 ⟨rfl, rfl⟩
            by_cases hcc : coinI x = coinI y
            · have hcn : (coinI x != coinI y) = false := by simp [hcc]
              have HS2 : Hid (r = (rowB (coinF P) x ((L.take k).drop (j + 1)) && q)) := by unfold Hid; rw [HST2.out, HcoinF.out, hcc]; simp
              generalize coinI x = u1 at hcn HcoinF HCX ⊢
              generalize coinI y = u2 at hcn HcoinF HCY ⊢
              go_wp2
              go_roundw
              case rel => exact ⟨j + 1, by omega, by go_num, HS2, HB5.out⟩
              case measure => simp [intOf]; omega
            · have hcn : (coinI x != coinI y) = true := by simp [hcc]
              have HFM : Hid (coinF P x y = decide (followL P x = followL P y)) := by unfold Hid; rw [HcoinF.out, beq_eq_false_iff_ne.2 hcc]; rfl
              clear HcoinF
              generalize coinI x = u1 at hcn HCX hcc ⊢
              generalize coinI y = u2 at hcn HCY hcc ⊢
              have FX := Lib.hid (HFX.out wr (H2.out.below HB5.out))
              unfold Lists at FX
              go_wp2_with fail
              refine FX.out.mono ?_
              rintro e w3 ⟨va, rfl, oa, b3⟩
              have B3 := Lib.hid (HB5.out.trans (b3.mono HB5.out.size))
              have RA := Lib.hid (IntsAt.of_lists oa)
              have FY := Lib.hid (HFY.out w3 (H2.out.below B3.out))
              unfold Lists at FY
              obtain ⟨aa, na, ca, rfl⟩ := RA.out.form
              clear oa b3
              go_wp2_with fail
              refine FY.out.mono ?_
              rintro e w4 ⟨vb, rfl, ob, b4⟩
              have B4 := Lib.hid (B3.out.trans (b4.mono B3.out.size))
              have RA4 := Lib.hid (RA.out.below b4)
              have RB := Lib.hid (IntsAt.of_lists ob)
              obtain ⟨ab, nb, cb, rfl⟩ := RB.out.form
              have SM := Lib.hid (specSame _ _ _ _ w4 RA4.out RB.out (by omega) (by omega))
              clear ob b4
              go_wp2_with fail
              refine SM.out.mono ?_
              rintro e w5 ⟨rfl, rfl⟩
              generalize decide (followL P x = followL P y) = tt at HFM ⊢
              cases tt with
              | true =>
                have HR : Hid (r = false) := by unfold Hid; rw [HST2.out, HFM.out]; rfl
                go_wp2
                go_ret
                exact ⟨ret_bool HR.out.symm, below_up B2.out B4.out⟩
              | false =>
                have HS2 : Hid (r = (rowB (coinF P) x ((L.take k).drop (j + 1)) && q)) := by unfold Hid; rw [HST2.out, HFM.out]; rfl
                go_wp2
                go_roundw
                case rel => exact ⟨j + 1, by omega, by go_num, HS2, B4.out⟩
                case measure => simp [intOf]; omega
          · have HS2 : Hid (r = pairsF (coinF P) (L.take (k + 1)) (L.drop (k + 1))) := by
              unfold Hid
              rw [HST.out, HQ.out, List.drop_of_length_le (by simp; omega)]; rfl
            go_wp2
            go_roundw
            case rel => exact ⟨k + 1, by omega, by go_num, HS2, HB5.out⟩
            case measure => simp [intOf]; omega
      · have HR : Hid (r = true) := by
          unfold Hid
          rw [HS.out, List.drop_of_length_le (by rw [HN.out]; omega)]; rfl
        go_wp2
        go_ret
        exact ⟨ret_bool HR.out.symm, below_up B2.out HB.out⟩
end Go.Proofs.Ytipbjioghicmlaa
