/- The contracts of the program's SolvesFor, FindsCoin, TotalCost and WorstCase, and the walks of their laws: each law returns true for every argument. Condition: the plan that came in reads as nodes. -/
import Derived.Test.YtipbjioghicmlaaTellsImpl
import Derived.Test.YtipbjioghicmlaaFollowLaw
namespace Go.Proofs.Ytipbjioghicmlaa
open Go.RowKit

theorem pairs_congr {f g : Int → Int → Bool} (hfg : ∀ x y, x ≠ y → f x y = g x y) : ∀ (l pre : List Int), (pre ++ l).Nodup → pairsF f pre l = pairsF g pre l
  | [], _, _ => rfl
  | x :: r, pre, h => by
    unfold pairsF
    have h2 : ((pre ++ [x]) ++ r).Nodup := by simpa using h
    rw [pairs_congr hfg r (pre ++ [x]) h2]
    congr 1
    have hx : x ∉ pre := fun hm => by
      rw [List.nodup_append] at h
      exact h.2.2 x hm x (by simp) rfl
    unfold rowB
    rw [Bool.eq_iff_iff, List.all_eq_true, List.all_eq_true]
    refine ⟨fun hh y hy => ?_, fun hh y hy => ?_⟩
    · rw [← hfg x y (fun e => hx (by rw [e]; exact hy))]; exact hh y hy
    · rw [hfg x y (fun e => hx (by rw [e]; exact hy))]; exact hh y hy
theorem cases_nodup (n : Int) (h l z : Bool) : (casesL n h l z).Nodup := by
  unfold casesL casesIn
  refine List.Pairwise.filter _ ?_
  unfold seg
  rw [List.pairwise_map]
  refine List.Pairwise.imp ?_ (List.nodup_range (n := 27))
  intro a b hab e
  omega
theorem good_walk (P : List ND) (n : Int) (h l z : Bool) : goodB P n h l z = decide (0 < (walkL P n h l z).length) := by
  unfold goodB walkL
  cases hv : planB P n with
  | false => rw [Bool.and_false, if_neg (by decide)]; rfl
  | true =>
    rw [Bool.and_true, if_pos rfl]
    cases hp : probB n h l with
    | false => rw [casesL_not hp]; rfl
    | true => exact (decide_eq_true (List.length_pos_iff.2 (cases_some hp))).symm
theorem walk_good {P : List ND} {n : Int} {h l z : Bool} (hg : goodB P n h l z = true) : walkL P n h l z = casesL n h l z := by
  unfold goodB at hg
  rw [Bool.and_eq_true] at hg
  unfold walkL
  rw [if_pos hg.2]
theorem walksIn {P : List ND} {n : Int} {h l z : Bool} {c : Int} (hc : c ∈ walkL P n h l z) : -13 ≤ c ∧ c ≤ 13 ∧ (followL P c).length ≤ 60 := by
  unfold walkL at hc
  split at hc
  · rename_i hv
    have := cases_in hc
    exact ⟨this.1, this.2, followL_len hv c⟩
  · cases hc
theorem walk_len (P : List ND) (n : Int) (h l z : Bool) : (walkL P n h l z).length ≤ 27 := by
  unfold walkL
  split
  · exact cases_len _ _ _ _
  · simp
theorem tells_case (P : List ND) (n : Int) (h l z : Bool) : (pairsF (clashF (followL P) fun c => c) [] (walkL P n h l z) && decide (0 < (walkL P n h l z).length)) = solvesB P n h l z := by
  unfold solvesB
  rw [← good_walk P n h l z]
  cases hg : goodB P n h l z with
  | false => rw [Bool.and_false, Bool.false_and]
  | true =>
    rw [Bool.and_true, Bool.true_and, walk_good hg]
    refine pairs_congr (fun x y hxy => ?_) _ _ (by simpa using cases_nodup n h l z)
    unfold clashF sameF
    rw [beq_eq_false_iff_ne.2 hxy]; rfl
theorem tells_coin (P : List ND) (n : Int) (h l z : Bool) : (pairsF (clashF (followL P) coinI) [] (walkL P n h l z) && decide (0 < (walkL P n h l z).length)) = findsB P n h l z := by
  unfold findsB
  rw [← good_walk P n h l z]
  cases hg : goodB P n h l z with
  | false => rw [Bool.and_false, Bool.false_and]
  | true =>
    rw [Bool.and_true, Bool.true_and, walk_good hg]
    rfl

set_option maxHeartbeats 800000 in
theorem implAnswer (c : Int) (w : World) : Calls Try.prog 57 #[.int .i64 c] w fun e w' => e = .returned (.int .i64 c) ∧ w = w' := by
  go_enter Try.func57, Try.ntmps57
  go_wp2
  go_ret
  exact ⟨rfl, rfl⟩

theorem WalksAt.form {w : World} {v : Value} {cs : List Int} {F : Int → List Int} (h : WalksAt w v cs F) : ∃ a n c, v = .slice a n c := by
  obtain ⟨a, cap, rfl, -⟩ := h
  exact ⟨_, _, _, rfl⟩

set_option maxRecDepth 100000 in
set_option maxHeartbeats 1600000 in
theorem implSolvesFor (v : Value) (P : List ND) (n : Int) (h l z : Bool) (w : World) (hp : NodesAt w v P) (hm : P.length ≤ 1048576) (hl : ∀ d ∈ P, d.L.length ≤ 1048576 ∧ d.R.length ≤ 1048576) :
    Calls Try.prog 21 #[probV n h l z, v] w fun e w' => e = .returned (.bool (solvesB P n h l z)) ∧ Below w.heap.size w w' := by
  have C0 := Lib.hid (fun W hW => implWalksOf v P n h l z W hW hm hl)
  have C1 := Lib.hid (fun u W (hW : WalksAt W u (walkL P n h l z) (followL P)) => implTellsCase u (walkL P n h l z) (followL P) (fun c => c) W hW (by have := walk_len P n h l z; omega) (fun c hc => by have := (walksIn hc).2.2; omega) (fun c _ W => implAnswer c W))
  have HT := tells_case P n h l z
  rw [HT] at C1
  clear HT
  have P0 := Lib.hid (ProbAt.new w 24 n h l z)
  have B0 := Lib.hid (alloc_below w (.cells #[.int .i64 n, .bool h, .bool l, .bool z] 24))
  unfold probV at C0 ⊢
  generalize hX0 : w.alloc (.cells #[.int .i64 n, .bool h, .bool l, .bool z] 24) = X0 at P0 B0
  have H0 := Lib.hid (hp.below B0.out)
  obtain ⟨a0, c0, rfl⟩ := hp.form
  clear hp hm hl
  generalize P.length = k0 at H0 C0
  generalize solvesB P n h l z = r at C1 ⊢
  obtain ⟨e0, e1, e2, e3, -⟩ := P0.out
  go_enter Try.func21, Try.ntmps21
  go_wp2_with fail
  refine (C0.out _ H0.out).mono ?_
  rintro e w1 ⟨u, rfl, hu, b1⟩
  have B1 := Lib.hid (below_up B0.out b1)
  have C2 := Lib.hid (C1.out u w1 hu)
  obtain ⟨au, nu, cu, rfl⟩ := hu.form
  clear b1 hu
  go_wp2_with fail
  refine C2.out.mono ?_
  rintro e w2 ⟨rfl, b2⟩
  have B2 := Lib.hid (below_up B1.out b2)
  clear b2
  go_wp2
  go_ret
  exact ⟨rfl, B2.out⟩

set_option maxRecDepth 100000 in
set_option maxHeartbeats 1600000 in
theorem implFindsCoin (v : Value) (P : List ND) (n : Int) (h l z : Bool) (w : World) (hp : NodesAt w v P) (hm : P.length ≤ 1048576) (hl : ∀ d ∈ P, d.L.length ≤ 1048576 ∧ d.R.length ≤ 1048576) :
    Calls Try.prog 22 #[probV n h l z, v] w fun e w' => e = .returned (.bool (findsB P n h l z)) ∧ Below w.heap.size w w' := by
  have C0 := Lib.hid (fun W hW => implWalksOf v P n h l z W hW hm hl)
  have C1 := Lib.hid (fun u W (hW : WalksAt W u (walkL P n h l z) (followL P)) => implTellsCoin u (walkL P n h l z) (followL P) coinI W hW (by have := walk_len P n h l z; omega) (fun c hc => by have := (walksIn hc).2.2; omega) (fun c hc W => implCoinOf c W (by have := (walksIn hc).1; omega) (by have := (walksIn hc).2.1; omega)))
  have HT := tells_coin P n h l z
  rw [HT] at C1
  clear HT
  have P0 := Lib.hid (ProbAt.new w 24 n h l z)
  have B0 := Lib.hid (alloc_below w (.cells #[.int .i64 n, .bool h, .bool l, .bool z] 24))
  unfold probV at C0 ⊢
  generalize hX0 : w.alloc (.cells #[.int .i64 n, .bool h, .bool l, .bool z] 24) = X0 at P0 B0
  have H0 := Lib.hid (hp.below B0.out)
  obtain ⟨a0, c0, rfl⟩ := hp.form
  clear hp hm hl
  generalize P.length = k0 at H0 C0
  generalize findsB P n h l z = r at C1 ⊢
  obtain ⟨e0, e1, e2, e3, -⟩ := P0.out
  go_enter Try.func22, Try.ntmps22
  go_wp2_with fail
  refine (C0.out _ H0.out).mono ?_
  rintro e w1 ⟨u, rfl, hu, b1⟩
  have B1 := Lib.hid (below_up B0.out b1)
  have C2 := Lib.hid (C1.out u w1 hu)
  obtain ⟨au, nu, cu, rfl⟩ := hu.form
  clear b1 hu
  go_wp2_with fail
  refine C2.out.mono ?_
  rintro e w2 ⟨rfl, b2⟩
  have B2 := Lib.hid (below_up B1.out b2)
  clear b2
  go_wp2
  go_ret
  exact ⟨rfl, B2.out⟩

set_option maxRecDepth 100000 in
set_option maxHeartbeats 3200000 in
theorem implTotalCost (v : Value) (P : List ND) (n : Int) (h l z : Bool) (w : World) (hp : NodesAt w v P) (hm : P.length ≤ 1048576) (hl : ∀ d ∈ P, d.L.length ≤ 1048576 ∧ d.R.length ≤ 1048576) :
    Calls Try.prog 20 #[probV n h l z, v] w fun e w' => e = .returned (.int .i64 (costR P n h l z)) ∧ Below w.heap.size w w' := by
  have C0 := Lib.hid (fun W hW => implWalksOf v P n h l z W hW hm hl)
  have HG : Hid (costR P n h l z = if 0 < (walkL P n h l z).length then sumF (costI P) (walkL P n h l z) else -1) := by
    unfold Hid costR
    cases hg : goodB P n h l z with
    | false => rw [good_walk] at hg; rw [if_neg (by decide), if_neg (of_decide_eq_false hg)]
    | true => rw [if_pos rfl, if_pos (by rw [good_walk] at hg; exact of_decide_eq_true hg), walk_good hg]
  have HI : Hid (∀ c ∈ walkL P n h l z, (followL P c).length ≤ 60) := fun c hc => (walksIn hc).2.2
  have hcl := walk_len P n h l z
  have P0 := Lib.hid (ProbAt.new w 24 n h l z)
  have B0 := Lib.hid (alloc_below w (.cells #[.int .i64 n, .bool h, .bool l, .bool z] 24))
  unfold probV at C0 ⊢
  generalize hX0 : w.alloc (.cells #[.int .i64 n, .bool h, .bool l, .bool z] 24) = X0 at P0 B0
  have H0 := Lib.hid (hp.below B0.out)
  obtain ⟨a0, c0, rfl⟩ := hp.form
  clear hp hm hl
  generalize P.length = k0 at H0 C0
  generalize costR P n h l z = r at HG ⊢
  generalize walkL P n h l z = L at C0 HG HI hcl
  obtain ⟨e0, e1, e2, e3, -⟩ := P0.out
  go_enter Try.func20, Try.ntmps20
  go_wp2_with fail
  refine (C0.out _ H0.out).mono ?_
  rintro e w1 ⟨u, rfl, hu, b1⟩
  have B1 := Lib.hid (below_up B0.out b1)
  obtain ⟨a, cap, rfl, -, hu⟩ := hu
  have HU := Lib.hid hu
  obtain ⟨nl, hn⟩ : ∃ nl, L.length = nl := ⟨_, rfl⟩
  rw [hn] at hcl HG ⊢
  have HN := Lib.hid hn
  clear b1 hu hn e0 e1 e2 e3 hX0
  by_cases hz : nl = 0
  · subst hz
    have HE : Hid (r = -1) := HG.out
    go_wp2
    go_ret
    exact ⟨ret_int HE.out.symm, B1.out⟩
  have kz : ((nl : Int) == 0) = false := beq_eq_false_iff_ne.2 (by omega)
  have HE : Hid (r = sumF (costI P) L) := by unfold Hid; rw [HG.out, if_pos (by omega)]
  clear HG
  go_wp2
  go_loopw [6, 8, 17] (fun sv _ i wr => ∃ (k : Nat) (s : Int), k ≤ nl ∧ i = .int .i64 k ∧ sv = .int .i64 s ∧ 0 ≤ s ∧ s ≤ 60 * k ∧ Hid (s = sumF (costI P) (L.take k)) ∧ Below w1.heap.size w1 wr) (fun _ _ i _ => nl - (intOf i).toNat)
  case atStart => exact ⟨0, 0, Nat.zero_le _, rfl, rfl, by omega, by omega, by simp [Hid, sumF], Below.refl _ _⟩
  case round =>
    obtain ⟨k, s, hk, rfl, rfl, s0, s1, HS, hb⟩ := hrel
    have HB := Lib.hid hb
    clear hb
    by_cases hlt : k < nl
    · have hkl : k < L.length := by rw [HN.out]; exact hlt
      obtain ⟨g, u, rfl, h1, h2, hu, hg⟩ := HU.out k hkl
      have hst := sumF_take (costI P) hkl
      have h60 := HI.out _ (List.getElem_mem hkl)
      obtain ⟨x, hx⟩ : ∃ x, L[k] = x := ⟨_, rfl⟩
      rw [hx] at h1 hu hst h60
      obtain ⟨au, cu, rfl, -⟩ := hu
      have hco : costI P x = ((followL P x).length : Int) := rfl
      rw [hco] at hst
      obtain ⟨na, hna⟩ : ∃ na, (followL P x).length = na := ⟨_, rfl⟩
      rw [hna] at h2 hst h60
      have HST := Lib.hid hst
      have e0 : wr.cell? ⟨g, k * 2, none⟩ = some (.int .i64 x) := by rw [HB.out.cell (p := ⟨g, k * 2, none⟩) hg]; exact h1
      have e1 : wr.cell? ⟨g, k * 2 + 1, none⟩ = some (.slice au na cu) := by rw [HB.out.cell (p := ⟨g, k * 2 + 1, none⟩) hg]; exact h2
      have P3 := Lib.hid (TwoAt.new wr 67 (.int .i64 x) (.slice au na cu))
      have B3 := Lib.hid (alloc_below wr (.cells #[.int .i64 x, .slice au na cu] 67))
      generalize hX3 : wr.alloc (.cells #[.int .i64 x, .slice au na cu] 67) = X3 at P3 B3
      have BX := Lib.hid (HB.out.trans (B3.out.mono HB.out.size))
      obtain ⟨f0, f1, -⟩ := P3.out
      have i0 : (0 : Int) ≤ (k : Int) := by omega
      have i1 : (k : Int) < (nl : Int) := by omega
      clear h1 h2 hx hkl hst hco hna
      go_wp2
      go_roundw
      case rel => exact ⟨k + 1, s + (na : Int), by omega, by go_num, by go_num, by omega, by omega, by unfold Hid; rw [HST.out, HS.out], BX.out⟩
      case measure => simp [intOf]; omega
    · have HR : Hid (r = s) := by
        unfold Hid
        rw [HE.out, HS.out, List.take_of_length_le (by rw [HN.out]; omega)]
      go_wp2
      go_ret
      exact ⟨ret_int HR.out.symm, below_up B1.out HB.out⟩

theorem worst_from {f : Int → Int} {c : Int} {r : List Int} (h : -1 < f c) : worstF f (c :: r) (-1) 0 = worstF f ((c :: r).drop 0) (f c) c := by
  show (if -1 < f c then _ else _) = (if f c < f c then _ else _)
  rw [if_pos h, if_neg (Int.lt_irrefl _)]

set_option maxRecDepth 100000 in
set_option maxHeartbeats 3200000 in
theorem implWorstCase (v : Value) (P : List ND) (n : Int) (h l z : Bool) (w : World) (hp : NodesAt w v P) (hm : P.length ≤ 1048576) (hl : ∀ d ∈ P, d.L.length ≤ 1048576 ∧ d.R.length ≤ 1048576) :
    Calls Try.prog 15 #[probV n h l z, v] w fun e w' => e = .returned (.tuple #[.int .i64 (worstR P n h l z), .bool (goodB P n h l z)]) ∧ Below w.heap.size w w' := by
  have C0 := Lib.hid (fun W hW => implWalksOf v P n h l z W hW hm hl)
  have HG : Hid (worstR P n h l z = if 0 < (walkL P n h l z).length then worstF (costI P) (walkL P n h l z) (-1) 0 else 0) := by
    unfold Hid worstR
    cases hg : goodB P n h l z with
    | false => rw [good_walk] at hg; rw [if_neg (by decide), if_neg (of_decide_eq_false hg)]
    | true => rw [if_pos rfl, if_pos (by rw [good_walk] at hg; exact of_decide_eq_true hg), walk_good hg]
  have HT := Lib.hid (good_walk P n h l z)
  have HI : Hid (∀ c ∈ walkL P n h l z, (followL P c).length ≤ 60) := fun c hc => (walksIn hc).2.2
  have hcl := walk_len P n h l z
  have P0 := Lib.hid (ProbAt.new w 24 n h l z)
  have B0 := Lib.hid (alloc_below w (.cells #[.int .i64 n, .bool h, .bool l, .bool z] 24))
  unfold probV at C0 ⊢
  generalize hX0 : w.alloc (.cells #[.int .i64 n, .bool h, .bool l, .bool z] 24) = X0 at P0 B0
  have H0 := Lib.hid (hp.below B0.out)
  obtain ⟨a0, c0, rfl⟩ := hp.form
  clear hp hm hl
  generalize P.length = k0 at H0 C0
  generalize worstR P n h l z = r at HG ⊢
  generalize goodB P n h l z = t at HT ⊢
  generalize walkL P n h l z = L at C0 HG HI HT hcl
  obtain ⟨e0, e1, e2, e3, -⟩ := P0.out
  go_enter Try.func15, Try.ntmps15
  go_wp2_with fail
  refine (C0.out _ H0.out).mono ?_
  rintro e w1 ⟨u, rfl, hu, b1⟩
  have B1 := Lib.hid (below_up B0.out b1)
  obtain ⟨a, cap, rfl, -, hu⟩ := hu
  have HU := Lib.hid hu
  obtain ⟨nl, hn⟩ : ∃ nl, L.length = nl := ⟨_, rfl⟩
  rw [hn] at hcl HG HT ⊢
  have HN := Lib.hid hn
  clear b1 hu hn e0 e1 e2 e3 hX0
  by_cases hz : nl = 0
  · subst hz
    have HE : Hid (r = 0) := HG.out
    have HF : Hid (t = false) := HT.out
    go_wp2
    go_ret2
    exact ⟨by rw [HE.out, HF.out]; rfl, B1.out⟩
  have kz : ((nl : Int) == 0) = false := beq_eq_false_iff_ne.2 (by omega)
  have HF : Hid (t = true) := by unfold Hid; rw [HT.out]; exact decide_eq_true (by omega)
  have hl0 : 0 < L.length := by rw [HN.out]; omega
  have HE : Hid (r = worstF (costI P) (L.drop 0) (costI P L[0]) L[0]) := by
    unfold Hid
    rw [HG.out, if_pos (by omega)]
    cases L with
    | nil => simp at hl0
    | cons c r => exact worst_from (by unfold costI; omega)
  obtain ⟨g, u, rfl, h1, h2, hu, hg⟩ := HU.out 0 hl0
  obtain ⟨x0, hx0⟩ : ∃ x, L[0] = x := ⟨_, rfl⟩
  rw [hx0] at h1 hu HE
  obtain ⟨au, cu, rfl, -⟩ := hu
  have hco : costI P x0 = ((followL P x0).length : Int) := rfl
  obtain ⟨n0, hna⟩ : ∃ na, (followL P x0).length = na := ⟨_, rfl⟩
  rw [hna] at h2 hco
  rw [hco] at HE
  have e0 : w1.cell? ⟨g, 0, none⟩ = some (.int .i64 x0) := by simpa using h1
  have e1 : w1.cell? ⟨g, 1, none⟩ = some (.slice au n0 cu) := by simpa using h2
  have V2 := Lib.hid (VarAt.new w1 67 (.int .i64 x0) (.slice au n0 cu))
  have B2 := Lib.hid (alloc_below w1 (.cells #[.int .i64 x0, .slice au n0 cu] 67))
  generalize hX2 : w1.alloc (.cells #[.int .i64 x0, .slice au n0 cu] 67) = X2 at V2 B2
  have i2 : (0 : Int) < (nl : Int) := by omega
  clear h1 h2 hx0 hco hna HG HT hl0
  go_wp2
  clear e0 e1
  go_loopw [9, 21] (fun _ i wr => ∃ (k : Nat) (s : Int) (ad : Option Addr) (ns cs : Nat), k ≤ nl ∧ i = .int .i64 k ∧ Hid (r = worstF (costI P) (L.drop k) (ns : Int) s) ∧ Hid (VarAt wr w1.heap.size (.int .i64 s) (.slice ad ns cs)) ∧ Below w1.heap.size w1 wr) (fun _ i _ => nl - (intOf i).toNat)
  case atStart => exact ⟨0, x0, au, n0, cu, Nat.zero_le _, rfl, HE, V2, B2.out⟩
  case round =>
    clear HE V2 B2 hX2
    obtain ⟨k, s, ad, ns, qs, hk, rfl, HS, V3, hb⟩ := hrel
    have HB := Lib.hid hb
    clear hb
    by_cases hlt : k < nl
    · have hkl : k < L.length := by rw [HN.out]; exact hlt
      obtain ⟨g', u, hgg, h1, h2, hu, hg'⟩ := HU.out k hkl
      cases hgg
      have h60 := HI.out _ (List.getElem_mem hkl)
      have hst : ∀ q s, worstF (costI P) (L.drop k) q s = if q < costI P L[k] then worstF (costI P) (L.drop (k + 1)) (costI P L[k]) L[k] else worstF (costI P) (L.drop (k + 1)) q s := fun q s => by
        rw [List.drop_eq_getElem_cons hkl]; rfl
      obtain ⟨x, hx⟩ : ∃ x, L[k] = x := ⟨_, rfl⟩
      rw [hx] at h1 hu h60
      have hst2 := hst (ns : Int) s
      rw [hx] at hst2
      obtain ⟨av, cv, rfl, -⟩ := hu
      have hco : costI P x = ((followL P x).length : Int) := rfl
      rw [hco] at hst2
      obtain ⟨na, hna⟩ : ∃ na, (followL P x).length = na := ⟨_, rfl⟩
      rw [hna] at h2 hst2 h60
      have HST := Lib.hid hst2
      have e0 : wr.cell? ⟨g, k * 2, none⟩ = some (.int .i64 x) := by rw [HB.out.cell (p := ⟨g, k * 2, none⟩) hg]; exact h1
      have e1 : wr.cell? ⟨g, k * 2 + 1, none⟩ = some (.slice av na cv) := by rw [HB.out.cell (p := ⟨g, k * 2 + 1, none⟩) hg]; exact h2
      have P3 := Lib.hid (TwoAt.new wr 67 (.int .i64 x) (.slice av na cv))
      have B3 := Lib.hid (alloc_below wr (.cells #[.int .i64 x, .slice av na cv] 67))
      generalize hX3 : wr.alloc (.cells #[.int .i64 x, .slice av na cv] 67) = X3 at P3 B3
      have BX := Lib.hid (HB.out.trans (B3.out.mono HB.out.size))
      have V4 := Lib.hid (V3.out.below B3.out)
      obtain ⟨f0, f1, -⟩ := P3.out
      obtain ⟨⟨d0, d1, d2⟩, z0, z1⟩ := V4.out
      have i0 : (0 : Int) ≤ (k : Int) := by omega
      have i1 : (k : Int) < (nl : Int) := by omega
      clear h1 h2 hx hkl hst hst2 hco hna
      by_cases hgt : (ns : Int) < (na : Int)
      · have HS2 : Hid (r = worstF (costI P) (L.drop (k + 1)) (na : Int) x) := by unfold Hid; rw [HS.out, HST.out, if_pos hgt]
        go_wp2
        go_roundw
        case rel => exact ⟨k + 1, x, av, na, cv, by omega, by go_num, HS2, (V4.out.set0 _).set1 _, (BX.out.setCell (p := ⟨w1.heap.size, 0, none⟩) (Nat.le_refl _) _).setCell (p := ⟨w1.heap.size, 1, none⟩) (Nat.le_refl _) _⟩
        case measure => simp [intOf]; omega
      · have HS2 : Hid (r = worstF (costI P) (L.drop (k + 1)) (ns : Int) s) := by unfold Hid; rw [HS.out, HST.out, if_neg hgt]
        go_wp2
        go_roundw
        case rel => exact ⟨k + 1, s, ad, ns, qs, by omega, by go_num, HS2, V4, BX.out⟩
        case measure => simp [intOf]; omega
    · have HR : Hid (r = s) := by
        unfold Hid
        rw [HS.out, List.drop_of_length_le (by rw [HN.out]; omega)]; rfl
      obtain ⟨⟨d0, d1, d2⟩, z0, z1⟩ := V3.out
      go_wp2
      go_ret2
      exact ⟨by rw [HR.out, HF.out]; rfl, below_up B1.out HB.out⟩

set_option maxRecDepth 100000 in
theorem walkFnExactSolvesFor (w : World) (n : Int) (wn : (Lit.int .i64 n).wf = true) (h l z : Bool) (v : Value) (P : List ND) (cp : CameNodes w v P) :
    Calls Try.prog 8 #[probV n h l z, v] w fun e w' => e = .returned (.bool true) ∧ Below w.heap.size w w' :=
  lawSolvesFor (fun P n h l z hs _ W v hW => implSolvesFor v P n h l z W hW (sizes_len hs) (SzP.lists hs)) w n wn h l z v P cp
set_option maxRecDepth 100000 in
theorem walkFnExactFindsCoin (w : World) (n : Int) (wn : (Lit.int .i64 n).wf = true) (h l z : Bool) (v : Value) (P : List ND) (cp : CameNodes w v P) :
    Calls Try.prog 9 #[probV n h l z, v] w fun e w' => e = .returned (.bool true) ∧ Below w.heap.size w w' :=
  lawFindsCoin (fun P n h l z hs _ W v hW => implFindsCoin v P n h l z W hW (sizes_len hs) (SzP.lists hs)) w n wn h l z v P cp
set_option maxRecDepth 100000 in
theorem walkFnExactTotalCost (w : World) (n : Int) (wn : (Lit.int .i64 n).wf = true) (h l z : Bool) (v : Value) (P : List ND) (cp : CameNodes w v P) :
    Calls Try.prog 10 #[probV n h l z, v] w fun e w' => e = .returned (.bool true) ∧ Below w.heap.size w w' :=
  lawTotalCost (fun P n h l z hs _ W v hW => implTotalCost v P n h l z W hW (sizes_len hs) (SzP.lists hs)) w n wn h l z v P cp
set_option maxRecDepth 100000 in
theorem walkFnExactWorstCase (w : World) (n : Int) (wn : (Lit.int .i64 n).wf = true) (h l z : Bool) (v : Value) (P : List ND) (cp : CameNodes w v P) :
    Calls Try.prog 11 #[probV n h l z, v] w fun e w' => e = .returned (.bool true) ∧ Below w.heap.size w w' :=
  lawWorstCase (fun P n h l z hs _ W v hW => implWorstCase v P n h l z W hW (sizes_len hs) (SzP.lists hs)) w n wn h l z v P cp
end Go.Proofs.Ytipbjioghicmlaa
