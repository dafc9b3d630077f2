/- The contract of the model's ExtendDetecting. Condition: the slice reads as integers. -/
import Derived.Test.YtoliloophjeooaaSumMore
import Derived.Test.YtoliloophjeooaaGWei
namespace Go.Proofs.Ytoliloophjeooaa
open Go.RowKit

theorem det_none {N : Nat} (h : 2 ≤ N) : detF [] N = false := by
  obtain ⟨M, rfl⟩ : ∃ M, N = M + 2 := ⟨N - 2, by omega⟩
  unfold detF allFrom allFrom
  simp [allFrom, detAt, sumL]
theorem det_some {n : Int} {P : List Int} (h : detB n P = true) : 0 < P.length := by
  obtain ⟨⟨n1, n10⟩, -, -⟩ := pools_in (detB_in h)
  cases P with
  | nil =>
    unfold detB at h
    rw [det_none (by
      have h1 : 2 ^ 1 ≤ 2 ^ n.toNat := Nat.pow_le_pow_right (by decide) (by omega)
      exact h1), Bool.and_false] at h
    cases h
  | cons x t => simp
theorem ext_cells {w0 W : World} {b o k c : Nat} {P : List Int} (h : IntsAt w0 (.slice (some ⟨b, o, none⟩) k c) P) (hb : Below w0.heap.size w0 W) : ∀ j u, (P.map (Value.int .i64))[j]? = some u → W.cell? ((⟨b, o, none⟩ : Addr).add j) = some u := by
  intro j u hj
  obtain ⟨a, cap, hv, hh⟩ := h.below hb
  cases hv
  rw [List.getElem?_map] at hj
  rcases hh with rfl | ⟨b', o', ha, hc⟩
  · simp at hj
  · cases ha
    have hlt : j < P.length := by
      rcases Nat.lt_or_ge j P.length with h' | h'
      · exact h'
      · rw [List.getElem?_eq_none h'] at hj; simp at hj
    rw [List.getElem?_eq_getElem hlt] at hj
    simp at hj
    subst hj
    rw [Addr.add_lit]
    exact hc j hlt
theorem ownJoin2 {w : World} {B i : Nat} {v : Value} (x : List Int) (y : Int) (hi : x.length = i) (h : w.ownsRow B 3 1 v (i + 1) (x.map (Value.int .i64) ++ [.int .i64 y])) : Own w B v (x ++ [y]) := by
  unfold Own
  rw [List.length_append, List.map_append, hi]
  simpa using h
theorem own_ne {W : World} {B k : Nat} {v : Value} {xs : List Value} (h : W.ownsRow B 3 1 v k xs) (hk : 0 < k) : v ≠ .slice none 0 0 := by
  rintro rfl
  rcases h.2 with ⟨-, h0⟩ | ⟨g, cap, cur, h0, -⟩
  · omega
  · cases h0
theorem Bare.drew {W : World} {g : Nat} (h : Bare W g) : Bare W.drew g := h
theorem cell_drew {W : World} {q : Nat} {v : Value} (h : W.cell? ⟨q, 0, none⟩ = some v) : W.drew.cell? ⟨q, 0, none⟩ = some v := h
theorem cell_grown {W w1 : World} {row : Option Nat} {q : Nat} {v : Value} (hg : W.grownBy w1 row) (hc : W.cell? ⟨q, 0, none⟩ = some v) (hne : row ≠ some q) : w1.cell? ⟨q, 0, none⟩ = some v := by
  have hlt := World.block_lt_of_cell? W _ hc
  unfold World.cell? at hc ⊢
  rw [hg.block q hlt (Ne.symm hne)]
  exact hc
theorem cell_at_alloc (W : World) (t : TypeId) (v : Value) {q : Nat} (h : W.heap.size = q) : (W.alloc (.cells #[v] t)).cell? ⟨q, 0, none⟩ = some v := by
  subst h
  unfold World.alloc World.cell?
  simp
theorem cell_old_alloc {W : World} {q : Nat} {v : Value} (hc : W.cell? ⟨q, 0, none⟩ = some v) (x : Obj) : (W.alloc x).cell? ⟨q, 0, none⟩ = some v := by
  have hlt := World.block_lt_of_cell? W _ hc
  unfold World.cell? at hc ⊢
  rw [(alloc_below W x).block q hlt]
  exact hc
theorem one_cells {W : World} {q : Nat} {v : Value} (hc : W.cell? ⟨q, 0, none⟩ = some v) : ∀ j u, [v][j]? = some u → W.cell? ((⟨q, 0, none⟩ : Addr).add j) = some u := by
  intro j u hj
  cases j with
  | zero =>
    simp at hj
    subst hj
    rw [Addr.add_lit]
    exact hc
  | succ j => simp at hj

set_option maxRecDepth 100000 in
set_option maxHeartbeats 3200000 in
theorem specExtend (n : Int) (v : Value) (P : List Int) (w : World) (h : IntsAt w v P) (hm : P.length ≤ 1048576) :
    Calls Try.prog 27 #[.int .i64 n, v] w (GivesS (extL n P) (extB n P) w) := by
  obtain ⟨i0, hi, hz0, hz1, hz2⟩ := info_parts infoIntA
  have CD := Lib.hid (specIsDetecting n v P w h hm)
  have HB : Hid (extB n P = (detB n P && (!decide (n = 10) && !decide (P.length = 12)))) := rfl
  have HL : Hid (extL n P = if extB n P = true then P ++ [2 ^ n.toNat] else []) := rfl
  by_cases hd : detB n P = true
  · have hpos := det_some hd
    have HIN := Lib.hid h
    obtain ⟨⟨n1, n10⟩, hl, -⟩ := pools_in (detB_in hd)
    rw [hd] at CD HB
    obtain ⟨a, c, rfl, hc⟩ := h
    obtain ⟨b, o, rfl, hcc⟩ : ∃ b off, a = some ⟨b, off, none⟩ ∧ ∀ i (h : i < P.length), w.cell? ⟨b, off + i, none⟩ = some (.int .i64 P[i]) := by
      rcases hc with h0 | hc
      · rw [h0] at hpos; simp at hpos
      · exact hc
    have HO := Lib.hid (ints_one P)
    have HSL : Hid ((P.map (Value.int .i64)).length = P.length * 1) := by unfold Hid; rw [List.length_map]; omega
    have HC : Hid (∀ j u, (P.map (Value.int .i64))[j]? = some u → w.cell? ((⟨b, o, none⟩ : Addr).add j) = some u) := fun j u hj => by
      obtain ⟨h1, h2⟩ := List.getElem?_eq_some_iff.1 hj
      rw [List.length_map] at h1
      rw [List.getElem_map] at h2
      rw [← h2, Addr.add_lit]
      exact hcc j h1
    unfold GivesS
    obtain ⟨k, hk⟩ : ∃ k, P.length = k := ⟨_, rfl⟩
    have HPK := Lib.hid hk
    rw [hk] at CD HB HSL HIN hl hpos ⊢
    by_cases h10 : n = 10
    · have HE : Hid (extB n P = false) := by unfold Hid; rw [HB.out, decide_eq_true h10]; rfl
      have HE2 : Hid (extL n P = []) := by unfold Hid; rw [HL.out, HE.out]; rfl
      generalize extB n P = eb at HE ⊢
      generalize extL n P = el at HE2 ⊢
      subst h10
      clear HB HL hd hk hc hcc
      go_enter Try.func27, Try.ntmps27
      go_wp2_with fail
      refine CD.out.mono ?_
      rintro e w1 ⟨rfl, bb⟩
      have B1 := Lib.hid bb
      clear bb
      go_wp2
      go_ret2
      rw [HE.out, HE2.out]
      exact ⟨_, rfl, Own.nil _ _, B1.out⟩
    · have hB10 : (n == 10) = false := by simpa using h10
      by_cases h12 : k = 12
      · have HE : Hid (extB n P = false) := by unfold Hid; rw [HB.out, decide_eq_true h12]; simp
        have HE2 : Hid (extL n P = []) := by unfold Hid; rw [HL.out, HE.out]; rfl
        generalize extB n P = eb at HE ⊢
        generalize extL n P = el at HE2 ⊢
        subst h12
        clear HB HL hd hk hc hcc
        go_enter Try.func27, Try.ntmps27
        go_wp2_with fail
        refine CD.out.mono ?_
        rintro e w1 ⟨rfl, bb⟩
        have B1 := Lib.hid bb
        clear bb
        go_wp2
        go_ret2
        rw [HE.out, HE2.out]
        exact ⟨_, rfl, Own.nil _ _, B1.out⟩
      · have hB12 : ((k : Int) == 12) = false := by rw [beq_eq_false_iff_ne]; omega
        have HE : Hid (extB n P = true) := by unfold Hid; rw [HB.out, decide_eq_false h10, decide_eq_false h12]; rfl
        obtain ⟨m, hmn⟩ : ∃ m : Nat, n.toNat = m := ⟨_, rfl⟩
        have HE2 : Hid (extL n P = P ++ [2 ^ m]) := by unfold Hid; rw [HL.out, HE.out, ← hmn]; rfl
        have hnm : n = (m : Int) := by omega
        subst hnm
        have hw : IntKind.i64.wrap (2 ^ m) = 2 ^ m := by
          have := two_pow_in m (by omega)
          rw [IntKind.wrap_i64]
          omega
        generalize extB (m : Int) P = eb at HE ⊢
        generalize extL (m : Int) P = el at HE2 ⊢
        have HW0 := Lib.hid hw
        obtain ⟨T, hT⟩ : ∃ T : Int, T = 2 ^ m := ⟨_, rfl⟩
        rw [← hT] at HE2
        have HW : Hid (IntKind.i64.wrap (2 ^ m) = T) := by unfold Hid; rw [hT]; exact HW0.out
        clear hw hT HW0
        have HX : Hid (P.length = k) := HPK.out
        have m0 : (0 : Int) ≤ (m : Int) := by omega
        clear HB HL hd hk hc hcc hmn h10 h12 HPK
        go_enter Try.func27, Try.ntmps27
        go_wp2_with fail
        refine CD.out.mono ?_
        rintro e w0 ⟨rfl, bb⟩
        have B0 := Lib.hid bb
        have HI : Hid (IntsAt w0 (.slice (some ⟨b, o, none⟩) k c) P) := (HIN.out.below B0.out : _)
        have HK : Hid (Below w0.heap.size w0 w0) := Lib.hid (Below.refl _ _)
        have z3 : w.heap.size ≤ w0.heap.size := B0.out.size
        clear bb
        go_wp2_with fail
        go_region_held3 (fun w' => w0.heap.size ≤ w'.heap.size)
          (first | exact Nat.le_refl _ | (focus (simp; done)) | (focus (simp; omega)) | exact HK.out.size | (have := HK.out.size; simp; omega))
          (first
            | ((refine step_append_own rfl (.tmp 19) (.tmp 20) 22 rfl w0.heap.size 3 i0 (.int .i64 0) 1 8 Try.underlying22 hi hz0 hz1 hz2 rfl (by decide) (.slice (some ⟨_, 0, none⟩) 0 0) 0 [] rfl (Bare.own ?_ ?_) ⟨b, o, none⟩ k c (P.map (Value.int .i64)) rfl HSL.out (ext_cells HI.out ?_) HO.out (by unfold maxLen; omega) (by omega) ?_ (by simp) ?_);
                  (first | exact Bare.drew (Bare.at _ _ rfl) | exact Bare.drew (Bare.alloc (Bare.at _ _ rfl) _) | (focus (refine Bare.drew (Bare.at _ _ ?_); simp; done)) | (focus (refine Bare.drew (Bare.alloc (Bare.at _ _ ?_) _); simp; done)) | fail);
                  (first | omega | (focus (simp; done)) | (focus (simp; omega)) | fail);
                  (first | exact HK.out | exact HK.out.drew | (focus (exact (HK.out.alloc HK.out.size _).drew)) | (focus (refine Below.drew (Below.alloc (Below.alloc HK.out ?_ _) ?_ _) <;> (simp; done))) | (focus (refine Below.drew (Below.alloc (Below.alloc HK.out ?_ _) ?_ _) <;> (simp; omega))) | exact HK.out.alloc HK.out.size _ | fail);
                  (first | omega | (focus (simp; done)) | (focus (simp; omega)) | fail);
                  intro v1 w1 hown hg hat hs1;
                  (refine addFact (A := Hid (Below w0.heap.size w0 w1)) ?_ (fun HK1 => ?_));
                  (focus (refine Below.grown ?_ hg ?_ ?_; ((first | exact HK.out | exact HK.out.drew | (focus (exact (HK.out.alloc HK.out.size _).drew)) | (focus (refine Below.drew (Below.alloc (Below.alloc HK.out ?_ _) ?_ _) <;> (simp; done))) | (focus (refine Below.drew (Below.alloc (Below.alloc HK.out ?_ _) ?_ _) <;> (simp; omega))) | exact HK.out.alloc HK.out.size _ | fail)); (first | omega | (focus (simp; done)) | (focus (simp; omega)) | fail); (intro q hq; simp [Value.ownBlock] at hq; omega)));
                  (try ((refine addFact (A := Hid (w1.cell? ⟨w0.heap.size + 1, 0, none⟩ = some (.int .i64 (IntKind.i64.wrap (2 ^ m))))) ?_ (fun HT => ?_)); (focus (refine cell_grown hg ?_ ?_; (focus (refine cell_drew (cell_at_alloc _ _ _ ?_); simp; done)); (focus (simp [Value.ownBlock]; done))))));
                  (try ((refine addFact (A := Hid (w1.cell? ⟨w0.heap.size, 0, none⟩ = some (.int .i64 (IntKind.i64.wrap (2 ^ m))))) ?_ (fun HT => ?_)); (focus (refine cell_grown hg ?_ ?_; (focus (refine cell_drew (cell_old_alloc (cell_at_alloc _ _ _ ?_) _); simp; done)); (focus (simp [Value.ownBlock]; done))))));
                  (refine addFact (A := Hid (w1.ownsRow w0.heap.size 3 1 v1 k (P.map (Value.int .i64)))) ?_ (fun OE => ?_));
                  (focus (have h0 := hown; rw [Nat.zero_add, List.nil_append] at h0; exact h0));
                  obtain ⟨a1, n1', c1, hv1⟩ := hs1;
                  subst hv1;
                  clear hown hg hat HK;
                  have HK := HK1;
                  clear HK1)
            | ((refine step_append_own rfl (.tmp 21) (.tmp 24) 22 rfl w0.heap.size 3 i0 (.int .i64 0) 1 8 Try.underlying22 hi hz0 hz1 hz2 rfl (by decide) (.slice (some ⟨a1, 0, none⟩) n1' c1) k (P.map (Value.int .i64)) rfl ?_ ⟨_, 0, none⟩ 1 1 [.int .i64 (IntKind.i64.wrap (2 ^ m))] rfl rfl ?_ (by simp [Value.oneCell']) (by unfold maxLen; omega) (by omega) ?_ (own_ne OE.out hpos) ?_);
                  (first | exact OE.out | exact owns_below OE.out (alloc_below _ _) | fail);
                  (first | exact one_cells HT.out | exact cell_one_new _ _ _ | fail);
                  (first | exact HK.out.size | (have := HK.out.size; simp; omega) | fail);
                  intro v2 w2 hown hg hat hs2;
                  (refine addFact (A := Hid (Below w0.heap.size w0 w2)) ?_ (fun HK2 => ?_));
                  (focus (refine Below.grown ?_ hg ?_ ?_; ((first | exact HK.out | exact HK.out.drew | (focus (exact (HK.out.alloc HK.out.size _).drew)) | (focus (refine Below.drew (Below.alloc (Below.alloc HK.out ?_ _) ?_ _) <;> (simp; done))) | (focus (refine Below.drew (Below.alloc (Below.alloc HK.out ?_ _) ?_ _) <;> (simp; omega))) | exact HK.out.alloc HK.out.size _ | fail)); (first | exact HK.out.size | (have := HK.out.size; simp; omega) | fail); (intro q hq; exact (OE.out.lt q hq).1)));
                  (refine addFact (A := Hid (Own w2 w0.heap.size v2 (P ++ [T]))) ?_ (fun V2 => ?_));
                  (focus (rw [HW.out] at hown; exact ownJoin2 P T HX.out hown));
                  obtain ⟨a2, n2, c2, hv2⟩ := hs2;
                  subst hv2;
                  clear hown hg hat HK;
                  have HK := HK2;
                  clear HK2)
            | (trace_state; fail))
        all_goals
          go_wp2
          go_ret2
          rw [HE.out, HE2.out]
          exact ⟨_, rfl, Own.lower V2.out z3, below_up B0.out HK.out⟩
  · have hd2 : detB n P = false := by simpa using hd
    rw [hd2] at CD HB
    have HE : Hid (extB n P = false) := HB.out
    have HE2 : Hid (extL n P = []) := by unfold Hid; rw [HL.out, HE.out]; rfl
    obtain ⟨a, c, rfl, -⟩ := h
    unfold GivesS
    generalize extB n P = eb at HE ⊢
    generalize extL n P = el at HE2 ⊢
    clear hd hd2 HB HL
    go_enter Try.func27, Try.ntmps27
    go_wp2_with fail
    refine CD.out.mono ?_
    rintro e w1 ⟨rfl, bb⟩
    have B1 := Lib.hid bb
    clear bb
    go_wp2
    go_ret2
    rw [HE.out, HE2.out]
    exact ⟨_, rfl, Own.nil _ _, B1.out⟩
end Go.Proofs.Ytoliloophjeooaa
