/- The contract of the program's ExtendDetecting. Condition: the slice reads as integers. -/
import Derived.Test.YtlflblngbneacabGreatDoorGTell
import Derived.Test.YtlflblngbneacabGreatDoorGSumL
import Derived.Test.YtlflblngbneacabGreatDoorStepsUp
namespace Go.Proofs.YtlflblngbneacabGreatDoor
open Go.RowKit

theorem own_form_some {W : World} {B k : Nat} {v : Value} {xs : List Value} (h : W.ownsRow B 3 1 v k xs) (hk : 0 < k) : ∃ g c, v = .slice (some ⟨g, 0, none⟩) k c := by
  rcases h.2 with ⟨-, h0⟩ | ⟨g, cap, cur, h0, -⟩
  · omega
  · exact ⟨g, cap, h0⟩
theorem owns_lowerX {w : World} {B B' e s n : Nat} {v : Value} {xs : List Value} (h : w.ownsRow B e s v n xs) (hB : B' ≤ B) : w.ownsRow B' e s v n xs :=
  ⟨h.1, h.2.imp id fun ⟨g, cap, cur, a, b, c⟩ => ⟨g, cap, cur, a, Nat.le_trans hB b, c⟩⟩

set_option maxRecDepth 100000 in
set_option maxHeartbeats 3200000 in
theorem implExtend (n : Int) (v : Value) (P : List Int) (w : World) (h : IntsAt w v P) (hm : P.length ≤ 1048576) :
    Calls Tryz.prog 25 #[.int .i64 n, v] w (GivesS (extL n P) (extB n P) w) := by
  obtain ⟨i0, hi, hz0, hz1, hz2⟩ := info_parts infoIntA
  have CD := Lib.hid (implDetecting n v P w h hm)
  have HB : Hid (extB n P = (detB n P && (!decide (n = 10) && !decide (P.length = 12)))) := rfl
  have HL : Hid (extL n P = if extB n P = true then P ++ [2 ^ n.toNat] else []) := rfl
  by_cases hd : detB n P = true
  · have hpos := det_some hd
    have HIN := Lib.hid h
    obtain ⟨⟨n1, n10⟩, hl, -⟩ := pools_in (detB_in hd)
    rw [hd] at CD HB
    obtain ⟨a, c, rfl, hc⟩ := h
    obtain ⟨b, o, rfl, hcc⟩ : ∃ b off, a = some ⟨b, off, none⟩ ∧ ∀ i (h : i < P.length), w.cell? ⟨b, off + i, none⟩ = some (.int .i64 P[i]) := by
      rcases hc with h0 | hc
      · rw [h0] at hpos; simp at hpos
      · exact hc
    have HO := Lib.hid (ints_one P)
    have HSL : Hid ((P.map (Value.int .i64)).length = P.length * 1) := by unfold Hid; rw [List.length_map]; omega
    have HC : Hid (∀ j u, (P.map (Value.int .i64))[j]? = some u → w.cell? ((⟨b, o, none⟩ : Addr).add j) = some u) := fun j u hj => by
      obtain ⟨h1, h2⟩ := List.getElem?_eq_some_iff.1 hj
      rw [List.length_map] at h1
      rw [List.getElem_map] at h2
      rw [← h2, Addr.add_lit]
      exact hcc j h1
    unfold GivesS
    obtain ⟨k, hk⟩ : ∃ k, P.length = k := ⟨_, rfl⟩
    have HPK := Lib.hid hk
    rw [hk] at CD HB HSL HIN hl hpos ⊢
    by_cases h10 : n = 10
    · have HE : Hid (extB n P = false) := by unfold Hid; rw [HB.out, decide_eq_true h10]; rfl
      have HE2 : Hid (extL n P = []) := by unfold Hid; rw [HL.out, HE.out]; rfl
      generalize extB n P = eb at HE ⊢
      generalize extL n P = el at HE2 ⊢
      subst h10
      clear HB HL hd hk hc hcc
      go_enter Tryz.func25, Tryz.ntmps25
      go_wp2_with fail
      refine CD.out.mono ?_
      rintro e w1 ⟨rfl, bb⟩
      have B1 := Lib.hid bb
      clear bb
      go_wp2
      go_ret2
      rw [HE.out, HE2.out]
      exact ⟨_, rfl, Own.nil _ _, B1.out⟩
    · have hB10 : (n == 10) = false := by simpa using h10
      by_cases h12 : k = 12
      · have HE : Hid (extB n P = false) := by unfold Hid; rw [HB.out, decide_eq_true h12]; simp
        have HE2 : Hid (extL n P = []) := by unfold Hid; rw [HL.out, HE.out]; rfl
        generalize extB n P = eb at HE ⊢
        generalize extL n P = el at HE2 ⊢
        subst h12
        clear HB HL hd hk hc hcc
        go_enter Tryz.func25, Tryz.ntmps25
        go_wp2_with fail
        refine CD.out.mono ?_
        rintro e w1 ⟨rfl, bb⟩
        have B1 := Lib.hid bb
        clear bb
        go_wp2
        go_ret2
        rw [HE.out, HE2.out]
        exact ⟨_, rfl, Own.nil _ _, B1.out⟩
      · have hB12 : ((k : Int) == 12) = false := by rw [beq_eq_false_iff_ne]; omega
        have HE : Hid (extB n P = true) := by unfold Hid; rw [HB.out, decide_eq_false h10, decide_eq_false h12]; rfl
        obtain ⟨m, hmn⟩ : ∃ m : Nat, n.toNat = m := ⟨_, rfl⟩
        have HE2 : Hid (extL n P = P ++ [2 ^ m]) := by unfold Hid; rw [HL.out, HE.out, ← hmn]; rfl
        have hnm : n = (m : Int) := by omega
        subst hnm
        have hw : IntKind.i64.wrap (2 ^ m) = 2 ^ m := by
          have := two_pow_in m (by omega)
          rw [IntKind.wrap_i64]
          omega
        generalize extB (m : Int) P = eb at HE ⊢
        generalize extL (m : Int) P = el at HE2 ⊢
        have HW0 := Lib.hid hw
        obtain ⟨T, hT⟩ : ∃ T : Int, T = 2 ^ m := ⟨_, rfl⟩
        rw [← hT] at HE2
        have HW : Hid (IntKind.i64.wrap (2 ^ m) = T) := by unfold Hid; rw [hT]; exact HW0.out
        clear hw hT HW0
        have HX : Hid (P.length = k) := HPK.out
        have m0 : (0 : Int) ≤ (m : Int) := by omega
        clear HB HL hd hk hc hcc hmn h10 h12 HPK
        go_enter Tryz.func25, Tryz.ntmps25
        go_wp2_with fail
        refine CD.out.mono ?_
        rintro e w0 ⟨rfl, bb⟩
        have B0 := Lib.hid bb
        have HI : Hid (IntsAt w0 (.slice (some ⟨b, o, none⟩) k c) P) := (HIN.out.below B0.out : _)
        have HK : Hid (Below w0.heap.size w0 w0) := Lib.hid (Below.refl _ _)
        have z3 : w.heap.size ≤ w0.heap.size := B0.out.size
        have CCP : Hid (∀ W, IntsAt W (.slice (some ⟨b, o, none⟩) k c) P → Calls Tryz.prog 75 #[.slice (some ⟨b, o, none⟩) k c] W fun e w' => ∃ u, e = .returned u ∧ Own w' W.heap.size u P ∧ Below W.heap.size W w') := fun W hW => implCopyI _ P W hW (by rw [HX.out]; omega)
        clear bb
        go_wp2_with fail
        go_region_held3 (fun w' => w0.heap.size ≤ w'.heap.size)
          (first | exact Nat.le_refl _ | (focus (simp; done)) | (focus (simp; omega)) | exact HK.out.size | (have := HK.out.size; simp; omega))
          (first
            | (go_at_call 75;
                  (refine (CCP.out _ (HI.out.below ?_)).mono ?_);
                  (first | exact HK.out | exact HK.out.drew | (focus (exact (HK.out.alloc HK.out.size _).drew)) | exact HK.out.alloc HK.out.size _ | fail);
                  rintro e w1 ⟨u1, rfl, o1, bb1⟩;
                  (refine addFact (A := Hid (Below w0.heap.size w0 w1)) ?_ (fun HK1 => ?_));
                  (focus (first | exact HK.out.trans (bb1.mono HK.out.size) | exact HK.out.drew.trans (bb1.mono HK.out.size) | exact (HK.out.alloc HK.out.size _).drew.trans (bb1.mono (HK.out.alloc HK.out.size _).size) | exact (HK.out.alloc HK.out.size _).trans (bb1.mono (HK.out.alloc HK.out.size _).size) | fail));
                  (try ((refine addFact (A := Hid (w1.cell? ⟨w0.heap.size, 0, none⟩ = some (.int .i64 (IntKind.i64.wrap (2 ^ m))))) ?_ (fun HT => ?_)); (focus (refine (bb1.cell (p := ⟨w0.heap.size, 0, none⟩) ?_).trans ?_; (focus (simp; done)); (focus (refine cell_drew (cell_at_alloc _ _ _ ?_); simp; done))))));
                  (refine addFact (A := Hid (w1.ownsRow w0.heap.size 3 1 u1 k (P.map (Value.int .i64)))) ?_ (fun OE => ?_));
                  (focus (have h0 := o1; unfold Own at h0; rw [HX.out] at h0; refine owns_lowerX h0 ?_; first | exact HK.out.size | exact (HK.out.alloc HK.out.size _).size | fail));
                  (refine addFact (own_form_some OE.out hpos) (fun hs1 => ?_));
                  obtain ⟨a1, c1, hv1⟩ := hs1;
                  subst hv1;
                  clear o1 bb1 HK;
                  have HK := HK1;
                  clear HK1)
            | ((refine step_append_own rfl (.tmp 20) (.tmp 23) 26 rfl w0.heap.size 3 i0 (.int .i64 0) 1 8 Tryz.underlying26 hi hz0 hz1 hz2 rfl (by decide) (.slice (some ⟨a1, 0, none⟩) k c1) k (P.map (Value.int .i64)) rfl ?_ ⟨_, 0, none⟩ 1 1 [.int .i64 (IntKind.i64.wrap (2 ^ m))] rfl rfl ?_ (by simp [Value.oneCell']) (by unfold maxLen; omega) (by omega) ?_ (own_ne OE.out hpos) ?_);
                  (first | exact OE.out | exact owns_below OE.out (alloc_below _ _) | fail);
                  (first | exact one_cells HT.out | exact cell_one_new _ _ _ | fail);
                  (first | exact HK.out.size | (have := HK.out.size; simp; omega) | fail);
                  intro v2 w2 hown hg hat hs2;
                  (refine addFact (A := Hid (Below w0.heap.size w0 w2)) ?_ (fun HK2 => ?_));
                  (focus (refine Below.grown ?_ hg ?_ ?_; ((first | exact HK.out | exact HK.out.drew | (focus (exact (HK.out.alloc HK.out.size _).drew)) | (focus (refine Below.drew (Below.alloc (Below.alloc HK.out ?_ _) ?_ _) <;> (simp; done))) | (focus (refine Below.drew (Below.alloc (Below.alloc HK.out ?_ _) ?_ _) <;> (simp; omega))) | exact HK.out.alloc HK.out.size _ | fail)); (first | exact HK.out.size | (have := HK.out.size; simp; omega) | fail); (intro q hq; exact (OE.out.lt q hq).1)));
                  (refine addFact (A := Hid (Own w2 w0.heap.size v2 (P ++ [T]))) ?_ (fun V2 => ?_));
                  (focus (rw [HW.out] at hown; exact ownJoin2 P T HX.out hown));
                  obtain ⟨a2, n2, c2, hv2⟩ := hs2;
                  subst hv2;
                  clear hown hg hat HK;
                  have HK := HK2;
                  clear HK2)
            | fail)
        all_goals
          go_wp2
          go_ret2
          rw [HE.out, HE2.out]
          exact ⟨_, rfl, Own.lower V2.out z3, below_up B0.out HK.out⟩
  · have hd2 : detB n P = false := by simpa using hd
    rw [hd2] at CD HB
    have HE : Hid (extB n P = false) := HB.out
    have HE2 : Hid (extL n P = []) := by unfold Hid; rw [HL.out, HE.out]; rfl
    obtain ⟨a, c, rfl, -⟩ := h
    unfold GivesS
    generalize extB n P = eb at HE ⊢
    generalize extL n P = el at HE2 ⊢
    clear hd hd2 HB HL
    go_enter Tryz.func25, Tryz.ntmps25
    go_wp2_with fail
    refine CD.out.mono ?_
    rintro e w1 ⟨rfl, bb⟩
    have B1 := Lib.hid bb
    clear bb
    go_wp2
    go_ret2
    rw [HE.out, HE2.out]
    exact ⟨_, rfl, Own.nil _ _, B1.out⟩
end Go.Proofs.YtlflblngbneacabGreatDoor
