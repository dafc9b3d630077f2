/- The contract of the program's SpareWeighing. Conditions: the slice reads as weighings and is short enough to be counted. -/
import Derived.Test.YtbkhmlkicafheaaSolvesImpl
import Derived.Test.YtbkhmlkicafheaaConcatImpl
namespace Go.Proofs.Ytbkhmlkicafheaa
open Go.RowKit

set_option maxRecDepth 100000 in
set_option maxHeartbeats 6400000 in
theorem implSpare (v : Value) (P : List WD) (n : Int) (h l z : Bool) (w : World) (hp : WdsAt w v P) (hm : P.length ≤ 1048576) (hl : ∀ d ∈ P, d.L.length ≤ 1048576 ∧ d.R.length ≤ 1048576) :
    Calls Try.prog 50 #[probV n h l z, v] w fun e w' => e = .returned (.int .i64 (spareR P n h l z)) ∧ Below w.heap.size w w' := by
  have C0 := Lib.hid (fun W u (E : List WD) (hE : ∀ d ∈ E, d ∈ P) (hn : E.length ≤ P.length) hW => implDesignSolves u E n h l z W hW (by omega) (fun d hd => hl d (hE d hd)))
  have HG : Hid (spareR P n h l z = if dsolB P n h l z = true then spareF (fun E => dsolB E n h l z) P P.length 0 else -1) := rfl
  have H6 : Hid (dsolB P n h l z = true → P.length ≤ 6) := fun hh => by
    unfold dsolB goodD at hh
    simp only [Bool.and_eq_true] at hh
    exact (design_size hh.1.2).1
  have P0 := Lib.hid (ProbAt.new w 69 n h l z)
  have B0 := Lib.hid (alloc_below w (.cells #[.int .i64 n, .bool h, .bool l, .bool z] 69))
  unfold probV at C0 ⊢
  generalize hX0 : w.alloc (.cells #[.int .i64 n, .bool h, .bool l, .bool z] 69) = X0 at P0 B0
  have H0 := Lib.hid (hp.below B0.out)
  have HP := Lib.hid hp
  obtain ⟨a0, c0, rfl⟩ := hp.form
  clear hp hm hl
  obtain ⟨k0, hk0⟩ : ∃ k, P.length = k := ⟨_, rfl⟩
  have HN := Lib.hid hk0
  rw [hk0] at H0 HP HG H6 ⊢
  generalize spareR P n h l z = Q at HG ⊢
  have CT := Lib.hid (fun W hW => C0.out W (.slice a0 k0 c0) P (fun d hd => hd) (Nat.le_refl _) hW)
  generalize ht : dsolB P n h l z = t at HG CT H6
  clear ht hk0
  obtain ⟨e0, e1, e2, e3, -⟩ := P0.out
  cases t with
  | false =>
    have HE : Hid (Q = -1) := HG.out
    go_enter Try.func50, Try.ntmps50
    go_wp2_with fail
    refine (CT.out _ H0.out).mono ?_
    rintro e w1 ⟨rfl, b1⟩
    have B1 := Lib.hid (below_up B0.out b1)
    clear b1
    go_wp2
    go_ret
    exact ⟨ret_int HE.out.symm, B1.out⟩
  | true =>
    have hk6 := H6.out rfl
    have HE : Hid (Q = spareF (fun E => dsolB E n h l z) P (k0 - 0) 0) := HG.out
    clear HG H6
    go_enter Try.func50, Try.ntmps50
    go_wp2_with fail
    refine (CT.out _ H0.out).mono ?_
    rintro e w1 ⟨rfl, b1⟩
    have B1 := Lib.hid (below_up B0.out b1)
    have P1 := Lib.hid (P0.out.below b1)
    clear b1 e0 e1 e2 e3 hX0
    go_wp2
    go_loopw [5, 12] (fun _ iv wr => ∃ k : Nat, k ≤ k0 ∧ iv = .int .i64 k ∧ Hid (Q = spareF (fun E => dsolB E n h l z) P (k0 - k) k) ∧ Hid (ProbAt wr w.heap.size n h l z) ∧ Hid (Below w.heap.size w wr)) (fun _ iv _ => k0 - (intOf iv).toNat)
    case atStart => exact ⟨0, Nat.zero_le _, rfl, HE, P1, B1⟩
    case round =>
      clear HE P1 B1
      obtain ⟨k, hk, rfl, HE, P3, B3⟩ := hrel
      by_cases hlt : k < k0
      · obtain ⟨b, off, cap, us, hv, hcp, hus, hbl, hpr⟩ := (HP.out.below B3.out).pairs (by intro e; have := HN.out; rw [e] at this; simp at this; omega)
        rw [HN.out] at hv hcp hus
        cases hv
        have HUS := Lib.hid hus
        have HPR := Lib.hid hpr
        have D0 := Lib.hid ((Below.refl wr.heap.size wr).drew)
        obtain ⟨e0, e1, e2, e3, e4⟩ := P3.out
        have i0' : (0 : Int) ≤ (k : Int) := by omega
        have i1 : (k : Int) < (k0 : Int) := by omega
        have i2 : (k : Int) ≤ (c0 : Int) := by omega
        have i3 : IntKind.i64.wrap ((k : Int) + 1) = (k : Int) + 1 := by rw [IntKind.wrap_i64]; omega
        have i4 : (0 : Int) ≤ (k : Int) + 1 := by omega
        have i5 : (k : Int) + 1 ≤ (k0 : Int) := by omega
        have i6 : (k0 : Int) ≤ (c0 : Int) := by omega
        have i7 : k ≤ c0 := by omega
        have i8 : ¬ (c0 : Int) < (k : Int) := by omega
        have i9 : ¬ (k0 : Int) < (k : Int) + 1 := by omega
        obtain ⟨ad2, hif, had⟩ : ∃ ad2 : Addr, (if c0 = k + 1 then some (⟨b, off, none⟩ : Addr) else some ⟨b, off + (k + 1) * 2, none⟩) = some ad2 ∧ (c0 = k + 1 ∨ ad2 = ⟨b, off + (k + 1) * 2, none⟩) := by
          by_cases hcc : c0 = k + 1
          · exact ⟨_, by rw [if_pos hcc], .inl hcc⟩
          · exact ⟨_, by rw [if_neg hcc], .inr rfl⟩
        have A4 := Lib.hid (alloc_below wr (.cells #[.slice (some ⟨b, off, none⟩) k c0, .slice (some ad2) (k0 - (k + 1)) (c0 - (k + 1))] 65))
        have HA1 : Hid (∀ W, Below wr.heap.size wr W → ∀ j u, (pcells (us.take k))[j]? = some u → W.cell? ((⟨b, off, none⟩ : Addr).add j) = some u) := fun W hW j u hj => by
          have := pairs_cell hW hbl (us := us) (off := off) (fun i h' => (hpr i (by rw [HN.out]; omega) h').1) 0 (pcells (us.take k)) (fun j u hj => by
            rw [show (0 * 2 + j) = j by omega]
            have e : pcells us = pcells (us.take k) ++ pcells (us.drop k) := by rw [← pcells_app, List.take_append_drop]
            rw [e, List.getElem?_append_left (List.getElem?_eq_some_iff.1 hj).1]
            exact hj) j u hj
          simpa using this
        have HA2 : Hid (∀ W, Below wr.heap.size wr W → ∀ j u, (pcells (us.drop (k + 1)))[j]? = some u → W.cell? (ad2.add j) = some u) := fun W hW j u hj => by
          rcases had with hcc | rfl
          · have hd : us.drop (k + 1) = [] := by rw [List.drop_eq_nil_iff]; omega
            rw [hd] at hj
            simp [pcells] at hj
          · exact pairs_cell hW hbl (us := us) (off := off) (fun i h' => (hpr i (by rw [HN.out]; omega) h').1) (k + 1) (pcells (us.drop (k + 1))) (fun j u hj => by
              have e : pcells us = pcells (us.take (k + 1)) ++ pcells (us.drop (k + 1)) := by rw [← pcells_app, List.take_append_drop]
              have hl : (pcells (us.take (k + 1))).length = (k + 1) * 2 := by rw [pcells_len]; simp; omega
              rw [e, List.getElem?_append_right (by omega), hl, show (k + 1) * 2 + j - (k + 1) * 2 = j by omega]
              exact hj) j u hj
        have hone : ∀ x ∈ us, x.1.oneCell' = true ∧ x.2.oneCell' = true := fun x hx => by
          obtain ⟨i, hi, rfl⟩ := List.mem_iff_getElem.1 hx
          have := hpr i (by rw [HN.out]; omega) hi
          obtain ⟨_, _, _, e1⟩ := this.2.1.form
          obtain ⟨_, _, _, e2⟩ := this.2.2.form
          rw [e1, e2]
          exact ⟨rfl, rfl⟩
        have HO1 : Hid (∀ (l : List (Value × Value)), (∀ x ∈ l, x ∈ us) → ∀ u ∈ pcells l, u.oneCell' = true) := fun l => by
          induction l with
          | nil => intro _ u hu; simp [pcells] at hu
          | cons x r ih =>
            intro hx u hu
            simp only [pcells, List.mem_cons] at hu
            have h1 := hone x (hx x (by simp))
            rcases hu with rfl | rfl | hu
            · exact h1.1
            · exact h1.2
            · exact ih (fun y hy => hx y (by simp [hy])) u hu
        have HL1 : Hid ((pcells (us.take k)).length = k * 2) := by unfold Hid; rw [pcells_len]; simp; omega
        have HL2 : Hid ((pcells (us.drop (k + 1))).length = (k0 - (k + 1)) * 2) := by unfold Hid; rw [pcells_len, List.length_drop, hus]
        have HO2 : Hid (∀ u ∈ pcells (us.take k), u.oneCell' = true) := HO1.out _ fun x hx => List.mem_of_mem_take hx
        have HO3 : Hid (∀ u ∈ pcells (us.drop (k + 1)), u.oneCell' = true) := HO1.out _ fun x hx => List.mem_of_mem_drop hx
        have HEE : Hid (∀ W lo v, Below wr.heap.size wr W → W.ownsRow lo 74 2 v (0 + k + (k0 - (k + 1))) (([] ++ pcells (us.take k)) ++ pcells (us.drop (k + 1))) → WdsAt W v (P.take k ++ P.drop (k + 1))) := fun W lo v hW hr => by
          have hlen : (P.take k ++ P.drop (k + 1)).length = 0 + k + (k0 - (k + 1)) := by rw [List.length_append, List.length_take, List.length_drop, HN.out]; omega
          refine wds_of_row (us := us.take k ++ us.drop (k + 1)) (lo := lo) (by rw [hlen, List.length_append, List.length_take, List.length_drop]; omega) (by rw [hlen, pcells_app]; simpa using hr) fun i h1 h2 => ?_
          by_cases e : i < k
          · have g1 : (P.take k ++ P.drop (k + 1))[i] = P[i]'(by rw [HN.out]; omega) := by rw [List.getElem_append_left (by rw [List.length_take, HN.out]; omega)]; simp
            have g2 : (us.take k ++ us.drop (k + 1))[i] = us[i]'(by omega) := by rw [List.getElem_append_left (by rw [List.length_take]; omega)]; simp
            rw [g1, g2]
            have := hpr i (by rw [HN.out]; omega) (by omega)
            exact ⟨this.2.1.below hW, this.2.2.below hW⟩
          · have hi2 : i + 1 < k0 := by rw [hlen] at h1; omega
            have g1 : (P.take k ++ P.drop (k + 1))[i] = P[i + 1]'(by rw [HN.out]; omega) := by
              rw [List.getElem_append_right (by rw [List.length_take, HN.out]; omega), List.getElem_drop]
              congr 1
              rw [List.length_take, HN.out]; omega
            have g2 : (us.take k ++ us.drop (k + 1))[i] = us[i + 1]'(by omega) := by
              rw [List.getElem_append_right (by rw [List.length_take]; omega), List.getElem_drop]
              congr 1
              rw [List.length_take]; omega
            rw [g1, g2]
            have := hpr (i + 1) (by rw [HN.out]; omega) (by omega)
            exact ⟨this.2.1.below hW, this.2.2.below hW⟩
        have hst : spareF (fun E => dsolB E n h l z) P (k0 - k) k = if dsolB (P.take k ++ P.drop (k + 1)) n h l z = true then (k : Int) else spareF (fun E => dsolB E n h l z) P (k0 - (k + 1)) (k + 1) := by
          rw [show k0 - k = (k0 - (k + 1)) + 1 by omega]; rfl
        have HST := Lib.hid hst
        have CE := Lib.hid (fun W u hW => C0.out W u (P.take k ++ P.drop (k + 1)) (fun d hd => by
          rw [List.mem_append] at hd
          rcases hd with hd | hd
          · exact List.mem_of_mem_take hd
          · exact List.mem_of_mem_drop hd) (by rw [List.length_append, List.length_take, List.length_drop]; omega) hW)
        generalize dsolB (P.take k ++ P.drop (k + 1)) n h l z = tt at HST CE
        generalize pcells (us.take k) = n1 at HA1 HL1 HO2 HEE
        generalize pcells (us.drop (k + 1)) = n2 at HA2 HL2 HO3 HEE
        generalize P.take k ++ P.drop (k + 1) = EE at HEE CE
        have CC : Hid (∀ W g, Below wr.heap.size wr W → W.cell? ⟨g, 0, none⟩ = some (.slice (some ⟨b, off, none⟩) k c0) → W.cell? ⟨g, 1, none⟩ = some (.slice (some ad2) (k0 - (k + 1)) (c0 - (k + 1))) →
            Calls Try.prog 80 #[.slice (some ⟨g, 0, none⟩) 2 2] W fun e w' => ∃ v, e = .returned v ∧ WdsAt w' v EE ∧ Below W.heap.size W w') := fun W g hW c0' c1' =>
          (implConcat g _ _ _ _ _ _ n1 n2 W c0' c1' HL1.out HL2.out (by omega) (fun W' hW' => HA1.out W' (below_up hW hW')) (fun W' hW' => HA2.out W' (below_up hW hW')) HO2.out HO3.out).mono fun e w' ⟨v, he, hv, hb⟩ => ⟨v, he, HEE.out w' _ v (below_up hW hb) hv, hb⟩
        have hwr : w.heap.size ≤ wr.heap.size := B3.out.size
        clear hus hpr hone had hst
        go_wp2_with fail
        first | (go_region_held3 (fun w' => w'.cell? ⟨w.heap.size, 0, none⟩ = some (.int .i64 n) ∧ w'.cell? ⟨w.heap.size, 1, none⟩ = some (.bool h) ∧ w'.cell? ⟨w.heap.size, 2, none⟩ = some (.bool l) ∧ w'.cell? ⟨w.heap.size, 3, none⟩ = some (.bool z) ∧ w.heap.size < w'.heap.size)
          (first | exact T8.out | exact T7.out | exact T7.out.below ((Below.refl _ _).drew) | exact P3.out.below A4.out | exact P3.out.below D0.out | exact P3.out | exact P3.out.below ((alloc_below _ _).drew) | fail)
          (first
            | (go_at_call 80; refine (CC.out _ _ ?_ ?_ ?_).mono ?_;
                (first | exact (alloc_below _ _).drew | exact alloc_below _ _ | fail);
                (focus (simp; done));
                (focus (simp; done));
                rintro e w7 ⟨v7, rfl, hv7, b7⟩;
                (refine addFact (A := Hid (Below wr.heap.size wr w7)) ?_ (fun B7 => ?_));
                (focus (refine below_up ?_ b7; (first | exact (alloc_below _ _).drew | exact alloc_below _ _ | fail)));
                have T7 := Lib.hid (P3.out.below B7.out);
                have W7 := Lib.hid hv7;
                obtain ⟨g7, c7, hf7⟩ := hv7.form;
                subst hf7;
                clear hv7 b7)
            | (go_at_call 49; refine (CE.out _ _ W7.out).mono ?_; rintro e w8 ⟨rfl, b8⟩; have B8 := Lib.hid (below_up B7.out b8); have T8 := Lib.hid (T7.out.below b8); clear b8)
            | fail)) | fail
        all_goals
          cases tt with
          | true =>
            have HR : Hid (Q = (k : Int)) := by unfold Hid; rw [HE.out, HST.out, if_pos rfl]
            go_wp2
            go_ret
            exact ⟨ret_int HR.out.symm, below_up B3.out B8.out⟩
          | false =>
            have HR : Hid (Q = spareF (fun E => dsolB E n h l z) P (k0 - (k + 1)) (k + 1)) := by unfold Hid; rw [HE.out, HST.out]; rfl
            go_wp2
            go_roundw
            case rel => exact ⟨k + 1, by omega, by go_num, HR, T8, below_up B3.out B8.out⟩
            case measure => simp [intOf]; omega
      · have HR : Hid (Q = -1) := by
          unfold Hid
          rw [HE.out, show k0 - k = 0 by omega]; rfl
        go_wp2
        go_ret
        exact ⟨ret_int HR.out.symm, B3.out⟩
end Go.Proofs.Ytbkhmlkicafheaa
