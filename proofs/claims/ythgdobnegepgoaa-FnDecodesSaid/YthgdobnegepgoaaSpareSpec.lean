/- The contract of the model's SpareWeighing. Conditions: the slice reads as weighings and is short enough to be counted. -/
import Derived.Test.YthgdobnegepgoaaCountSpec
import Derived.Test.YthgdobnegepgoaaCameWds
import Derived.Test.YthgdobnegepgoaaTurnSpec
namespace Go.Proofs.Ythgdobnegepgoaa
open Go.RowKit

/-- The cells of a row of weighings. -/
def pcells : List (Value × Value) → List Value
  | [] => []
  | u :: t => u.1 :: u.2 :: pcells t
theorem pcells_len : ∀ us : List (Value × Value), (pcells us).length = us.length * 2
  | [] => rfl
  | u :: t => by simp [pcells, pcells_len t]; omega
theorem pcells_app : ∀ (a b : List (Value × Value)), pcells (a ++ b) = pcells a ++ pcells b
  | [], _ => rfl
  | u :: t, b => by simp [pcells, pcells_app t b]
theorem pcells_at : ∀ {us : List (Value × Value)} (i : Nat) (h : i < us.length), (pcells us)[i * 2]? = some us[i].1 ∧ (pcells us)[i * 2 + 1]? = some us[i].2
  | u :: t, 0, _ => ⟨rfl, rfl⟩
  | u :: t, i + 1, h => by
    have := pcells_at (us := t) i (by simpa using h)
    rw [show (i + 1) * 2 = i * 2 + 2 by omega]
    simpa [pcells] using this
/-- A list of weighings, its sides by name. -/
theorem WdsAt.pairs {w : World} {v : Value} {D : List WD} (h : WdsAt w v D) (hD : D ≠ []) : ∃ (b off cap : Nat) (us : List (Value × Value)), v = .slice (some ⟨b, off, none⟩) D.length cap ∧ D.length ≤ cap ∧ us.length = D.length ∧ b < w.heap.size ∧
    ∀ i (h : i < D.length) (h' : i < us.length), (PairAt w b (off + i * 2) us[i].1 us[i].2 ∧ IntsAt w us[i].1 D[i].L ∧ IntsAt w us[i].2 D[i].R) := by
  obtain ⟨a, cap, rfl, hcp, h⟩ := h
  have h0 : 0 < D.length := List.length_pos_iff.2 hD
  obtain ⟨b, off, _, _, rfl, hp, -, -⟩ := h 0 h0
  obtain ⟨us, hn, hq⟩ := listW_of (fun i (u : Value × Value) => ∀ (h : i < D.length), PairAt w b (off + i * 2) u.1 u.2 ∧ IntsAt w u.1 D[i].L ∧ IntsAt w u.2 D[i].R) D.length (fun i hi => by
    obtain ⟨b', off', vl, vr, e, h1, h2, h3⟩ := h i hi
    cases e
    exact ⟨(vl, vr), fun _ => ⟨h1, h2, h3⟩⟩)
  exact ⟨b, off, cap, us, rfl, hcp, hn, hp.2.2, fun i hi hi' => hq i hi' hi⟩
theorem wds_of_row {w : World} {lo : Nat} {v : Value} {E : List WD} {us : List (Value × Value)} (hu : us.length = E.length) (hr : w.ownsRow lo 30 2 v E.length (pcells us)) (hi : ∀ i (h : i < E.length) (h' : i < us.length), IntsAt w us[i].1 E[i].L ∧ IntsAt w us[i].2 E[i].R) : WdsAt w v E := by
  rcases hr.2 with ⟨h0, hn⟩ | ⟨g, cap, cur, h0, _, _, hcp, _⟩
  · exact ⟨none, 0, by rw [h0, hn], by omega, fun i h => by omega⟩
  · subst h0
    refine ⟨_, cap, rfl, hcp, fun i h => ?_⟩
    have h' : i < us.length := by omega
    have c := pcells_at i h'
    refine ⟨g, 0, us[i].1, us[i].2, rfl, ?_, (hi i h h').1, (hi i h h').2⟩
    rw [Nat.zero_add]
    exact ⟨by rw [hr.cellAt _ (by omega)]; exact c.1, by rw [hr.cellAt _ (by omega)]; exact c.2, (hr.lt g rfl).2⟩

/-- The first weighing that can be left out. -/
def spareF (g : List WD → Bool) (D : List WD) : Nat → Nat → Int
  | 0, _ => -1
  | f + 1, i => if g (D.take i ++ D.drop (i + 1)) = true then (i : Int) else spareF g D f (i + 1)
/-- The index that is given back. -/
def spareR (P : List WD) (n : Int) (h l z : Bool) : Int := if dsolB P n h l z = true then spareF (fun E => dsolB E n h l z) P P.length 0 else -1
theorem infoWdS : (Try.prog.info? 30).map (fun i => (i.zero, i.size, i.bytes)) = some (some (.agg #[.slice none 0 0, .slice none 0 0]), 2, 48) := by kernel_rfl
theorem pairs_cell {w W : World} {b off : Nat} {us : List (Value × Value)} (hb : Below w.heap.size w W) (hlt : b < w.heap.size) (h : ∀ i (h' : i < us.length), PairAt w b (off + i * 2) us[i].1 us[i].2) (lo : Nat) (news : List Value) (hn : ∀ j u, news[j]? = some u → (pcells us)[lo * 2 + j]? = some u) :
    ∀ j u, news[j]? = some u → W.cell? ((⟨b, off + lo * 2, none⟩ : Addr).add j) = some u := by
  intro j u hj
  have h1 := hn j u hj
  have hl : lo * 2 + j < us.length * 2 := by
    rw [← pcells_len]
    exact (List.getElem?_eq_some_iff.1 h1).1
  have hi : (lo * 2 + j) / 2 < us.length := by omega
  have hp := h _ hi
  have hc := pcells_at _ hi
  rw [Addr.add_lit, hb.cell (p := ⟨b, off + lo * 2 + j, none⟩) hlt]
  rcases Nat.mod_two_eq_zero_or_one (lo * 2 + j) with e | e
  · have e1 : lo * 2 + j = (lo * 2 + j) / 2 * 2 := by omega
    rw [e1, hc.1] at h1
    have : off + lo * 2 + j = off + (lo * 2 + j) / 2 * 2 := by omega
    rw [this, hp.1]
    exact h1
  · have e1 : lo * 2 + j = (lo * 2 + j) / 2 * 2 + 1 := by omega
    rw [e1, hc.2] at h1
    have : off + lo * 2 + j = off + (lo * 2 + j) / 2 * 2 + 1 := by omega
    rw [this, hp.2.1]
    exact h1

set_option maxRecDepth 100000 in
set_option maxHeartbeats 6400000 in
theorem specSpare (v : Value) (P : List WD) (n : Int) (h l z : Bool) (w : World) (hp : WdsAt w v P) (hm : P.length ≤ 1048576) (hl : ∀ d ∈ P, d.L.length ≤ 1048576 ∧ d.R.length ≤ 1048576) :
    Calls Try.prog 38 #[probV n h l z, v] w fun e w' => e = .returned (.int .i64 (spareR P n h l z)) ∧ Below w.heap.size w w' := by
  obtain ⟨i0, hi, hz0, hz1, hz2⟩ := info_parts infoWdS
  have C0 := Lib.hid (fun W u (E : List WD) (hE : ∀ d ∈ E, d ∈ P) (hn : E.length ≤ P.length) hW => specSolvesD u E n h l z W hW (by omega) (fun d hd => hl d (hE d hd)))
  have HG : Hid (spareR P n h l z = if dsolB P n h l z = true then spareF (fun E => dsolB E n h l z) P P.length 0 else -1) := rfl
  have H6 : Hid (dsolB P n h l z = true → P.length ≤ 6) := fun hh => by
    unfold dsolB goodD at hh
    simp only [Bool.and_eq_true] at hh
    exact (design_size hh.1.2).1
  have P0 := Lib.hid (ProbAt.new w 24 n h l z)
  have B0 := Lib.hid (alloc_below w (.cells #[.int .i64 n, .bool h, .bool l, .bool z] 24))
  unfold probV at C0 ⊢
  generalize hX0 : w.alloc (.cells #[.int .i64 n, .bool h, .bool l, .bool z] 24) = X0 at P0 B0
  have H0 := Lib.hid (hp.below B0.out)
  have HP := Lib.hid hp
  obtain ⟨a0, c0, rfl⟩ := hp.form
  clear hp hm hl
  obtain ⟨k0, hk0⟩ : ∃ k, P.length = k := ⟨_, rfl⟩
  have HN := Lib.hid hk0
  rw [hk0] at H0 HP HG H6 ⊢
  generalize spareR P n h l z = Q at HG ⊢
  have CT := Lib.hid (fun W hW => C0.out W (.slice a0 k0 c0) P (fun d hd => hd) (Nat.le_refl _) hW)
  generalize ht : dsolB P n h l z = t at HG CT H6
  clear ht hk0
  obtain ⟨e0, e1, e2, e3, -⟩ := P0.out
  cases t with
  | false =>
    have HE : Hid (Q = -1) := HG.out
    go_enter Try.func38, Try.ntmps38
    go_wp2_with fail
    refine (CT.out _ H0.out).mono ?_
    rintro e w1 ⟨rfl, b1⟩
    have B1 := Lib.hid (below_up B0.out b1)
    clear b1
    go_wp2
    go_ret
    exact ⟨ret_int HE.out.symm, B1.out⟩
  | true =>
    have hk6 := H6.out rfl
    have HE : Hid (Q = spareF (fun E => dsolB E n h l z) P (k0 - 0) 0) := HG.out
    clear HG H6
    go_enter Try.func38, Try.ntmps38
    go_wp2_with fail
    refine (CT.out _ H0.out).mono ?_
    rintro e w1 ⟨rfl, b1⟩
    have B1 := Lib.hid (below_up B0.out b1)
    have P1 := Lib.hid (P0.out.below b1)
    clear b1 e0 e1 e2 e3 hX0
    go_wp2
    go_loopw [5, 12] (fun _ iv wr => ∃ k : Nat, k ≤ k0 ∧ iv = .int .i64 k ∧ Hid (Q = spareF (fun E => dsolB E n h l z) P (k0 - k) k) ∧ Hid (ProbAt wr w.heap.size n h l z) ∧ Hid (Below w.heap.size w wr)) (fun _ iv _ => k0 - (intOf iv).toNat)
    case atStart => exact ⟨0, Nat.zero_le _, rfl, HE, P1, B1⟩
    case round =>
      clear HE P1 B1
      obtain ⟨k, hk, rfl, HE, P3, B3⟩ := hrel
      by_cases hlt : k < k0
      · obtain ⟨b, off, cap, us, hv, hcp, hus, hbl, hpr⟩ := (HP.out.below B3.out).pairs (by intro e; have := HN.out; rw [e] at this; simp at this; omega)
        rw [HN.out] at hv hcp hus
        cases hv
        have HUS := Lib.hid hus
        have HPR := Lib.hid hpr
        have D0 := Lib.hid ((Below.refl wr.heap.size wr).drew)
        have A4 := Lib.hid (alloc_below wr (.cells #[] 30))
        obtain ⟨e0, e1, e2, e3, e4⟩ := P3.out
        have i0' : (0 : Int) ≤ (k : Int) := by omega
        have i1 : (k : Int) < (k0 : Int) := by omega
        have i2 : (k : Int) ≤ (c0 : Int) := by omega
        have i3 : IntKind.i64.wrap ((k : Int) + 1) = (k : Int) + 1 := by rw [IntKind.wrap_i64]; omega
        have i4 : (0 : Int) ≤ (k : Int) + 1 := by omega
        have i5 : (k : Int) + 1 ≤ (k0 : Int) := by omega
        have i6 : (k0 : Int) ≤ (c0 : Int) := by omega
        have i7 : k ≤ c0 := by omega
        have i8 : ¬ (c0 : Int) < (k : Int) := by omega
        have i9 : ¬ (k0 : Int) < (k : Int) + 1 := by omega
        obtain ⟨ad2, hif, had⟩ : ∃ ad2 : Addr, (if c0 = k + 1 then some (⟨b, off, none⟩ : Addr) else some ⟨b, off + (k + 1) * 2, none⟩) = some ad2 ∧ (c0 = k + 1 ∨ ad2 = ⟨b, off + (k + 1) * 2, none⟩) := by
          by_cases hcc : c0 = k + 1
          · exact ⟨_, by rw [if_pos hcc], .inl hcc⟩
          · exact ⟨_, by rw [if_neg hcc], .inr rfl⟩
        have HA1 : Hid (∀ W, Below wr.heap.size wr W → ∀ j u, (pcells (us.take k))[j]? = some u → W.cell? ((⟨b, off, none⟩ : Addr).add j) = some u) := fun W hW j u hj => by
          have := pairs_cell hW hbl (us := us) (off := off) (fun i h' => (hpr i (by rw [HN.out]; omega) h').1) 0 (pcells (us.take k)) (fun j u hj => by
            rw [show (0 * 2 + j) = j by omega]
            have e : pcells us = pcells (us.take k) ++ pcells (us.drop k) := by rw [← pcells_app, List.take_append_drop]
            rw [e, List.getElem?_append_left (List.getElem?_eq_some_iff.1 hj).1]
            exact hj) j u hj
          simpa using this
        have HA2 : Hid (∀ W, Below wr.heap.size wr W → ∀ j u, (pcells (us.drop (k + 1)))[j]? = some u → W.cell? (ad2.add j) = some u) := fun W hW j u hj => by
          rcases had with hcc | rfl
          · have hd : us.drop (k + 1) = [] := by rw [List.drop_eq_nil_iff]; omega
            rw [hd] at hj
            simp [pcells] at hj
          · exact pairs_cell hW hbl (us := us) (off := off) (fun i h' => (hpr i (by rw [HN.out]; omega) h').1) (k + 1) (pcells (us.drop (k + 1))) (fun j u hj => by
              have e : pcells us = pcells (us.take (k + 1)) ++ pcells (us.drop (k + 1)) := by rw [← pcells_app, List.take_append_drop]
              have hl : (pcells (us.take (k + 1))).length = (k + 1) * 2 := by rw [pcells_len]; simp; omega
              rw [e, List.getElem?_append_right (by omega), hl, show (k + 1) * 2 + j - (k + 1) * 2 = j by omega]
              exact hj) j u hj
        have hone : ∀ x ∈ us, x.1.oneCell' = true ∧ x.2.oneCell' = true := fun x hx => by
          obtain ⟨i, hi, rfl⟩ := List.mem_iff_getElem.1 hx
          have := hpr i (by rw [HN.out]; omega) hi
          obtain ⟨_, _, _, e1⟩ := this.2.1.form
          obtain ⟨_, _, _, e2⟩ := this.2.2.form
          rw [e1, e2]
          exact ⟨rfl, rfl⟩
        have HO1 : Hid (∀ (l : List (Value × Value)), (∀ x ∈ l, x ∈ us) → ∀ u ∈ pcells l, u.oneCell' = true) := fun l => by
          induction l with
          | nil => intro _ u hu; simp [pcells] at hu
          | cons x r ih =>
            intro hx u hu
            simp only [pcells, List.mem_cons] at hu
            have h1 := hone x (hx x (by simp))
            rcases hu with rfl | rfl | hu
            · exact h1.1
            · exact h1.2
            · exact ih (fun y hy => hx y (by simp [hy])) u hu
        have HL1 : Hid ((pcells (us.take k)).length = k * 2) := by unfold Hid; rw [pcells_len]; simp; omega
        have HL2 : Hid ((pcells (us.drop (k + 1))).length = (k0 - (k + 1)) * 2) := by unfold Hid; rw [pcells_len, List.length_drop, hus]
        have HO2 : Hid (∀ u ∈ pcells (us.take k), u.oneCell' = true) := HO1.out _ fun x hx => List.mem_of_mem_take hx
        have HO3 : Hid (∀ u ∈ pcells (us.drop (k + 1)), u.oneCell' = true) := HO1.out _ fun x hx => List.mem_of_mem_drop hx
        have HEE : Hid (∀ W v, Below wr.heap.size wr W → W.ownsRow wr.heap.size 30 2 v (0 + k + (k0 - (k + 1))) (([] ++ pcells (us.take k)) ++ pcells (us.drop (k + 1))) → WdsAt W v (P.take k ++ P.drop (k + 1))) := fun W v hW hr => by
          have hlen : (P.take k ++ P.drop (k + 1)).length = 0 + k + (k0 - (k + 1)) := by rw [List.length_append, List.length_take, List.length_drop, HN.out]; omega
          refine wds_of_row (us := us.take k ++ us.drop (k + 1)) (lo := wr.heap.size) (by rw [hlen, List.length_append, List.length_take, List.length_drop]; omega) (by rw [hlen, pcells_app]; simpa using hr) fun i h1 h2 => ?_
          by_cases e : i < k
          · have g1 : (P.take k ++ P.drop (k + 1))[i] = P[i]'(by rw [HN.out]; omega) := by rw [List.getElem_append_left (by rw [List.length_take, HN.out]; omega)]; simp
            have g2 : (us.take k ++ us.drop (k + 1))[i] = us[i]'(by omega) := by rw [List.getElem_append_left (by rw [List.length_take]; omega)]; simp
            rw [g1, g2]
            have := hpr i (by rw [HN.out]; omega) (by omega)
            exact ⟨this.2.1.below hW, this.2.2.below hW⟩
          · have hi2 : i + 1 < k0 := by rw [hlen] at h1; omega
            have g1 : (P.take k ++ P.drop (k + 1))[i] = P[i + 1]'(by rw [HN.out]; omega) := by
              rw [List.getElem_append_right (by rw [List.length_take, HN.out]; omega), List.getElem_drop]
              congr 1
              rw [List.length_take, HN.out]; omega
            have g2 : (us.take k ++ us.drop (k + 1))[i] = us[i + 1]'(by omega) := by
              rw [List.getElem_append_right (by rw [List.length_take]; omega), List.getElem_drop]
              congr 1
              rw [List.length_take]; omega
            rw [g1, g2]
            have := hpr (i + 1) (by rw [HN.out]; omega) (by omega)
            exact ⟨this.2.1.below hW, this.2.2.below hW⟩
        have hst : spareF (fun E => dsolB E n h l z) P (k0 - k) k = if dsolB (P.take k ++ P.drop (k + 1)) n h l z = true then (k : Int) else spareF (fun E => dsolB E n h l z) P (k0 - (k + 1)) (k + 1) := by
          rw [show k0 - k = (k0 - (k + 1)) + 1 by omega]; rfl
        have HST := Lib.hid hst
        have CE := Lib.hid (fun W u hW => C0.out W u (P.take k ++ P.drop (k + 1)) (fun d hd => by
          rw [List.mem_append] at hd
          rcases hd with hd | hd
          · exact List.mem_of_mem_take hd
          · exact List.mem_of_mem_drop hd) (by rw [List.length_append, List.length_take, List.length_drop]; omega) hW)
        have R4 : Hid ((wr.alloc (.cells #[] 30)).ownsRow wr.heap.size 30 2 (.slice (some ⟨wr.heap.size, 0, none⟩) 0 0) 0 []) :=
          World.ownsRow_lit (base := wr.heap.size) (e := 30) (size := 2) wr #[] 0 (Nat.le_refl _) (by unfold maxLen; omega) rfl
        generalize dsolB (P.take k ++ P.drop (k + 1)) n h l z = tt at HST CE
        generalize pcells (us.take k) = n1 at HA1 HL1 HO2 HEE
        generalize pcells (us.drop (k + 1)) = n2 at HA2 HL2 HO3 HEE
        generalize P.take k ++ P.drop (k + 1) = EE at HEE CE
        have hwr : w.heap.size ≤ wr.heap.size := B3.out.size
        clear hus hpr hone had hst
        go_wp2_with fail
        first | (go_region_held3 (fun w' => w'.cell? ⟨w.heap.size, 0, none⟩ = some (.int .i64 n) ∧ w'.cell? ⟨w.heap.size, 1, none⟩ = some (.bool h) ∧ w'.cell? ⟨w.heap.size, 2, none⟩ = some (.bool l) ∧ w'.cell? ⟨w.heap.size, 3, none⟩ = some (.bool z) ∧ w.heap.size < w'.heap.size)
          (first | exact T8.out | exact T7.out | exact T7.out.below ((Below.refl _ _).drew) | exact T6.out | exact T6.out.below ((Below.refl _ _).drew) | exact P3.out.below A4.out | exact P3.out.below D0.out | exact P3.out | exact P3.out.below ((alloc_below _ _).drew) | fail)
          (first
            | ((refine step_append_own rfl (.tmp 16) (.tmp 19) 26 rfl wr.heap.size 30 i0 (.agg #[.slice none 0 0, .slice none 0 0]) 2 48 Try.underlying26 hi hz0 hz1 hz2 rfl (by decide) (.slice (some ⟨wr.heap.size, 0, none⟩) 0 0) 0 [] rfl (owns_below R4.out (?_ : Below (wr.alloc (.cells #[] 30)).heap.size (wr.alloc (.cells #[] 30)) _)) ⟨b, off, none⟩ k c0 n1 rfl HL1.out (HA1.out _ ?_) HO2.out (by unfold maxLen; omega) (by omega) ?_ (by simp) ?_);
                (first | exact (Below.refl _ _).drew | exact (alloc_below _ _).drew | (focus (simp; done)) | (focus (simp; omega)) | fail);
                (first | exact (Below.refl _ _).drew | exact (alloc_below _ _).drew | (focus (simp; done)) | (focus (simp; omega)) | fail);
                (first | exact (Below.refl _ _).drew | exact (alloc_below _ _).drew | (focus (simp; done)) | (focus (simp; omega)) | fail);
                intro v6 w6 hown6 hg6 hat6 S6;
                (refine addFact (A := Hid (Below wr.heap.size wr w6)) ?_ (fun B6 => ?_));
                (focus (refine Below.grown ?_ hg6 ?_ ?_; (first | exact (alloc_below _ _).drew | exact alloc_below _ _ | fail); (simp); (intro j hj; simp [Value.ownBlock] at hj; omega)));
                have T6 := Lib.hid (P3.out.below B6.out);
                have R6 := Lib.hid hown6;
                obtain ⟨g6, m6, c6, hv6⟩ := S6;
                subst hv6;
                clear hown6 hg6 hat6)
            | ((refine step_append_own rfl (.tmp 20) (.tmp 24) 26 rfl wr.heap.size 30 i0 (.agg #[.slice none 0 0, .slice none 0 0]) 2 48 Try.underlying26 hi hz0 hz1 hz2 rfl (by decide) (.slice (some ⟨g6, 0, none⟩) m6 c6) (0 + k) ([] ++ n1) rfl R6.out ad2 (k0 - (k + 1)) (c0 - (k + 1)) n2 rfl HL2.out (HA2.out _ ?_) HO3.out (by unfold maxLen; omega) (by omega) ?_ (by simp) ?_);
                (first | exact B6.out | exact B6.out.drew | fail);
                (first | exact B6.out.size | fail);
                intro v7 w7 hown7 hg7 hat7 S7;
                (refine addFact (A := Hid (Below wr.heap.size wr w7)) ?_ (fun B7 => ?_));
                (focus (refine Below.grown B6.out hg7 B6.out.size ?_; (intro j hj; exact (R6.out.lt j hj).1)));
                have T7 := Lib.hid (P3.out.below B7.out);
                have W7 := Lib.hid (HEE.out w7 v7 B7.out hown7);
                obtain ⟨g7, m7, c7, hv7⟩ := S7;
                subst hv7;
                clear hown7 hg7 hat7)
            | (go_at_call 32; refine (CE.out _ _ W7.out).mono ?_; rintro e w8 ⟨rfl, b8⟩; have B8 := Lib.hid (below_up B7.out b8); have T8 := Lib.hid (T7.out.below b8); clear b8)
            | fail)) | fail
        all_goals
          cases tt with
          | true =>
            have HR : Hid (Q = (k : Int)) := by unfold Hid; rw [HE.out, HST.out, if_pos rfl]
            go_wp2
            go_ret
            exact ⟨ret_int HR.out.symm, below_up B3.out B8.out⟩
          | false =>
            have HR : Hid (Q = spareF (fun E => dsolB E n h l z) P (k0 - (k + 1)) (k + 1)) := by unfold Hid; rw [HE.out, HST.out]; rfl
            go_wp2
            go_roundw
            case rel => exact ⟨k + 1, by omega, by go_num, HR, T8, below_up B3.out B8.out⟩
            case measure => simp [intOf]; omega
      · have HR : Hid (Q = -1) := by
          unfold Hid
          rw [HE.out, show k0 - k = 0 by omega]; rfl
        go_wp2
        go_ret
        exact ⟨ret_int HR.out.symm, B3.out⟩
end Go.Proofs.Ythgdobnegepgoaa
