/- The contract of the program's following of a linked plan in a case. Conditions: the steps of a valid plan lie in one block; a case that fits Go's int. -/
import Derived.Test.YtipbjioghicmlaaSteps
import Derived.Test.YtipbjioghicmlaaOutImpl
import Derived.Test.YtipbjioghicmlaaFollowSpec
import Derived.Test.YtipbjioghicmlaaOutFacts
import Derived.Deep.LoopGhost
import Derived.WalkMore
namespace Go.Proofs.Ytipbjioghicmlaa
open Go.RowKit

/-- append of at least one cell to a list of the call's own, as one step of a region that draws. -/
theorem step_append_some {P : Program} {ops : Array Oper} {o : Oper} {a : Act} {w : World} {K : Act → World → Prop} {Q : Exit → Act → World → Prop} {E : Prop}
    (hg : o.guard = none) (s x : Operand) (t : TypeId) (hop : o.op = Op.call { callee := Callee.builtin Builtin.append, args := #[s, x], argTypes := #[t, t] })
    (base : Nat) (e : TypeId) (i : TypeInfo) (z : Value) (size bytes : Nat) (h1 : P.underlying t = some (.slice e)) (h2 : P.info? e = some i) (h3 : i.zero = some z) (h4 : i.size = size) (h5 : i.bytes = bytes) (h6 : z.cells.size = size) (h7 : 0 < size)
    (v : Value) (n : Nat) (xs : List Value) (hs : a.eval s = v) (hown : w.ownsRow base e size v n xs)
    (ad : Addr) (m c : Nat) (news : List Value) (hx : a.eval x = .slice (some ad) m c) (hn : news.length = m * size) (hc : ∀ j u, news[j]? = some u → w.cell? (ad.add j) = some u) (h1c : ∀ u ∈ news, u.oneCell' = true)
    (b1 : n + m ≤ maxLen) (b2 : (n + m) * bytes ≤ 140737488355328) (hbase : base ≤ w.heap.size) (hv : 0 < m)
    (hK : ∀ v' w', w'.ownsRow base e size v' (n + m) (xs ++ news) → w.grownBy w' v.ownBlock → (v'.ownBlock = v.ownBlock ∨ v'.ownBlock = some w.heap.size) → Solid v' → K (a.put o.dst v') w') :
    if Region.wanted o (yielded ops a.tmps) = true then Oper.wp P o a w K Q else E := by
  have hw : Region.wanted o (yielded ops a.tmps) = true := by simp [Region.wanted, hg]
  rw [if_pos hw]
  obtain ⟨v', w', hrun, r1, r2, r3, r4⟩ := run_append_own_at (P := P) w base t o.type e i z size bytes h1 h2 h3 h4 h5 h6 h7 v n xs hown ad m c news hn hc h1c b1 b2 hbase
  unfold Oper.wp
  simp [execOp, hop, resolve, invoke, builtin, hs, hx, hrun, Result.andThen]
  refine hK v' w' r1 r2 r4 ?_
  rcases r1.2 with ⟨h0, _⟩ | ⟨g, cap, cur, h0, _⟩
  · exact absurd (r3.1 h0).2 (by omega)
  · exact ⟨_, _, _, h0⟩
theorem cell_one_at {w : World} {b : Nat} {u : Value} (h : w.cell? ⟨b, 0, none⟩ = some u) : ∀ j u', [u][j]? = some u' → w.cell? ((⟨b, 0, none⟩ : Addr).add j) = some u' := by
  intro j u' hj
  cases j with
  | zero =>
    obtain rfl : u = u' := by simpa using hj
    simpa [Addr.add] using h
  | succ j => simp at hj

theorem follow_rel {P : List ND} {c p : Int} {f k n : Nat} {F ys : List Int} (h1 : p = -1 ∨ (k : Int) < p ∧ p < (n : Int)) (h2 : F = ys ++ followF P c f p) (h3 : n ≤ k + (f + 1)) :
    (¬ (0 ≤ p ∧ p < (n : Int)) → F = ys) ∧ ((0 ≤ p ∧ p < (n : Int)) → n ≤ p.toNat + f ∧ F = ys ++ followF P c f p) := by
  refine ⟨fun h => ?_, fun h => ⟨by omega, h2⟩⟩
  rw [h2, followF_end _ _ _ _ (by omega), List.append_nil]

/-- Five cells of a step lie from place o of block g on. -/
def PAt (w : World) (g o : Nat) (x y p q r : Value) : Prop :=
  w.cell? ⟨g, o, none⟩ = some x ∧ w.cell? ⟨g, o + 1, none⟩ = some y ∧ w.cell? ⟨g, o + 2, none⟩ = some p ∧ w.cell? ⟨g, o + 3, none⟩ = some q ∧ w.cell? ⟨g, o + 4, none⟩ = some r ∧ g < w.heap.size
theorem PAt.belowN {w w' : World} {B g o : Nat} {x y p q r : Value} (h : PAt w g o x y p q r) (hb : Below B w w') (hg : g < B) : PAt w' g o x y p q r := by
  obtain ⟨h0, h1, h2, h3, h4, h5⟩ := h
  refine ⟨?_, ?_, ?_, ?_, ?_, Nat.lt_of_lt_of_le h5 hb.size⟩
  · rw [hb.cell (p := ⟨g, o, none⟩) hg]; exact h0
  · rw [hb.cell (p := ⟨g, o + 1, none⟩) hg]; exact h1
  · rw [hb.cell (p := ⟨g, o + 2, none⟩) hg]; exact h2
  · rw [hb.cell (p := ⟨g, o + 3, none⟩) hg]; exact h3
  · rw [hb.cell (p := ⟨g, o + 4, none⟩) hg]; exact h4
theorem PAt.below {w w' : World} {g o : Nat} {x y p q r : Value} (h : PAt w g o x y p q r) (hb : Below w.heap.size w w') : PAt w' g o x y p q r := h.belowN hb h.2.2.2.2.2

set_option maxRecDepth 100000 in
set_option maxHeartbeats 6400000 in
theorem implFollow (g : Nat) (P : List ND) (m c : Int) (w : World) (h : Steps w g P) (hv : planB P m = true) (hl : ∀ d ∈ P, d.L.length ≤ 1048576 ∧ d.R.length ≤ 1048576) (c0 : -9223372036854775808 ≤ c) (c1 : c ≤ 9223372036854775807) :
    Calls Try.prog 48 #[ptrTo g P.length 0, .int .i64 c] w (Lists (followL P c) w) := by
  obtain ⟨i0, hi, hz0, hz1, hz2⟩ := info_parts infoInt
  obtain ⟨hm, -, -⟩ := plan_size hv
  have HV := Lib.hid hv
  have H := Lib.hid h
  have HL := Lib.hid hl
  have HFL : Hid (followL P c = followF P c P.length 0) := rfl
  have HFN : Hid ((followL P c).length ≤ P.length) := followF_len _ _ _ _
  clear h hl hv
  unfold Lists
  generalize followL P c = F at HFL HFN ⊢
  obtain ⟨n, hn⟩ : ∃ n, P.length = n := ⟨_, rfl⟩
  rw [hn] at hm HFL HFN ⊢
  have HN := Lib.hid hn
  clear hn
  have HF0 : Hid (¬ ((0 : Int) ≤ 0 ∧ (0 : Int) < (n : Int)) → F = ([] : List Int)) := fun hh => by
    rw [HFL.out, show n = 0 by omega]; rfl
  have HG0 : Hid (((0 : Int) ≤ 0 ∧ (0 : Int) < (n : Int)) → n ≤ (0 : Int).toNat + n ∧ F = [] ++ followF P c n 0) := fun _ => ⟨by omega, by rw [HFL.out]; rfl⟩
  obtain ⟨u0, hu0⟩ := ptrTo_form g n 0
  have HU0 := Lib.hid hu0
  rw [hu0]
  clear hu0
  go_enter Try.func48, Try.ntmps48
  go_wp2
  go_step3
  go_wp2
  go_step3
  go_wp2
  go_loopg [0, 5, 13, 16, 31] n (fun f sv ov _ _ _ wr => ∃ (p : Int) (xs : List Int), sv = ptrTo g n p ∧ Hid (¬ (0 ≤ p ∧ p < (n : Int)) → F = xs) ∧ Hid ((0 ≤ p ∧ p < (n : Int)) → n ≤ p.toNat + f ∧ F = xs ++ followF P c f p) ∧ wr.ownsRow w.heap.size 3 1 ov xs.length (xs.map (Value.int .i64)) ∧ Below w.heap.size w wr)
  case atStart => exact ⟨0, [], by first | exact HU0.out.symm | (rw [HU0.out]), HF0, HG0, World.ownsRow_nil _ _ _ _, Below.refl _ _⟩
  case round =>
    clear HFL HF0 HG0 HU0
    obtain ⟨p, xs, hsv, HF, HG, hown, hb⟩ := hrel
    have HB := Lib.hid hb
    have hbs := hb.size
    clear hb
    by_cases hpos : 0 ≤ p ∧ p < (n : Int)
    · obtain ⟨hfu, hfe⟩ := HG.out hpos
      obtain ⟨k, rfl⟩ : ∃ k : Nat, p = (k : Int) := ⟨p.toNat, by omega⟩
      have hk : k < n := by omega
      have hkl : k < P.length := by rw [HN.out]; exact hk
      rw [ptrTo_some hk] at hsv
      subst hsv
      obtain ⟨vl, vr, h5, hL, hR⟩ := H.out k hkl
      have hd := HL.out P[k] (List.getElem_mem hkl)
      obtain ⟨f, rfl⟩ : ∃ f, gk = f + 1 := ⟨gk - 1, by omega⟩
      have hst := followF_step P c f k hkl
      have hnx := next_in HV.out k hkl (outcI P[k].L P[k].R c)
      have hrx := outcI_range P[k].L P[k].R c
      have hwm : outI P[k].L P[k].R c = outcI P[k].L P[k].R c := by
        refine outI_valid13 ?_ c
        have hnn := plan_node HV.out k hkl
        simp only [nodeB, Bool.and_eq_true] at hnn
        exact weigh_up hnn.1
      obtain ⟨d, hx⟩ : ∃ d, P[k] = d := ⟨_, rfl⟩
      rw [hx] at h5 hL hR hd hst hnx hrx hwm
      rw [HN.out] at hnx h5
      obtain ⟨LL, RR, qa, qb, qc⟩ := d
      dsimp only at h5 hL hR hd hst hnx hrx hwm
      obtain ⟨al, nl, cl, rfl⟩ := hL.form
      obtain ⟨ar, nr, cr, rfl⟩ := hR.form
      have C := Lib.hid (fun W h h' => implOutcome (.slice al nl cl) (.slice ar nr cr) LL RR c W h h' (by omega) (by omega) c0 c1)
      rw [hwm] at C
      have HXN : Hid (∀ x, outcI LL RR c = x → F = (xs ++ [x]) ++ followF P c f (nextI ⟨LL, RR, qa, qb, qc⟩ x) ∧ (nextI ⟨LL, RR, qa, qb, qc⟩ x = -1 ∨ (k : Int) < nextI ⟨LL, RR, qa, qb, qc⟩ x ∧ nextI ⟨LL, RR, qa, qb, qc⟩ x < (n : Int))) := fun x e => by
        rw [e] at hst hnx
        refine ⟨?_, hnx⟩
        rw [hfe, hst, List.append_assoc]; rfl
      have hxl : xs.length ≤ 60 := by
        have h1 := HFN.out
        rw [hfe, List.length_append] at h1
        omega
      obtain ⟨x, hxx⟩ : ∃ x, outcI LL RR c = x := ⟨_, rfl⟩
      obtain ⟨HF2, hn2⟩ := HXN.out x hxx
      have HNX := Lib.hid hn2
      have HFF := Lib.hid HF2
      have HKF : Hid (n ≤ k + (f + 1)) := by unfold Hid; simpa using hfu
      rw [hxx] at C hrx
      obtain ⟨ua, hua⟩ := ptrTo_form g n qa
      obtain ⟨ub, hub⟩ := ptrTo_form g n qb
      obtain ⟨uc, huc⟩ := ptrTo_form g n qc
      have U1 := Lib.hid hua
      have U2 := Lib.hid hub
      have U3 := Lib.hid huc
      rw [hua, hub, huc] at h5
      have P0 : Hid (PAt w g (k * 5) (.slice al nl cl) (.slice ar nr cr) (.pointer ua) (.pointer ub) (.pointer uc)) := h5
      have P1 := Lib.hid (P0.out.below HB.out)
      have I1 := Lib.hid (hL.below HB.out)
      have I2 := Lib.hid (hR.below HB.out)
      have hgw : g < w.heap.size := h5.2.2.2.2.2
      clear h5 hL hR hx hkl hd hst hxx hnx hwm hua hub huc hfe hfu HF HG hpos HF2 hn2 HXN
      obtain ⟨e0, e1, e2, e3, e4, e5⟩ := P1.out
      go_wp2_with fail
      clear e0 e1 e2 e3 e4 e5
      refine (C.out _ I1.out I2.out).mono ?_
      rintro e w1 ⟨rfl, b1⟩
      have J1 := Lib.hid (I1.out.below b1)
      have J2 := Lib.hid (I2.out.below b1)
      have P2 := Lib.hid (P1.out.below b1)
      have B1 := Lib.hid b1
      clear b1
      have hx3 : x = -1 ∨ x = 0 ∨ x = 1 := by omega
      clear hrx
      rcases hx3 with rfl | rfl | rfl
      · have hne := follow_rel (P := P) (c := c) (f := f) (k := k) (n := n) (F := F) (ys := xs ++ [(-1 : Int)]) (p := qa) HNX.out HFF.out HKF.out
        have HR1 := Lib.hid hne.1
        have HR2 := Lib.hid hne.2
        clear hne
        have PW := P2
        have BW := Lib.hid (below_up HB.out B1.out)
        have hsw : w.heap.size ≤ w1.heap.size := Nat.le_trans hbs B1.out.size
        have HOO := Lib.hid (owns_below hown B1.out)
        clear hown
        obtain ⟨e0, e1, e2, e3, e4, e5⟩ := PW.out
        go_wp2_with fail
        first | (go_region_held3 (fun w' => w'.cell? ⟨g, k * 5, none⟩ = some (.slice al nl cl) ∧ w'.cell? ⟨g, k * 5 + 1, none⟩ = some (.slice ar nr cr) ∧ w'.cell? ⟨g, k * 5 + 2, none⟩ = some (.pointer ua) ∧ w'.cell? ⟨g, k * 5 + 3, none⟩ = some (.pointer ub) ∧ w'.cell? ⟨g, k * 5 + 4, none⟩ = some (.pointer uc) ∧ g < w'.heap.size)
          (first | exact PN.out | exact PAt.below PN.out ((Below.refl _ _).drew) | exact PW.out | exact PAt.below PW.out (alloc_below _ _) | exact PAt.below PW.out ((Below.refl _ _).drew) | exact PAt.below PW.out ((alloc_below _ _).drew) | fail)
          (first
            | ((refine step_append_some rfl (.tmp 24) (.tmp 25) 31 rfl w.heap.size 3 i0 (.int .i64 0) 1 8 Try.underlying31 hi hz0 hz1 hz2 rfl (by decide) _ xs.length (xs.map (Value.int .i64)) rfl (owns_below HOO.out (?_ : Below w1.heap.size w1 _)) ⟨w1.heap.size, 0, none⟩ 1 1 [.int .i64 (-1)] rfl rfl (cell_one_at ?_) (by simp [Value.oneCell']) (by unfold maxLen; omega) (by omega) ?_ (by decide) ?_);
                (first | exact (alloc_below _ _).drew | exact alloc_below _ _ | exact (Below.refl _ _).drew | (focus (simp; done)) | (focus (simp; omega)) | fail);
                (first | exact (alloc_below _ _).drew | exact alloc_below _ _ | exact (Below.refl _ _).drew | (focus (simp; done)) | (focus (simp; omega)) | fail);
                (first | exact (alloc_below _ _).drew | exact alloc_below _ _ | exact (Below.refl _ _).drew | (focus (simp; done)) | (focus (simp; omega)) | fail);
                intro v6 w6 hown6 hg6 hat6 S6;
                (refine addFact (A := Hid (Below w.heap.size w w6)) ?_ (fun HQ => ?_));
                (focus (refine Below.grown ?_ hg6 ?_ (fun j hj => (HOO.out.lt j hj).1)); (first | exact (BW.out.alloc hsw _).drew | exact BW.out.alloc hsw _ | fail); (simp; omega));
                have PN := Lib.hid (P0.out.below HQ.out);
                (refine addFact (A := Hid (w6.ownsRow w.heap.size 3 1 v6 (xs ++ [(-1 : Int)]).length ((xs ++ [(-1 : Int)]).map (Value.int .i64)))) ?_ (fun HO6 => ?_));
                (focus (unfold Hid; simpa using hown6));
                clear hown6 hg6 hat6 S6)
            | fail)) | fail
        all_goals
          clear e0 e1 e2 e3 e4 e5
          go_wp2
          go_roundg f
          case measure => omega
          case rel => exact ⟨qa, xs ++ [(-1 : Int)], U1.out.symm, HR1, HR2, HO6.out, HQ.out⟩
      · have hne := follow_rel (P := P) (c := c) (f := f) (k := k) (n := n) (F := F) (ys := xs ++ [(0 : Int)]) (p := qb) HNX.out HFF.out HKF.out
        have HR1 := Lib.hid hne.1
        have HR2 := Lib.hid hne.2
        clear hne
        obtain ⟨e0, e1, e2, e3, e4, e5⟩ := P2.out
        go_wp2_with fail
        clear e0 e1 e2 e3 e4 e5
        refine (C.out _ J1.out J2.out).mono ?_
        rintro e w2 ⟨rfl, b2⟩
        have PW := Lib.hid (P2.out.below b2)
        have BW := Lib.hid (below_up (below_up HB.out B1.out) b2)
        have hsw : w.heap.size ≤ w2.heap.size := Nat.le_trans hbs (Nat.le_trans B1.out.size b2.size)
        have HOO := Lib.hid (owns_below (owns_below hown B1.out) b2)
        clear b2 hown
        obtain ⟨e0, e1, e2, e3, e4, e5⟩ := PW.out
        go_wp2_with fail
        first | (go_region_held3 (fun w' => w'.cell? ⟨g, k * 5, none⟩ = some (.slice al nl cl) ∧ w'.cell? ⟨g, k * 5 + 1, none⟩ = some (.slice ar nr cr) ∧ w'.cell? ⟨g, k * 5 + 2, none⟩ = some (.pointer ua) ∧ w'.cell? ⟨g, k * 5 + 3, none⟩ = some (.pointer ub) ∧ w'.cell? ⟨g, k * 5 + 4, none⟩ = some (.pointer uc) ∧ g < w'.heap.size)
          (first | exact PN.out | exact PAt.below PN.out ((Below.refl _ _).drew) | exact PW.out | exact PAt.below PW.out (alloc_below _ _) | exact PAt.below PW.out ((Below.refl _ _).drew) | exact PAt.below PW.out ((alloc_below _ _).drew) | fail)
          (first
            | ((refine step_append_some rfl (.tmp 6) (.tmp 7) 31 rfl w.heap.size 3 i0 (.int .i64 0) 1 8 Try.underlying31 hi hz0 hz1 hz2 rfl (by decide) _ xs.length (xs.map (Value.int .i64)) rfl (owns_below HOO.out (?_ : Below w2.heap.size w2 _)) ⟨w2.heap.size, 0, none⟩ 1 1 [.int .i64 (0)] rfl rfl (cell_one_at ?_) (by simp [Value.oneCell']) (by unfold maxLen; omega) (by omega) ?_ (by decide) ?_);
                (first | exact (alloc_below _ _).drew | exact alloc_below _ _ | exact (Below.refl _ _).drew | (focus (simp; done)) | (focus (simp; omega)) | fail);
                (first | exact (alloc_below _ _).drew | exact alloc_below _ _ | exact (Below.refl _ _).drew | (focus (simp; done)) | (focus (simp; omega)) | fail);
                (first | exact (alloc_below _ _).drew | exact alloc_below _ _ | exact (Below.refl _ _).drew | (focus (simp; done)) | (focus (simp; omega)) | fail);
                intro v6 w6 hown6 hg6 hat6 S6;
                (refine addFact (A := Hid (Below w.heap.size w w6)) ?_ (fun HQ => ?_));
                (focus (refine Below.grown ?_ hg6 ?_ (fun j hj => (HOO.out.lt j hj).1)); (first | exact (BW.out.alloc hsw _).drew | exact BW.out.alloc hsw _ | fail); (simp; omega));
                have PN := Lib.hid (P0.out.below HQ.out);
                (refine addFact (A := Hid (w6.ownsRow w.heap.size 3 1 v6 (xs ++ [(0 : Int)]).length ((xs ++ [(0 : Int)]).map (Value.int .i64)))) ?_ (fun HO6 => ?_));
                (focus (unfold Hid; simpa using hown6));
                clear hown6 hg6 hat6 S6)
            | fail)) | fail
        all_goals
          clear e0 e1 e2 e3 e4 e5
          go_wp2
          go_roundg f
          case measure => omega
          case rel => exact ⟨qb, xs ++ [(0 : Int)], U2.out.symm, HR1, HR2, HO6.out, HQ.out⟩
      · have hne := follow_rel (P := P) (c := c) (f := f) (k := k) (n := n) (F := F) (ys := xs ++ [(1 : Int)]) (p := qc) HNX.out HFF.out HKF.out
        have HR1 := Lib.hid hne.1
        have HR2 := Lib.hid hne.2
        clear hne
        obtain ⟨e0, e1, e2, e3, e4, e5⟩ := P2.out
        go_wp2_with fail
        clear e0 e1 e2 e3 e4 e5
        refine (C.out _ J1.out J2.out).mono ?_
        rintro e w2 ⟨rfl, b2⟩
        have PW := Lib.hid (P2.out.below b2)
        have BW := Lib.hid (below_up (below_up HB.out B1.out) b2)
        have hsw : w.heap.size ≤ w2.heap.size := Nat.le_trans hbs (Nat.le_trans B1.out.size b2.size)
        have HOO := Lib.hid (owns_below (owns_below hown B1.out) b2)
        clear b2 hown
        obtain ⟨e0, e1, e2, e3, e4, e5⟩ := PW.out
        go_wp2_with fail
        first | (go_region_held3 (fun w' => w'.cell? ⟨g, k * 5, none⟩ = some (.slice al nl cl) ∧ w'.cell? ⟨g, k * 5 + 1, none⟩ = some (.slice ar nr cr) ∧ w'.cell? ⟨g, k * 5 + 2, none⟩ = some (.pointer ua) ∧ w'.cell? ⟨g, k * 5 + 3, none⟩ = some (.pointer ub) ∧ w'.cell? ⟨g, k * 5 + 4, none⟩ = some (.pointer uc) ∧ g < w'.heap.size)
          (first | exact PN.out | exact PAt.below PN.out ((Below.refl _ _).drew) | exact PW.out | exact PAt.below PW.out (alloc_below _ _) | exact PAt.below PW.out ((Below.refl _ _).drew) | exact PAt.below PW.out ((alloc_below _ _).drew) | fail)
          (first
            | ((refine step_append_some rfl (.tmp 39) (.tmp 40) 31 rfl w.heap.size 3 i0 (.int .i64 0) 1 8 Try.underlying31 hi hz0 hz1 hz2 rfl (by decide) _ xs.length (xs.map (Value.int .i64)) rfl (owns_below HOO.out (?_ : Below w2.heap.size w2 _)) ⟨w2.heap.size, 0, none⟩ 1 1 [.int .i64 (1)] rfl rfl (cell_one_at ?_) (by simp [Value.oneCell']) (by unfold maxLen; omega) (by omega) ?_ (by decide) ?_);
                (first | exact (alloc_below _ _).drew | exact alloc_below _ _ | exact (Below.refl _ _).drew | (focus (simp; done)) | (focus (simp; omega)) | fail);
                (first | exact (alloc_below _ _).drew | exact alloc_below _ _ | exact (Below.refl _ _).drew | (focus (simp; done)) | (focus (simp; omega)) | fail);
                (first | exact (alloc_below _ _).drew | exact alloc_below _ _ | exact (Below.refl _ _).drew | (focus (simp; done)) | (focus (simp; omega)) | fail);
                intro v6 w6 hown6 hg6 hat6 S6;
                (refine addFact (A := Hid (Below w.heap.size w w6)) ?_ (fun HQ => ?_));
                (focus (refine Below.grown ?_ hg6 ?_ (fun j hj => (HOO.out.lt j hj).1)); (first | exact (BW.out.alloc hsw _).drew | exact BW.out.alloc hsw _ | fail); (simp; omega));
                have PN := Lib.hid (P0.out.below HQ.out);
                (refine addFact (A := Hid (w6.ownsRow w.heap.size 3 1 v6 (xs ++ [(1 : Int)]).length ((xs ++ [(1 : Int)]).map (Value.int .i64)))) ?_ (fun HO6 => ?_));
                (focus (unfold Hid; simpa using hown6));
                clear hown6 hg6 hat6 S6)
            | fail)) | fail
        all_goals
          clear e0 e1 e2 e3 e4 e5
          go_wp2
          go_roundg f
          case measure => omega
          case rel => exact ⟨qc, xs ++ [(1 : Int)], U3.out.symm, HR1, HR2, HO6.out, HQ.out⟩
    · have HFX := Lib.hid (HF.out hpos)
      rw [ptrTo_none hpos] at hsv
      subst hsv
      clear HG HF
      go_wp2
      rw [Exit.noGoto_ret]
      go_ret
      exact ⟨_, rfl, by rw [HFX.out]; exact hown, HB.out⟩
end Go.Proofs.Ytipbjioghicmlaa
