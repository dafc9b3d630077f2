/- The contracts of the law's own marks on a list of weighings, and of the look whether they are held. Conditions: the list is one of the call's own, and short enough to be counted. -/
import Derived.Test.YthgdobnegepgoaaToWds
namespace Go.Proofs.Ythgdobnegepgoaa
open Go.RowKit

/-- The list of n weighings in block g is the call's own, each with blocks behind those of the ones before, below hi. -/
structure WdsQ (w : World) (g n hi : Nat) (f : Nat → Value) (D : List WD) : Prop where
  cells : CellsW w g (n * 2) f
  wd : ∀ i (h : i < D.length), WdOwn w g f i D[i]
  up : ∀ i i', i < i' → i' < D.length → ∀ b b', SdW f i b → SdW f i' b' → b < b'
  lt : ∀ i, i < D.length → ∀ b, SdW f i b → b < hi
/-- A list of weighings of the call's own, its blocks from lo up to hi. -/
def OwnWdsQ (w : World) (lo hi : Nat) (v : Value) (D : List WD) : Prop := ∃ g f, v = .slice (some ⟨g, 0, none⟩) D.length D.length ∧ lo ≤ g ∧ g < hi ∧ WdsQ w g D.length hi f D
theorem OwnWds.all {w : World} {lo : Nat} {v : Value} {D : List WD} (h : OwnWds w lo v D) : OwnWdsQ w lo w.heap.size v D := by
  obtain ⟨g, f, e, hg, h⟩ := h
  exact ⟨g, f, e, hg, h.cells.1, ⟨h.cells, fun i hi => h.wd i hi hi, fun i i' h1 h2 => h.up i i' h1 h2, fun i hi _ hb => ((h.wd i hi hi).blk hb).2⟩⟩
theorem WdsQ.below {w w' : World} {g n hi : Nat} {f : Nat → Value} {D : List WD} (h : WdsQ w g n hi f D) (hb : Below w.heap.size w w') : WdsQ w' g n hi f D :=
  ⟨h.cells.below hb, fun i hi => (h.wd i hi).below hb, h.up, h.lt⟩
theorem OwnWdsQ.below {w w' : World} {lo hi : Nat} {v : Value} {D : List WD} (h : OwnWdsQ w lo hi v D) (hb : Below w.heap.size w w') : OwnWdsQ w' lo hi v D := by
  obtain ⟨g, f, e, hg, h1, h2⟩ := h
  exact ⟨g, f, e, hg, h1, h2.below hb⟩
theorem WdOwn.only {T : Nat → Prop} {w w' : World} {g i : Nat} {f : Nat → Value} {d : WD} (h : WdOwn w g f i d) (ho : Only T w w') (hT : ∀ b, SdW f i b → ¬ T b) : WdOwn w' g f i d :=
  ⟨h.left.only ho fun k hk => hT k (.inl hk), h.right.only ho fun k hk => hT k (.inr hk), h.sep⟩
theorem WdsQ.only {T : Nat → Prop} {w w' : World} {g n hi lo : Nat} {f : Nat → Value} {D : List WD} (h : WdsQ w g n hi f D) (ho : Only T w w') (hlo : lo ≤ g) (hg : g < hi) (hT : ∀ k, T k → k < lo ∨ hi ≤ k) : WdsQ w' g n hi f D :=
  ⟨h.cells.only ho fun e => by have := hT _ e; omega, fun i hi' => (h.wd i hi').only ho fun b hb ht => by
    have h1 := ((h.wd i hi').blk hb).1
    have h2 := h.lt i hi' b hb
    have := hT _ ht
    omega, h.up, h.lt⟩
theorem OwnWdsQ.only {T : Nat → Prop} {w w' : World} {lo hi : Nat} {v : Value} {D : List WD} (h : OwnWdsQ w lo hi v D) (ho : Only T w w') (hT : ∀ k, T k → k < lo ∨ hi ≤ k) : OwnWdsQ w' lo hi v D := by
  obtain ⟨g, f, e, hg, h1, h2⟩ := h
  exact ⟨g, f, e, hg, h1, h2.only ho hg h1 hT⟩
theorem OwnWdsQ.reads {w : World} {lo hi : Nat} {v : Value} {D : List WD} (h : OwnWdsQ w lo hi v D) : WdsAt w v D := by
  obtain ⟨g, f, rfl, hg, _, hk⟩ := h
  exact OwnWds.reads (lo := lo) ⟨g, f, rfl, hg, ⟨hk.cells, fun i hi _ => hk.wd i hi, fun i j h1 h2 => hk.up i j h1 h2⟩⟩
theorem OwnWdsQ.form {w : World} {lo hi : Nat} {v : Value} {D : List WD} (h : OwnWdsQ w lo hi v D) : ∃ g n c, v = .slice (some ⟨g, 0, none⟩) n c := by
  obtain ⟨g, f, e, _⟩ := h
  exact ⟨g, _, _, e⟩
theorem WdsQ.step {w w2 : World} {g n hi j : Nat} {f : Nat → Value} {D : List WD} (h : WdsQ w g n hi f D) (hj : j < D.length) (ho : Only (SdW f j) w w2) {d : WD} (h1 : Own w2 (g + 1) (f (j * 2)) d.L) (h2 : Own w2 (g + 1) (f (j * 2 + 1)) d.R) :
    WdsQ w2 g n hi f (D.set j d) := by
  have hg : ¬ SdW f j g := fun e => by
    have := ((h.wd j hj).blk e).1
    omega
  refine ⟨h.cells.only ho hg, fun i hi' => ?_, fun i i' a b => h.up i i' a (by simpa using b), fun i a => h.lt i (by simpa using a)⟩
  have hi2 : i < D.length := by simpa using hi'
  rw [List.getElem_set]
  by_cases e : j = i
  · subst e
    rw [if_pos rfl]
    exact ⟨h1, h2, (h.wd j hj).sep⟩
  · rw [if_neg e]
    refine (h.wd i hi2).only ho fun b hb hb' => ?_
    rcases Nat.lt_or_gt_of_ne e with e' | e'
    · have := h.up j i e' hi2 b b hb' hb; omega
    · have := h.up i j e' hj b b hb hb'; omega

/-- The marks of a list of weighings from q on. -/
def marksD : Int → List WD → List WD
  | _, [] => []
  | q, d :: r => ⟨imarks q d.L.length, imarks (q + d.L.length) d.R.length⟩ :: marksD (q + d.L.length + d.R.length) r
theorem marksD_len : ∀ (D : List WD) (q : Int), (marksD q D).length = D.length
  | [], _ => rfl
  | d :: r, q => by simp [marksD, marksD_len r]
theorem marksD_app : ∀ (D E : List WD) (q : Int), marksD q (D ++ E) = marksD q D ++ marksD (q + (sumW D : Int)) E
  | [], E, q => by simp [marksD, sumW]
  | d :: r, E, q => by
    have := marksD_app r E (q + d.L.length + d.R.length)
    simp only [List.cons_append, marksD, this, sumW]
    congr 3
    omega
theorem marksD_sum : ∀ (D : List WD) (q : Int), sumW (marksD q D) = sumW D
  | [], _ => rfl
  | d :: r, q => by simp [marksD, sumW, imarks_length, marksD_sum r]
/-- The first j weighings are marked. -/
def markedD (D : List WD) (j : Nat) : List WD := marksD 1 (D.take j) ++ D.drop j
theorem markedD_len (D : List WD) (j : Nat) (hj : j ≤ D.length) : (markedD D j).length = D.length := by
  unfold markedD
  rw [List.length_append, marksD_len]
  simp; omega
theorem markedD_at {D : List WD} {j : Nat} (h : j < D.length) : (markedD D j)[j]? = some D[j] := by
  unfold markedD
  rw [List.getElem?_append_right (by rw [marksD_len]; simp; omega), marksD_len, List.length_take, Nat.min_eq_left (by omega), Nat.sub_self, List.drop_eq_getElem_cons h]
  rfl
theorem markedD_step {D : List WD} {j : Nat} (h : j < D.length) : (markedD D j).set j ⟨imarks (1 + (sumW (D.take j) : Int)) D[j].L.length, imarks (1 + (sumW (D.take j) : Int) + D[j].L.length) D[j].R.length⟩ = markedD D (j + 1) := by
  unfold markedD
  have hlen : (marksD 1 (D.take j)).length = j := by rw [marksD_len]; simp; omega
  rw [List.set_append_right _ _ (by omega), hlen, Nat.sub_self, List.drop_eq_getElem_cons h, List.set_cons_zero, List.take_succ_eq_append_getElem h, marksD_app, List.append_assoc]
  rfl
theorem markedD_end (D : List WD) : markedD D D.length = marksD 1 D := by
  unfold markedD
  simp

set_option maxRecDepth 100000 in
set_option maxHeartbeats 1600000 in
theorem markWds (lo hi : Nat) (v : Value) (D : List WD) (w : World) (h : OwnWdsQ w lo hi v D) (hs : D.length + sumW D ≤ 1048576) :
    Calls Try.prog 27 #[v, .int .i64 1] w fun e w' => e = .returned (.int .i64 (1 + (sumW D : Int))) ∧ OwnWdsQ w' lo hi v (marksD 1 D) ∧ Only (fun k => lo ≤ k ∧ k < hi) w w' := by
  obtain ⟨g, f, rfl, hlo, hgw, hk⟩ := h
  have HSM : Hid (∀ j, sumW (D.take j) ≤ sumW D) := fun j => by
    have := sumW_app (D.take j) (D.drop j)
    rw [List.take_append_drop] at this
    omega
  have HQ0 : Hid (WdsQ w g D.length hi f (markedD D 0)) := by unfold Hid markedD; simpa [marksD] using hk
  clear hk
  obtain ⟨n, hn⟩ : ∃ n, D.length = n := ⟨_, rfl⟩
  unfold OwnWdsQ
  rw [hn] at hs HQ0 ⊢
  have HN := Lib.hid hn
  clear hn
  go_enter Try.func27, Try.ntmps27
  go_wp2
  go_loopw [1, 5] (fun kv i wr => ∃ (j : Nat) (q : Int), j ≤ n ∧ i = .int .i64 j ∧ kv = .int .i64 q ∧ Hid (q = 1 + (sumW (D.take j) : Int)) ∧ Hid (WdsQ wr g n hi f (markedD D j)) ∧ Hid (Only (fun k => lo ≤ k ∧ k < hi) w wr)) (fun _ i _ => n - (intOf i).toNat)
  case atStart => exact ⟨0, 1, Nat.zero_le _, rfl, rfl, by simp [Hid, sumW], HQ0, Only.refl _ _⟩
  case round =>
    clear HQ0
    obtain ⟨j, q, hj, rfl, rfl, hq, HR, HO⟩ := hrel
    by_cases hlt : j < n
    · have hjl : j < D.length := by rw [HN.out]; exact hlt
      have hml : j < (markedD D j).length := by rw [markedD_len D j (by omega)]; exact hjl
      have hat : (markedD D j)[j] = D[j] := by
        have := markedD_at hjl
        rw [List.getElem?_eq_getElem hml] at this
        simpa using this
      have no := HR.out.wd j hml
      rw [hat] at no
      have hsj := HSM.out j
      have hsj1 := HSM.out (j + 1)
      have htk := sumW_take hjl
      have HST := Lib.hid (markedD_step hjl)
      rw [← hq.out] at HST
      obtain ⟨q0, -⟩ := HR.out.cells.2 (j * 2) (by omega)
      obtain ⟨d, hx⟩ : ∃ d, D[j] = d := ⟨_, rfl⟩
      rw [hx] at htk no HST
      have hql : q + (d.L.length : Int) + (d.R.length : Int) ≤ 2000000 := by have := hq.out; omega
      have hqp : 0 < q := by have := hq.out; omega
      have HQ2 : Hid (q + (d.L.length : Int) + (d.R.length : Int) = 1 + (sumW (D.take (j + 1)) : Int)) := by unfold Hid; rw [htk, hq.out]; omega
      have NB : Hid (∀ b, SdW f j b → lo ≤ b ∧ b < hi) := fun b hb => by
        have h1 := (no.blk hb).1
        have h2 := HR.out.lt j hml b hb
        omega
      have HL := Lib.hid no.left
      have HRt := Lib.hid no.right
      have HSP := Lib.hid no.sep
      have HMN := Lib.hid hml
      obtain ⟨x, hxx⟩ : ∃ x, f (j * 2) = x := ⟨_, rfl⟩
      obtain ⟨y, hyy⟩ : ∃ y, f (j * 2 + 1) = y := ⟨_, rfl⟩
      have SD : Hid (∀ b, SdW f j b ↔ x.ownBlock = some b ∨ y.ownBlock = some b) := fun b => by unfold SdW; rw [hxx, hyy]
      rw [hxx] at q0 HL HSP
      rw [hyy] at HRt HSP
      have HXX := Lib.hid hxx
      have HYY := Lib.hid hyy
      obtain ⟨ax, nx, cx, rfl⟩ := HL.out.form
      obtain ⟨ay, ny, cy, rfl⟩ := HRt.out.form
      have C1 := Lib.hid (fun W h => markInts (g + 1) (.slice ax nx cx) q d.L W h (by omega) (by omega) (by omega))
      have C2 := Lib.hid (fun W h => markInts (g + 1) (.slice ay ny cy) (q + (d.L.length : Int)) d.R W h (by omega) (by omega) (by omega))
      have i0 : (0 : Int) ≤ (j : Int) := by omega
      have i1 : (j : Int) < (n : Int) := by omega
      have HC : Hid (∀ w2, Only (SdW f j) wr w2 → CellsW w2 g (n * 2) f) := fun w2 ho => HR.out.cells.only ho (fun e => by have := (no.blk e).1; omega)
      have HSTEP : Hid (∀ w2, Only (SdW f j) wr w2 → ∀ d' : WD, Own w2 (g + 1) (.slice ax nx cx) d'.L → Own w2 (g + 1) (.slice ay ny cy) d'.R → WdsQ w2 g n hi f ((markedD D j).set j d')) := fun w2 ho d' o1 o2 =>
        HR.out.step HMN.out ho (by rw [HXX.out]; exact o1) (by rw [HYY.out]; exact o2)
      clear no hsj hsj1 htk hx hxx hyy hml hat hjl hql hqp HR
      go_wp2_with fail
      refine (C1.out _ HL.out).mono ?_
      rintro e w1 ⟨rfl, o1, g1⟩
      have T1 := Only.of_grown g1
      have HO1 : Hid (Only (SdW f j) wr w1) := T1.mono fun k hk => (SD.out k).2 (.inl hk)
      have HR1 := Lib.hid (HRt.out.only T1 fun k hk e => HSP.out k e hk)
      have K1 : Hid (Own w1 (g + 1) (.slice ax nx cx) (imarks q d.L.length)) := by unfold Hid Own; rw [imarks_length]; exact o1
      clear o1 g1 T1 q0
      obtain ⟨q1, -⟩ := (HC.out _ HO1.out).2 (j * 2 + 1) (by omega)
      rw [HYY.out] at q1
      go_wp2_with fail
      refine (C2.out _ HR1.out).mono ?_
      rintro e w2 ⟨rfl, o2, g2⟩
      have T2 := Only.of_grown g2
      have HO2 : Hid (Only (SdW f j) wr w2) := HO1.out.trans (T2.mono fun k hk => (SD.out k).2 (.inr hk))
      have K2 := Lib.hid (K1.out.only T2 fun k hk e => HSP.out k hk e)
      have K3 : Hid (Own w2 (g + 1) (.slice ay ny cy) (imarks (q + (d.L.length : Int)) d.R.length)) := by unfold Hid Own; rw [imarks_length]; exact o2
      have KQ := HSTEP.out w2 HO2.out ⟨imarks q d.L.length, imarks (q + (d.L.length : Int)) d.R.length⟩ K2.out K3.out
      rw [HST.out] at KQ
      have HKQ := Lib.hid KQ
      have HOO : Hid (Only (fun k => lo ≤ k ∧ k < hi) w w2) := HO.out.trans (HO2.out.mono NB.out)
      clear o2 g2 T2 q1 KQ
      go_wp2
      go_roundw
      case rel => exact ⟨j + 1, q + (d.L.length : Int) + (d.R.length : Int), by omega, by go_num, by go_num, HQ2, HKQ, HOO⟩
      case measure => simp [intOf]; omega
    · obtain rfl : j = n := by omega
      have HE : Hid (q = 1 + (sumW D : Int)) := by
        unfold Hid
        rw [hq.out, List.take_of_length_le (by rw [HN.out]; omega)]
      have HF : Hid (WdsQ wr g j hi f (marksD 1 D)) := by
        have h1 := HR.out
        have h2 := markedD_end D
        rw [HN.out] at h2
        rw [h2] at h1
        exact h1
      have HG : Hid ((marksD 1 D).length = j) := by unfold Hid; rw [marksD_len]; exact HN.out
      go_wp2
      go_ret
      exact ⟨ret_int HE.out, ⟨g, f, by rw [HG.out], hlo, hgw, by rw [HG.out]; exact HF.out⟩, HO.out⟩

set_option maxRecDepth 100000 in
set_option maxHeartbeats 1600000 in
theorem heldWds (v : Value) (D : List WD) (w : World) (h : WdsAt w v (marksD 1 D)) (hs : D.length + sumW D ≤ 1048576) :
    Calls Try.prog 37 #[v, .int .i64 1] w fun e w' => e = .returned (.int .i64 (1 + (sumW D : Int))) ∧ Below w.heap.size w w' := by
  obtain ⟨a, c, rfl, -, h⟩ := h
  have HSM : Hid (∀ j, sumW (D.take j) ≤ sumW D) := fun j => by
    have := sumW_app (D.take j) (D.drop j)
    rw [List.take_append_drop] at this
    omega
  have H := Lib.hid h
  clear h
  rw [marksD_len]
  have HMX : Hid (∀ j (hj : j < D.length) (hj' : j < (marksD 1 D).length), (marksD 1 D)[j] = ⟨imarks (1 + (sumW (D.take j) : Int)) D[j].L.length, imarks (1 + (sumW (D.take j) : Int) + D[j].L.length) D[j].R.length⟩) := by
    intro j hj hj'
    have e : marksD 1 D = marksD 1 (D.take j) ++ marksD (1 + (sumW (D.take j) : Int)) (D.drop j) := by
      rw [← marksD_app, List.take_append_drop]
    have hlen : (marksD 1 (D.take j)).length = j := by rw [marksD_len]; simp; omega
    have h2 : (marksD 1 D)[j]? = some ⟨imarks (1 + (sumW (D.take j) : Int)) D[j].L.length, imarks (1 + (sumW (D.take j) : Int) + D[j].L.length) D[j].R.length⟩ := by
      rw [e, List.getElem?_append_right (by omega), hlen, Nat.sub_self, List.drop_eq_getElem_cons hj]
      rfl
    rw [List.getElem?_eq_getElem hj'] at h2
    simpa using h2
  obtain ⟨n, hn⟩ : ∃ n, D.length = n := ⟨_, rfl⟩
  rw [hn] at hs ⊢
  have HN := Lib.hid hn
  clear hn
  go_enter Try.func37, Try.ntmps37
  go_wp2
  go_loopw [1, 5] (fun kv i wr => ∃ (j : Nat) (q : Int), j ≤ n ∧ i = .int .i64 j ∧ kv = .int .i64 q ∧ Hid (q = 1 + (sumW (D.take j) : Int)) ∧ wr = w) (fun _ i _ => n - (intOf i).toNat)
  case atStart => exact ⟨0, 1, Nat.zero_le _, rfl, rfl, by simp [Hid, sumW], rfl⟩
  case round =>
    obtain ⟨j, q, hj, rfl, rfl, hq, rfl⟩ := hrel
    by_cases hlt : j < n
    · have hjl : j < D.length := by rw [HN.out]; exact hlt
      have hml : j < (marksD 1 D).length := by rw [marksD_len]; exact hjl
      obtain ⟨b, o, vl, vr, rfl, h5, hL, hR⟩ := H.out j hml
      rw [HMX.out j hjl hml] at hL hR
      dsimp only at hL hR
      rw [← hq.out] at hL hR
      have hsj := HSM.out j
      have hsj1 := HSM.out (j + 1)
      have htk := sumW_take hjl
      obtain ⟨d, hx⟩ : ∃ d, D[j] = d := ⟨_, rfl⟩
      rw [hx] at htk hL hR
      have hqe := hq.out
      have hql : q + (d.L.length : Int) + (d.R.length : Int) ≤ 2000000 := by omega
      have hqp : 0 < q := by omega
      have HQ2 : Hid (q + (d.L.length : Int) + (d.R.length : Int) = 1 + (sumW (D.take (j + 1)) : Int)) := by unfold Hid; rw [htk]; omega
      have C1 := Lib.hid (heldInts vl q d.L.length wr hL (by omega) (by omega) (by omega))
      have C2 := Lib.hid (heldInts vr (q + (d.L.length : Int)) d.R.length wr hR (by omega) (by omega) (by omega))
      obtain ⟨al, nl, cl, rfl⟩ := hL.form
      obtain ⟨ar, nr, cr, rfl⟩ := hR.form
      obtain ⟨e0, e1, -⟩ := h5
      have i0 : (0 : Int) ≤ (j : Int) := by omega
      have i1 : (j : Int) < (n : Int) := by omega
      have n1 : ¬ q + (d.L.length : Int) < 0 := by omega
      have n2 : ¬ q + (d.L.length : Int) + (d.R.length : Int) < 0 := by omega
      clear hL hR htk hx hjl hml hsj hsj1 hqe
      go_wp2_with fail
      refine C1.out.mono ?_
      rintro e w1 ⟨rfl, rfl⟩
      go_wp2_with fail
      refine C2.out.mono ?_
      rintro e w1 ⟨rfl, rfl⟩
      go_wp2
      go_roundw
      case rel => exact ⟨j + 1, q + (d.L.length : Int) + (d.R.length : Int), by omega, by go_num, by go_num, HQ2, by first | rfl | trivial⟩
      case measure => simp [intOf]; omega
    · have HE : Hid (q = 1 + (sumW D : Int)) := by
        unfold Hid
        rw [hq.out, List.take_of_length_le (by rw [HN.out]; omega)]
      go_wp2
      go_ret
      exact ⟨ret_int HE.out, Below.refl _ _⟩
end Go.Proofs.Ythgdobnegepgoaa
