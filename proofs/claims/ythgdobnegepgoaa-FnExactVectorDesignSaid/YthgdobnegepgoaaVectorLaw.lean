/- A list of weighings that a function gives back as its own; the law's marks on it; and the walk of the exact law of VectorDesign round the contracts of the model's and the program's functions: the law returns true for every argument. No condition. -/
import Derived.Test.YthgdobnegepgoaaMarkWds
import Derived.Test.YthgdobnegepgoaaThree
import Derived.Test.YthgdobnegepgoaaCameWds
namespace Go.Proofs.Ythgdobnegepgoaa
open Go.RowKit

/-- A list of weighings of the call's own, from block lo on: no two of its blocks are one. -/
structure WdsR (w : World) (lo : Nat) (v : Value) (f : Nat → Value) (D : List WD) : Prop where
  form : ∃ a cap, v = .slice a D.length cap ∧ D.length ≤ cap ∧ ∀ i, i < D.length → ∃ g, a = some ⟨g, 0, none⟩ ∧ lo ≤ g ∧ g < w.heap.size ∧ w.cell? ⟨g, i * 2, none⟩ = some (f (i * 2)) ∧ w.cell? ⟨g, i * 2 + 1, none⟩ = some (f (i * 2 + 1))
  own : ∀ i (h : i < D.length), Own w lo (f (i * 2)) D[i].L ∧ Own w lo (f (i * 2 + 1)) D[i].R ∧ Sep (f (i * 2)) (f (i * 2 + 1))
  apart : ∀ i j, i < D.length → j < D.length → i ≠ j → ∀ b, SdW f i b → ¬ SdW f j b
  row : ∀ i, i < D.length → ∀ b, SdW f i b → v.ownBlock ≠ some b
theorem WdsR.below {w w' : World} {lo : Nat} {v : Value} {f : Nat → Value} {D : List WD} (h : WdsR w lo v f D) (hb : Below w.heap.size w w') : WdsR w' lo v f D := by
  obtain ⟨⟨a, cap, rfl, hc, hr⟩, h2, h3, h4⟩ := h
  refine ⟨⟨a, cap, rfl, hc, fun i hi => ?_⟩, fun i hi => ⟨(h2 i hi).1.below hb, (h2 i hi).2.1.below hb, (h2 i hi).2.2⟩, h3, h4⟩
  obtain ⟨g, e, g1, g2, c1, c2⟩ := hr i hi
  exact ⟨g, e, g1, Nat.lt_of_lt_of_le g2 hb.size, by rw [hb.cell (p := ⟨g, i * 2, none⟩) g2]; exact c1, by rw [hb.cell (p := ⟨g, i * 2 + 1, none⟩) g2]; exact c2⟩
theorem WdsR.blk {w : World} {lo : Nat} {v : Value} {f : Nat → Value} {D : List WD} (h : WdsR w lo v f D) {i b : Nat} (hi : i < D.length) (hs : SdW f i b) : lo ≤ b ∧ b < w.heap.size := by
  rcases hs with e | e
  · exact (h.own i hi).1.blk b e
  · exact (h.own i hi).2.1.blk b e
theorem WdsR.reads {w : World} {lo : Nat} {v : Value} {f : Nat → Value} {D : List WD} (h : WdsR w lo v f D) : WdsAt w v D := by
  obtain ⟨⟨a, cap, rfl, hc, hr⟩, h2, h3, h4⟩ := h
  refine ⟨a, cap, rfl, hc, fun i hi => ?_⟩
  obtain ⟨g, e, g1, g2, c1, c2⟩ := hr i hi
  refine ⟨g, 0, _, _, e, ?_, (h2 i hi).1.reads, (h2 i hi).2.1.reads⟩
  rw [Nat.zero_add]
  exact ⟨c1, c2, g2⟩
theorem WdsR.step {w w2 : World} {lo j : Nat} {v : Value} {f : Nat → Value} {D : List WD} (h : WdsR w lo v f D) (hj : j < D.length) (ho : Only (SdW f j) w w2) {d : WD} (h1 : Own w2 lo (f (j * 2)) d.L) (h2 : Own w2 lo (f (j * 2 + 1)) d.R) : WdsR w2 lo v f (D.set j d) := by
  obtain ⟨⟨a, cap, rfl, hc, hr⟩, k2, k3, k4⟩ := h
  refine ⟨⟨a, cap, by rw [List.length_set], by rw [List.length_set]; exact hc, fun i hi => ?_⟩, fun i hi => ?_, fun i i' a b => k3 i i' (by simpa using a) (by simpa using b), fun i a b hb => k4 i (by simpa using a) b hb⟩
  · obtain ⟨g, e, g1, g2, c1, c2⟩ := hr i (by simpa using hi)
    have hg : ¬ SdW f j g := fun hs => k4 j hj g hs (by rw [e]; rfl)
    have kb := ho.block g g2 hg
    exact ⟨g, e, g1, Nat.lt_of_lt_of_le g2 ho.size, by rw [World.cell?_of_block (w := w) (a := ⟨g, i * 2, none⟩) kb]; exact c1, by rw [World.cell?_of_block (w := w) (a := ⟨g, i * 2 + 1, none⟩) kb]; exact c2⟩
  · have hi2 : i < D.length := by simpa using hi
    rw [List.getElem_set]
    by_cases e : j = i
    · subst e
      rw [if_pos rfl]
      exact ⟨h1, h2, (k2 j hj).2.2⟩
    · rw [if_neg e]
      exact ⟨(k2 i hi2).1.only ho fun k hk ht => k3 j i hj hi2 e k ht (.inl hk), (k2 i hi2).2.1.only ho fun k hk ht => k3 j i hj hi2 e k ht (.inr hk), (k2 i hi2).2.2⟩

set_option maxRecDepth 100000 in
set_option maxHeartbeats 1600000 in
theorem markWdsR (lo : Nat) (v : Value) (f : Nat → Value) (D : List WD) (w : World) (h : WdsR w lo v f D) (hs : D.length + sumW D ≤ 1048576) :
    Calls Try.prog 27 #[v, .int .i64 1] w fun e w' => e = .returned (.int .i64 (1 + (sumW D : Int))) ∧ WdsR w' lo v f (marksD 1 D) ∧ Only (fun k => lo ≤ k) w w' := by
  obtain ⟨a, cap, hv, -, -⟩ := h.form
  subst hv
  have HSM : Hid (∀ j, sumW (D.take j) ≤ sumW D) := fun j => by
    have := sumW_app (D.take j) (D.drop j)
    rw [List.take_append_drop] at this
    omega
  have HQ0 : Hid (WdsR w lo (.slice a D.length cap) f (markedD D 0)) := by unfold Hid markedD; simpa [marksD] using h
  clear h
  obtain ⟨n, hn⟩ : ∃ n, D.length = n := ⟨_, rfl⟩
  rw [hn] at hs HQ0 ⊢
  have HN := Lib.hid hn
  clear hn
  go_enter Try.func27, Try.ntmps27
  go_wp2
  go_loopw [1, 5] (fun kv i wr => ∃ (j : Nat) (q : Int), j ≤ n ∧ i = .int .i64 j ∧ kv = .int .i64 q ∧ Hid (q = 1 + (sumW (D.take j) : Int)) ∧ Hid (WdsR wr lo (.slice a n cap) f (markedD D j)) ∧ Hid (Only (fun k => lo ≤ k) w wr)) (fun _ i _ => n - (intOf i).toNat)
  case atStart => exact ⟨0, 1, Nat.zero_le _, rfl, rfl, by simp [Hid, sumW], HQ0, Only.refl _ _⟩
  case round =>
    clear HQ0
    obtain ⟨j, q, hj, rfl, rfl, hq, HR, HO⟩ := hrel
    by_cases hlt : j < n
    · have hjl : j < D.length := by rw [HN.out]; exact hlt
      have hml : j < (markedD D j).length := by rw [markedD_len D j (by omega)]; exact hjl
      have hat : (markedD D j)[j] = D[j] := by
        have := markedD_at hjl
        rw [List.getElem?_eq_getElem hml] at this
        simpa using this
      have no := HR.out.own j hml
      rw [hat] at no
      obtain ⟨a', cap', hv', -, hcell⟩ := HR.out.form
      have hmn : (markedD D j).length = n := by rw [markedD_len D j (by omega)]; exact HN.out
      rw [hmn] at hv'
      cases hv'
      obtain ⟨g, rfl, hg0, hg1, q0, -⟩ := hcell j hml
      have hsj := HSM.out j
      have hsj1 := HSM.out (j + 1)
      have htk := sumW_take hjl
      have HST := Lib.hid (markedD_step hjl)
      rw [← hq.out] at HST
      obtain ⟨d, hx⟩ : ∃ d, D[j] = d := ⟨_, rfl⟩
      rw [hx] at htk no HST
      have hql : q + (d.L.length : Int) + (d.R.length : Int) ≤ 2000000 := by have := hq.out; omega
      have hqp : 0 < q := by have := hq.out; omega
      have HQ2 : Hid (q + (d.L.length : Int) + (d.R.length : Int) = 1 + (sumW (D.take (j + 1)) : Int)) := by unfold Hid; rw [htk, hq.out]; omega
      have NB : Hid (∀ b, SdW f j b → lo ≤ b) := fun b hb => (HR.out.blk hml hb).1
      have HL := Lib.hid no.1
      have HRt := Lib.hid no.2.1
      have HSP := Lib.hid no.2.2
      have HMN := Lib.hid hml
      obtain ⟨x, hxx⟩ : ∃ x, f (j * 2) = x := ⟨_, rfl⟩
      obtain ⟨y, hyy⟩ : ∃ y, f (j * 2 + 1) = y := ⟨_, rfl⟩
      have SD : Hid (∀ b, SdW f j b ↔ x.ownBlock = some b ∨ y.ownBlock = some b) := fun b => by unfold SdW; rw [hxx, hyy]
      rw [hxx] at q0 HL HSP
      rw [hyy] at HRt HSP
      have HXX := Lib.hid hxx
      have HYY := Lib.hid hyy
      have HRW : Hid (∀ b, SdW f j b → g ≠ b) := fun b hb e => HR.out.row j hml b hb (by rw [e]; rfl)
      obtain ⟨ax, nx, cx, rfl⟩ := HL.out.form
      obtain ⟨ay, ny, cy, rfl⟩ := HRt.out.form
      have C1 := Lib.hid (fun W h => markInts lo (.slice ax nx cx) q d.L W h (by omega) (by omega) (by omega))
      have C2 := Lib.hid (fun W h => markInts lo (.slice ay ny cy) (q + (d.L.length : Int)) d.R W h (by omega) (by omega) (by omega))
      have i0 : (0 : Int) ≤ (j : Int) := by omega
      have i1 : (j : Int) < (n : Int) := by omega
      have HC : Hid (∀ w2, Only (SdW f j) wr w2 → w2.cell? ⟨g, j * 2 + 1, none⟩ = some (.slice ay ny cy)) := fun w2 ho => by
        have hk := ho.block g hg1 (fun e => HRW.out g e rfl)
        rw [World.cell?_of_block (w := wr) (a := ⟨g, j * 2 + 1, none⟩) hk]
        obtain ⟨g', hgg, -, -, -, c2⟩ := hcell j hml
        cases hgg
        rw [HYY.out] at c2
        exact c2
      have HSTEP : Hid (∀ w2, Only (SdW f j) wr w2 → ∀ d' : WD, Own w2 lo (.slice ax nx cx) d'.L → Own w2 lo (.slice ay ny cy) d'.R → WdsR w2 lo (.slice (some ⟨g, 0, none⟩) n cap) f ((markedD D j).set j d')) := fun w2 ho d' o1 o2 =>
        HR.out.step HMN.out ho (by rw [HXX.out]; exact o1) (by rw [HYY.out]; exact o2)
      clear no hsj hsj1 htk hx hxx hyy hml hat hjl hql hqp HR hcell hmn
      go_wp2_with fail
      refine (C1.out _ HL.out).mono ?_
      rintro e w1 ⟨rfl, o1, g1⟩
      have T1 := Only.of_grown g1
      have HO1 : Hid (Only (SdW f j) wr w1) := T1.mono fun k hk => (SD.out k).2 (.inl hk)
      have HR1 := Lib.hid (HRt.out.only T1 fun k hk e => HSP.out k e hk)
      have K1 : Hid (Own w1 lo (.slice ax nx cx) (imarks q d.L.length)) := by unfold Hid Own; rw [imarks_length]; exact o1
      clear o1 g1 T1 q0
      have q1 := HC.out _ HO1.out
      go_wp2_with fail
      refine (C2.out _ HR1.out).mono ?_
      rintro e w2 ⟨rfl, o2, g2⟩
      have T2 := Only.of_grown g2
      have HO2 : Hid (Only (SdW f j) wr w2) := HO1.out.trans (T2.mono fun k hk => (SD.out k).2 (.inr hk))
      have K2 := Lib.hid (K1.out.only T2 fun k hk e => HSP.out k hk e)
      have K3 : Hid (Own w2 lo (.slice ay ny cy) (imarks (q + (d.L.length : Int)) d.R.length)) := by unfold Hid Own; rw [imarks_length]; exact o2
      have KQ := HSTEP.out w2 HO2.out ⟨imarks q d.L.length, imarks (q + (d.L.length : Int)) d.R.length⟩ K2.out K3.out
      rw [HST.out] at KQ
      have HKQ := Lib.hid KQ
      have HOO : Hid (Only (fun k => lo ≤ k) w w2) := HO.out.trans (HO2.out.mono NB.out)
      clear o2 g2 T2 q1 KQ
      go_wp2
      go_roundw
      case rel => exact ⟨j + 1, q + (d.L.length : Int) + (d.R.length : Int), by omega, by go_num, by go_num, HQ2, HKQ, HOO⟩
      case measure => simp [intOf]; omega
    · obtain rfl : j = n := by omega
      have HE : Hid (q = 1 + (sumW D : Int)) := by
        unfold Hid
        rw [hq.out, List.take_of_length_le (by rw [HN.out]; omega)]
      have HF : Hid (WdsR wr lo (.slice a j cap) f (marksD 1 D)) := by
        have h1 := HR.out
        have h2 := markedD_end D
        rw [HN.out] at h2
        rw [h2] at h1
        exact h1
      go_wp2
      go_ret
      exact ⟨ret_int HE.out, HF.out, HO.out⟩

/-- The fixed designs. -/
def vecD (k : Int) : List WD :=
  if k = 2 then [⟨[1], [3]⟩, ⟨[3], [2]⟩]
  else if k = 3 then [⟨[1, 2, 3, 4], [9, 10, 11, 12]⟩, ⟨[1, 9, 10, 11], [6, 7, 8, 12]⟩, ⟨[2, 6, 9, 12], [4, 5, 8, 11]⟩]
  else []
def vecN (k : Int) : Int := if k = 2 then 3 else if k = 3 then 12 else 0
def vecB (k : Int) : Bool := k == 2 || k == 3
theorem vecD_size (k : Int) : (vecD k).length + sumW (vecD k) ≤ 100 := by
  unfold vecD
  split
  · decide
  · split <;> decide
/-- The contract of a function that gives back the fixed designs, read alone. -/
def VecReads (f : FuncId) (k : Int) : Prop :=
  ∀ W, Calls Try.prog f #[.int .i64 k] W fun e w' => ∃ v, e = .returned (.tuple #[v, .int .i64 (vecN k), .bool (vecB k)]) ∧ WdsAt w' v (vecD k) ∧ Below W.heap.size W w'
/-- The contract of a function that gives back the fixed designs as its own. -/
def VecIs (f : FuncId) (k : Int) : Prop :=
  ∀ W, Calls Try.prog f #[.int .i64 k] W fun e w' => ∃ v f, e = .returned (.tuple #[v, .int .i64 (vecN k), .bool (vecB k)]) ∧ WdsR w' W.heap.size v f (vecD k) ∧ Below W.heap.size W w'

set_option maxRecDepth 100000 in
set_option maxHeartbeats 1600000 in
theorem lawVectorDesign (SP : ∀ k, wfW k → VecReads 35 k) (IM : ∀ k, wfW k → VecIs 36 k) (k : Int) (wk : (Lit.int .i64 k).wf = true) (w : World) :
    Calls Try.prog 9 #[.int .i64 k] w fun e w' => e = .returned (.bool true) ∧ Below w.heap.size w w' := by
  have S := Lib.hid (SP k wk)
  have I := Lib.hid (IM k wk)
  have hsz := vecD_size k
  have hll : ∀ d ∈ vecD k, d.L.length ≤ 1048576 ∧ d.R.length ≤ 1048576 := SzW.lists (by omega)
  have EQ := Lib.hid (fun W a b h h' => eqWds a b (vecD k) W h h' (by omega) hll)
  have MK := Lib.hid (fun lo v f W h => markWdsR lo v f (vecD k) W h (by omega))
  have HL := Lib.hid (fun v W h => heldWds v (vecD k) W h (by omega))
  obtain ⟨sw, hsw⟩ : ∃ sw, (1 : Int) + (sumW (vecD k) : Int) = sw := ⟨_, rfl⟩
  rw [hsw] at MK HL
  have hs0 : 0 ≤ sw := by omega
  unfold VecReads at S
  unfold VecIs at I
  generalize vecN k = nn at S I
  generalize vecB k = bb at S I
  generalize marksD 1 (vecD k) = MD at MK HL
  generalize vecD k = D at S I EQ MK
  clear hsw hll hsz
  go_enter Try.func9, Try.ntmps9
  go_wp2_with fail
  refine (S.out _).mono ?_
  rintro e w1 ⟨v1, rfl, r1, b1⟩
  have B1 := Lib.hid b1
  have W1 := Lib.hid r1
  obtain ⟨a1, c1, rfl⟩ := r1.form
  clear b1 r1
  go_wp2_with fail
  refine (I.out _).mono ?_
  rintro e w2 ⟨v2, f2, rfl, r2, b2⟩
  have C2 := Lib.hid b2
  have G2 := Lib.hid r2
  obtain ⟨a2, c2, rfl⟩ := r2.reads.form
  generalize D.length = dl at W1 G2 ⊢
  clear b2 r2
  go_wp2_with fail
  refine (EQ.out _ _ _ G2.out.reads (W1.out.below C2.out)).mono ?_
  rintro e w3 ⟨rfl, b3⟩
  have C3 := Lib.hid (below_up C2.out b3)
  have G3 := Lib.hid (G2.out.below b3)
  clear b3
  cases bb
  all_goals
    go_wp2_with fail
    refine (MK.out _ _ _ _ G3.out).mono ?_
    rintro e w4 ⟨rfl, r4, t4⟩
    have C4 := Lib.hid (C3.out.trans (t4.below C3.out.size fun k hk => hk))
    have G4 := Lib.hid r4
    clear r4 t4
    go_wp2_with fail
    refine (HL.out _ _ G4.out.reads).mono ?_
    rintro e w5 ⟨rfl, b5⟩
    have C5 := Lib.hid (below_up C4.out b5)
    have G5 := Lib.hid (G4.out.below b5)
    clear b5
    go_wp2_with fail
    refine (I.out _).mono ?_
    rintro e w6 ⟨v6, f6, rfl, r6, b6⟩
    have C6 := Lib.hid (below_up C5.out b6)
    have G6 := Lib.hid (G5.out.below b6)
    have R6 := Lib.hid r6.reads
    obtain ⟨a6, c6, rfl⟩ := r6.reads.form
    clear b6 r6
    go_wp2_with fail
    refine (EQ.out _ _ _ R6.out (W1.out.below C6.out)).mono ?_
    rintro e w7 ⟨rfl, b7⟩
    have C7 := Lib.hid (below_up C6.out b7)
    have G7 := Lib.hid (G6.out.below b7)
    clear b7
    go_wp2_with fail
    refine (HL.out _ _ G7.out.reads).mono ?_
    rintro e w8 ⟨rfl, b8⟩
    have C8 := Lib.hid (below_up C7.out b8)
    clear b8
    go_wp2
    go_ret
    exact ⟨rfl, below_up B1.out C8.out⟩
end Go.Proofs.Ythgdobnegepgoaa
