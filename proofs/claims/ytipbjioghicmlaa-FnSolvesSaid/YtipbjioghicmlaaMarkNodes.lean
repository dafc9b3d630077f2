/- The contract of the law's own marks on a plan: only blocks of the plan are written. Conditions: the plan is a list of the call's own, and short enough to be counted. -/
import Derived.Test.YtipbjioghicmlaaToNodes
namespace Go.Proofs.Ytipbjioghicmlaa
open Go.RowKit

/-- The nodes from j on of the list of n in block g are the call's own, each with blocks behind those of the ones before, below hi. -/
structure RestK (w : World) (g n j hi : Nat) (f : Nat → Value) (P : List ND) : Prop where
  cells : Cells w g (n * 5) f
  node : ∀ i (h : i < P.length), j ≤ i → NodeOwn w g f i P[i]
  up : ∀ i i', j ≤ i → i < i' → i' < P.length → ∀ b b', Sd f i b → Sd f i' b' → b < b'
  lt : ∀ i, j ≤ i → i < P.length → ∀ b, Sd f i b → b < hi
/-- A list of nodes of the call's own, its blocks from lo up to hi. -/
def OwnQ (w : World) (lo hi : Nat) (v : Value) (P : List ND) : Prop := ∃ g f, v = .slice (some ⟨g, 0, none⟩) P.length P.length ∧ lo ≤ g ∧ g < hi ∧ RestK w g P.length 0 hi f P
theorem OwnP.all {w : World} {lo : Nat} {v : Value} {P : List ND} (h : OwnP w lo v P) : OwnQ w lo w.heap.size v P := by
  obtain ⟨g, f, e, hg, h⟩ := h
  exact ⟨g, f, e, hg, h.cells.1, ⟨h.cells, fun i hi _ => h.node i hi hi, fun i i' _ h1 h2 => h.up i i' h1 h2, fun i _ hi _ hb => ((h.node i hi hi).blk hb).2⟩⟩
theorem RestK.below {w w' : World} {g n j hi : Nat} {f : Nat → Value} {P : List ND} (h : RestK w g n j hi f P) (hb : Below w.heap.size w w') : RestK w' g n j hi f P :=
  ⟨h.cells.below hb, fun i hi hj => (h.node i hi hj).below hb, h.up, h.lt⟩
theorem OwnQ.below {w w' : World} {lo hi : Nat} {v : Value} {P : List ND} (h : OwnQ w lo hi v P) (hb : Below w.heap.size w w') : OwnQ w' lo hi v P := by
  obtain ⟨g, f, e, hg, h1, h2⟩ := h
  exact ⟨g, f, e, hg, h1, h2.below hb⟩
theorem OwnQ.reads {w : World} {lo hi : Nat} {v : Value} {P : List ND} (h : OwnQ w lo hi v P) : NodesAt w v P := by
  obtain ⟨g, f, rfl, hg, _, hk⟩ := h
  exact OwnP.reads (lo := lo) ⟨g, f, rfl, hg, ⟨hk.cells, fun i hi _ => hk.node i hi (Nat.zero_le _), fun i j h1 h2 => hk.up i j (Nat.zero_le _) h1 h2⟩⟩
theorem OwnQ.form {w : World} {lo hi : Nat} {v : Value} {P : List ND} (h : OwnQ w lo hi v P) : ∃ g n c, v = .slice (some ⟨g, 0, none⟩) n c := by
  obtain ⟨g, f, e, _⟩ := h
  exact ⟨g, _, _, e⟩
theorem Only.setCell {T : Nat → Prop} {w w' : World} (h : Only T w w') {b : Nat} (hb : T b) (o : Nat) (u : Value) : Only T w (w'.setCell ⟨b, o, none⟩ u) := by
  refine ⟨h.os, h.tape, h.output, by rw [setCell_size]; exact h.size, fun k hk hn => ?_⟩
  rw [← h.block k hk hn]
  exact (Below.setCell (B := b) (p := ⟨b, o, none⟩) (Below.refl b w') (Nat.le_refl _) u) |> fun hh => by
    rcases Nat.lt_trichotomy k b with e | e | e
    · exact hh.block k e
    · subst e; exact absurd hb hn
    · simp only [World.setCell]
      rw [Array.getElem?_modify, if_neg (by omega)]
theorem NodeOwn.only {T : Nat → Prop} {w w' : World} {g i : Nat} {f : Nat → Value} {d : ND} (h : NodeOwn w g f i d) (ho : Only T w w') (hT : ∀ b, Sd f i b → ¬ T b) : NodeOwn w' g f i d :=
  ⟨h.a, h.b, h.c, h.left.only ho fun k hk => hT k (.inl hk), h.right.only ho fun k hk => hT k (.inr hk), h.sep⟩
theorem RestK.step {w w2 : World} {g n j hi : Nat} {f : Nat → Value} {P : List ND} (h : RestK w g n j hi f P) (hj : j < P.length) (hn : P.length = n) (ho : Only (Sd f j) w w2) (u1 u2 u3 : Value) :
    ∃ f', RestK (((w2.setCell ⟨g, j * 5 + 2, none⟩ u1).setCell ⟨g, j * 5 + 3, none⟩ u2).setCell ⟨g, j * 5 + 4, none⟩ u3) g n (j + 1) hi f' P := by
  have hg : ¬ Sd f j g := fun e => by
    have := ((h.node j hj (Nat.le_refl _)).blk e).1
    omega
  obtain ⟨F, hc, k0⟩ : ∃ F, Cells (((w2.setCell ⟨g, j * 5 + 2, none⟩ u1).setCell ⟨g, j * 5 + 3, none⟩ u2).setCell ⟨g, j * 5 + 4, none⟩ u3) g (n * 5) F ∧ ∀ z, (z < j * 5 + 2 ∨ j * 5 + 5 ≤ z) → F z = f z :=
    ⟨_, (((h.cells.only ho hg).set (j * 5 + 2) (by omega) u1).set (j * 5 + 3) (by omega) u2).set (j * 5 + 4) (by omega) u3, fun z hz => by
      show (if z = j * 5 + 4 then u3 else if z = j * 5 + 3 then u2 else if z = j * 5 + 2 then u1 else f z) = f z
      rw [if_neg (by omega), if_neg (by omega), if_neg (by omega)]⟩
  have sd : ∀ i b, j + 1 ≤ i → Sd F i b → Sd f i b := fun i b h1 hb => by
    unfold Sd at hb ⊢
    rw [k0 _ (by omega), k0 _ (by omega)] at hb
    exact hb
  refine ⟨F, hc, fun i hi' hji => ?_, fun i i' h1 h2 h3 b b' hb hb' => h.up i i' (by omega) h2 h3 b b' (sd i b h1 hb) (sd i' b' (by omega) hb'), fun i h1 h2 b hb => h.lt i (by omega) h2 b (sd i b h1 hb)⟩
  have c := (h.node i hi' (by omega)).only ho (fun b hb hb' => by
    have := h.up j i (Nat.le_refl _) (by omega) hi' b b hb' hb
    omega)
  refine ⟨?_, ?_, ?_, ?_, ?_, ?_⟩
  · rw [k0 _ (by omega)]; exact c.a
  · rw [k0 _ (by omega)]; exact c.b
  · rw [k0 _ (by omega)]; exact c.c
  · rw [k0 _ (by omega)]; exact ((c.left.setCell (by omega) _).setCell (by omega) _).setCell (by omega) _
  · rw [k0 _ (by omega)]; exact ((c.right.setCell (by omega) _).setCell (by omega) _).setCell (by omega) _
  · rw [k0 _ (by omega), k0 _ (by omega)]; exact c.sep

set_option maxRecDepth 100000 in
set_option maxHeartbeats 1600000 in
theorem markNodes (lo hi : Nat) (v : Value) (P : List ND) (w : World) (h : OwnQ w lo hi v P) (hs : P.length + sumP P ≤ 1048576) :
    Calls Try.prog 31 #[v, .int .i64 1] w fun e w' => ∃ r, e = .returned (.int .i64 r) ∧ 0 ≤ r ∧ Only (fun k => lo ≤ k ∧ k < hi) w w' := by
  obtain ⟨g, f, rfl, hlo, hgw, hk⟩ := h
  have HR := Lib.hid hk
  have HSM : Hid (∀ j, sumP (P.take j) ≤ sumP P) := fun j => by
    have := sumP_app (P.take j) (P.drop j)
    rw [List.take_append_drop] at this
    omega
  clear hk
  obtain ⟨n, hn⟩ : ∃ n, P.length = n := ⟨_, rfl⟩
  rw [hn] at hs HR ⊢
  have HN := Lib.hid hn
  clear hn
  go_enter Try.func31, Try.ntmps31
  go_wp2
  go_loopw [1, 5] (fun kv i wr => ∃ (j : Nat) (q : Int) (f : Nat → Value), j ≤ n ∧ i = .int .i64 j ∧ kv = .int .i64 q ∧ q = 1 + (sumP (P.take j) : Int) + 3 * (j : Int) ∧ Hid (RestK wr g n j hi f P) ∧ Hid (Only (fun k => lo ≤ k ∧ k < hi) w wr)) (fun _ i _ => n - (intOf i).toNat)
  case atStart => exact ⟨0, 1, f, Nat.zero_le _, rfl, rfl, by simp [sumP], HR, Only.refl _ _⟩
  case round =>
    clear HR
    obtain ⟨j, q, f, hj, rfl, rfl, hq, HR, HO⟩ := hrel
    have hsj := HSM.out j
    by_cases hlt : j < n
    · have hjl : j < P.length := by rw [HN.out]; exact hlt
      have hsj1 := HSM.out (j + 1)
      have htk := sumP_take hjl
      have no := HR.out.node j hjl (Nat.le_refl _)
      have nb : ∀ b, Sd f j b → g + 1 ≤ b ∧ b < hi := fun b hb => ⟨(no.blk hb).1, HR.out.lt j (Nat.le_refl _) hjl b hb⟩
      have q0 := (HR.out.cells.2 (j * 5) (by omega)).1
      have q1 := (HR.out.cells.2 (j * 5 + 1) (by omega)).1
      have w2 := HR.out.cells.2 (j * 5 + 2) (by omega)
      have w3 := HR.out.cells.2 (j * 5 + 3) (by omega)
      have w4 := HR.out.cells.2 (j * 5 + 4) (by omega)
      obtain ⟨d, hx⟩ : ∃ d, P[j] = d := ⟨_, rfl⟩
      have hl := no.left
      have hr := no.right
      have hsp := no.sep
      rw [hx] at htk hl hr
      have SD : Hid (∀ b, Sd f j b ↔ (f (j * 5)).ownBlock = some b ∨ (f (j * 5 + 1)).ownBlock = some b) := fun b => Iff.rfl
      obtain ⟨x, hxx⟩ : ∃ x, f (j * 5) = x := ⟨_, rfl⟩
      obtain ⟨y, hyy⟩ : ∃ y, f (j * 5 + 1) = y := ⟨_, rfl⟩
      rw [hxx] at q0 hl hsp SD
      rw [hyy] at q1 hr hsp SD
      have HST : Hid (∀ w2, Only (Sd f j) wr w2 → ∀ u1 u2 u3, ∃ f', RestK (((w2.setCell ⟨g, j * 5 + 2, none⟩ u1).setCell ⟨g, j * 5 + 3, none⟩ u2).setCell ⟨g, j * 5 + 4, none⟩ u3) g n (j + 1) hi f' P) := fun w2 ho u1 u2 u3 => HR.out.step hjl HN.out ho u1 u2 u3
      have HC : Hid (∀ w2, Only (Sd f j) wr w2 → Cells w2 g (n * 5) f) := fun w2 ho => HR.out.cells.only ho (fun e => by have := (nb g e).1; omega)
      have NB := Lib.hid nb
      obtain ⟨ax, nx, cx, rfl⟩ := hl.form
      obtain ⟨ay, ny, cy, rfl⟩ := hr.form
      have HYY := Lib.hid hyy
      have C1 := Lib.hid (fun W h => markInts (g + 1) (.slice ax nx cx) q d.L W h (by omega) (by omega) (by omega))
      obtain ⟨m1, hm1⟩ : ∃ m1, q + (d.L.length : Int) = m1 := ⟨_, rfl⟩
      rw [hm1] at C1
      have C2 := Lib.hid (fun W h => markInts (g + 1) (.slice ay ny cy) m1 d.R W h (by omega) (by omega) (by omega))
      obtain ⟨m2, hm2⟩ : ∃ m2, m1 + (d.R.length : Int) = m2 := ⟨_, rfl⟩
      rw [hm2] at C2
      have hm3 : m2 + 3 = 1 + (sumP (P.take (j + 1)) : Int) + 3 * ((j + 1 : Nat) : Int) := by rw [htk]; omega
      have hm4 : 0 ≤ m2 ∧ m2 ≤ 100000000 := by omega
      have HL := Lib.hid hl
      have HRt := Lib.hid hr
      have HSP := Lib.hid hsp
      have HM3 := Lib.hid hm3
      have i0 : (0 : Int) ≤ (j : Int) := by omega
      have i1 : (j : Int) < (n : Int) := by omega
      obtain ⟨m20, m21⟩ := hm4
      clear hl hr hsp no nb hjl hx hxx hyy htk hsj1 hm1 hm2 hm3 hq hsj w2 w3 w4
      go_wp2_with fail
      refine (C1.out _ HL.out).mono ?_
      rintro e w1 ⟨rfl, o1, g1⟩
      have T1 := Only.of_grown g1
      have HO1 : Hid (Only (Sd f j) wr w1) := T1.mono fun k hk => (SD.out k).2 (.inl hk)
      have HR1 := Lib.hid (HRt.out.only T1 fun k hk e => HSP.out k e hk)
      clear o1 g1 T1 q0 q1
      have q1 := ((HC.out _ HO1.out).2 (j * 5 + 1) (by omega)).1
      rw [HYY.out] at q1
      go_wp2_with fail
      refine (C2.out _ HR1.out).mono ?_
      rintro e w2 ⟨rfl, o2, g2⟩
      have T2 := Only.of_grown g2
      have HO2 : Hid (Only (Sd f j) wr w2) := HO1.out.trans (T2.mono fun k hk => (SD.out k).2 (.inr hk))
      clear o2 g2 T2 q1
      have CC := HC.out _ HO2.out
      have k2 := (CC.2 (j * 5 + 2) (by omega)).1
      have k3 := (CC.2 (j * 5 + 3) (by omega)).1
      have k4 := (CC.2 (j * 5 + 4) (by omega)).1
      have z2 := (CC.2 (j * 5 + 2) (by omega)).2
      have z3 := (CC.2 (j * 5 + 3) (by omega)).2
      have z4 := (CC.2 (j * 5 + 4) (by omega)).2
      have CH := Lib.hid CC
      clear CC
      go_wp2
      go_roundw
      case rel =>
        obtain ⟨f', hf'⟩ := HST.out w2 HO2.out (.int .i64 m2) (.int .i64 (m2 + 1)) (.int .i64 (m2 + 1 + 1))
        have hm3 := HM3.out
        have hgl : Hid (∀ k, Sd f j k → lo ≤ k ∧ k < hi) := fun k hk => by have := NB.out k hk; omega
        have o3 : Only (fun k => lo ≤ k ∧ k < hi) w w2 := HO.out.trans (HO2.out.mono hgl.out)
        exact ⟨j + 1, m2 + 1 + 1 + 1, f', by omega, by go_num, by go_num, by omega, hf', ((o3.setCell ⟨hlo, hgw⟩ _ _).setCell ⟨hlo, hgw⟩ _ _).setCell ⟨hlo, hgw⟩ _ _⟩
      case measure => simp [intOf]; omega
    · go_wp2
      go_ret
      exact ⟨q, rfl, by omega, HO.out⟩
end Go.Proofs.Ytipbjioghicmlaa
