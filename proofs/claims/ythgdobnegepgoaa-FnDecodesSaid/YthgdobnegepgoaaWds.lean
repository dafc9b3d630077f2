/- Lists of weighings: how they read, and the contracts of the law's own helpers for their size and for equality with themselves. Conditions: the slices read as weighings and are short enough to be counted. -/
import Derived.Test.YthgdobnegepgoaaWeigh
import Derived.Test.YthgdobnegepgoaaOutSpec
import Derived.Deep.RegionLaw
import Derived.Deep.RegionHeld3
namespace Go.Proofs.Ythgdobnegepgoaa
open Go.RowKit

/-- The sides of a weighing. -/
structure WD where
  L : List Int
  R : List Int
/-- Two cells lie from place o of block b on. -/
def PairAt (w : World) (b o : Nat) (x y : Value) : Prop := w.cell? ⟨b, o, none⟩ = some x ∧ w.cell? ⟨b, o + 1, none⟩ = some y ∧ b < w.heap.size
theorem PairAt.belowN {w w' : World} {b o B : Nat} {x y : Value} (h : PairAt w b o x y) (hb : Below B w w') (hlt : b < B) : PairAt w' b o x y := by
  obtain ⟨e0, e1, h0⟩ := h
  refine ⟨?_, ?_, Nat.lt_of_lt_of_le h0 hb.size⟩
  · rw [hb.cell (p := ⟨b, o, none⟩) hlt]; exact e0
  · rw [hb.cell (p := ⟨b, o + 1, none⟩) hlt]; exact e1
theorem PairAt.below {w w' : World} {b o : Nat} {x y : Value} (h : PairAt w b o x y) (hb : Below w.heap.size w w') : PairAt w' b o x y := h.belowN hb h.2.2
/-- The slice value v reads as the weighings of D. -/
def WdsAt (w : World) (v : Value) (D : List WD) : Prop :=
  ∃ a cap, v = .slice a D.length cap ∧ D.length ≤ cap ∧ ∀ i (h : i < D.length), ∃ b off vl vr, a = some ⟨b, off, none⟩ ∧ PairAt w b (off + i * 2) vl vr ∧ IntsAt w vl D[i].L ∧ IntsAt w vr D[i].R
theorem WdsAt.below {w w' : World} {v : Value} {D : List WD} (h : WdsAt w v D) (hb : Below w.heap.size w w') : WdsAt w' v D := by
  obtain ⟨a, cap, rfl, hc, h⟩ := h
  refine ⟨a, cap, rfl, hc, fun i hi => ?_⟩
  obtain ⟨b, off, vl, vr, e, h1, h2, h3⟩ := h i hi
  exact ⟨b, off, vl, vr, e, h1.below hb, h2.below hb, h3.below hb⟩
theorem WdsAt.form {w : World} {v : Value} {D : List WD} (h : WdsAt w v D) : ∃ a c, v = .slice a D.length c := by
  obtain ⟨a, c, rfl, -⟩ := h
  exact ⟨a, c, rfl⟩
theorem WdsAt.nil (w : World) : WdsAt w (.slice none 0 0) [] := ⟨none, 0, rfl, Nat.le_refl _, fun i hi => by simp at hi⟩

/-- How many numbers the sides of the weighings have together. -/
def sumW : List WD → Nat
  | [] => 0
  | d :: r => d.L.length + d.R.length + sumW r
theorem sumW_app (a b : List WD) : sumW (a ++ b) = sumW a + sumW b := by
  induction a with
  | nil => simp [sumW]
  | cons d r ih => simp [sumW, ih]; omega
theorem sumW_take {D : List WD} {k : Nat} (h : k < D.length) : sumW (D.take (k + 1)) = sumW (D.take k) + (D[k].L.length + D[k].R.length) := by
  rw [List.take_succ_eq_append_getElem h, sumW_app]; simp [sumW]
theorem sumW_mem : ∀ {D : List WD} {d : WD}, d ∈ D → d.L.length + d.R.length ≤ sumW D
  | e :: r, d, h => by
    rw [List.mem_cons] at h
    unfold sumW
    rcases h with rfl | h
    · omega
    · have := sumW_mem h; omega
/-- What the size of a list of weighings says. -/
def SzW (D : List WD) (r : Int) : Prop := r < 0 ∨ 0 ≤ r ∧ r ≤ 1048576 ∧ D.length + sumW D ≤ 1048576
theorem SzW.lists {D : List WD} (h : D.length + sumW D ≤ 1048576) : ∀ d ∈ D, d.L.length ≤ 1048576 ∧ d.R.length ≤ 1048576 := fun d hd => by
  have := sumW_mem hd; omega
theorem sizesW_len {D : List WD} (h : D.length + sumW D ≤ 1048576) : D.length ≤ 1048576 := by omega
/-- The lists are no longer than any slice. -/
def LenW (D : List WD) : Prop := ∀ d ∈ D, d.L.length ≤ maxLen ∧ d.R.length ≤ maxLen

set_option maxHeartbeats 1600000 in
theorem szWds (v : Value) (D : List WD) (w : World) (h : WdsAt w v D) (hm : D.length ≤ maxLen) (hl : LenW D) :
    Calls Try.prog 21 #[v, .int .i64 1048576] w fun e w' => ∃ r, e = .returned (.int .i64 r) ∧ SzW D r ∧ Below w.heap.size w w' := by
  obtain ⟨a, c, rfl, -, h⟩ := h
  have H := Lib.hid h
  have HL := Lib.hid hl
  clear h hl
  obtain ⟨n, hn⟩ : ∃ n, D.length = n := ⟨_, rfl⟩
  rw [hn] at hm ⊢
  have HN := Lib.hid hn
  clear hn
  unfold maxLen at hm
  by_cases hlt : 1048576 - (n : Int) < 0
  · go_enter Try.func21, Try.ntmps21
    go_wp2
    go_ret
    exact ⟨-1, rfl, .inl (by omega), Below.refl _ _⟩
  · go_enter Try.func21, Try.ntmps21
    go_wp2
    go_loopw [1, 5] (fun r i wr => ∃ (k : Nat) (s : Int), k ≤ n ∧ i = .int .i64 k ∧ r = .int .i64 s ∧ 0 ≤ s ∧ s ≤ 1048576 ∧ Hid (s + (sumW (D.take k) : Int) + (n : Int) = 1048576) ∧ Below w.heap.size w wr) (fun _ i _ => n - (intOf i).toNat)
    case atStart => exact ⟨0, 1048576 - n, Nat.zero_le _, rfl, by first | rfl | simp, by omega, by omega, by unfold Hid; simp [sumW], Below.refl _ _⟩
    case round =>
      obtain ⟨k, s, hk, rfl, rfl, s0, s1, HF, hb⟩ := hrel
      have HB := Lib.hid hb
      clear hb
      by_cases hlt : k < n
      · have hkl : k < D.length := by rw [HN.out]; exact hlt
        obtain ⟨b, o, vl, vr, rfl, h5, hL, hR⟩ := H.out k hkl
        have hd := HL.out D[k] (List.getElem_mem hkl)
        obtain ⟨d, hx⟩ : ∃ d, D[k] = d := ⟨_, rfl⟩
        rw [hx] at hL hR hd
        have HX : Hid (sumW (D.take (k + 1)) = sumW (D.take k) + (d.L.length + d.R.length)) := by unfold Hid; rw [sumW_take hkl, hx]
        have I1 := Lib.hid (hL.below HB.out)
        have I2 := Lib.hid (hR.below HB.out)
        have C := Lib.hid (fun W h h' => szWeighE vl vr d.L d.R s W h h' hd.1 hd.2 s0 s1)
        obtain ⟨e0, e1, -⟩ := h5.below HB.out
        have i0 : (0 : Int) ≤ (k : Int) := by omega
        have i1 : (k : Int) < (n : Int) := by omega
        clear h5 hL hR hd hx hkl
        go_wp2_with fail
        refine (C.out _ I1.out I2.out).mono ?_
        rintro e w1 ⟨r, rfl, hs, b1⟩
        have BY := Lib.hid (below_up HB.out b1)
        clear b1
        by_cases hneg : r < 0
        · go_wp2
          go_ret
          exact ⟨-1, rfl, .inl (by omega), BY.out⟩
        · obtain ⟨r0, r1⟩ : 0 ≤ r ∧ r + (d.L.length : Int) + (d.R.length : Int) = s := by
            rcases hs with h | h
            · omega
            · exact h
          have r2 : r ≤ 1048576 := by omega
          have HF2 : Hid (r + (sumW (D.take (k + 1)) : Int) + (n : Int) = 1048576) := by unfold Hid; rw [HX.out]; have := HF.out; omega
          clear hs r1
          go_wp2
          go_roundw
          case rel => exact ⟨k + 1, r, by omega, by go_num, rfl, r0, r2, HF2, BY.out⟩
          case measure => simp [intOf]; omega
      · have HF2 : Hid (SzW D s) := by
          have h := HF.out
          rw [List.take_of_length_le (by rw [HN.out]; omega)] at h
          exact .inr ⟨s0, s1, by rw [HN.out]; omega⟩
        go_wp2
        go_ret
        exact ⟨s, rfl, HF2.out, HB.out⟩

set_option maxHeartbeats 1600000 in
theorem eqWds (v1 v2 : Value) (D : List WD) (w : World) (h1 : WdsAt w v1 D) (h2 : WdsAt w v2 D) (hm : D.length ≤ 1048576) (hl : ∀ d ∈ D, d.L.length ≤ 1048576 ∧ d.R.length ≤ 1048576) :
    Calls Try.prog 24 #[v1, v2] w fun e w' => e = .returned (.bool true) ∧ Below w.heap.size w w' := by
  obtain ⟨a1, c1, rfl, -, h1⟩ := h1
  obtain ⟨a2, c2, rfl, -, h2⟩ := h2
  have H1 := Lib.hid h1
  have H2 := Lib.hid h2
  have HL := Lib.hid hl
  clear h1 h2 hl
  obtain ⟨n, hn⟩ : ∃ n, D.length = n := ⟨_, rfl⟩
  rw [hn] at hm ⊢
  have HN := Lib.hid hn
  clear hn
  have hne : ((n : Int) != (n : Int)) = false := by simp
  go_enter Try.func24, Try.ntmps24
  go_wp2
  clear hne
  go_loopw [5] (fun i wr => ∃ k : Nat, k ≤ n ∧ i = .int .i64 k ∧ Below w.heap.size w wr) (fun i _ => n - (intOf i).toNat)
  case atStart => exact ⟨0, Nat.zero_le _, rfl, Below.refl _ _⟩
  case round =>
    obtain ⟨k, hk, rfl, hb⟩ := hrel
    have HB := Lib.hid hb
    clear hb
    by_cases hlt : k < n
    · have hkl : k < D.length := by rw [HN.out]; exact hlt
      obtain ⟨b, o, vl, vr, rfl, g1, gL, gR⟩ := H1.out k hkl
      obtain ⟨b', o', ul, ur, rfl, g2, fL, fR⟩ := H2.out k hkl
      have hd := HL.out D[k] (List.getElem_mem hkl)
      obtain ⟨d, hx⟩ : ∃ d, D[k] = d := ⟨_, rfl⟩
      rw [hx] at gL gR fL fR hd
      have I1 := Lib.hid (gL.below HB.out)
      have I2 := Lib.hid (gR.below HB.out)
      have I3 := Lib.hid (fL.below HB.out)
      have I4 := Lib.hid (fR.below HB.out)
      have C := Lib.hid (fun W a b c e => eqWeigh_same vl vr ul ur d.L d.R W a b c e (by omega) (by omega))
      have F1 := Lib.hid (g1.below HB.out)
      have F2 := Lib.hid (g2.below HB.out)
      have i0 : (0 : Int) ≤ (k : Int) := by omega
      have i1 : (k : Int) < (n : Int) := by omega
      clear g1 gL gR g2 fL fR hd hx hkl
      obtain ⟨e0, e1, -⟩ := F1.out
      obtain ⟨f0, f1, -⟩ := F2.out
      have BD := Lib.hid ((Below.refl wr.heap.size wr).drew)
      go_wp2_with fail
      first | (go_region_held3 (fun w' => (w'.cell? ⟨b, o + k * 2, none⟩ = some vl ∧ w'.cell? ⟨b, o + k * 2 + 1, none⟩ = some vr ∧ b < w'.heap.size) ∧ (w'.cell? ⟨b', o' + k * 2, none⟩ = some ul ∧ w'.cell? ⟨b', o' + k * 2 + 1, none⟩ = some ur ∧ b' < w'.heap.size))
          (first | exact ⟨G1.out, G2.out⟩ | exact ⟨F1.out.below BD.out, F2.out.below BD.out⟩)
          (first
            | (go_at_call 54; refine (C.out _ (I1.out.below BD.out) (I2.out.below BD.out) (I3.out.below BD.out) (I4.out.below BD.out)).mono ?_; rintro e w1 ⟨rfl, b1⟩; have bb := BD.out.trans b1; have G1 := Lib.hid (F1.out.below bb); have G2 := Lib.hid (F2.out.below bb); have BY := Lib.hid (below_up HB.out bb); clear b1 bb)
            | fail)) | fail
      all_goals
        go_wp2
        go_roundw
        case rel => exact ⟨k + 1, by omega, by go_num, BY.out⟩
        case measure => simp [intOf]; omega
    · go_wp2
      go_ret
      exact ⟨rfl, HB.out⟩
end Go.Proofs.Ythgdobnegepgoaa
