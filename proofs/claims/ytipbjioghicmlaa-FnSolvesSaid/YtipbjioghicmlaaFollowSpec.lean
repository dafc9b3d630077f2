/- The contracts of the model's following of a plan in a case, and of its depth. Conditions: the plan's slice reads as the nodes of a valid plan; a case that fits Go's int. -/
import Derived.Test.YtipbjioghicmlaaPlanSpec
import Derived.Test.YtipbjioghicmlaaCasesOf
namespace Go.Proofs.Ytipbjioghicmlaa
open Go.RowKit

set_option maxHeartbeats 800000 in
theorem specNext (vl vr : Value) (d : ND) (x : Int) (w : World) : Calls Try.prog 85 #[nodeV vl vr d, .int .i64 x] w fun e w' => e = .returned (.int .i64 (nextI d x)) ∧ Below w.heap.size w w' := by
  unfold nodeV
  have P1 := Lib.hid (Five.new w 39 vl vr d.a d.b d.c)
  have B1 := Lib.hid (alloc_below w (.cells #[vl, vr, .int .i64 d.a, .int .i64 d.b, .int .i64 d.c] 39))
  generalize hX1 : w.alloc (.cells #[vl, vr, .int .i64 d.a, .int .i64 d.b, .int .i64 d.c] 39) = X1 at P1 B1
  obtain ⟨-, -, e2, e3, e4, -⟩ := P1.out
  have HN : Hid (nextI d x = if x = -1 then d.a else if x = 0 then d.b else d.c) := rfl
  by_cases h1 : x = -1
  · subst h1
    have HE : Hid (nextI d (-1) = d.a) := rfl
    go_enter Try.func85, Try.ntmps85
    go_wp2
    go_ret
    exact ⟨ret_int HE.out.symm, B1.out⟩
  · have k1 : (x == -1) = false := beq_eq_false_iff_ne.2 h1
    by_cases h2 : x = 0
    · subst h2
      have HE : Hid (nextI d 0 = d.b) := rfl
      go_enter Try.func85, Try.ntmps85
      go_wp2
      go_ret
      exact ⟨ret_int HE.out.symm, B1.out⟩
    · have k2 : (x == 0) = false := beq_eq_false_iff_ne.2 h2
      have HE : Hid (nextI d x = d.c) := by unfold Hid; rw [HN.out, if_neg h1, if_neg h2]
      go_enter Try.func85, Try.ntmps85
      go_wp2
      go_ret
      exact ⟨ret_int HE.out.symm, B1.out⟩

theorem outcI_range (L R : List Int) (c : Int) : -1 ≤ outcI L R c ∧ outcI L R c ≤ 1 := by
  unfold outcI
  split
  · split <;> omega
  · split
    · split <;> omega
    · omega
theorem followF_len (P : List ND) (c : Int) (f : Nat) (k : Int) : (followF P c f k).length ≤ f := by
  have h1 := followF_depth P c f k
  have h2 := (depthF_range P f k).2
  omega
/-- How many rounds are left at node a of n. -/
def leftN (n : Nat) (a : Int) : Nat := if a < 0 then 0 else (n : Int).toNat - a.toNat

theorem leftN_lt {n k : Nat} {p : Int} (h : p = -1 ∨ (k : Int) < p ∧ p < (n : Int)) (hk : k < n) : leftN n p < leftN n (k : Int) := by
  unfold leftN
  rw [if_neg (show ¬ (k : Int) < 0 by omega)]
  split <;> omega

set_option maxRecDepth 100000 in
set_option maxHeartbeats 3200000 in
theorem specFollow (v : Value) (P : List ND) (m c : Int) (w : World) (h : NodesAt w v P) (hl : ∀ d ∈ P, d.L.length ≤ 1048576 ∧ d.R.length ≤ 1048576) (hv : planB P m = true) (c0 : -9223372036854775808 ≤ c) (c1 : c ≤ 9223372036854775807) :
    Calls Try.prog 63 #[v, .int .i64 c] w (Lists (followL P c) w) := by
  obtain ⟨i0, hi, hz0, hz1, hz2⟩ := info_parts infoInt
  obtain ⟨hm, -, -⟩ := plan_size hv
  have HV := Lib.hid hv
  obtain ⟨a, cc, rfl, h⟩ := h
  have H := Lib.hid h
  have HL := Lib.hid hl
  have HFL : Hid (followL P c = followF P c P.length 0) := rfl
  have HFN : Hid ((followL P c).length ≤ P.length) := followF_len _ _ _ _
  clear h hl hv
  unfold Lists
  generalize followL P c = F at HFL HFN ⊢
  obtain ⟨n, hn⟩ : ∃ n, P.length = n := ⟨_, rfl⟩
  rw [hn] at hm HFL HFN ⊢
  have HN := Lib.hid hn
  clear hn
  by_cases h0 : n = 0
  · subst h0
    have HE : Hid (F = []) := HFL.out
    have HO : Hid ((w.alloc (.cells #[] 3)).ownsRow w.heap.size 3 1 (.slice (some ⟨w.heap.size, 0, none⟩) 0 0) 0 []) :=
      World.ownsRow_lit (base := w.heap.size) (e := 3) (size := 1) w #[] 0 (Nat.le_refl _) (by unfold maxLen; omega) rfl
    go_enter Try.func63, Try.ntmps63
    go_wp2
    go_ret
    refine ⟨_, rfl, ?_, (Below.refl _ _).alloc (Nat.le_refl _) _⟩
    rw [HE.out]
    exact HO.out
  have k0 : ((n : Int) == 0) = false := beq_eq_false_iff_ne.2 (by omega)
  go_enter Try.func63, Try.ntmps63
  go_wp2
  go_loopw [5, 6, 7] (fun ov av _ wr => ∃ (p : Int) (f : Nat) (xs : List Int), (p = -1 ∨ 0 ≤ p ∧ p < (n : Int) ∧ n ≤ p.toNat + f) ∧ av = .int .i64 p ∧ Hid (F = xs ++ followF P c f p) ∧ wr.ownsRow w.heap.size 3 1 ov xs.length (xs.map (Value.int .i64)) ∧ Below w.heap.size w wr) (fun _ av _ _ => leftN n (intOf av))
  case atStart => exact ⟨0, n, [], .inr ⟨by omega, by omega, by omega⟩, rfl, HFL, World.ownsRow_lit (base := w.heap.size) (e := 3) (size := 1) w #[] 0 (Nat.le_refl _) (by unfold maxLen; omega) rfl, (Below.refl _ _).alloc (Nat.le_refl _) _⟩
  case round =>
    clear HFL
    obtain ⟨p, f, xs, hp, rfl, HF, hown, hb⟩ := hrel
    have HB := Lib.hid hb
    have hbs := hb.size
    clear hb
    by_cases hpos : 0 ≤ p
    · obtain ⟨k, rfl⟩ : ∃ k : Nat, p = (k : Int) := ⟨p.toNat, by omega⟩
      have hk : k < n := by omega
      have hkl : k < P.length := by rw [HN.out]; exact hk
      obtain ⟨b, o, vl, vr, rfl, h5, hL, hR⟩ := H.out k hkl
      have hd := HL.out P[k] (List.getElem_mem hkl)
      obtain ⟨g, rfl⟩ : ∃ g, f = g + 1 := ⟨f - 1, by omega⟩
      have hst := followF_step P c g k hkl
      have hnx := next_in HV.out k hkl (outcI P[k].L P[k].R c)
      have hrx := outcI_range P[k].L P[k].R c
      obtain ⟨d, hx⟩ : ∃ d, P[k] = d := ⟨_, rfl⟩
      rw [hx] at h5 hL hR hd hst hnx hrx
      rw [HN.out] at hnx
      have C := Lib.hid (fun W h h' => specOutc vl vr d.L d.R c W h h' (by omega) (by omega) c0 c1)
      obtain ⟨x, hxx⟩ : ∃ x, outcI d.L d.R c = x := ⟨_, rfl⟩
      rw [hxx] at C hst hnx hrx
      have NX := Lib.hid (fun W => specNext vl vr d x W)
      unfold nodeV at NX
      obtain ⟨p', hp'⟩ : ∃ p', nextI d x = p' := ⟨_, rfl⟩
      rw [hp'] at NX hst hnx
      have HF2 : Hid (F = (xs ++ [x]) ++ followF P c g p') := by unfold Hid; rw [HF.out, hst, List.append_assoc]; rfl
      have hxl : xs.length ≤ 60 := by
        have h1 := HFN.out
        rw [HF.out, List.length_append] at h1
        omega
      have F5 := Lib.hid h5
      have F1 := Lib.hid (h5.below HB.out)
      have I1 := Lib.hid (hL.below HB.out)
      have I2 := Lib.hid (hR.below HB.out)
      have HNX := Lib.hid hnx
      have i0' : (0 : Int) ≤ (k : Int) := by omega
      have i1 : (k : Int) < (n : Int) := by omega
      clear h5 hL hR hx hkl hd hst hxx hp' hnx HF
      obtain ⟨e0, e1, -⟩ := F1.out
      go_wp2_with fail
      clear e0 e1
      refine (C.out _ I1.out I2.out).mono ?_
      rintro e w1 ⟨rfl, b1⟩
      have hown1 := owns_below hown b1
      have HB1 := Lib.hid (below_up HB.out b1)
      have hbs1 : w.heap.size ≤ w1.heap.size := Nat.le_trans hbs b1.size
      clear b1 hown
      go_wp2_with (at_builtin; refine wpList_append_own _ rfl _ _ 31 rfl w.heap.size 3 i0 (.int .i64 0) 1 8 Try.underlying31 hi hz0 hz1 hz2 rfl (by decide) _ _ _ rfl (hown1.alloc _) ⟨w1.heap.size, 0, none⟩ 1 1 [.int .i64 x] rfl rfl (cell_one_new _ _ _) (by simp [Value.oneCell']) (by unfold maxLen; omega) (by omega) (by simp; omega) ?_; intro v' w2 hown' hg1 _; have hb2 := Below.grown (HB1.out.alloc hbs1 _) hg1 (by simp; omega) (fun j hj => (hown1.lt j hj).1); obtain ⟨e0, e1, e2, e3, e4, -⟩ := F5.out.below hb2)
      have HB2 := Lib.hid hb2
      have HO2 : Hid (w2.ownsRow w.heap.size 3 1 v' (xs ++ [x]).length ((xs ++ [x]).map (Value.int .i64))) := by unfold Hid; simpa using hown'
      clear hg1 hown' hown1 hb2
      clear e0 e1 e2 e3 e4
      refine (NX.out _).mono ?_
      rintro e w3 ⟨rfl, b3⟩
      have HO3 := Lib.hid (owns_below HO2.out b3)
      have HB3 := Lib.hid (below_up HB2.out b3)
      clear b3
      go_wp2
      go_roundw
      case rel => exact ⟨p', g, xs ++ [x], by have := HNX.out; omega, rfl, HF2, HO3.out, HB3.out⟩
      case measure => exact leftN_lt HNX.out hk
    · have HE : Hid (F = xs) := by unfold Hid; rw [HF.out, followF_end _ _ _ _ (by omega), List.append_nil]
      have HO := Lib.hid hown
      clear hown
      go_wp2
      go_ret
      exact ⟨_, rfl, by rw [HE.out]; exact HO.out, HB.out⟩
end Go.Proofs.Ytipbjioghicmlaa
