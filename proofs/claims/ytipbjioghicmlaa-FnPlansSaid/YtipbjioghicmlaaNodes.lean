/- The contracts of the law's own helpers on plans: the size, the copy into a list of the call's own, and that a plan equals itself. Conditions: the plan's slices read as nodes and are short enough to be counted. -/
import Derived.Test.YtipbjioghicmlaaNode
import Derived.Deep.RegionLaw
import Derived.Deep.RegionHeld3
namespace Go.Proofs.Ytipbjioghicmlaa
open Go.RowKit

/-- The slice value v reads as the nodes of P in the world w. -/
def NodesAt (w : World) (v : Value) (P : List ND) : Prop :=
  ∃ a cap, v = .slice a P.length cap ∧ ∀ i (h : i < P.length), ∃ b off vl vr, a = some ⟨b, off, none⟩ ∧ FiveAt w b (off + i * 5) vl vr P[i] ∧ IntsAt w vl P[i].L ∧ IntsAt w vr P[i].R
theorem NodesAt.below {w w' : World} {v : Value} {P : List ND} (h : NodesAt w v P) (hb : Below w.heap.size w w') : NodesAt w' v P := by
  obtain ⟨a, cap, rfl, h⟩ := h
  refine ⟨a, cap, rfl, fun i hi => ?_⟩
  obtain ⟨b, off, vl, vr, e, h1, h2, h3⟩ := h i hi
  exact ⟨b, off, vl, vr, e, h1.below hb, h2.below hb, h3.below hb⟩

/-- How many numbers the sides of a plan's weighings have together. -/
def sumP : List ND → Nat
  | [] => 0
  | d :: r => d.L.length + d.R.length + sumP r
theorem sumP_app (a b : List ND) : sumP (a ++ b) = sumP a + sumP b := by
  induction a with
  | nil => simp [sumP]
  | cons d r ih => simp [sumP, ih]; omega
theorem sumP_take {P : List ND} {k : Nat} (h : k < P.length) : sumP (P.take (k + 1)) = sumP (P.take k) + (P[k].L.length + P[k].R.length) := by
  rw [List.take_succ_eq_append_getElem h, sumP_app]; simp [sumP]
theorem sumP_mem : ∀ {P : List ND} {d : ND}, d ∈ P → d.L.length + d.R.length ≤ sumP P
  | e :: r, d, h => by
    rw [List.mem_cons] at h
    unfold sumP
    rcases h with rfl | h
    · omega
    · have := sumP_mem h; omega
/-- What the size of a plan says. -/
def SzP (P : List ND) (r : Int) : Prop := r < 0 ∨ 0 ≤ r ∧ r ≤ 1048576 ∧ P.length + sumP P ≤ 1048576
theorem SzP.lists {P : List ND} (h : P.length + sumP P ≤ 1048576) : ∀ d ∈ P, d.L.length ≤ 1048576 ∧ d.R.length ≤ 1048576 := fun d hd => by
  have := sumP_mem hd; omega
/-- The lists of a plan are no longer than any slice. -/
def LenOk (P : List ND) : Prop := ∀ d ∈ P, d.L.length ≤ maxLen ∧ d.R.length ≤ maxLen

set_option maxHeartbeats 1600000 in
theorem szNodes (v : Value) (P : List ND) (w : World) (h : NodesAt w v P) (hm : P.length ≤ maxLen) (hl : LenOk P) :
    Calls Try.prog 25 #[v, .int .i64 1048576] w fun e w' => ∃ r, e = .returned (.int .i64 r) ∧ SzP P r ∧ Below w.heap.size w w' := by
  obtain ⟨a, c, rfl, h⟩ := h
  have H := Lib.hid h
  have HL := Lib.hid hl
  clear h hl
  obtain ⟨n, hn⟩ : ∃ n, P.length = n := ⟨_, rfl⟩
  rw [hn] at hm ⊢
  have HN := Lib.hid hn
  clear hn
  unfold maxLen at hm
  by_cases hlt : 1048576 - (n : Int) < 0
  · go_enter Try.func25, Try.ntmps25
    go_wp2
    go_ret
    exact ⟨-1, rfl, .inl (by omega), Below.refl _ _⟩
  · go_enter Try.func25, Try.ntmps25
    go_wp2
    go_loopw [1, 5] (fun r i wr => ∃ (k : Nat) (s : Int), k ≤ n ∧ i = .int .i64 k ∧ r = .int .i64 s ∧ 0 ≤ s ∧ s ≤ 1048576 ∧ Hid (s + (sumP (P.take k) : Int) + (n : Int) = 1048576) ∧ Below w.heap.size w wr) (fun _ i _ => n - (intOf i).toNat)
    case atStart => exact ⟨0, 1048576 - n, Nat.zero_le _, rfl, by first | rfl | simp, by omega, by omega, by unfold Hid; simp [sumP], Below.refl _ _⟩
    case round =>
      obtain ⟨k, s, hk, rfl, rfl, s0, s1, HF, hb⟩ := hrel
      have HB := Lib.hid hb
      clear hb
      by_cases hlt : k < n
      · have hkl : k < P.length := by rw [HN.out]; exact hlt
        obtain ⟨b, o, vl, vr, rfl, h5, hL, hR⟩ := H.out k hkl
        have hd := HL.out P[k] (List.getElem_mem hkl)
        obtain ⟨d, hx⟩ : ∃ d, P[k] = d := ⟨_, rfl⟩
        rw [hx] at h5 hL hR hd
        have HX : Hid (sumP (P.take (k + 1)) = sumP (P.take k) + (d.L.length + d.R.length)) := by unfold Hid; rw [sumP_take hkl, hx]
        have I1 := Lib.hid (hL.below HB.out)
        have I2 := Lib.hid (hR.below HB.out)
        have C := Lib.hid (fun W h h' => szNodeC vl vr d s W h h' hd.1 hd.2 s0 s1)
        unfold nodeV at C
        obtain ⟨e0, e1, e2, e3, e4, -⟩ := h5.below HB.out
        have i0 : (0 : Int) ≤ (k : Int) := by omega
        have i1 : (k : Int) < (n : Int) := by omega
        clear h5 hL hR hd hx hkl
        go_wp2_with fail
        refine (C.out _ I1.out I2.out).mono ?_
        rintro e w1 ⟨r, rfl, hs, b1⟩
        have BY := Lib.hid (below_up HB.out b1)
        clear b1
        by_cases hneg : r < 0
        · go_wp2
          go_ret
          exact ⟨-1, rfl, .inl (by omega), BY.out⟩
        · obtain ⟨r0, r1⟩ : 0 ≤ r ∧ r + (d.L.length : Int) + (d.R.length : Int) = s := by
            rcases hs with h | h
            · omega
            · exact h
          have r2 : r ≤ 1048576 := by omega
          have HF2 : Hid (r + (sumP (P.take (k + 1)) : Int) + (n : Int) = 1048576) := by unfold Hid; rw [HX.out]; have := HF.out; omega
          clear hs r1
          go_wp2
          go_roundw
          case rel => exact ⟨k + 1, r, by omega, by go_num, rfl, r0, r2, HF2, BY.out⟩
          case measure => simp [intOf]; omega
      · have HF2 : Hid (SzP P s) := by
          have h := HF.out
          rw [List.take_of_length_le (by rw [HN.out]; omega)] at h
          exact .inr ⟨s0, s1, by rw [HN.out]; omega⟩
        go_wp2
        go_ret
        exact ⟨s, rfl, HF2.out, HB.out⟩

set_option maxHeartbeats 1600000 in
theorem eqNodes (v1 v2 : Value) (P : List ND) (w : World) (h1 : NodesAt w v1 P) (h2 : NodesAt w v2 P) (hm : P.length ≤ 1048576) (hl : ∀ d ∈ P, d.L.length ≤ 1048576 ∧ d.R.length ≤ 1048576) :
    Calls Try.prog 28 #[v1, v2] w fun e w' => e = .returned (.bool true) ∧ Below w.heap.size w w' := by
  obtain ⟨a1, c1, rfl, h1⟩ := h1
  obtain ⟨a2, c2, rfl, h2⟩ := h2
  have H1 := Lib.hid h1
  have H2 := Lib.hid h2
  have HL := Lib.hid hl
  clear h1 h2 hl
  obtain ⟨n, hn⟩ : ∃ n, P.length = n := ⟨_, rfl⟩
  rw [hn] at hm ⊢
  have HN := Lib.hid hn
  clear hn
  have hne : ((n : Int) != (n : Int)) = false := by simp
  go_enter Try.func28, Try.ntmps28
  go_wp2
  clear hne
  go_loopw [5] (fun i wr => ∃ k : Nat, k ≤ n ∧ i = .int .i64 k ∧ Below w.heap.size w wr) (fun i _ => n - (intOf i).toNat)
  case atStart => exact ⟨0, Nat.zero_le _, rfl, Below.refl _ _⟩
  case round =>
    obtain ⟨k, hk, rfl, hb⟩ := hrel
    have HB := Lib.hid hb
    clear hb
    by_cases hlt : k < n
    · have hkl : k < P.length := by rw [HN.out]; exact hlt
      obtain ⟨b, o, vl, vr, rfl, g1, gL, gR⟩ := H1.out k hkl
      obtain ⟨b', o', ul, ur, rfl, g2, fL, fR⟩ := H2.out k hkl
      have hd := HL.out P[k] (List.getElem_mem hkl)
      obtain ⟨d, hx⟩ : ∃ d, P[k] = d := ⟨_, rfl⟩
      rw [hx] at g1 gL gR g2 fL fR hd
      have I1 := Lib.hid (gL.below HB.out)
      have I2 := Lib.hid (gR.below HB.out)
      have I3 := Lib.hid (fL.below HB.out)
      have I4 := Lib.hid (fR.below HB.out)
      have C := Lib.hid (fun W a b c e => eqNodeC vl vr ul ur d W a b c e (by omega) (by omega))
      unfold nodeV at C
      have F1 := Lib.hid (g1.below HB.out)
      have F2 := Lib.hid (g2.below HB.out)
      have i0 : (0 : Int) ≤ (k : Int) := by omega
      have i1 : (k : Int) < (n : Int) := by omega
      clear g1 gL gR g2 fL fR hd hx hkl
      obtain ⟨e0, e1, e2, e3, e4, -⟩ := F1.out
      obtain ⟨f0, f1, f2, f3, f4, -⟩ := F2.out
      have BD := Lib.hid ((Below.refl wr.heap.size wr).drew)
      go_wp2_with fail
      first | (go_region_held3 (fun w' => (w'.cell? ⟨b, o + k * 5, none⟩ = some vl ∧ w'.cell? ⟨b, o + k * 5 + 1, none⟩ = some vr ∧ w'.cell? ⟨b, o + k * 5 + 2, none⟩ = some (.int .i64 d.a) ∧ w'.cell? ⟨b, o + k * 5 + 3, none⟩ = some (.int .i64 d.b) ∧ w'.cell? ⟨b, o + k * 5 + 4, none⟩ = some (.int .i64 d.c) ∧ b < w'.heap.size) ∧ (w'.cell? ⟨b', o' + k * 5, none⟩ = some ul ∧ w'.cell? ⟨b', o' + k * 5 + 1, none⟩ = some ur ∧ w'.cell? ⟨b', o' + k * 5 + 2, none⟩ = some (.int .i64 d.a) ∧ w'.cell? ⟨b', o' + k * 5 + 3, none⟩ = some (.int .i64 d.b) ∧ w'.cell? ⟨b', o' + k * 5 + 4, none⟩ = some (.int .i64 d.c) ∧ b' < w'.heap.size))
          (first | exact ⟨G1.out, G2.out⟩ | exact ⟨F1.out.below BD.out, F2.out.below BD.out⟩)
          (first
            | (go_at_call 62; refine (C.out _ (I1.out.below BD.out) (I2.out.below BD.out) (I3.out.below BD.out) (I4.out.below BD.out)).mono ?_; rintro e w1 ⟨rfl, b1⟩; have bb := BD.out.trans b1; have G1 := Lib.hid (F1.out.below bb); have G2 := Lib.hid (F2.out.below bb); have BY := Lib.hid (below_up HB.out bb); clear b1 bb)
            | fail)) | fail
      all_goals
        go_wp2
        go_roundw
        case rel => exact ⟨k + 1, by omega, by go_num, BY.out⟩
        case measure => simp [intOf]; omega
    · go_wp2
      go_ret
      exact ⟨rfl, HB.out⟩
end Go.Proofs.Ytipbjioghicmlaa
