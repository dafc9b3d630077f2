/- The contracts of the program's stepAt and linkPlan: a plan linked by pointers. Conditions: the plan's slice reads as nodes, at most 60. -/
import Derived.Test.YtipbjioghicmlaaToNodes
import Derived.Test.YtipbjioghicmlaaTurnSpec
import Derived.Deep.RegionHeld3
namespace Go.Proofs.Ytipbjioghicmlaa
open Go.RowKit

/-- The pointer to step k of n in block g; nil if there is none. -/
def ptrTo (g n : Nat) (k : Int) : Value := .pointer (if 0 ≤ k ∧ k < (n : Int) then some ⟨g, k.toNat * 5, none⟩ else none)
theorem ptrTo_form (g n : Nat) (k : Int) : ∃ u, ptrTo g n k = .pointer u := ⟨_, rfl⟩
theorem ptrTo_some {g n k : Nat} (h : k < n) : ptrTo g n (k : Int) = .pointer (some ⟨g, k * 5, none⟩) := by
  unfold ptrTo
  rw [if_pos ⟨by omega, by omega⟩]
  simp
theorem ptrTo_none {g n : Nat} {k : Int} (h : ¬ (0 ≤ k ∧ k < (n : Int))) : ptrTo g n k = .pointer none := by
  unfold ptrTo
  rw [if_neg h]

set_option maxHeartbeats 800000 in
theorem implStepAt (g n : Nat) (k : Int) (w : World) : Calls Try.prog 73 #[.slice (some ⟨g, 0, none⟩) n n, .int .i64 k] w fun e w' => e = .returned (ptrTo g n k) ∧ w = w' := by
  by_cases h0 : k < 0
  · have HE := Lib.hid (ptrTo_none (g := g) (n := n) (show ¬ (0 ≤ k ∧ k < (n : Int)) by omega))
    go_enter Try.func73, Try.ntmps73
    go_wp2
    go_ret
    exact ⟨congrArg Ending.returned HE.out.symm, rfl⟩
  · by_cases h1 : (n : Int) ≤ k
    · have HE := Lib.hid (ptrTo_none (g := g) (n := n) (show ¬ (0 ≤ k ∧ k < (n : Int)) by omega))
      go_enter Try.func73, Try.ntmps73
      go_wp2
      go_ret
      exact ⟨congrArg Ending.returned HE.out.symm, rfl⟩
    · obtain ⟨j, rfl⟩ : ∃ j : Nat, k = (j : Int) := ⟨k.toNat, by omega⟩
      have HE := Lib.hid (ptrTo_some (g := g) (show j < n by omega))
      have i1 : (j : Int) < (n : Int) := by omega
      have i0 : (0 : Int) ≤ (j : Int) := by omega
      go_enter Try.func73, Try.ntmps73
      go_wp2
      go_ret
      exact ⟨congrArg Ending.returned HE.out.symm, rfl⟩

/-- Step i of n in block g stands for a node whose sides lie in w0. -/
structure StepIs (w0 : World) (g n : Nat) (f : Nat → Value) (i : Nat) (d : ND) : Prop where
  a : f (i * 5 + 2) = ptrTo g n d.a
  b : f (i * 5 + 3) = ptrTo g n d.b
  c : f (i * 5 + 4) = ptrTo g n d.c
  left : IntsAt w0 (f (i * 5)) d.L
  right : IntsAt w0 (f (i * 5 + 1)) d.R
/-- The first k steps of n in block g stand for nodes. -/
structure StepsK (w0 w : World) (g n k : Nat) (f : Nat → Value) (P : List ND) : Prop where
  cells : Cells w g (n * 5) f
  node : ∀ i (h : i < P.length), i < k → StepIs w0 g n f i P[i]
theorem StepsK.push {w0 w : World} {g n k : Nat} {f : Nat → Value} {P : List ND} (h : StepsK w0 w g n k f P) (hk : k < P.length) (hn : k < n) {x y : Value} (hx : IntsAt w0 x P[k].L) (hy : IntsAt w0 y P[k].R) :
    StepsK w0 (set5o w g (k * 5) x y (ptrTo g n P[k].a) (ptrTo g n P[k].b) (ptrTo g n P[k].c)) g n (k + 1) (up5 f (k * 5) x y (ptrTo g n P[k].a) (ptrTo g n P[k].b) (ptrTo g n P[k].c)) P := by
  refine ⟨h.cells.set5o (by omega) _ _ _ _ _, fun i hi hik => ?_⟩
  by_cases e : i = k
  · subst e
    refine ⟨?_, ?_, ?_, ?_, ?_⟩
    · unfold up5; rw [if_neg (by omega), if_neg (by omega), if_pos rfl]
    · unfold up5; rw [if_neg (by omega), if_pos rfl]
    · unfold up5; rw [if_pos rfl]
    · unfold up5; rw [if_neg (by omega), if_neg (by omega), if_neg (by omega), if_neg (by omega), if_pos rfl]; exact hx
    · unfold up5; rw [if_neg (by omega), if_neg (by omega), if_neg (by omega), if_pos rfl]; exact hy
  · have c := h.node i hi (by omega)
    refine ⟨?_, ?_, ?_, ?_, ?_⟩
    · rw [up5_far _ _ _ _ _ (by omega)]; exact c.a
    · rw [up5_far _ _ _ _ _ (by omega)]; exact c.b
    · rw [up5_far _ _ _ _ _ (by omega)]; exact c.c
    · rw [up5_far _ _ _ _ _ (by omega)]; exact c.left
    · rw [up5_far _ _ _ _ _ (by omega)]; exact c.right
theorem StepsK.below {w0 w w' : World} {g n k : Nat} {f : Nat → Value} {P : List ND} (h : StepsK w0 w g n k f P) (hb : Below w.heap.size w w') : StepsK w0 w' g n k f P := ⟨h.cells.below hb, h.node⟩

/-- The steps of a plan lie in block g. -/
def Steps (w : World) (g : Nat) (P : List ND) : Prop :=
  ∀ i (h : i < P.length), ∃ vl vr, (w.cell? ⟨g, i * 5, none⟩ = some vl ∧ w.cell? ⟨g, i * 5 + 1, none⟩ = some vr ∧ w.cell? ⟨g, i * 5 + 2, none⟩ = some (ptrTo g P.length P[i].a) ∧ w.cell? ⟨g, i * 5 + 3, none⟩ = some (ptrTo g P.length P[i].b) ∧ w.cell? ⟨g, i * 5 + 4, none⟩ = some (ptrTo g P.length P[i].c) ∧ g < w.heap.size) ∧ IntsAt w vl P[i].L ∧ IntsAt w vr P[i].R
theorem StepsK.steps {w0 w : World} {g n : Nat} {f : Nat → Value} {P : List ND} (h : StepsK w0 w g n n f P) (hn : P.length = n) (hb : Below w0.heap.size w0 w) : Steps w g P := fun i hi => by
  have c := h.node i hi (by omega)
  rw [hn]
  refine ⟨_, _, ⟨(h.cells.2 _ (by omega)).1, (h.cells.2 _ (by omega)).1, ?_, ?_, ?_, h.cells.1⟩, c.left.below hb, c.right.below hb⟩
  · rw [(h.cells.2 _ (show i * 5 + 2 < n * 5 by omega)).1, c.a]
  · rw [(h.cells.2 _ (show i * 5 + 3 < n * 5 by omega)).1, c.b]
  · rw [(h.cells.2 _ (show i * 5 + 4 < n * 5 by omega)).1, c.c]
theorem Steps.below {w w' : World} {g : Nat} {P : List ND} (h : Steps w g P) (hb : Below w.heap.size w w') : Steps w' g P := fun i hi => by
  obtain ⟨vl, vr, ⟨h0, h1, h2, h3, h4, h5⟩, hL, hR⟩ := h i hi
  refine ⟨vl, vr, ⟨?_, ?_, ?_, ?_, ?_, Nat.lt_of_lt_of_le h5 hb.size⟩, hL.below hb, hR.below hb⟩
  · rw [hb.cell (p := ⟨g, i * 5, none⟩) h5]; exact h0
  · rw [hb.cell (p := ⟨g, i * 5 + 1, none⟩) h5]; exact h1
  · rw [hb.cell (p := ⟨g, i * 5 + 2, none⟩) h5]; exact h2
  · rw [hb.cell (p := ⟨g, i * 5 + 3, none⟩) h5]; exact h3
  · rw [hb.cell (p := ⟨g, i * 5 + 4, none⟩) h5]; exact h4

theorem Five.far5o {w : World} {b c : Nat} {x y : Value} {p q r : Int} (h : Five w b x y p q r) (hc : c ≠ b) (o : Nat) (u0 u1 u2 u3 u4 : Value) : Five (set5o w c o u0 u1 u2 u3 u4) b x y p q r := by
  have key : ∀ (W : World) (z : Nat) (v : Value) (o' : Nat), (W.setCell ⟨c, o', none⟩ v).cell? ⟨b, z, none⟩ = W.cell? ⟨b, z, none⟩ := fun W z v o' =>
    World.cell?_setCell_other (w := W) (a := ⟨c, o', none⟩) (b := ⟨b, z, none⟩) (v := v) (fun e => hc (congrArg Addr.block e))
  obtain ⟨h0, h1, h2, h3, h4, h5⟩ := h
  unfold set5o
  refine ⟨?_, ?_, ?_, ?_, ?_, ?_⟩
  · rw [key, key, key, key, key]; exact h0
  · rw [key, key, key, key, key]; exact h1
  · rw [key, key, key, key, key]; exact h2
  · rw [key, key, key, key, key]; exact h3
  · rw [key, key, key, key, key]; exact h4
  · simpa [World.setCell] using h5

theorem infoStep : (Try.prog.info? 100).map (fun i => (i.zero, i.size, i.bytes)) = some (some (.agg #[.slice none 0 0, .slice none 0 0, .pointer none, .pointer none, .pointer none]), 5, 72) := by kernel_rfl

set_option maxRecDepth 100000 in
set_option maxHeartbeats 6400000 in
theorem implLinkPlan (v : Value) (P : List ND) (w : World) (h : NodesAt w v P) (hm : P.length ≤ 60) :
    Calls Try.prog 44 #[v] w fun e w' => ∃ g, e = .returned (ptrTo g P.length 0) ∧ Steps w' g P ∧ Below w.heap.size w w' := by
  obtain ⟨i0, hi, hz0, hz1, hz2⟩ := info_parts infoStep
  obtain ⟨a, c, rfl, h⟩ := h
  have H := Lib.hid h
  clear h
  obtain ⟨n, hn⟩ : ∃ n, P.length = n := ⟨_, rfl⟩
  rw [hn] at hm ⊢
  have HN := Lib.hid hn
  have C := Lib.hid (fun g k W => implStepAt g n k W)
  clear hn
  go_enter Try.func44, Try.ntmps44
  go_wp2_with (at_make; refine wpList_make_full _ rfl _ _ 97 rfl w.heap.size 100 i0 (.agg #[.slice none 0 0, .slice none 0 0, .pointer none, .pointer none, .pointer none]) 5 Try.underlying97 hi hz0 hz1 .i64 .i64 _ _ n rfl rfl rfl rfl (by rw [hz2]; omega) (by unfold maxLen; omega) (Nat.le_refl _) ?_; intro w1 hown hg)
  have hb := Below.grown (Below.refl w.heap.size w) hg (Nat.le_refl _) (by intro k hk; cases hk)
  obtain ⟨f0, hc0⟩ := cells_of_row hown
  have HC0 := Lib.hid hc0
  clear hown hg hc0
  go_wp2
  go_loopw [4, 5, 11] (fun _ _ i wr => ∃ (k : Nat) (f : Nat → Value), k ≤ n ∧ i = .int .i64 k ∧ Hid (StepsK w wr w.heap.size n k f P) ∧ Below w.heap.size w wr) (fun _ _ i _ => n - (intOf i).toNat)
  case atStart => exact ⟨0, f0, Nat.zero_le _, rfl, ⟨HC0.out, fun _ _ h => by omega⟩, hb⟩
  case round =>
    clear HC0 hb
    obtain ⟨k, f, hk, rfl, HK, hb⟩ := hrel
    have HB := Lib.hid hb
    clear hb
    by_cases hlt : k < n
    · have hkl : k < P.length := by rw [HN.out]; exact hlt
      obtain ⟨b, o, vl, vr, rfl, h5, hL, hR⟩ := H.out k hkl
      obtain ⟨d, hx⟩ : ∃ d, P[k] = d := ⟨_, rfl⟩
      have HX := Lib.hid hx
      rw [hx] at h5 hL hR
      have I1 := Lib.hid hL
      have I2 := Lib.hid hR
      obtain ⟨al, nl, cl, rfl⟩ := hL.form
      obtain ⟨ar, nr, cr, rfl⟩ := hR.form
      have F1 := Lib.hid (h5.below HB.out)
      have i0' : (0 : Int) ≤ (k : Int) := by omega
      have i1 : (k : Int) < (n : Int) := by omega
      clear h5 hL hR hx
      obtain ⟨LL, RR, qa, qb, qc⟩ := d
      dsimp only at F1 I1 I2
      have P3 := Lib.hid (Five.new wr 39 (.slice al nl cl) (.slice ar nr cr) qa qb qc)
      have B3 := Lib.hid (alloc_below wr (.cells #[.slice al nl cl, .slice ar nr cr, .int .i64 qa, .int .i64 qb, .int .i64 qc] 39))
      have K3 : Hid (StepsK w (wr.alloc (.cells #[.slice al nl cl, .slice ar nr cr, .int .i64 qa, .int .i64 qb, .int .i64 qc] 39)) w.heap.size n k f P) := HK.out.below B3.out
      generalize hX3 : wr.alloc (.cells #[.slice al nl cl, .slice ar nr cr, .int .i64 qa, .int .i64 qb, .int .i64 qc] 39) = X3 at P3 B3 K3
      have D0 := Lib.hid ((Below.refl X3.heap.size X3).drew)
      have BY := Lib.hid (below_up HB.out B3.out)
      obtain ⟨e0, e1, e2, e3, e4, -⟩ := F1.out
      dsimp only at e2 e3 e4
      obtain ⟨ua, hua⟩ := ptrTo_form w.heap.size n qa
      obtain ⟨ub, hub⟩ := ptrTo_form w.heap.size n qb
      obtain ⟨uc, huc⟩ := ptrTo_form w.heap.size n qc
      have C1 := Lib.hid (fun W => C.out w.heap.size qa W)
      have C2 := Lib.hid (fun W => C.out w.heap.size qb W)
      have C3 := Lib.hid (fun W => C.out w.heap.size qc W)
      have U1 := Lib.hid hua
      have U2 := Lib.hid hub
      have U3 := Lib.hid huc
      rw [hua] at C1
      rw [hub] at C2
      rw [huc] at C3
      clear hua hub huc
      obtain ⟨q0, z0⟩ := K3.out.cells.2 (k * 5) (by omega)
      obtain ⟨q1, z1⟩ := K3.out.cells.2 (k * 5 + 1) (by omega)
      obtain ⟨q2, z2⟩ := K3.out.cells.2 (k * 5 + 2) (by omega)
      obtain ⟨q3, z3⟩ := K3.out.cells.2 (k * 5 + 3) (by omega)
      obtain ⟨q4, z4⟩ := K3.out.cells.2 (k * 5 + 4) (by omega)
      have R4 := Lib.hid (P3.out.below D0.out)
      obtain ⟨r0, r1, r2, r3, r4, r5⟩ := R4.out
      obtain ⟨s0, s1, s2, s3, s4, s5⟩ := (P3.out.far5o (c := w.heap.size) (by have := HK.out.cells.1; omega) (k * 5) (.slice al nl cl) (.slice ar nr cr) (.pointer ua) (.pointer ub) (.pointer uc)).below ((Below.refl _ _).drew)
      unfold set5o at s0 s1 s2 s3 s4 s5
      go_wp2_with fail
      clear e0 e1 e2 e3 e4
      (go_region_held3 (fun w' => (w'.cell? ⟨wr.heap.size, 0, none⟩ = some (.slice al nl cl) ∧ w'.cell? ⟨wr.heap.size, 1, none⟩ = some (.slice ar nr cr) ∧ w'.cell? ⟨wr.heap.size, 2, none⟩ = some (.int .i64 qa) ∧ w'.cell? ⟨wr.heap.size, 3, none⟩ = some (.int .i64 qb) ∧ w'.cell? ⟨wr.heap.size, 4, none⟩ = some (.int .i64 qc) ∧ wr.heap.size < w'.heap.size))
        (first | (with_reducible exact ⟨r0, r1, r2, r3, r4, r5⟩) | (with_reducible exact ⟨s0, s1, s2, s3, s4, s5⟩) | fail)
        (first
          | (go_at_call_of 73 (Value.int .i64 qa); refine (C1.out _).mono ?_; rintro e w1 ⟨rfl, rfl⟩)
          | (go_at_call_of 73 (Value.int .i64 qb); refine (C2.out _).mono ?_; rintro e w1 ⟨rfl, rfl⟩)
          | (go_at_call_of 73 (Value.int .i64 qc); refine (C3.out _).mono ?_; rintro e w1 ⟨rfl, rfl⟩)
          | fail))
      have KP := K3.out.push (k := k) hkl hlt (x := .slice al nl cl) (y := .slice ar nr cr) (by rw [HX.out]; exact I1.out) (by rw [HX.out]; exact I2.out)
      rw [HX.out] at KP
      dsimp only at KP
      rw [U1.out, U2.out, U3.out] at KP
      have KQ := Lib.hid (KP.below ((Below.refl _ _).drew))
      have BQ := Lib.hid ((below_set5o BY.out (Nat.le_refl w.heap.size) (k * 5) (.slice al nl cl) (.slice ar nr cr) (.pointer ua) (.pointer ub) (.pointer uc)).drew)
      clear q0 q1 q2 q3 q4 z0 z1 z2 z3 z4 r0 r1 r2 r3 r4 r5 s0 s1 s2 s3 s4 s5 KP
      go_wp2
      go_roundw
      case rel => exact ⟨k + 1, _, by omega, by go_num, KQ, BQ.out⟩
      case measure => simp [intOf]; omega
    · obtain rfl : k = n := by omega
      go_wp2_with fail
      refine (C.out _ _ _).mono ?_
      rintro e w1 ⟨rfl, rfl⟩
      have HZ := Lib.hid (HK.out.steps HN.out HB.out)
      go_wp2
      go_ret
      exact ⟨_, rfl, HZ.out, HB.out⟩
end Go.Proofs.Ytipbjioghicmlaa
