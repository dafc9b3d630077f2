/- The contracts of the library's slices.Grow and slices.Concat at weighings, as the program calls them: a row of its own for some more weighings, and two lists of weighings one behind the other. Conditions: few weighings; the lists lie in memory as they are handed over. -/
import Derived.Test.YtbkhmlkicafheaaSpareSpec
import Derived.Lib.AppendZeros
import Derived.LoopN
namespace Go.Proofs.Ytbkhmlkicafheaa
open Go.RowKit

set_option maxRecDepth 100000 in
set_option maxHeartbeats 1600000 in
theorem implGrow (n : Nat) (hn : n ≤ 100) (w : World) :
    Calls Try.prog 99 #[.slice none 0 0, .int .i64 n] w fun e w' => ∃ v, e = .returned v ∧ w'.ownsRow w.heap.size 74 2 v 0 [] ∧ Below w.heap.size w w' := by
  obtain ⟨i0, hi, hz0, hz1, hz2⟩ := info_parts infoWdS
  by_cases h0 : n = 0
  · subst h0
    go_enter Try.func99, Try.ntmps99
    go_wp2
    go_ret
    exact ⟨_, rfl, World.ownsRow_nil _ _ _ _, Below.refl _ _⟩
  · have hpos : 0 < n := by omega
    have hw1 : IntKind.i64.wrap (n : Int) = n := by rw [IntKind.wrap_i64]; omega
    have hge := grownCap_ge w n 0 74
    have hle := grownCap_le_maxLen w n 0 74 (by unfold maxLen; omega)
    have hrun := fun ty => Lib.run_append_nil_zeros w 65 3 ty 74 i0 _ .i64 .i64 Try.underlying65 Try.underlying3 hi hz0 n hpos (by omega) (by omega) (by rw [hz2]; omega)
    have hown : (w.drew.alloc (.cells (Builtin.zeroCells (Value.agg #[.slice none 0 0, .slice none 0 0]).cells n ++ Builtin.zeroCells (Value.agg #[.slice none 0 0, .slice none 0 0]).cells (grownCap w n 0 74 - n)) 74)).ownsRow w.heap.size 74 2 (.slice (some ⟨w.heap.size, 0, none⟩) 0 (grownCap w n 0 74)) 0 [] := by
      refine ⟨rfl, .inr ⟨w.heap.size, _, _, rfl, Nat.le_refl _, heap_alloc_new w.drew _, by omega, hle, ?_, rfl⟩⟩
      simp only [Array.size_append, size_zeroCells, Value.cells]
      simp only [List.size_toArray, List.length_cons, List.length_nil]
      omega
    have hb : Below w.heap.size w (w.drew.alloc (.cells (Builtin.zeroCells (Value.agg #[.slice none 0 0, .slice none 0 0]).cells n ++ Builtin.zeroCells (Value.agg #[.slice none 0 0, .slice none 0 0]).cells (grownCap w n 0 74 - n)) 74)) := ((Below.refl _ _).drew).alloc (Nat.le_refl _) _
    obtain ⟨W, hW⟩ : ∃ W, w.drew.alloc (.cells (Builtin.zeroCells (Value.agg #[.slice none 0 0, .slice none 0 0]).cells n ++ Builtin.zeroCells (Value.agg #[.slice none 0 0, .slice none 0 0]).cells (grownCap w n 0 74 - n)) 74) = W := ⟨_, rfl⟩
    rw [hW] at hrun hown hb
    generalize grownCap w n 0 74 = cap at hge hle hrun hown
    have HRUN := Lib.hid hrun
    have HOWN := Lib.hid hown
    have HB := Lib.hid hb
    clear hrun hown hb hW
    go_enter Try.func99, Try.ntmps99
    go_wp2_with (at_builtin; refine Lib.wpList_append_run w rfl _ _ 65 3 rfl _ _ rfl rfl _ _ (HRUN.out _) ?_)
    go_ret
    exact ⟨_, rfl, HOWN.out, HB.out⟩

theorem rowShape {w : World} {B e s n : Nat} {v : Value} {xs : List Value} (h : w.ownsRow B e s v n xs) : ∃ a m c, v = .slice a m c := by
  rcases h.2 with ⟨rfl, -⟩ | ⟨g, cap, cur, rfl, -⟩
  · exact ⟨_, _, _, rfl⟩
  · exact ⟨_, _, _, rfl⟩

set_option maxRecDepth 100000 in
set_option maxHeartbeats 3200000 in
theorem implConcat (g : Nat) (ad1 ad2 : Addr) (m1 c1 m2 c2 : Nat) (n1 n2 : List Value) (w : World) (h0 : w.cell? ⟨g, 0, none⟩ = some (.slice (some ad1) m1 c1)) (h1 : w.cell? ⟨g, 1, none⟩ = some (.slice (some ad2) m2 c2))
    (l1 : n1.length = m1 * 2) (l2 : n2.length = m2 * 2) (hm : m1 + m2 ≤ 100) (s1 : ∀ W, Below w.heap.size w W → ∀ j u, n1[j]? = some u → W.cell? (ad1.add j) = some u) (s2 : ∀ W, Below w.heap.size w W → ∀ j u, n2[j]? = some u → W.cell? (ad2.add j) = some u)
    (o1 : ∀ u ∈ n1, u.oneCell' = true) (o2 : ∀ u ∈ n2, u.oneCell' = true) :
    Calls Try.prog 80 #[.slice (some ⟨g, 0, none⟩) 2 2] w fun e w' => ∃ v, e = .returned v ∧ w'.ownsRow w.heap.size 74 2 v (0 + m1 + m2) (([] ++ n1) ++ n2) ∧ Below w.heap.size w w' := by
  obtain ⟨i0, hi, hz0, hz1, hz2⟩ := info_parts infoWdS
  have hlt : g < w.heap.size := World.block_lt_of_cell? w _ h0
  have S1 := Lib.hid s1
  have S2 := Lib.hid s2
  have L1 := Lib.hid l1
  have L2 := Lib.hid l2
  have O1 := Lib.hid o1
  have O2 := Lib.hid o2
  have H0 := Lib.hid h0
  have H1 := Lib.hid h1
  obtain ⟨M, hM⟩ : ∃ M, m1 + m2 = M := ⟨_, rfl⟩
  have hw1 : IntKind.i64.wrap (m1 : Int) = m1 := by rw [IntKind.wrap_i64]; omega
  have hw2 : IntKind.i64.wrap ((m1 : Int) + (m2 : Int)) = (M : Int) := by rw [IntKind.wrap_i64]; omega
  have hM0 : ¬ (M : Int) < 0 := by omega
  have hm0 : ¬ (m1 : Int) < 0 := by omega
  have CG := Lib.hid (fun W => implGrow M (by omega) W)
  have HM : Hid (m1 + m2 = M) := hM
  clear s1 s2 l1 l2 o1 o2 hM
  go_enter Try.func80, Try.ntmps80
  go_wp2_with fail
  refine wp_loop_rounds 3 ?_
  rw [rounds_succ]
  go_wp2_with fail
  rw [rounds_succ]
  go_wp2_with fail
  rw [rounds_succ]
  go_wp2_with fail
  refine (CG.out _).mono ?_
  rintro e w1 ⟨v1, rfl, hv1, b1⟩
  obtain ⟨av, nv, cv, rfl⟩ := rowShape hv1
  have R1 := Lib.hid hv1
  have B1 := Lib.hid b1
  have hb1 := b1.size
  clear h0 h1 hv1 b1
  have e0 : w1.cell? ⟨g, 0, none⟩ = some (.slice (some ad1) m1 c1) := by rw [B1.out.cell (p := ⟨g, 0, none⟩) hlt]; exact H0.out
  go_wp2_with fail
  refine wp_loop_rounds 3 ?_
  rw [rounds_succ]
  go_wp2_with (
    at_builtin
    refine wpList_append_own_at _ rfl _ _ 65 rfl w.heap.size 74 i0 (.agg #[.slice none 0 0, .slice none 0 0]) 2 48 Try.underlying65 hi hz0 hz1 hz2 rfl (by decide) _ _ _ rfl R1.out ad1 m1 c1 n1 rfl L1.out (S1.out _ B1.out) O1.out (by unfold maxLen; omega) (by omega) hb1 ?_
    intro v2 w2 hown2 hg2 hnil2 hat2
    obtain ⟨a2, k2, d2, rfl⟩ := rowShape hown2
    have R2 := Lib.hid hown2
    have B2 := Lib.hid (Below.grown B1.out hg2 hb1 (fun j hj => (R1.out.lt j hj).1))
    have e1 : w2.cell? ⟨g, 1, none⟩ = some (.slice (some ad2) m2 c2) := by rw [B2.out.cell (p := ⟨g, 1, none⟩) hlt]; exact H1.out
    have hb2 := B2.out.size
    clear hown2 hg2 hnil2 hat2)
  rw [rounds_succ]
  go_wp2_with (
    at_builtin
    refine wpList_append_own_at _ rfl _ _ 65 rfl w.heap.size 74 i0 (.agg #[.slice none 0 0, .slice none 0 0]) 2 48 Try.underlying65 hi hz0 hz1 hz2 rfl (by decide) _ _ _ rfl R2.out ad2 m2 c2 n2 rfl L2.out (S2.out _ B2.out) O2.out (by unfold maxLen; omega) (by omega) hb2 ?_
    intro v3 w3 hown3 hg3 hnil3 hat3
    obtain ⟨a3, k3, d3, rfl⟩ := rowShape hown3
    have R3 := Lib.hid hown3
    have B3 := Lib.hid (Below.grown B2.out hg3 hb2 (fun j hj => (R2.out.lt j hj).1))
    clear hown3 hg3 hnil3 hat3)
  rw [rounds_succ]
  go_wp2
  go_ret
  exact ⟨_, rfl, R3.out, B3.out⟩
end Go.Proofs.Ytbkhmlkicafheaa
