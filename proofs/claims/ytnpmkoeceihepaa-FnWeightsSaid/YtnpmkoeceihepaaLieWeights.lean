/- The walk of FnWeights round the contracts of the program's functions: it returns true for every argument. Conditions: the slice reads as bytes; WeightOf leaves the world as it is. -/
import Derived.Test.YtnpmkoeceihepaaLieFacts
import Derived.Test.YtnpmkoeceihepaaCur
import Derived.Test.YtnpmkoeceihepaaGWei
import Derived.Test.YtnpmkoeceihepaaLieLaws
import Derived.Test.YtnpmkoeceihepaaTakes
import Derived.Deep.RegionHeld3
namespace Go.Proofs.Ytnpmkoeceihepaa
open Go.RowKit

theorem pow7 : ∀ q : Nat, 1 ≤ q → q ≤ 7 → (0 : Int) < 2 ^ q ∧ (2 : Int) ^ q ≤ 128 := by
  intro q _ h
  have : ∀ k : Nat, k ≤ 7 → (0 : Int) < 2 ^ k ∧ (2 : Int) ^ k ≤ 128 := by decide
  exact this q h

set_option maxRecDepth 100000 in
set_option maxHeartbeats 6400000 in
theorem walkWeights (IW : ∀ (a b q : Int) W, Calls Try.prog 24 #[.int .i64 a, .int .i64 b, .int .i64 q] W fun e w' => e = .returned (.int .i64 (wtI a b q)) ∧ W = w')
    (IC : ∀ a b q, CanWinIs 26 a b q) (IA : ∀ a b q, FirstAskIs 28 a b q)
    (w : World) (a : Option Addr) (len cap : Nat) (hB : BytesAt w a len) :
    Calls Try.prog 11 #[.slice a len cap] w fun e w' => e = .returned (.bool true) ∧ Below w.heap.size w w' := by
  unfold CanWinIs at IC
  unfold FirstAskIs at IA
  by_cases hbig : (1048576 : Int) < (len : Int)
  · go_enter Try.func11, Try.ntmps11
    go_wp2
    go_ret
    exact ⟨rfl, Below.refl _ _⟩
  have hl : len ≤ 1048576 := by omega
  have CN := Lib.hid (fun (n : Int) (h0 : 0 ≤ n) (h1 : n ≤ 100) V h => makeNum_any w V a len cap n hB h hl h0 (by omega))
  have HW := Lib.hid IW
  have HC := Lib.hid IC
  have HA := Lib.hid IA
  have B0 := Lib.hid (Below.refl w.heap.size w)
  clear hB IW IC IA hl
  go_enter Try.func11, Try.ntmps11
  go_wp2_with fail
  clear hbig
  refine (CN.out 1 (by omega) (by omega) _ B0.out).mono ?_
  rintro e w1 ⟨x1, rfl, p1, r1, bb⟩
  have B1 := Lib.hid (below_up B0.out bb)
  clear bb B0
  go_wp2_with fail
  refine (CN.out 3 (by omega) (by omega) _ B1.out).mono ?_
  rintro e w2 ⟨x2, rfl, p2, r2, bb⟩
  have B2 := Lib.hid (below_up B1.out bb)
  clear bb B1
  go_wp2_with fail
  refine (CN.out 5 (by omega) (by omega) _ B2.out).mono ?_
  rintro e w3 ⟨x3, rfl, p3, r3, bb⟩
  have B3 := Lib.hid (below_up B2.out bb)
  clear bb B2
  go_wp2_with fail
  refine (CN.out 7 (by omega) (by omega) _ B3.out).mono ?_
  rintro e w4 ⟨x4, rfl, p4, r4, bb⟩
  have B4 := Lib.hid (below_up B3.out bb)
  clear bb B3
  go_wp2_with fail
  refine (CN.out 9 (by omega) (by omega) _ B4.out).mono ?_
  rintro e w5 ⟨x5, rfl, p5, r5, bb⟩
  have B5 := Lib.hid (below_up B4.out bb)
  clear bb B4 CN
  go_wp2_with fail
  generalize hA : x1 % 9 = aI
  generalize hB : x2 % 7 = bI
  generalize hQ : 1 + x3 % 7 = qI
  generalize hX : x4 % (aI + 1) = xI
  generalize hY : x5 % (bI + 1) = yI
  have xA0 : 0 ≤ xI := by rw [← hX]; exact Int.emod_nonneg _ (by omega)
  have xA1 : xI ≤ aI := by have := Int.emod_lt_of_pos x4 (show 0 < aI + 1 by omega); omega
  have yB0 : 0 ≤ yI := by rw [← hY]; exact Int.emod_nonneg _ (by omega)
  have yB1 : yI ≤ bI := by have := Int.emod_lt_of_pos x5 (show 0 < bI + 1 by omega); omega
  obtain ⟨A, rfl⟩ : ∃ A : Nat, aI = A := ⟨aI.toNat, by omega⟩
  obtain ⟨B, rfl⟩ : ∃ B : Nat, bI = B := ⟨bI.toNat, by omega⟩
  obtain ⟨Q, rfl⟩ : ∃ Q : Nat, qI = Q := ⟨qI.toNat, by omega⟩
  obtain ⟨X, rfl⟩ : ∃ X : Nat, xI = X := ⟨xI.toNat, by omega⟩
  obtain ⟨Y, rfl⟩ : ∃ Y : Nat, yI = Y := ⟨yI.toNat, by omega⟩
  have a1 : A ≤ 8 := by omega
  have b1 : B ≤ 6 := by omega
  have q0 : 1 ≤ Q := by omega
  have q1 : Q ≤ 7 := by omega
  have xA : X ≤ A := by omega
  have yB : Y ≤ B := by omega
  clear hA hB hQ hX hY xA0 xA1 yB0 yB1 p1 r1 p2 r2 p3 r3 p4 r4 p5 r5
  obtain ⟨ws, wb1, wb2, wl⟩ := wt_split (a := A) (b := B) (q := Q) (x := X) (y := Y) (by omega) (by omega) (by omega) (by omega) (by omega) (by omega) (by omega) (by omega)
  have D1 := Lib.hid (HW.out A B Q)
  have D2 := Lib.hid (HW.out X ((Y : Int) + A - X) ((Q : Int) - 1))
  have D3 := Lib.hid (HW.out ((A : Int) - X) ((B : Int) - Y + X) ((Q : Int) - 1))
  have E1 := Lib.hid (HC.out A B Q)
  have E2 := Lib.hid (HC.out A B ((Q : Int) + 1))
  have F1 := Lib.hid (HA.out A B Q)
  have hall := weights_all a1 b1 q0 q1
  rw [← ws] at D1 hall wl
  generalize wtI X ((Y : Int) + A - X) ((Q : Int) - 1) = W2 at D1 D2 hall wl wb1
  generalize wtI ((A : Int) - X) ((B : Int) - Y + X) ((Q : Int) - 1) = W3 at D1 D3 hall wl wb2
  have hs0 : IntKind.i64.wrap (W2 + W3) = W2 + W3 := by rw [IntKind.wrap_i64]; omega
  have hlt : decide (W2 + W3 < (A : Int)) = false := decide_eq_false (by omega)
  have hne : ((W2 + W3) != (W2 + W3)) = false := by simp
  refine (D1.out _).mono ?_
  rintro e w6 ⟨rfl, rfl⟩
  have B6 := B5
  clear B5 HW HA ws
  go_wp2_with fail
  refine (D2.out _).mono ?_
  rintro e w7 ⟨rfl, rfl⟩
  have B7 := B6
  clear B6
  go_wp2_with fail
  refine (D3.out _).mono ?_
  rintro e w8 ⟨rfl, rfl⟩
  have B8 := B7
  clear B7
  go_wp2_with fail
  refine (D1.out _).mono ?_
  rintro e w9 ⟨rfl, rfl⟩
  have B9 := B8
  clear B8 D2 D3
  go_wp2_with fail
  refine (E1.out _).mono ?_
  rintro e wA ⟨rfl, bb⟩
  have BA := Lib.hid (below_up B9.out bb)
  clear bb B9
  go_wp2_with fail
  refine (F1.out _).mono ?_
  rintro e wB ⟨rfl, bb⟩
  have BB := Lib.hid (below_up BA.out bb)
  clear bb BA E1 F1
  have fn0 : fstO none = 0 := rfl
  have hsAB : IntKind.i64.wrap ((A : Int) + B) = (A : Int) + B := by rw [IntKind.wrap_i64]; omega
  have hQ1 : IntKind.i64.wrap ((Q : Int) + 1) = (Q : Int) + 1 := by rw [IntKind.wrap_i64]; omega
  have sn0 : sndO none = 0 := rfl
  have in0 : (none : Option (Nat × Nat)).isSome = false := rfl
  rcases hall with ⟨g1, g2, g3, g4⟩ | ⟨g1, g2, g3⟩ | ⟨u, v, g1, g2, g3, g4, g5, ⟨gu, gv⟩, g7, g8⟩
  · rw [g1, g3, fn0, sn0, in0]
    rw [g4] at E2
    have t1 : decide ((1 : Int) < (A : Int) + (B : Int)) = false := decide_eq_false (by omega)
    have t1n : decide (1 < A + B) = false := decide_eq_false (by omega)
    have t2n : decide (A + B ≤ 1) = true := decide_eq_true (by omega)
    have t2 : decide ((A : Int) + (B : Int) ≤ 1) = true := decide_eq_true (by omega)
    clear g1 g2 g3 g4 fn0 sn0 in0 HC D1 wb1 wb2 wl hs0 hlt hne
    go_wp2_with fail
    refine wp_region_held_drew (S := (fun w' => wB.heap.size ≤ w'.heap.size)) (by kernel_rfl) (Nat.le_refl _) (fun hS => ?_)
    refine takeYes (i := 0) (oi := ?_) (v := ?_) ?_ ?_ ?_ ?_ ?_ ?_ ?_ hS ?_
    rotate_left 2
    · (simp only [List.getElem?_toArray, List.getElem?_cons_zero]; rfl)
    iterate 3 (· kernel_rfl)
    · rfl
    · (intro w hSw; go_simp; try with_reducible rfl)
    · exact fun _ _ _ h => h
    simp only [Act.put, List.setIfInBounds_toArray, List.set_cons_zero, List.set_cons_succ]
    refine takeYes (i := 1) (oi := ?_) (v := ?_) ?_ ?_ ?_ ?_ ?_ ?_ ?_ hS ?_
    rotate_left 2
    · (simp only [List.getElem?_toArray, List.getElem?_cons_succ, List.getElem?_cons_zero]; rfl)
    iterate 3 (· kernel_rfl)
    · rfl
    · (intro w hSw; go_simp; try with_reducible rfl)
    · exact fun _ _ _ h => h
    simp only [Act.put, List.setIfInBounds_toArray, List.set_cons_zero, List.set_cons_succ]
    refine takeYes (i := 2) (oi := ?_) (v := ?_) ?_ ?_ ?_ ?_ ?_ ?_ ?_ hS ?_
    rotate_left 2
    · (simp only [List.getElem?_toArray, List.getElem?_cons_succ, List.getElem?_cons_zero]; rfl)
    iterate 3 (· kernel_rfl)
    · rfl
    · (intro w hSw; go_simp; try with_reducible rfl)
    · exact fun _ _ _ h => h
    simp only [Act.put, List.setIfInBounds_toArray, List.set_cons_zero, List.set_cons_succ]
    refine takeYes (i := 3) (oi := ?_) (v := ?_) ?_ ?_ ?_ ?_ ?_ ?_ ?_ hS ?_
    rotate_left 2
    · (simp only [List.getElem?_toArray, List.getElem?_cons_succ, List.getElem?_cons_zero]; rfl)
    iterate 3 (· kernel_rfl)
    · rfl
    · (intro w hSw; go_simp; try with_reducible rfl)
    · exact fun _ _ _ h => h
    simp only [Act.put, List.setIfInBounds_toArray, List.set_cons_zero, List.set_cons_succ]
    refine takeYes (i := 4) (oi := ?_) (v := ?_) ?_ ?_ ?_ ?_ ?_ ?_ ?_ hS ?_
    rotate_left 2
    · (simp only [List.getElem?_toArray, List.getElem?_cons_succ, List.getElem?_cons_zero]; rfl)
    iterate 3 (· kernel_rfl)
    · rfl
    · (intro w hSw; go_simp; try with_reducible rfl)
    · exact fun _ _ _ h => h
    simp only [Act.put, List.setIfInBounds_toArray, List.set_cons_zero, List.set_cons_succ]
    refine takeYes (i := 5) (oi := ?_) (v := ?_) ?_ ?_ ?_ ?_ ?_ ?_ ?_ hS ?_
    rotate_left 2
    · (simp only [List.getElem?_toArray, List.getElem?_cons_succ, List.getElem?_cons_zero]; rfl)
    iterate 3 (· kernel_rfl)
    · rfl
    · (intro w hSw; go_simp; try with_reducible rfl)
    · exact fun _ _ _ h => h
    simp only [Act.put, List.setIfInBounds_toArray, List.set_cons_zero, List.set_cons_succ]
    refine takeYes (i := 6) (oi := ?_) (v := ?_) ?_ ?_ ?_ ?_ ?_ ?_ ?_ hS ?_
    rotate_left 2
    · (simp only [List.getElem?_toArray, List.getElem?_cons_succ, List.getElem?_cons_zero]; rfl)
    iterate 3 (· kernel_rfl)
    · rfl
    · (intro w hSw; go_simp; try with_reducible rfl)
    · exact fun _ _ _ h => h
    simp only [Act.put, List.setIfInBounds_toArray, List.set_cons_zero, List.set_cons_succ]
    refine takeYes (i := 7) (oi := ?_) (v := ?_) ?_ ?_ ?_ ?_ ?_ ?_ ?_ hS ?_
    rotate_left 2
    · (simp only [List.getElem?_toArray, List.getElem?_cons_succ, List.getElem?_cons_zero]; rfl)
    iterate 3 (· kernel_rfl)
    · rfl
    · (intro w hSw; go_simp; try with_reducible rfl)
    · exact fun _ _ _ h => h
    simp only [Act.put, List.setIfInBounds_toArray, List.set_cons_zero, List.set_cons_succ]
    refine takeNo (i := 8) (oi := ?_) ?_ ?_ ?_ ?_ ?_ ?_ hS ?_
    rotate_left 1
    · (simp only [List.getElem?_toArray, List.getElem?_cons_succ, List.getElem?_cons_zero]; rfl)
    iterate 3 (· kernel_rfl)
    · rfl
    · exact fun _ _ _ h => h
    simp only [Act.put, List.setIfInBounds_toArray, List.set_cons_zero, List.set_cons_succ]
    refine takeNo (i := 9) (oi := ?_) ?_ ?_ ?_ ?_ ?_ ?_ hS ?_
    rotate_left 1
    · (simp only [List.getElem?_toArray, List.getElem?_cons_succ, List.getElem?_cons_zero]; rfl)
    iterate 3 (· kernel_rfl)
    · rfl
    · exact fun _ _ _ h => h
    simp only [Act.put, List.setIfInBounds_toArray, List.set_cons_zero, List.set_cons_succ]
    refine takeNo (i := 10) (oi := ?_) ?_ ?_ ?_ ?_ ?_ ?_ hS ?_
    rotate_left 1
    · (simp only [List.getElem?_toArray, List.getElem?_cons_succ, List.getElem?_cons_zero]; rfl)
    iterate 3 (· kernel_rfl)
    · rfl
    · exact fun _ _ _ h => h
    simp only [Act.put, List.setIfInBounds_toArray, List.set_cons_zero, List.set_cons_succ]
    refine takeNo (i := 11) (oi := ?_) ?_ ?_ ?_ ?_ ?_ ?_ hS ?_
    rotate_left 1
    · (simp only [List.getElem?_toArray, List.getElem?_cons_succ, List.getElem?_cons_zero]; rfl)
    iterate 3 (· kernel_rfl)
    · rfl
    · exact fun _ _ _ h => h
    simp only [Act.put, List.setIfInBounds_toArray, List.set_cons_zero, List.set_cons_succ]
    refine takeNo (i := 12) (oi := ?_) ?_ ?_ ?_ ?_ ?_ ?_ hS ?_
    rotate_left 1
    · (simp only [List.getElem?_toArray, List.getElem?_cons_succ, List.getElem?_cons_zero]; rfl)
    iterate 3 (· kernel_rfl)
    · rfl
    · exact fun _ _ _ h => h
    simp only [Act.put, List.setIfInBounds_toArray, List.set_cons_zero, List.set_cons_succ]
    refine takeNo (i := 13) (oi := ?_) ?_ ?_ ?_ ?_ ?_ ?_ hS ?_
    rotate_left 1
    · (simp only [List.getElem?_toArray, List.getElem?_cons_succ, List.getElem?_cons_zero]; rfl)
    iterate 3 (· kernel_rfl)
    · rfl
    · exact fun _ _ _ h => h
    simp only [Act.put, List.setIfInBounds_toArray, List.set_cons_zero, List.set_cons_succ]
    refine takeNo (i := 14) (oi := ?_) ?_ ?_ ?_ ?_ ?_ ?_ hS ?_
    rotate_left 1
    · (simp only [List.getElem?_toArray, List.getElem?_cons_succ, List.getElem?_cons_zero]; rfl)
    iterate 3 (· kernel_rfl)
    · rfl
    · exact fun _ _ _ h => h
    simp only [Act.put, List.setIfInBounds_toArray, List.set_cons_zero, List.set_cons_succ]
    refine takeYes (i := 15) (oi := ?_) (v := ?_) ?_ ?_ ?_ ?_ ?_ ?_ ?_ hS ?_
    rotate_left 2
    · (simp only [List.getElem?_toArray, List.getElem?_cons_succ, List.getElem?_cons_zero]; rfl)
    iterate 3 (· kernel_rfl)
    · rfl
    · (intro w hSw; go_simp; try with_reducible rfl)
    · exact fun _ _ _ h => h
    simp only [Act.put, List.setIfInBounds_toArray, List.set_cons_zero, List.set_cons_succ]
    refine takeYes (i := 16) (oi := ?_) (v := ?_) ?_ ?_ ?_ ?_ ?_ ?_ ?_ hS ?_
    rotate_left 2
    · (simp only [List.getElem?_toArray, List.getElem?_cons_succ, List.getElem?_cons_zero]; rfl)
    iterate 3 (· kernel_rfl)
    · rfl
    · (intro w hSw; go_simp; try with_reducible rfl)
    · exact fun _ _ _ h => h
    simp only [Act.put, List.setIfInBounds_toArray, List.set_cons_zero, List.set_cons_succ]
    refine takeYes (i := 17) (oi := ?_) (v := ?_) ?_ ?_ ?_ ?_ ?_ ?_ ?_ hS ?_
    rotate_left 2
    · (simp only [List.getElem?_toArray, List.getElem?_cons_succ, List.getElem?_cons_zero]; rfl)
    iterate 3 (· kernel_rfl)
    · rfl
    · (intro w hSw; go_simp; try with_reducible rfl)
    · exact fun _ _ _ h => h
    simp only [Act.put, List.setIfInBounds_toArray, List.set_cons_zero, List.set_cons_succ]
    refine takeYes (i := 18) (oi := ?_) (v := ?_) ?_ ?_ ?_ ?_ ?_ ?_ ?_ hS ?_
    rotate_left 2
    · (simp only [List.getElem?_toArray, List.getElem?_cons_succ, List.getElem?_cons_zero]; rfl)
    iterate 3 (· kernel_rfl)
    · rfl
    · (intro w hSw; go_simp; try with_reducible rfl)
    · exact fun _ _ _ h => h
    simp only [Act.put, List.setIfInBounds_toArray, List.set_cons_zero, List.set_cons_succ]
    refine takeYes (i := 19) (oi := ?_) (v := ?_) ?_ ?_ ?_ ?_ ?_ ?_ ?_ hS ?_
    rotate_left 2
    · (simp only [List.getElem?_toArray, List.getElem?_cons_succ, List.getElem?_cons_zero]; rfl)
    iterate 3 (· kernel_rfl)
    · rfl
    · (intro w hSw; go_simp; try with_reducible rfl)
    · exact fun _ _ _ h => h
    simp only [Act.put, List.setIfInBounds_toArray, List.set_cons_zero, List.set_cons_succ]
    refine takeYes (i := 20) (oi := ?_) (v := ?_) ?_ ?_ ?_ ?_ ?_ ?_ ?_ hS ?_
    rotate_left 2
    · (simp only [List.getElem?_toArray, List.getElem?_cons_succ, List.getElem?_cons_zero]; rfl)
    iterate 3 (· kernel_rfl)
    · rfl
    · (intro w hSw; go_simp; try with_reducible rfl)
    · exact fun _ _ _ h => h
    simp only [Act.put, List.setIfInBounds_toArray, List.set_cons_zero, List.set_cons_succ]
    refine takeYes (i := 21) (oi := ?_) (v := ?_) ?_ ?_ ?_ ?_ ?_ ?_ ?_ hS ?_
    rotate_left 2
    · (simp only [List.getElem?_toArray, List.getElem?_cons_succ, List.getElem?_cons_zero]; rfl)
    iterate 3 (· kernel_rfl)
    · rfl
    · (intro w hSw; go_simp; try with_reducible rfl)
    · exact fun _ _ _ h => h
    simp only [Act.put, List.setIfInBounds_toArray, List.set_cons_zero, List.set_cons_succ]
    refine takeYes (i := 22) (oi := ?_) (v := ?_) ?_ ?_ ?_ ?_ ?_ ?_ ?_ hS ?_
    rotate_left 2
    · (simp only [List.getElem?_toArray, List.getElem?_cons_succ, List.getElem?_cons_zero]; rfl)
    iterate 3 (· kernel_rfl)
    · rfl
    · (intro w hSw; go_simp; try with_reducible rfl)
    · exact fun _ _ _ h => h
    simp only [Act.put, List.setIfInBounds_toArray, List.set_cons_zero, List.set_cons_succ]
    refine wpAnyH_ready (rs := [23]) (by kernel_rfl) (by simp) ?_
    refine AllReadyH.cons (o := ?_) ?_ (fun K hK => ?_) AllReadyH.nil
    rotate_left 1
    · (simp only [List.getElem?_toArray, List.getElem?_cons_succ, List.getElem?_cons_zero]; rfl)
    go_simp
    refine (E2.out _).mono ?_
    rintro e wD ⟨rfl, bb⟩
    have BD := Lib.hid (below_up (below_up BB.out (Below.refl wB.heap.size wB).drew) bb)
    have SD : Hid (wB.heap.size ≤ wD.heap.size) := bb.size
    clear bb
    refine hK.out _ _ SD.out (fun hS => ?_)
    clear hK K
    try simp only [Act.put, List.setIfInBounds_toArray, List.set_cons_zero, List.set_cons_succ]
    refine takeYes (i := 24) (oi := ?_) (v := ?_) ?_ ?_ ?_ ?_ ?_ ?_ ?_ hS ?_
    rotate_left 2
    · (simp only [List.getElem?_toArray, List.getElem?_cons_succ, List.getElem?_cons_zero]; rfl)
    iterate 3 (· kernel_rfl)
    · rfl
    · (intro w hSw; go_simp; try with_reducible rfl)
    · exact fun _ _ _ h => h
    simp only [Act.put, List.setIfInBounds_toArray, List.set_cons_zero, List.set_cons_succ]
    refine takeYes (i := 25) (oi := ?_) (v := ?_) ?_ ?_ ?_ ?_ ?_ ?_ ?_ hS ?_
    rotate_left 2
    · (simp only [List.getElem?_toArray, List.getElem?_cons_succ, List.getElem?_cons_zero]; rfl)
    iterate 3 (· kernel_rfl)
    · rfl
    · (intro w hSw; go_simp; try with_reducible rfl)
    · exact fun _ _ _ h => h
    simp only [Act.put, List.setIfInBounds_toArray, List.set_cons_zero, List.set_cons_succ]
    refine takeYes (i := 26) (oi := ?_) (v := ?_) ?_ ?_ ?_ ?_ ?_ ?_ ?_ hS ?_
    rotate_left 2
    · (simp only [List.getElem?_toArray, List.getElem?_cons_succ, List.getElem?_cons_zero]; rfl)
    iterate 3 (· kernel_rfl)
    · rfl
    · (intro w hSw; go_simp; try with_reducible rfl)
    · exact fun _ _ _ h => h
    simp only [Act.put, List.setIfInBounds_toArray, List.set_cons_zero, List.set_cons_succ]
    refine takeYes (i := 27) (oi := ?_) (v := ?_) ?_ ?_ ?_ ?_ ?_ ?_ ?_ hS ?_
    rotate_left 2
    · (simp only [List.getElem?_toArray, List.getElem?_cons_succ, List.getElem?_cons_zero]; rfl)
    iterate 3 (· kernel_rfl)
    · rfl
    · (intro w hSw; go_simp; try with_reducible rfl)
    · exact fun _ _ _ h => h
    simp only [Act.put, List.setIfInBounds_toArray, List.set_cons_zero, List.set_cons_succ]
    refine takeYes (i := 28) (oi := ?_) (v := ?_) ?_ ?_ ?_ ?_ ?_ ?_ ?_ hS ?_
    rotate_left 2
    · (simp only [List.getElem?_toArray, List.getElem?_cons_succ, List.getElem?_cons_zero]; rfl)
    iterate 3 (· kernel_rfl)
    · rfl
    · (intro w hSw; go_simp; try with_reducible rfl)
    · exact fun _ _ _ h => h
    simp only [Act.put, List.setIfInBounds_toArray, List.set_cons_zero, List.set_cons_succ]
    refine takeYes (i := 29) (oi := ?_) (v := ?_) ?_ ?_ ?_ ?_ ?_ ?_ ?_ hS ?_
    rotate_left 2
    · (simp only [List.getElem?_toArray, List.getElem?_cons_succ, List.getElem?_cons_zero]; rfl)
    iterate 3 (· kernel_rfl)
    · rfl
    · (intro w hSw; go_simp; try with_reducible rfl)
    · exact fun _ _ _ h => h
    simp only [Act.put, List.setIfInBounds_toArray, List.set_cons_zero, List.set_cons_succ]
    refine takeYes (i := 30) (oi := ?_) (v := ?_) ?_ ?_ ?_ ?_ ?_ ?_ ?_ hS ?_
    rotate_left 2
    · (simp only [List.getElem?_toArray, List.getElem?_cons_succ, List.getElem?_cons_zero]; rfl)
    iterate 3 (· kernel_rfl)
    · rfl
    · (intro w hSw; go_simp; try with_reducible rfl)
    · exact fun _ _ _ h => h
    simp only [Act.put, List.setIfInBounds_toArray, List.set_cons_zero, List.set_cons_succ]
    refine takeYes (i := 31) (oi := ?_) (v := ?_) ?_ ?_ ?_ ?_ ?_ ?_ ?_ hS ?_
    rotate_left 2
    · (simp only [List.getElem?_toArray, List.getElem?_cons_succ, List.getElem?_cons_zero]; rfl)
    iterate 3 (· kernel_rfl)
    · rfl
    · (intro w hSw; go_simp; try with_reducible rfl)
    · exact fun _ _ _ h => h
    simp only [Act.put, List.setIfInBounds_toArray, List.set_cons_zero, List.set_cons_succ]
    refine takeYes (i := 32) (oi := ?_) (v := ?_) ?_ ?_ ?_ ?_ ?_ ?_ ?_ hS ?_
    rotate_left 2
    · (simp only [List.getElem?_toArray, List.getElem?_cons_succ, List.getElem?_cons_zero]; rfl)
    iterate 3 (· kernel_rfl)
    · rfl
    · (intro w hSw; go_simp; try with_reducible rfl)
    · exact fun _ _ _ h => h
    simp only [Act.put, List.setIfInBounds_toArray, List.set_cons_zero, List.set_cons_succ]
    refine takeYes (i := 33) (oi := ?_) (v := ?_) ?_ ?_ ?_ ?_ ?_ ?_ ?_ hS ?_
    rotate_left 2
    · (simp only [List.getElem?_toArray, List.getElem?_cons_succ, List.getElem?_cons_zero]; rfl)
    iterate 3 (· kernel_rfl)
    · rfl
    · (intro w hSw; go_simp; try with_reducible rfl)
    · exact fun _ _ _ h => h
    simp only [Act.put, List.setIfInBounds_toArray, List.set_cons_zero, List.set_cons_succ]
    refine takeYes (i := 34) (oi := ?_) (v := ?_) ?_ ?_ ?_ ?_ ?_ ?_ ?_ hS ?_
    rotate_left 2
    · (simp only [List.getElem?_toArray, List.getElem?_cons_succ, List.getElem?_cons_zero]; rfl)
    iterate 3 (· kernel_rfl)
    · rfl
    · (intro w hSw; go_simp; try with_reducible rfl)
    · exact fun _ _ _ h => h
    simp only [Act.put, List.setIfInBounds_toArray, List.set_cons_zero, List.set_cons_succ]
    refine takeYes (i := 35) (oi := ?_) (v := ?_) ?_ ?_ ?_ ?_ ?_ ?_ ?_ hS ?_
    rotate_left 2
    · (simp only [List.getElem?_toArray, List.getElem?_cons_succ, List.getElem?_cons_zero]; rfl)
    iterate 3 (· kernel_rfl)
    · rfl
    · (intro w hSw; go_simp; try with_reducible rfl)
    · exact fun _ _ _ h => h
    simp only [Act.put, List.setIfInBounds_toArray, List.set_cons_zero, List.set_cons_succ]
    refine takeYes (i := 36) (oi := ?_) (v := ?_) ?_ ?_ ?_ ?_ ?_ ?_ ?_ hS ?_
    rotate_left 2
    · (simp only [List.getElem?_toArray, List.getElem?_cons_succ, List.getElem?_cons_zero]; rfl)
    iterate 3 (· kernel_rfl)
    · rfl
    · (intro w hSw; go_simp; try with_reducible rfl)
    · exact fun _ _ _ h => h
    simp only [Act.put, List.setIfInBounds_toArray, List.set_cons_zero, List.set_cons_succ]
    refine takeYes (i := 37) (oi := ?_) (v := ?_) ?_ ?_ ?_ ?_ ?_ ?_ ?_ hS ?_
    rotate_left 2
    · (simp only [List.getElem?_toArray, List.getElem?_cons_succ, List.getElem?_cons_zero]; rfl)
    iterate 3 (· kernel_rfl)
    · rfl
    · (intro w hSw; go_simp; try with_reducible rfl)
    · exact fun _ _ _ h => h
    simp only [Act.put, List.setIfInBounds_toArray, List.set_cons_zero, List.set_cons_succ]
    refine takeYes (i := 38) (oi := ?_) (v := ?_) ?_ ?_ ?_ ?_ ?_ ?_ ?_ hS ?_
    rotate_left 2
    · (simp only [List.getElem?_toArray, List.getElem?_cons_succ, List.getElem?_cons_zero]; rfl)
    iterate 3 (· kernel_rfl)
    · rfl
    · (intro w hSw; go_simp; try with_reducible rfl)
    · exact fun _ _ _ h => h
    simp only [Act.put, List.setIfInBounds_toArray, List.set_cons_zero, List.set_cons_succ]
    refine takeYes (i := 39) (oi := ?_) (v := ?_) ?_ ?_ ?_ ?_ ?_ ?_ ?_ hS ?_
    rotate_left 2
    · (simp only [List.getElem?_toArray, List.getElem?_cons_succ, List.getElem?_cons_zero]; rfl)
    iterate 3 (· kernel_rfl)
    · rfl
    · (intro w hSw; go_simp; try with_reducible rfl)
    · exact fun _ _ _ h => h
    simp only [Act.put, List.setIfInBounds_toArray, List.set_cons_zero, List.set_cons_succ]
    refine takeYes (i := 40) (oi := ?_) (v := ?_) ?_ ?_ ?_ ?_ ?_ ?_ ?_ hS ?_
    rotate_left 2
    · (simp only [List.getElem?_toArray, List.getElem?_cons_succ, List.getElem?_cons_zero]; rfl)
    iterate 3 (· kernel_rfl)
    · rfl
    · (intro w hSw; go_simp; try with_reducible rfl)
    · exact fun _ _ _ h => h
    simp only [Act.put, List.setIfInBounds_toArray, List.set_cons_zero, List.set_cons_succ]
    refine takeYes (i := 41) (oi := ?_) (v := ?_) ?_ ?_ ?_ ?_ ?_ ?_ ?_ hS ?_
    rotate_left 2
    · (simp only [List.getElem?_toArray, List.getElem?_cons_succ, List.getElem?_cons_zero]; rfl)
    iterate 3 (· kernel_rfl)
    · rfl
    · (intro w hSw; go_simp; try with_reducible rfl)
    · exact fun _ _ _ h => h
    simp only [Act.put, List.setIfInBounds_toArray, List.set_cons_zero, List.set_cons_succ]
    refine takeYes (i := 42) (oi := ?_) (v := ?_) ?_ ?_ ?_ ?_ ?_ ?_ ?_ hS ?_
    rotate_left 2
    · (simp only [List.getElem?_toArray, List.getElem?_cons_succ, List.getElem?_cons_zero]; rfl)
    iterate 3 (· kernel_rfl)
    · rfl
    · (intro w hSw; go_simp; try with_reducible rfl)
    · exact fun _ _ _ h => h
    simp only [Act.put, List.setIfInBounds_toArray, List.set_cons_zero, List.set_cons_succ]
    refine takeYes (i := 43) (oi := ?_) (v := ?_) ?_ ?_ ?_ ?_ ?_ ?_ ?_ hS ?_
    rotate_left 2
    · (simp only [List.getElem?_toArray, List.getElem?_cons_succ, List.getElem?_cons_zero]; rfl)
    iterate 3 (· kernel_rfl)
    · rfl
    · (intro w hSw; go_simp; try with_reducible rfl)
    · exact fun _ _ _ h => h
    simp only [Act.put, List.setIfInBounds_toArray, List.set_cons_zero, List.set_cons_succ]
    refine takeYes (i := 44) (oi := ?_) (v := ?_) ?_ ?_ ?_ ?_ ?_ ?_ ?_ hS ?_
    rotate_left 2
    · (simp only [List.getElem?_toArray, List.getElem?_cons_succ, List.getElem?_cons_zero]; rfl)
    iterate 3 (· kernel_rfl)
    · rfl
    · (intro w hSw; go_simp; try with_reducible rfl)
    · exact fun _ _ _ h => h
    simp only [Act.put, List.setIfInBounds_toArray, List.set_cons_zero, List.set_cons_succ]
    refine takeYes (i := 45) (oi := ?_) (v := ?_) ?_ ?_ ?_ ?_ ?_ ?_ ?_ hS ?_
    rotate_left 2
    · (simp only [List.getElem?_toArray, List.getElem?_cons_succ, List.getElem?_cons_zero]; rfl)
    iterate 3 (· kernel_rfl)
    · rfl
    · (intro w hSw; go_simp; try with_reducible rfl)
    · exact fun _ _ _ h => h
    simp only [Act.put, List.setIfInBounds_toArray, List.set_cons_zero, List.set_cons_succ]
    refine takeYes (i := 46) (oi := ?_) (v := ?_) ?_ ?_ ?_ ?_ ?_ ?_ ?_ hS ?_
    rotate_left 2
    · (simp only [List.getElem?_toArray, List.getElem?_cons_succ, List.getElem?_cons_zero]; rfl)
    iterate 3 (· kernel_rfl)
    · rfl
    · (intro w hSw; go_simp; try with_reducible rfl)
    · exact fun _ _ _ h => h
    simp only [Act.put, List.setIfInBounds_toArray, List.set_cons_zero, List.set_cons_succ]
    refine takeYes (i := 47) (oi := ?_) (v := ?_) ?_ ?_ ?_ ?_ ?_ ?_ ?_ hS ?_
    rotate_left 2
    · (simp only [List.getElem?_toArray, List.getElem?_cons_succ, List.getElem?_cons_zero]; rfl)
    iterate 3 (· kernel_rfl)
    · rfl
    · (intro w hSw; go_simp; try with_reducible rfl)
    · exact fun _ _ _ h => h
    simp only [Act.put, List.setIfInBounds_toArray, List.set_cons_zero, List.set_cons_succ]
    refine wpAnyH_done (by kernel_rfl) ?_ _
    go_wp2
    go_ret
    exact ⟨rfl, BD.out⟩
  · rw [g1, g3, fn0, sn0, in0]
    have t1 : decide ((1 : Int) < (A : Int) + (B : Int)) = true := decide_eq_true (by omega)
    have t1n : decide (1 < A + B) = true := decide_eq_true (by omega)
    have t2n : decide (A + B ≤ 1) = false := decide_eq_false (by omega)
    have t2 : decide ((A : Int) + (B : Int) ≤ 1) = false := decide_eq_false (by omega)
    clear g1 g2 g3 fn0 sn0 in0 HC D1 E2 wb1 wb2 wl hs0 hlt hne
    go_wp2_with fail
    go_quiet (fail)
    all_goals
      go_wp2
      go_ret
      exact ⟨rfl, below_drewN BB.out _⟩
  · have fs : fstO (some (u, v)) = (u : Int) := rfl
    have ss : sndO (some (u, v)) = (v : Int) := rfl
    have is1 : (some (u, v) : Option (Nat × Nat)).isSome = true := rfl
    rw [g1, g3, fs, ss, is1]
    rw [g5] at E2
    have E3 := Lib.hid (HC.out u ((v : Int) + A - u) ((Q : Int) - 1))
    have E4 := Lib.hid (HC.out ((A : Int) - u) ((B : Int) - v + u) ((Q : Int) - 1))
    rw [g7] at E3
    rw [g8] at E4
    have t1 : decide ((1 : Int) < (A : Int) + (B : Int)) = true := decide_eq_true (by omega)
    have t1n : decide (1 < A + B) = true := decide_eq_true (by omega)
    have t2n : decide (A + B ≤ 1) = false := decide_eq_false (by omega)
    have t2 : decide ((A : Int) + (B : Int) ≤ 1) = false := decide_eq_false (by omega)
    have hpow := pow7 Q q0 q1
    have hQt : ((Q : Nat) : Int).toNat = Q := Int.toNat_natCast Q
    have hw : IntKind.i64.wrap ((2 : Int) ^ Q) = 2 ^ Q := by rw [IntKind.wrap_i64]; omega
    have t3 : decide ((2 : Int) ^ Q < W2 + W3) = false := decide_eq_false (by omega)
    have t4n : decide (u ≤ A) = true := decide_eq_true gu
    have t5n : decide (v ≤ B) = true := decide_eq_true gv
    have t4 : decide ((u : Int) ≤ (A : Int)) = true := decide_eq_true (by omega)
    have t5 : decide ((v : Int) ≤ (B : Int)) = true := decide_eq_true (by omega)
    have t6 : decide ((0 : Int) ≤ (u : Int)) = true := decide_eq_true (by omega)
    have t7 : decide ((0 : Int) ≤ (v : Int)) = true := decide_eq_true (by omega)
    clear g1 g2 g3 g4 g5 g7 g8 fn0 sn0 in0 fs ss is1 HC wb1 wb2 wl hs0 hlt hne hpow
    go_wp2_with fail
    refine wp_region_held_drew (S := (fun w' => wB.heap.size ≤ w'.heap.size)) (by kernel_rfl) (Nat.le_refl _) (fun hS => ?_)
    refine takeYes (i := 0) (oi := ?_) (v := ?_) ?_ ?_ ?_ ?_ ?_ ?_ ?_ hS ?_
    rotate_left 2
    · (simp only [List.getElem?_toArray, List.getElem?_cons_zero]; rfl)
    iterate 3 (· kernel_rfl)
    · rfl
    · (intro w hSw; go_simp; try with_reducible rfl)
    · exact fun _ _ _ h => h
    simp only [Act.put, List.setIfInBounds_toArray, List.set_cons_zero, List.set_cons_succ]
    refine takeYes (i := 1) (oi := ?_) (v := ?_) ?_ ?_ ?_ ?_ ?_ ?_ ?_ hS ?_
    rotate_left 2
    · (simp only [List.getElem?_toArray, List.getElem?_cons_succ, List.getElem?_cons_zero]; rfl)
    iterate 3 (· kernel_rfl)
    · rfl
    · (intro w hSw; go_simp; try with_reducible rfl)
    · exact fun _ _ _ h => h
    simp only [Act.put, List.setIfInBounds_toArray, List.set_cons_zero, List.set_cons_succ]
    refine takeYes (i := 2) (oi := ?_) (v := ?_) ?_ ?_ ?_ ?_ ?_ ?_ ?_ hS ?_
    rotate_left 2
    · (simp only [List.getElem?_toArray, List.getElem?_cons_succ, List.getElem?_cons_zero]; rfl)
    iterate 3 (· kernel_rfl)
    · rfl
    · (intro w hSw; go_simp; try with_reducible rfl)
    · exact fun _ _ _ h => h
    simp only [Act.put, List.setIfInBounds_toArray, List.set_cons_zero, List.set_cons_succ]
    refine takeYes (i := 3) (oi := ?_) (v := ?_) ?_ ?_ ?_ ?_ ?_ ?_ ?_ hS ?_
    rotate_left 2
    · (simp only [List.getElem?_toArray, List.getElem?_cons_succ, List.getElem?_cons_zero]; rfl)
    iterate 3 (· kernel_rfl)
    · rfl
    · (intro w hSw; go_simp; try with_reducible rfl)
    · exact fun _ _ _ h => h
    simp only [Act.put, List.setIfInBounds_toArray, List.set_cons_zero, List.set_cons_succ]
    refine takeYes (i := 4) (oi := ?_) (v := ?_) ?_ ?_ ?_ ?_ ?_ ?_ ?_ hS ?_
    rotate_left 2
    · (simp only [List.getElem?_toArray, List.getElem?_cons_succ, List.getElem?_cons_zero]; rfl)
    iterate 3 (· kernel_rfl)
    · rfl
    · (intro w hSw; go_simp; try with_reducible rfl)
    · exact fun _ _ _ h => h
    simp only [Act.put, List.setIfInBounds_toArray, List.set_cons_zero, List.set_cons_succ]
    refine takeYes (i := 5) (oi := ?_) (v := ?_) ?_ ?_ ?_ ?_ ?_ ?_ ?_ hS ?_
    rotate_left 2
    · (simp only [List.getElem?_toArray, List.getElem?_cons_succ, List.getElem?_cons_zero]; rfl)
    iterate 3 (· kernel_rfl)
    · rfl
    · (intro w hSw; go_simp; try with_reducible rfl)
    · exact fun _ _ _ h => h
    simp only [Act.put, List.setIfInBounds_toArray, List.set_cons_zero, List.set_cons_succ]
    refine takeYes (i := 6) (oi := ?_) (v := ?_) ?_ ?_ ?_ ?_ ?_ ?_ ?_ hS ?_
    rotate_left 2
    · (simp only [List.getElem?_toArray, List.getElem?_cons_succ, List.getElem?_cons_zero]; rfl)
    iterate 3 (· kernel_rfl)
    · rfl
    · (intro w hSw; go_simp; try with_reducible rfl)
    · exact fun _ _ _ h => h
    simp only [Act.put, List.setIfInBounds_toArray, List.set_cons_zero, List.set_cons_succ]
    refine takeYes (i := 7) (oi := ?_) (v := ?_) ?_ ?_ ?_ ?_ ?_ ?_ ?_ hS ?_
    rotate_left 2
    · (simp only [List.getElem?_toArray, List.getElem?_cons_succ, List.getElem?_cons_zero]; rfl)
    iterate 3 (· kernel_rfl)
    · rfl
    · (intro w hSw; go_simp; try with_reducible rfl)
    · exact fun _ _ _ h => h
    simp only [Act.put, List.setIfInBounds_toArray, List.set_cons_zero, List.set_cons_succ]
    refine takeYes (i := 8) (oi := ?_) (v := ?_) ?_ ?_ ?_ ?_ ?_ ?_ ?_ hS ?_
    rotate_left 2
    · (simp only [List.getElem?_toArray, List.getElem?_cons_succ, List.getElem?_cons_zero]; rfl)
    iterate 3 (· kernel_rfl)
    · rfl
    · (intro w hSw; go_simp; try with_reducible rfl)
    · exact fun _ _ _ h => h
    simp only [Act.put, List.setIfInBounds_toArray, List.set_cons_zero, List.set_cons_succ]
    refine takeYes (i := 9) (oi := ?_) (v := ?_) ?_ ?_ ?_ ?_ ?_ ?_ ?_ hS ?_
    rotate_left 2
    · (simp only [List.getElem?_toArray, List.getElem?_cons_succ, List.getElem?_cons_zero]; rfl)
    iterate 3 (· kernel_rfl)
    · rfl
    · (intro w hSw; go_simp; try with_reducible rfl)
    · exact fun _ _ _ h => h
    simp only [Act.put, List.setIfInBounds_toArray, List.set_cons_zero, List.set_cons_succ]
    refine takeYes (i := 10) (oi := ?_) (v := ?_) ?_ ?_ ?_ ?_ ?_ ?_ ?_ hS ?_
    rotate_left 2
    · (simp only [List.getElem?_toArray, List.getElem?_cons_succ, List.getElem?_cons_zero]; rfl)
    iterate 3 (· kernel_rfl)
    · rfl
    · (intro w hSw; go_simp; try with_reducible rfl)
    · exact fun _ _ _ h => h
    simp only [Act.put, List.setIfInBounds_toArray, List.set_cons_zero, List.set_cons_succ]
    refine takeYes (i := 12) (oi := ?_) (v := ?_) ?_ ?_ ?_ ?_ ?_ ?_ ?_ hS ?_
    rotate_left 2
    · (simp only [List.getElem?_toArray, List.getElem?_cons_succ, List.getElem?_cons_zero]; rfl)
    iterate 3 (· kernel_rfl)
    · rfl
    · (intro w hSw; go_simp; try with_reducible rfl)
    · exact fun _ _ _ h => h
    simp only [Act.put, List.setIfInBounds_toArray, List.set_cons_zero, List.set_cons_succ]
    refine takeYes (i := 13) (oi := ?_) (v := ?_) ?_ ?_ ?_ ?_ ?_ ?_ ?_ hS ?_
    rotate_left 2
    · (simp only [List.getElem?_toArray, List.getElem?_cons_succ, List.getElem?_cons_zero]; rfl)
    iterate 3 (· kernel_rfl)
    · rfl
    · (intro w hSw; go_simp; try with_reducible rfl)
    · exact fun _ _ _ h => h
    simp only [Act.put, List.setIfInBounds_toArray, List.set_cons_zero, List.set_cons_succ]
    refine wpAnyH_ready (rs := [11]) (by kernel_rfl) (by simp) ?_
    refine AllReadyH.cons (o := ?_) ?_ (fun K hK => ?_) AllReadyH.nil
    rotate_left 1
    · (simp only [List.getElem?_toArray, List.getElem?_cons_succ, List.getElem?_cons_zero]; rfl)
    go_simp
    refine (D1.out _).mono ?_
    rintro e wC ⟨rfl, rfl⟩
    refine hK.out _ _ (Nat.le_refl _) (fun hS => ?_)
    clear hK K
    try simp only [Act.put, List.setIfInBounds_toArray, List.set_cons_zero, List.set_cons_succ]
    refine takeYes (i := 14) (oi := ?_) (v := ?_) ?_ ?_ ?_ ?_ ?_ ?_ ?_ hS ?_
    rotate_left 2
    · (simp only [List.getElem?_toArray, List.getElem?_cons_succ, List.getElem?_cons_zero]; rfl)
    iterate 3 (· kernel_rfl)
    · rfl
    · (intro w hSw; go_simp; try with_reducible rfl)
    · exact fun _ _ _ h => h
    simp only [Act.put, List.setIfInBounds_toArray, List.set_cons_zero, List.set_cons_succ]
    refine takeYes (i := 15) (oi := ?_) (v := ?_) ?_ ?_ ?_ ?_ ?_ ?_ ?_ hS ?_
    rotate_left 2
    · (simp only [List.getElem?_toArray, List.getElem?_cons_succ, List.getElem?_cons_zero]; rfl)
    iterate 3 (· kernel_rfl)
    · rfl
    · (intro w hSw; go_simp; try with_reducible rfl)
    · exact fun _ _ _ h => h
    simp only [Act.put, List.setIfInBounds_toArray, List.set_cons_zero, List.set_cons_succ]
    refine takeYes (i := 16) (oi := ?_) (v := ?_) ?_ ?_ ?_ ?_ ?_ ?_ ?_ hS ?_
    rotate_left 2
    · (simp only [List.getElem?_toArray, List.getElem?_cons_succ, List.getElem?_cons_zero]; rfl)
    iterate 3 (· kernel_rfl)
    · rfl
    · (intro w hSw; go_simp; try with_reducible rfl)
    · exact fun _ _ _ h => h
    simp only [Act.put, List.setIfInBounds_toArray, List.set_cons_zero, List.set_cons_succ]
    refine takeYes (i := 17) (oi := ?_) (v := ?_) ?_ ?_ ?_ ?_ ?_ ?_ ?_ hS ?_
    rotate_left 2
    · (simp only [List.getElem?_toArray, List.getElem?_cons_succ, List.getElem?_cons_zero]; rfl)
    iterate 3 (· kernel_rfl)
    · rfl
    · (intro w hSw; go_simp; try with_reducible rfl)
    · exact fun _ _ _ h => h
    simp only [Act.put, List.setIfInBounds_toArray, List.set_cons_zero, List.set_cons_succ]
    refine takeYes (i := 18) (oi := ?_) (v := ?_) ?_ ?_ ?_ ?_ ?_ ?_ ?_ hS ?_
    rotate_left 2
    · (simp only [List.getElem?_toArray, List.getElem?_cons_succ, List.getElem?_cons_zero]; rfl)
    iterate 3 (· kernel_rfl)
    · rfl
    · (intro w hSw; go_simp; try with_reducible rfl)
    · exact fun _ _ _ h => h
    simp only [Act.put, List.setIfInBounds_toArray, List.set_cons_zero, List.set_cons_succ]
    refine takeYes (i := 19) (oi := ?_) (v := ?_) ?_ ?_ ?_ ?_ ?_ ?_ ?_ hS ?_
    rotate_left 2
    · (simp only [List.getElem?_toArray, List.getElem?_cons_succ, List.getElem?_cons_zero]; rfl)
    iterate 3 (· kernel_rfl)
    · rfl
    · (intro w hSw; go_simp; try with_reducible rfl)
    · exact fun _ _ _ h => h
    simp only [Act.put, List.setIfInBounds_toArray, List.set_cons_zero, List.set_cons_succ]
    refine takeYes (i := 20) (oi := ?_) (v := ?_) ?_ ?_ ?_ ?_ ?_ ?_ ?_ hS ?_
    rotate_left 2
    · (simp only [List.getElem?_toArray, List.getElem?_cons_succ, List.getElem?_cons_zero]; rfl)
    iterate 3 (· kernel_rfl)
    · rfl
    · (intro w hSw; go_simp; try with_reducible rfl)
    · exact fun _ _ _ h => h
    simp only [Act.put, List.setIfInBounds_toArray, List.set_cons_zero, List.set_cons_succ]
    refine takeYes (i := 21) (oi := ?_) (v := ?_) ?_ ?_ ?_ ?_ ?_ ?_ ?_ hS ?_
    rotate_left 2
    · (simp only [List.getElem?_toArray, List.getElem?_cons_succ, List.getElem?_cons_zero]; rfl)
    iterate 3 (· kernel_rfl)
    · rfl
    · (intro w hSw; go_simp; try with_reducible rfl)
    · exact fun _ _ _ h => h
    simp only [Act.put, List.setIfInBounds_toArray, List.set_cons_zero, List.set_cons_succ]
    refine takeYes (i := 22) (oi := ?_) (v := ?_) ?_ ?_ ?_ ?_ ?_ ?_ ?_ hS ?_
    rotate_left 2
    · (simp only [List.getElem?_toArray, List.getElem?_cons_succ, List.getElem?_cons_zero]; rfl)
    iterate 3 (· kernel_rfl)
    · rfl
    · (intro w hSw; go_simp; try with_reducible rfl)
    · exact fun _ _ _ h => h
    simp only [Act.put, List.setIfInBounds_toArray, List.set_cons_zero, List.set_cons_succ]
    refine wpAnyH_ready (rs := [23]) (by kernel_rfl) (by simp) ?_
    refine AllReadyH.cons (o := ?_) ?_ (fun K hK => ?_) AllReadyH.nil
    rotate_left 1
    · (simp only [List.getElem?_toArray, List.getElem?_cons_succ, List.getElem?_cons_zero]; rfl)
    go_simp
    refine (E2.out _).mono ?_
    rintro e wD ⟨rfl, bb⟩
    have BD := Lib.hid (below_up (below_up BB.out (Below.refl wB.heap.size wB).drew) bb)
    have SD : Hid (wB.heap.size ≤ wD.heap.size) := bb.size
    clear bb
    refine hK.out _ _ SD.out (fun hS => ?_)
    clear hK K
    try simp only [Act.put, List.setIfInBounds_toArray, List.set_cons_zero, List.set_cons_succ]
    refine takeYes (i := 24) (oi := ?_) (v := ?_) ?_ ?_ ?_ ?_ ?_ ?_ ?_ hS ?_
    rotate_left 2
    · (simp only [List.getElem?_toArray, List.getElem?_cons_succ, List.getElem?_cons_zero]; rfl)
    iterate 3 (· kernel_rfl)
    · rfl
    · (intro w hSw; go_simp; try with_reducible rfl)
    · exact fun _ _ _ h => h
    simp only [Act.put, List.setIfInBounds_toArray, List.set_cons_zero, List.set_cons_succ]
    refine takeYes (i := 25) (oi := ?_) (v := ?_) ?_ ?_ ?_ ?_ ?_ ?_ ?_ hS ?_
    rotate_left 2
    · (simp only [List.getElem?_toArray, List.getElem?_cons_succ, List.getElem?_cons_zero]; rfl)
    iterate 3 (· kernel_rfl)
    · rfl
    · (intro w hSw; go_simp; try with_reducible rfl)
    · exact fun _ _ _ h => h
    simp only [Act.put, List.setIfInBounds_toArray, List.set_cons_zero, List.set_cons_succ]
    refine takeYes (i := 26) (oi := ?_) (v := ?_) ?_ ?_ ?_ ?_ ?_ ?_ ?_ hS ?_
    rotate_left 2
    · (simp only [List.getElem?_toArray, List.getElem?_cons_succ, List.getElem?_cons_zero]; rfl)
    iterate 3 (· kernel_rfl)
    · rfl
    · (intro w hSw; go_simp; try with_reducible rfl)
    · exact fun _ _ _ h => h
    simp only [Act.put, List.setIfInBounds_toArray, List.set_cons_zero, List.set_cons_succ]
    refine takeYes (i := 27) (oi := ?_) (v := ?_) ?_ ?_ ?_ ?_ ?_ ?_ ?_ hS ?_
    rotate_left 2
    · (simp only [List.getElem?_toArray, List.getElem?_cons_succ, List.getElem?_cons_zero]; rfl)
    iterate 3 (· kernel_rfl)
    · rfl
    · (intro w hSw; go_simp; try with_reducible rfl)
    · exact fun _ _ _ h => h
    simp only [Act.put, List.setIfInBounds_toArray, List.set_cons_zero, List.set_cons_succ]
    refine takeYes (i := 28) (oi := ?_) (v := ?_) ?_ ?_ ?_ ?_ ?_ ?_ ?_ hS ?_
    rotate_left 2
    · (simp only [List.getElem?_toArray, List.getElem?_cons_succ, List.getElem?_cons_zero]; rfl)
    iterate 3 (· kernel_rfl)
    · rfl
    · (intro w hSw; go_simp; try with_reducible rfl)
    · exact fun _ _ _ h => h
    simp only [Act.put, List.setIfInBounds_toArray, List.set_cons_zero, List.set_cons_succ]
    refine takeYes (i := 29) (oi := ?_) (v := ?_) ?_ ?_ ?_ ?_ ?_ ?_ ?_ hS ?_
    rotate_left 2
    · (simp only [List.getElem?_toArray, List.getElem?_cons_succ, List.getElem?_cons_zero]; rfl)
    iterate 3 (· kernel_rfl)
    · rfl
    · (intro w hSw; go_simp; try with_reducible rfl)
    · exact fun _ _ _ h => h
    simp only [Act.put, List.setIfInBounds_toArray, List.set_cons_zero, List.set_cons_succ]
    refine takeYes (i := 30) (oi := ?_) (v := ?_) ?_ ?_ ?_ ?_ ?_ ?_ ?_ hS ?_
    rotate_left 2
    · (simp only [List.getElem?_toArray, List.getElem?_cons_succ, List.getElem?_cons_zero]; rfl)
    iterate 3 (· kernel_rfl)
    · rfl
    · (intro w hSw; go_simp; try with_reducible rfl)
    · exact fun _ _ _ h => h
    simp only [Act.put, List.setIfInBounds_toArray, List.set_cons_zero, List.set_cons_succ]
    refine takeYes (i := 31) (oi := ?_) (v := ?_) ?_ ?_ ?_ ?_ ?_ ?_ ?_ hS ?_
    rotate_left 2
    · (simp only [List.getElem?_toArray, List.getElem?_cons_succ, List.getElem?_cons_zero]; rfl)
    iterate 3 (· kernel_rfl)
    · rfl
    · (intro w hSw; go_simp; try with_reducible rfl)
    · exact fun _ _ _ h => h
    simp only [Act.put, List.setIfInBounds_toArray, List.set_cons_zero, List.set_cons_succ]
    refine takeYes (i := 32) (oi := ?_) (v := ?_) ?_ ?_ ?_ ?_ ?_ ?_ ?_ hS ?_
    rotate_left 2
    · (simp only [List.getElem?_toArray, List.getElem?_cons_succ, List.getElem?_cons_zero]; rfl)
    iterate 3 (· kernel_rfl)
    · rfl
    · (intro w hSw; go_simp; try with_reducible rfl)
    · exact fun _ _ _ h => h
    simp only [Act.put, List.setIfInBounds_toArray, List.set_cons_zero, List.set_cons_succ]
    refine takeNo (i := 33) (oi := ?_) ?_ ?_ ?_ ?_ ?_ ?_ hS ?_
    rotate_left 1
    · (simp only [List.getElem?_toArray, List.getElem?_cons_succ, List.getElem?_cons_zero]; rfl)
    iterate 3 (· kernel_rfl)
    · rfl
    · exact fun _ _ _ h => h
    simp only [Act.put, List.setIfInBounds_toArray, List.set_cons_zero, List.set_cons_succ]
    refine takeNo (i := 34) (oi := ?_) ?_ ?_ ?_ ?_ ?_ ?_ hS ?_
    rotate_left 1
    · (simp only [List.getElem?_toArray, List.getElem?_cons_succ, List.getElem?_cons_zero]; rfl)
    iterate 3 (· kernel_rfl)
    · rfl
    · exact fun _ _ _ h => h
    simp only [Act.put, List.setIfInBounds_toArray, List.set_cons_zero, List.set_cons_succ]
    refine takeYes (i := 35) (oi := ?_) (v := ?_) ?_ ?_ ?_ ?_ ?_ ?_ ?_ hS ?_
    rotate_left 2
    · (simp only [List.getElem?_toArray, List.getElem?_cons_succ, List.getElem?_cons_zero]; rfl)
    iterate 3 (· kernel_rfl)
    · rfl
    · (intro w hSw; go_simp; try with_reducible rfl)
    · exact fun _ _ _ h => h
    simp only [Act.put, List.setIfInBounds_toArray, List.set_cons_zero, List.set_cons_succ]
    refine takeYes (i := 36) (oi := ?_) (v := ?_) ?_ ?_ ?_ ?_ ?_ ?_ ?_ hS ?_
    rotate_left 2
    · (simp only [List.getElem?_toArray, List.getElem?_cons_succ, List.getElem?_cons_zero]; rfl)
    iterate 3 (· kernel_rfl)
    · rfl
    · (intro w hSw; go_simp; try with_reducible rfl)
    · exact fun _ _ _ h => h
    simp only [Act.put, List.setIfInBounds_toArray, List.set_cons_zero, List.set_cons_succ]
    refine takeYes (i := 37) (oi := ?_) (v := ?_) ?_ ?_ ?_ ?_ ?_ ?_ ?_ hS ?_
    rotate_left 2
    · (simp only [List.getElem?_toArray, List.getElem?_cons_succ, List.getElem?_cons_zero]; rfl)
    iterate 3 (· kernel_rfl)
    · rfl
    · (intro w hSw; go_simp; try with_reducible rfl)
    · exact fun _ _ _ h => h
    simp only [Act.put, List.setIfInBounds_toArray, List.set_cons_zero, List.set_cons_succ]
    refine takeYes (i := 38) (oi := ?_) (v := ?_) ?_ ?_ ?_ ?_ ?_ ?_ ?_ hS ?_
    rotate_left 2
    · (simp only [List.getElem?_toArray, List.getElem?_cons_succ, List.getElem?_cons_zero]; rfl)
    iterate 3 (· kernel_rfl)
    · rfl
    · (intro w hSw; go_simp; try with_reducible rfl)
    · exact fun _ _ _ h => h
    simp only [Act.put, List.setIfInBounds_toArray, List.set_cons_zero, List.set_cons_succ]
    refine takeYes (i := 39) (oi := ?_) (v := ?_) ?_ ?_ ?_ ?_ ?_ ?_ ?_ hS ?_
    rotate_left 2
    · (simp only [List.getElem?_toArray, List.getElem?_cons_succ, List.getElem?_cons_zero]; rfl)
    iterate 3 (· kernel_rfl)
    · rfl
    · (intro w hSw; go_simp; try with_reducible rfl)
    · exact fun _ _ _ h => h
    simp only [Act.put, List.setIfInBounds_toArray, List.set_cons_zero, List.set_cons_succ]
    refine takeYes (i := 40) (oi := ?_) (v := ?_) ?_ ?_ ?_ ?_ ?_ ?_ ?_ hS ?_
    rotate_left 2
    · (simp only [List.getElem?_toArray, List.getElem?_cons_succ, List.getElem?_cons_zero]; rfl)
    iterate 3 (· kernel_rfl)
    · rfl
    · (intro w hSw; go_simp; try with_reducible rfl)
    · exact fun _ _ _ h => h
    simp only [Act.put, List.setIfInBounds_toArray, List.set_cons_zero, List.set_cons_succ]
    refine takeYes (i := 41) (oi := ?_) (v := ?_) ?_ ?_ ?_ ?_ ?_ ?_ ?_ hS ?_
    rotate_left 2
    · (simp only [List.getElem?_toArray, List.getElem?_cons_succ, List.getElem?_cons_zero]; rfl)
    iterate 3 (· kernel_rfl)
    · rfl
    · (intro w hSw; go_simp; try with_reducible rfl)
    · exact fun _ _ _ h => h
    simp only [Act.put, List.setIfInBounds_toArray, List.set_cons_zero, List.set_cons_succ]
    refine takeYes (i := 42) (oi := ?_) (v := ?_) ?_ ?_ ?_ ?_ ?_ ?_ ?_ hS ?_
    rotate_left 2
    · (simp only [List.getElem?_toArray, List.getElem?_cons_succ, List.getElem?_cons_zero]; rfl)
    iterate 3 (· kernel_rfl)
    · rfl
    · (intro w hSw; go_simp; try with_reducible rfl)
    · exact fun _ _ _ h => h
    simp only [Act.put, List.setIfInBounds_toArray, List.set_cons_zero, List.set_cons_succ]
    refine takeYes (i := 43) (oi := ?_) (v := ?_) ?_ ?_ ?_ ?_ ?_ ?_ ?_ hS ?_
    rotate_left 2
    · (simp only [List.getElem?_toArray, List.getElem?_cons_succ, List.getElem?_cons_zero]; rfl)
    iterate 3 (· kernel_rfl)
    · rfl
    · (intro w hSw; go_simp; try with_reducible rfl)
    · exact fun _ _ _ h => h
    simp only [Act.put, List.setIfInBounds_toArray, List.set_cons_zero, List.set_cons_succ]
    refine takeYes (i := 44) (oi := ?_) (v := ?_) ?_ ?_ ?_ ?_ ?_ ?_ ?_ hS ?_
    rotate_left 2
    · (simp only [List.getElem?_toArray, List.getElem?_cons_succ, List.getElem?_cons_zero]; rfl)
    iterate 3 (· kernel_rfl)
    · rfl
    · (intro w hSw; go_simp; try with_reducible rfl)
    · exact fun _ _ _ h => h
    simp only [Act.put, List.setIfInBounds_toArray, List.set_cons_zero, List.set_cons_succ]
    refine takeYes (i := 45) (oi := ?_) (v := ?_) ?_ ?_ ?_ ?_ ?_ ?_ ?_ hS ?_
    rotate_left 2
    · (simp only [List.getElem?_toArray, List.getElem?_cons_succ, List.getElem?_cons_zero]; rfl)
    iterate 3 (· kernel_rfl)
    · rfl
    · (intro w hSw; go_simp; try with_reducible rfl)
    · exact fun _ _ _ h => h
    simp only [Act.put, List.setIfInBounds_toArray, List.set_cons_zero, List.set_cons_succ]
    refine takeYes (i := 46) (oi := ?_) (v := ?_) ?_ ?_ ?_ ?_ ?_ ?_ ?_ hS ?_
    rotate_left 2
    · (simp only [List.getElem?_toArray, List.getElem?_cons_succ, List.getElem?_cons_zero]; rfl)
    iterate 3 (· kernel_rfl)
    · rfl
    · (intro w hSw; go_simp; try with_reducible rfl)
    · exact fun _ _ _ h => h
    simp only [Act.put, List.setIfInBounds_toArray, List.set_cons_zero, List.set_cons_succ]
    refine takeYes (i := 47) (oi := ?_) (v := ?_) ?_ ?_ ?_ ?_ ?_ ?_ ?_ hS ?_
    rotate_left 2
    · (simp only [List.getElem?_toArray, List.getElem?_cons_succ, List.getElem?_cons_zero]; rfl)
    iterate 3 (· kernel_rfl)
    · rfl
    · (intro w hSw; go_simp; try with_reducible rfl)
    · exact fun _ _ _ h => h
    simp only [Act.put, List.setIfInBounds_toArray, List.set_cons_zero, List.set_cons_succ]
    refine wpAnyH_done (by kernel_rfl) ?_ _
    go_wp2_with fail
    refine (E3.out _).mono ?_
    rintro e wE ⟨rfl, bb⟩
    have BE := Lib.hid (below_up BD.out bb)
    clear bb
    go_wp2_with fail
    refine (E4.out _).mono ?_
    rintro e wF ⟨rfl, bb⟩
    have BF := Lib.hid (below_up BE.out bb)
    clear bb
    go_wp2
    go_ret
    exact ⟨rfl, BF.out⟩
end Go.Proofs.Ytnpmkoeceihepaa
