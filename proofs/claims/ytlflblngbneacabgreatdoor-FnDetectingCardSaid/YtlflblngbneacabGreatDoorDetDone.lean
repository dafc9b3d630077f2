/- The walk of FnDetecting, round the contracts of the program's FirstDetecting, ExtendDetecting, FewestSums, IsDetecting and PoolsLine. No other condition. -/
import Derived.Test.YtlflblngbneacabGreatDoorDetFacts
import Derived.Test.YtlflblngbneacabGreatDoorGSumL
import Derived.Test.YtlflblngbneacabGreatDoorGDraw
namespace Go.Proofs.YtlflblngbneacabGreatDoor
open Go.RowKit

set_option maxRecDepth 100000 in
set_option maxHeartbeats 16000000 in
theorem walkDetecting (w : World) (a : Option Addr) (len cap : Nat) (hB : BytesAt w a len)
    (IF : ∀ n : Int, FirstDetectingIs 24 n) (IX : ∀ (n : Int) (P : List Int), P.length ≤ 12 → ExtendDetectingIs 25 n P)
    (IW : ∀ n : Int, FewestSumsIs 26 n) (II : ∀ (n : Int) (P : List Int), P.length ≤ 13 → IsDetectingIs 27 n P)
    (IP : ∀ (n : Int) (P : List Int), P.length ≤ 12 → ∀ W, Below w.heap.size w W → ∀ v, IntsAt W v P → Calls Tryz.prog 28 #[.int .i64 n, v] W fun e w' => e = .returned (.string (poolsT n P)) ∧ Below W.heap.size W w') :
    Calls Tryz.prog 4 #[.slice a len cap] w fun e w' => e = .returned (.bool true) ∧ Below w.heap.size w w' := by
  by_cases hbig : (1048576 : Int) < (len : Int)
  · go_enter Tryz.func4, Tryz.ntmps4
    go_wp2
    go_ret
    exact ⟨rfl, Below.refl _ _⟩
  have hl : len ≤ 1048576 := by omega
  obtain ⟨i0, hi, hz0, hz1, hz2⟩ := info_parts infoIntA
  have C1 := Lib.hid (makeNum_any w w a len cap 1 hB (Below.refl _ _) hl (by omega) (by omega))
  have HF := Lib.hid IF
  have HX := Lib.hid IX
  have HW := Lib.hid IW
  have HI := Lib.hid II
  have HP := Lib.hid IP
  unfold FirstDetectingIs at HF
  unfold ExtendDetectingIs at HX
  unfold FewestSumsIs at HW
  unfold IsDetectingIs at HI
  clear hB IF IX IW II IP
  go_enter Tryz.func4, Tryz.ntmps4
  go_wp2_with fail
  refine C1.out.mono ?_
  rintro e w1 ⟨y, rfl, y0, y1, b1⟩
  have hy : 0 ≤ y % 4 ∧ y % 4 ≤ 3 := by omega
  have B1 := Lib.hid b1
  clear C1 hbig hl b1
  go_wp2_with fail
  generalize y % 4 = z at hy ⊢
  obtain ⟨n, hn⟩ : ∃ n, 1 + z = n := ⟨_, rfl⟩
  rw [hn]
  have n0 : 1 ≤ n := by omega
  have n1 : n ≤ 4 := by omega
  clear hn hy y0 y1
  obtain ⟨h1, h2, h3, h4, h5, h6, h7, h8, h9⟩ := det_facts n0 n1
  obtain ⟨q0, q1⟩ := det_num n
  have HT := Lib.hid (det_cell n0 n1)
  have hps := pools_some h9
  have CF := Lib.hid (HF.out n)
  have CX := Lib.hid (HX.out n (firstL n) (by omega))
  have CW := Lib.hid (HW.out n)
  have CI1 := Lib.hid (HI.out n (firstL n) (by omega))
  have CI2 := Lib.hid (HI.out (n + 1) (extL n (firstL n)) (by omega))
  have CI3 := Lib.hid (HI.out n ((firstL n).drop 1) (by rw [List.length_drop]; omega))
  have CP := Lib.hid (HP.out n (firstL n) (by omega))
  unfold GivesS at CF CX
  rw [h1] at CF
  rw [h2] at CX
  rw [h3] at CW
  rw [h5] at CI1
  rw [h6] at CI2
  rw [h8] at CI3
  generalize poolsT n (firstL n) = tx at CP hps
  generalize extL n (firstL n) = X at CX CI2 h7
  generalize firstL n = L at CF CX CI1 CI3 CP h4
  generalize detNum n = q at q0 q1 CW HT h4 h7
  clear HF HX HW HI HP h1 h2 h3 h5 h6 h8 h9
  refine (CF.out _).mono ?_
  rintro e w2 ⟨u, rfl, ou, bb⟩
  have U2 := ou.reads
  obtain ⟨g, gc, rfl, hcap⟩ : ∃ g c, u = .slice (some ⟨g, 0, none⟩) L.length c ∧ q ≤ c := by
    rcases ou.2 with ⟨h, h'⟩ | ⟨g, cap, cur, h, hB, hh, hn, hc, hs, ht⟩
    · omega
    · exact ⟨g, cap, h, by omega⟩
  rw [h4] at U2 ⊢
  replace U2 := Lib.hid U2
  have B2 := Lib.hid (below_up B1.out bb)
  clear ou bb B1 CF
  go_wp2_with fail
  refine (CX.out _ _ U2.out).mono ?_
  rintro e w3 ⟨u, rfl, ou, bb⟩
  have X3 := ou.reads
  obtain ⟨gb, gd, rfl, -⟩ := id X3
  rw [h7] at X3 ⊢
  replace X3 := Lib.hid X3
  have U3 := Lib.hid (U2.out.below bb)
  have B3 := Lib.hid (below_up B2.out bb)
  clear ou bb B2 U2 CX
  go_wp2_with fail
  refine (CW.out _).mono ?_
  rintro e w4 ⟨rfl, bb⟩
  have A5 := alloc_below w4 (.cells #[.int .i64 0, .int .i64 1, .int .i64 2, .int .i64 3, .int .i64 3] 3)
  have X5 := Lib.hid ((X3.out.below bb).below A5)
  have U5 := Lib.hid ((U3.out.below bb).below A5)
  have B5 := Lib.hid (below_up (below_up B3.out bb) A5)
  have e5 := HT.out w4 3
  generalize hX5 : w4.alloc (.cells #[.int .i64 0, .int .i64 1, .int .i64 2, .int .i64 3, .int .i64 3] 3) = Y5 at X5 U5 B5 e5
  clear bb A5 X3 U3 B3 HT CW
  have HL := Lib.hid h4
  clear h4 h7
  go_wp2_with fail
  refine (CI1.out _ _ U5.out).mono ?_
  rintro e w6 ⟨rfl, bb⟩
  have X6 := Lib.hid (X5.out.below bb)
  have U6 := Lib.hid (U5.out.below bb)
  have B6 := Lib.hid (below_up B5.out bb)
  clear bb X5 U5 B5 CI1 e5 hX5
  go_wp2_with fail
  refine (CI2.out _ _ X6.out).mono ?_
  rintro e w7 ⟨rfl, bb⟩
  have U7 := Lib.hid (U6.out.below bb)
  have B7 := Lib.hid (below_up B6.out bb)
  clear bb X6 U6 B6 CI2
  have HO : Hid ((w7.alloc (.cells #[] 3)).ownsRow w7.heap.size 3 1 (.slice (some ⟨w7.heap.size, 0, none⟩) 0 0) 0 []) :=
    World.ownsRow_lit (base := w7.heap.size) (e := 3) (size := 1) w7 #[] 0 (Nat.le_refl _) (by unfold maxLen; omega) rfl
  have A8 := Lib.hid (alloc_below w7 (.cells #[] 3))
  have hbase : w7.heap.size ≤ (w7.alloc (.cells #[] 3)).heap.size := A8.out.size
  have HC8 : Hid (∀ j u, ((L.drop 1).map (Value.int .i64))[j]? = some u → (w7.alloc (.cells #[] 3)).cell? ((⟨g, 1, none⟩ : Addr).add j) = some u) := fun j u hj => by
    rcases (U7.out.below A8.out) with ⟨_, _, e, h⟩
    injection e with e1 e2 e3
    rcases h with h | ⟨b, o, h, hc⟩
    · rw [h] at hj; simp at hj
    · rw [h] at e1
      injection e1 with e1
      injection e1 with e4 e5
      subst e4 e5
      rw [List.getElem?_map, List.getElem?_drop] at hj
      obtain ⟨x, hx, rfl⟩ := Option.map_eq_some_iff.1 hj
      obtain ⟨hlt, rfl⟩ := List.getElem?_eq_some_iff.1 hx
      have := hc (1 + j) hlt
      rw [Nat.zero_add] at this
      rw [Addr.add_lit]
      exact this
  have HN1 : Hid (((L.drop 1).map (Value.int .i64)).length = (q - 1) * 1) := by
    unfold Hid
    rw [List.length_map, List.length_drop, HL.out, Nat.mul_one]
  have HN2 : Hid (∀ u ∈ (L.drop 1).map (Value.int .i64), u.oneCell' = true) := fun u hu => by
    obtain ⟨x, -, rfl⟩ := List.mem_map.1 hu
    rfl
  generalize hX8 : w7.alloc (.cells #[] 3) = X8 at HO A8 hbase HC8
  by_cases hc1 : gc = 1
  · obtain rfl : q = 1 := by omega
    subst hc1
    have hnil : L.drop 1 = [] := List.drop_eq_nil_of_le (by rw [HL.out]; exact Nat.le_refl _)
    go_wp2_with (at_builtin; refine wpList_append_own_at _ rfl _ _ 26 rfl w7.heap.size 3 i0 (.int .i64 0) 1 8 Tryz.underlying26 hi hz0 hz1 hz2 rfl (by decide) (.slice (some ⟨w7.heap.size, 0, none⟩) 0 0) 0 [] rfl HO.out ⟨g, 0, none⟩ (0) (0) [] rfl (by simp) (by simp) (by simp) (by unfold maxLen; omega) (by omega) hbase ?_; intro v' w9 hown' hg1 _ _)
    have I9 : IntsAt w9 v' (L.drop 1) := by
      refine IntsAt.of_owns_n (B := w7.heap.size) (e := 3) (n := 0) ?_ (by rw [List.length_drop, HL.out])
      rw [hnil]; simpa using hown'
    obtain ⟨gv, cv, rfl, -⟩ := id I9
    replace I9 := Lib.hid I9
    have B9x : Below w7.heap.size w7 w9 := Below.grown A8.out hg1 hbase (fun j hj => by simp [Value.ownBlock] at hj; omega)
    have U9 := Lib.hid (U7.out.below B9x)
    have B9 := Lib.hid (below_up B7.out B9x)
    clear hown' hg1 B9x
    refine (CI3.out _ _ I9.out).mono ?_
    rintro e w10 ⟨rfl, bb⟩
    have U10 := Lib.hid (U9.out.below bb)
    have B10 := Lib.hid (below_up B9.out bb)
    clear bb U9 B9 I9
    go_wp2_with fail
    refine (CP.out _ B10.out _ U10.out).mono ?_
    rintro e w11 ⟨rfl, bb⟩
    have B11 := Lib.hid (below_up B10.out bb)
    clear bb U10 B10
    go_wp2
    go_ret
    exact ⟨rfl, B11.out⟩
  · have hq1 : 1 ≤ gc - 1 := by omega
    go_wp2_with (at_builtin; refine wpList_append_own_at _ rfl _ _ 26 rfl w7.heap.size 3 i0 (.int .i64 0) 1 8 Tryz.underlying26 hi hz0 hz1 hz2 rfl (by decide) (.slice (some ⟨w7.heap.size, 0, none⟩) 0 0) 0 [] rfl HO.out ⟨g, 1, none⟩ (q - 1) (gc - 1) ((L.drop 1).map (Value.int .i64)) rfl HN1.out HC8.out HN2.out (by unfold maxLen; omega) (by omega) hbase ?_; intro v' w9 hown' hg1 _ _)
    have I9 : IntsAt w9 v' (L.drop 1) := by
      refine IntsAt.of_owns_n (B := w7.heap.size) (e := 3) (n := 0 + (q - 1)) ?_ (by rw [List.length_drop, HL.out, Nat.zero_add])
      simpa using hown'
    obtain ⟨gv, cv, rfl, -⟩ := id I9
    replace I9 := Lib.hid I9
    have B9x : Below w7.heap.size w7 w9 := Below.grown A8.out hg1 hbase (fun j hj => by simp [Value.ownBlock] at hj; omega)
    have U9 := Lib.hid (U7.out.below B9x)
    have B9 := Lib.hid (below_up B7.out B9x)
    clear hown' hg1 B9x
    refine (CI3.out _ _ I9.out).mono ?_
    rintro e w10 ⟨rfl, bb⟩
    have U10 := Lib.hid (U9.out.below bb)
    have B10 := Lib.hid (below_up B9.out bb)
    clear bb U9 B9 I9
    go_wp2_with fail
    refine (CP.out _ B10.out _ U10.out).mono ?_
    rintro e w11 ⟨rfl, bb⟩
    have B11 := Lib.hid (below_up B10.out bb)
    clear bb U10 B10
    go_wp2
    go_ret
    exact ⟨rfl, B11.out⟩
end Go.Proofs.YtlflblngbneacabGreatDoor
