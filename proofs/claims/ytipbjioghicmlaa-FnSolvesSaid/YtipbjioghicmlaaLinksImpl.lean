/- The contract of the program's linksOk: it tells whether the links of a plan are valid. Conditions: the plan's slice reads as nodes, at most 60. -/
import Derived.Test.YtipbjioghicmlaaLinksPlain
import Derived.Test.YtipbjioghicmlaaPlanSpec
namespace Go.Proofs.Ytipbjioghicmlaa
open Go.RowKit

theorem infoBool : (Try.prog.info? 4).map (fun i => (i.zero, i.size, i.bytes)) = some (some (.bool false), 1, 1) := by kernel_rfl
/-- A row of truth values in block g that may be written. -/
def BoolsAt (w : World) (g n : Nat) (l : List Bool) : Prop := w.ownsRow g 4 1 (.slice (some ⟨g, 0, none⟩) n n) n (l.map Value.bool)

set_option maxRecDepth 100000 in
set_option maxHeartbeats 6400000 in
theorem implLinksOk (v : Value) (P : List ND) (r : Bool) (w : World) (h : NodesAt w v P) (hm : P.length ≤ 60) (hr : r = true ↔ LinkP P) :
    Calls Try.prog 55 #[v] w fun e w' => e = .returned (.bool r) ∧ Below w.heap.size w w' := by
  obtain ⟨i0, hi, hz0, hz1, hz2⟩ := info_parts infoBool
  obtain ⟨a, c, rfl, h⟩ := h
  have H := Lib.hid h
  have HE := Lib.hid hr
  clear h hr
  obtain ⟨n, hn⟩ : ∃ n, P.length = n := ⟨_, rfl⟩
  rw [hn] at hm ⊢
  have HN := Lib.hid hn
  have HS := Lib.hid (inv_start P)
  clear hn
  go_enter Try.func55, Try.ntmps55
  go_wp2_with (at_make; refine wpList_make_full _ rfl _ _ 106 rfl w.heap.size 4 i0 (.bool false) 1 Try.underlying106 hi hz0 hz1 .i64 .i64 _ _ n rfl rfl rfl rfl (by rw [hz2]; omega) (by unfold maxLen; omega) (Nat.le_refl _) ?_; intro w1 hown hg)
  have hb := Below.grown (Below.refl w.heap.size w) hg (Nat.le_refl _) (by intro k hk; cases hk)
  have HO : Hid (BoolsAt w1 w.heap.size n (entRow n ((linksOf P).take (3 * 0)))) := by
    have : (madeCells (Value.bool false).cells (n * 1)).toList = (entRow n ((linksOf P).take (3 * 0))).map Value.bool := by
      rw [show (linksOf P).take (3 * 0) = [] by simp, entRow_start]
      simp [madeCells, Value.cells, Nat.mod_one]
      exact List.ext_getElem (by simp) (fun i h1 h2 => by simp)
    unfold Hid BoolsAt
    rw [← this]
    exact hown
  clear hown hg
  go_wp2
  go_loopw [4, 5, 7, 13] (fun _ _ _ i wr => ∃ k : Nat, k ≤ n ∧ i = .int .i64 k ∧ Hid (LinkInv P (3 * k)) ∧ Hid (∀ j : Nat, 0 < j → j < k → (j : Int) ∈ (linksOf P).take (3 * j)) ∧ Hid (BoolsAt wr w.heap.size n (entRow n ((linksOf P).take (3 * k)))) ∧ Below w.heap.size w wr) (fun _ _ _ i _ => n - (intOf i).toNat)
  case atStart => exact ⟨0, Nat.zero_le _, rfl, HS, fun j _ _ => by omega, HO, hb⟩
  case round =>
    clear HS HO hb
    obtain ⟨k, hk, rfl, HI, HC, HO, hb⟩ := hrel
    have HB := Lib.hid hb
    clear hb
    by_cases hlt : k < n
    · have hkl : k < P.length := by rw [HN.out]; exact hlt
      obtain ⟨b, o, vl, vr, rfl, h5, hL, hR⟩ := H.out k hkl
      have HA : Hid (∀ j (hj : j < 3), (linksOf P)[3 * k + j]? = some ([P[k].a, P[k].b, P[k].c][j])) := fun j hj => links_at hkl hj
      obtain ⟨d, hx⟩ : ∃ d, P[k] = d := ⟨_, rfl⟩
      rw [hx] at h5 hL hR HA
      obtain ⟨al, nl, cl, rfl⟩ := hL.form
      obtain ⟨ar, nr, cr, rfl⟩ := hR.form
      have F1 := Lib.hid (h5.below HB.out)
      have hrow : w.heap.size < wr.heap.size := (HO.out.lt w.heap.size rfl).2
      have i0' : (0 : Int) ≤ (k : Int) := by omega
      have i1 : (k : Int) < (n : Int) := by omega
      clear h5 hL hR hx hkl
      have P3 := Lib.hid (Five.new wr 39 (.slice al nl cl) (.slice ar nr cr) d.a d.b d.c)
      have B3 := Lib.hid (alloc_below wr (.cells #[.slice al nl cl, .slice ar nr cr, .int .i64 d.a, .int .i64 d.b, .int .i64 d.c] 39))
      have R3 : Hid (BoolsAt (wr.alloc (.cells #[.slice al nl cl, .slice ar nr cr, .int .i64 d.a, .int .i64 d.b, .int .i64 d.c] 39)) w.heap.size n (entRow n ((linksOf P).take (3 * k)))) := owns_below HO.out B3.out
      generalize hX3 : wr.alloc (.cells #[.slice al nl cl, .slice ar nr cr, .int .i64 d.a, .int .i64 d.b, .int .i64 d.c] 39) = X3 at P3 B3 R3
      have hs3 : w.heap.size < X3.heap.size := (R3.out.lt w.heap.size rfl).2
      have hkr : k < (entRow n ((linksOf P).take (3 * k))).length := by rw [entRow_length]; omega
      have e5 : X3.cell? ⟨w.heap.size, k, none⟩ = some (.bool (decide ((k : Int) ∈ (linksOf P).take (3 * k)))) := by
        have := R3.out
        unfold BoolsAt at this
        rw [this.cellAt k (by omega), List.getElem?_map, List.getElem?_eq_getElem hkr, entRow_at]; rfl
      have BX3 := Lib.hid (below_up HB.out B3.out)
      have T5 := Lib.hid (TripAt.new X3 3 d.a d.b d.c)
      have B5 := Lib.hid (alloc_below X3 (.cells #[.int .i64 d.a, .int .i64 d.b, .int .i64 d.c] 3))
      have R5 : Hid (BoolsAt (X3.alloc (.cells #[.int .i64 d.a, .int .i64 d.b, .int .i64 d.c] 3)) w.heap.size n (entRow n ((linksOf P).take (3 * k)))) := owns_below R3.out B5.out
      generalize hX5 : X3.alloc (.cells #[.int .i64 d.a, .int .i64 d.b, .int .i64 d.c] 3) = X5 at T5 B5 R5
      have BX := Lib.hid (below_up BX3.out B5.out)
      obtain ⟨e0, e1, e2, e3, e4, -⟩ := F1.out
      obtain ⟨f0, f1, f2, f3, f4, -⟩ := P3.out
      obtain ⟨t, ht⟩ : ∃ t, (decide (k = 0) || decide ((k : Int) ∈ (linksOf P).take (3 * k))) = t := ⟨_, rfl⟩
      cases t with
      | false =>
        rw [Bool.or_eq_false_iff, decide_eq_false_iff_not] at ht
        obtain ⟨k0, ht⟩ := ht
        have HF : Hid (r = false) := by
          unfold Hid
          rw [Bool.eq_false_iff]
          intro hrt
          exact bad_early (P := P) (k := k) (by omega) (by rw [HN.out]; exact hlt) (of_decide_eq_false ht) (HE.out.1 hrt)
        rw [ht] at e5
        have kp : (0 : Int) < (k : Int) := by omega
        clear ht k0 hX5 T5 B5 R5 BX hkr
        go_wp2
        go_ret
        exact ⟨ret_bool HF.out.symm, BX3.out⟩
      | true =>
        have HC2 : Hid (∀ j : Nat, 0 < j → j < k + 1 → (j : Int) ∈ (linksOf P).take (3 * j)) := by
          intro j j0 j1
          by_cases e : j = k
          · subst e
            rw [Bool.or_eq_true, decide_eq_true_iff, decide_eq_true_iff] at ht
            rcases ht with h | h
            · omega
            · exact h
          · exact HC.out j j0 (by omega)
        have HAD : (k = 0 ∧ ¬ (0 : Int) < (k : Int)) ∨ ((0 : Int) < (k : Int) ∧ X3.cell? ⟨w.heap.size, k, none⟩ = some (.bool true)) := by
          by_cases k0 : k = 0
          · exact .inl ⟨k0, by omega⟩
          · refine .inr ⟨by omega, ?_⟩
            rw [decide_eq_false k0, Bool.false_or] at ht
            rw [e5, ht]
        have HH := Lib.hid HAD
        clear ht e5 HAD hkr HC
        rcases HH.out with ⟨-, kn⟩ | ⟨kn, e5⟩
        all_goals
          clear HH
          go_wp2
          clear f0 f1 f2 f3 f4 hX5 hX3 e0 e1 e2 e3 e4
          go_loopw [7, 35] (fun _ jv ws => ∃ j : Nat, j ≤ 3 ∧ jv = .int .i64 j ∧ Hid (LinkInv P (3 * k + j)) ∧ Hid (BoolsAt ws w.heap.size n (entRow n ((linksOf P).take (3 * k + j)))) ∧ Hid (TripAt ws X3.heap.size d.a d.b d.c) ∧ Below w.heap.size w ws) (fun _ jv _ => 3 - (intOf jv).toNat)
          case atStart => exact ⟨0, by omega, rfl, HI, R5, T5, BX.out⟩
          case round =>
            clear HI R5 T5 BX
            obtain ⟨j, hj, rfl, HI, HO5, HT5, hb5⟩ := hrel
            have HB5 := Lib.hid hb5
            clear hb5
            by_cases hj3 : j < 3
            · have e0 := HT5.out.1 j hj3
              have HX := Lib.hid (HA.out j hj3)
              obtain ⟨x, hx⟩ : ∃ x, [d.a, d.b, d.c][j] = x := ⟨_, rfl⟩
              rw [hx] at e0 HX
              have HX2 := Lib.hid (take_next HX.out)
              clear hx
              have j0 : (0 : Int) ≤ (j : Int) := by omega
              have j1 : (j : Int) < 3 := by omega
              by_cases hm1 : x = -1
              · subst hm1
                have HI2 := Lib.hid (inv_none HI.out HX.out)
                go_wp2
                go_roundw
                case rel => exact ⟨j + 1, by omega, by go_num, HI2, by unfold Hid; rw [← Nat.add_assoc, HX2.out, entRow_none]; exact HO5.out, HT5, HB5.out⟩
                case measure => simp [intOf]; omega
              · have hne : (x == -1) = false := beq_eq_false_iff_ne.2 hm1
                have HLB : Hid (linkB P.length k x = (decide ((k : Int) < x) && decide (x < (n : Int)))) := by unfold Hid linkB; rw [hne, HN.out]; rfl
                by_cases hle : x ≤ (k : Int)
                · have HF : Hid (r = false) := by
                    unfold Hid
                    rw [Bool.eq_false_iff]
                    intro hrt
                    exact bad_link hj3 HX.out (by rw [HLB.out, decide_eq_false (show ¬ (k : Int) < x by omega)]; rfl) (HE.out.1 hrt)
                  go_wp2
                  go_ret
                  exact ⟨ret_bool HF.out.symm, HB5.out⟩
                · by_cases hge : (n : Int) ≤ x
                  · have HF : Hid (r = false) := by
                      unfold Hid
                      rw [Bool.eq_false_iff]
                      intro hrt
                      exact bad_link hj3 HX.out (by rw [HLB.out, decide_eq_false (show ¬ x < (n : Int) by omega), Bool.and_false]) (HE.out.1 hrt)
                    go_wp2
                    go_ret
                    exact ⟨ret_bool HF.out.symm, HB5.out⟩
                  · obtain ⟨y, rfl⟩ : ∃ y : Nat, x = (y : Int) := ⟨x.toNat, by omega⟩
                    have hyl : y < (entRow n ((linksOf P).take (3 * k + j))).length := by rw [entRow_length]; omega
                    have e1 : wr.cell? ⟨w.heap.size, y, none⟩ = some (.bool (decide ((y : Int) ∈ (linksOf P).take (3 * k + j)))) := by
                      have := HO5.out
                      unfold BoolsAt at this
                      rw [this.cellAt y (by omega), List.getElem?_map, List.getElem?_eq_getElem hyl, entRow_at]; rfl
                    have fz : wr.frozen? ⟨w.heap.size, y, none⟩ = false := World.ownsRow.frozenAt (show wr.ownsRow _ _ 1 (.slice (some ⟨w.heap.size, 0, none⟩) n n) n _ from HO5.out) y
                    obtain ⟨z, hz⟩ : ∃ z, decide ((y : Int) ∈ (linksOf P).take (3 * k + j)) = z := ⟨_, rfl⟩
                    rw [hz] at e1
                    have y0 : (0 : Int) ≤ (y : Int) := by omega
                    have y1 : (y : Int) < (n : Int) := by omega
                    cases z with
                    | true =>
                      have HF : Hid (r = false) := by
                        unfold Hid
                        rw [Bool.eq_false_iff]
                        intro hrt
                        exact bad_twice HX.out (by omega) (by rw [HN.out]; omega) (of_decide_eq_true hz) (HE.out.1 hrt)
                      clear hz hyl
                      go_wp2
                      go_ret
                      exact ⟨ret_bool HF.out.symm, HB5.out⟩
                    | false =>
                      have HI2 := Lib.hid (inv_next HI.out HX.out (by rw [show (3 * k + j) / 3 = k by omega, HLB.out, decide_eq_true (show (k : Int) < (y : Int) by omega), decide_eq_true (show (y : Int) < (n : Int) by omega)]; rfl) (fun _ _ => of_decide_eq_false hz))
                      clear hz hyl
                      go_wp2
                      go_roundw
                      case rel =>
                        have h2 := World.ownsRow.stored (show wr.ownsRow _ _ 1 (.slice (some ⟨w.heap.size, 0, none⟩) n n) n _ from HO5.out) y (.bool true)
                        refine ⟨j + 1, by omega, by go_num, HI2, ?_, HT5.out.far (by omega) _ _, HB5.out.setCell (p := ⟨w.heap.size, y, none⟩) (Nat.le_refl _) _⟩
                        unfold Hid BoolsAt
                        rw [← Nat.add_assoc, HX2.out, ← entRow_add, List.map_set]
                        exact h2.1
                      case measure => simp [intOf]; omega
            · obtain rfl : j = 3 := by omega
              go_wp2
              go_roundw
              case rel => exact ⟨k + 1, by omega, by go_num, HI, HC2, HO5, HB5.out⟩
              case measure => simp [intOf]; omega
    · obtain rfl : k = n := by omega
      have HF : Hid (r = true) := HE.out.2 (good_end (by rw [HN.out]; exact HI.out) (fun i i0 i1 => HC.out i i0 (by rw [← HN.out]; exact i1)))
      go_wp2
      go_ret
      exact ⟨ret_bool HF.out.symm, HB.out⟩
end Go.Proofs.Ytipbjioghicmlaa
