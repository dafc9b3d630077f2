/- The contract of the model's PlanOk: it tells whether a plan is valid. Conditions: the plan's slice reads as nodes and is short enough to be counted. -/
import Derived.Test.YtipbjioghicmlaaToNodes
namespace Go.Proofs.Ytipbjioghicmlaa
open Go.RowKit

/-! ### how often each node follows another -/
/-- How often each number below n is in a list. -/
def cntRow (n : Nat) (ks : List Int) : List Int := (List.range n).map fun (j : Nat) => (ks.count (j : Int) : Int)
theorem cntRow_length (n : Nat) (ks : List Int) : (cntRow n ks).length = n := by simp [cntRow]
theorem cntRow_at {n : Nat} {ks : List Int} {j : Nat} (h : j < (cntRow n ks).length) : (cntRow n ks)[j] = (ks.count (j : Int) : Int) := by simp [cntRow]
theorem cntRow_none (n : Nat) (ks : List Int) : cntRow n (ks ++ [-1]) = cntRow n ks := by
  unfold cntRow
  refine List.map_congr_left fun j _ => ?_
  rw [List.count_append, List.count_singleton]
  have : ((-1 : Int) == (j : Int)) = false := beq_eq_false_iff_ne.2 (by omega)
  simp [this]
theorem cntRow_add (n : Nat) (ks : List Int) (k : Nat) (h : k < (cntRow n ks).length) : (cntRow n ks).set k ((cntRow n ks)[k] + 1) = cntRow n (ks ++ [(k : Int)]) := by
  rw [cntRow_at]
  apply List.ext_getElem
  · simp [cntRow_length]
  · intro j h1 h2
    rw [List.getElem_set, cntRow_at, cntRow_at, List.count_append, List.count_singleton]
    by_cases e : k = j
    · subst e; simp
    · have : ((k : Int) == (j : Int)) = false := beq_eq_false_iff_ne.2 (by omega)
      rw [if_neg e]
      simp [this]
theorem cntRow_le (n : Nat) (ks : List Int) (j : Nat) (h : j < (cntRow n ks).length) : 0 ≤ (cntRow n ks)[j] ∧ (cntRow n ks)[j] ≤ (ks.length : Int) := by
  rw [cntRow_at]
  have := List.count_le_length (a := (j : Int)) (l := ks)
  omega

theorem linksOf_take {P : List ND} {k : Nat} (h : k < P.length) : linksOf (P.take (k + 1)) = ((linksOf (P.take k) ++ [P[k].a]) ++ [P[k].b]) ++ [P[k].c] := by
  unfold linksOf
  rw [List.take_succ_eq_append_getElem h, List.flatMap_append]
  simp
theorem linksOf_len (P : List ND) : (linksOf P).length = 3 * P.length := by
  induction P with
  | nil => rfl
  | cons d r ih => simp [linksOf] at ih ⊢; omega
theorem nodesB_drop {P : List ND} {n : Nat} {m : Int} {k : Nat} (h : k < P.length) : nodesB n m k (P.drop k) = (nodeB n m k P[k] && nodesB n m (k + 1) (P.drop (k + 1))) := by
  rw [List.drop_eq_getElem_cons h, nodesB]
theorem nodesB_end {P : List ND} {n : Nat} {m : Int} {k : Nat} (h : P.length ≤ k) : nodesB n m k (P.drop k) = true := by
  rw [List.drop_of_length_le h]; rfl
/-- Whether each node from k on follows exactly one other, but for node 0. -/
def onceB (ks : List Int) (n k : Nat) : Bool := ((List.range n).drop k).all fun j => j == 0 || ks.count (j : Int) == 1
theorem onceB_step {ks : List Int} {n k : Nat} (h : k < n) : onceB ks n k = ((k == 0 || ks.count (k : Int) == 1) && onceB ks n (k + 1)) := by
  unfold onceB
  rw [List.drop_eq_getElem_cons (by simpa using h)]
  simp
theorem onceB_end {ks : List Int} {n k : Nat} (h : n ≤ k) : onceB ks n k = true := by
  unfold onceB
  rw [List.drop_of_length_le (by simpa using h)]; rfl
theorem planB_eq (P : List ND) (m : Int) : planB P m = ((decide (P.length ≤ 60) && (decide (1 ≤ m) && decide (m ≤ 13))) && (nodesB P.length m 0 (P.drop 0) && onceB (linksOf P) P.length 0)) := rfl

/-- Three cells lie in block b. -/
def TripAt (w : World) (b : Nat) (x y z : Int) : Prop := (∀ j (h : j < 3), w.cell? ⟨b, j, none⟩ = some (.int .i64 ([x, y, z][j]))) ∧ b < w.heap.size
theorem TripAt.new (w : World) (ty : TypeId) (x y z : Int) : TripAt (w.alloc (.cells #[.int .i64 x, .int .i64 y, .int .i64 z] ty)) w.heap.size x y z := by
  refine ⟨fun j h => ?_, by simp⟩
  match j, h with
  | 0, _ => simp
  | 1, _ => simp
  | 2, _ => simp
theorem TripAt.far {w : World} {b c : Nat} {x y z : Int} (h : TripAt w b x y z) (hc : c ≠ b) (o : Nat) (u : Value) : TripAt (w.setCell ⟨c, o, none⟩ u) b x y z :=
  ⟨fun j hj => by rw [World.cell?_setCell_other (w := w) (a := ⟨c, o, none⟩) (b := ⟨b, j, none⟩) (v := u) (fun e => hc (congrArg Addr.block e))]; exact h.1 j hj, by simpa [World.setCell] using h.2⟩

/-- A row of numbers in block g that may be written. -/
def RowAt (w : World) (g n : Nat) (l : List Int) : Prop := w.ownsRow g 3 1 (.slice (some ⟨g, 0, none⟩) n n) n (l.map (Value.int .i64))

set_option maxRecDepth 100000 in
set_option maxHeartbeats 6400000 in
theorem specPlanOk (v : Value) (P : List ND) (m : Int) (w : World) (h : NodesAt w v P) (hm : P.length ≤ 1048576) (hl : ∀ d ∈ P, d.L.length ≤ 1048576 ∧ d.R.length ≤ 1048576) :
    Calls Try.prog 26 #[v, .int .i64 m] w fun e w' => e = .returned (.bool (planB P m)) ∧ Below w.heap.size w w' := by
  obtain ⟨i0, hi, hz0, hz1, hz2⟩ := info_parts infoIntA
  have C0 := Lib.hid (fun W => l01In_is m 1 13 W)
  obtain ⟨a, c, rfl, h⟩ := h
  have H := Lib.hid h
  have HL := Lib.hid hl
  have HE := Lib.hid (planB_eq P m)
  clear h hl
  generalize planB P m = r at HE ⊢
  obtain ⟨n, hn⟩ : ∃ n, P.length = n := ⟨_, rfl⟩
  rw [hn] at hm HE ⊢
  have HN := Lib.hid hn
  clear hn
  by_cases hbig : (60 : Int) < (n : Int)
  · have HF : Hid (r = false) := by unfold Hid; rw [HE.out, decide_eq_false (by omega)]; rfl
    clear HE
    go_enter Try.func26, Try.ntmps26
    go_wp2
    go_ret
    exact ⟨ret_bool HF.out.symm, Below.refl _ _⟩
  have HF : Hid (r = ((decide (1 ≤ m) && decide (m ≤ 13)) && (nodesB n m 0 (P.drop 0) && onceB (linksOf P) n 0))) := by unfold Hid; rw [HE.out, decide_eq_true (by omega)]; rfl
  clear HE
  generalize (decide (1 ≤ m) && decide (m ≤ 13)) = t at C0 HF
  cases t with
  | false =>
    have HG : Hid (r = false) := HF.out
    clear HF
    go_enter Try.func26, Try.ntmps26
    go_wp2_with fail
    refine (C0.out _).mono ?_
    rintro e w1 ⟨rfl, rfl⟩
    go_wp2
    go_ret
    exact ⟨ret_bool HG.out.symm, Below.refl _ _⟩
  | true =>
    have HG : Hid (r = (nodesB n m 0 (P.drop 0) && onceB (linksOf P) n 0)) := HF.out
    clear HF
    go_enter Try.func26, Try.ntmps26
    go_wp2_with fail
    refine (C0.out _).mono ?_
    rintro e w1 ⟨rfl, rfl⟩
    go_wp2_with (at_make; refine wpList_make_full _ rfl _ _ 31 rfl w.heap.size 3 i0 (.int .i64 0) 1 Try.underlying31 hi hz0 hz1 .i64 .i64 _ _ n rfl rfl rfl rfl (by rw [hz2]; omega) (by unfold maxLen; omega) (Nat.le_refl _) ?_; intro w1 hown hg)
    have hb := Below.grown (Below.refl w.heap.size w) hg (Nat.le_refl _) (by intro k hk; cases hk)
    have HO : Hid (RowAt w1 w.heap.size n (cntRow n (linksOf (P.take 0)))) := by
      have : (madeCells (Value.int .i64 0).cells (n * 1)).toList = (cntRow n (linksOf (P.take 0))).map (Value.int .i64) := by
        simp [cntRow, linksOf, madeCells, Value.cells, Nat.mod_one]
      unfold Hid RowAt
      rw [← this]
      exact hown
    clear hown hg
    go_wp2
    go_loopw [6, 7, 9, 25] (fun _ _ _ i wr => ∃ k : Nat, k ≤ n ∧ i = .int .i64 k ∧ Hid (r = (nodesB n m k (P.drop k) && onceB (linksOf P) n 0)) ∧ Hid (RowAt wr w.heap.size n (cntRow n (linksOf (P.take k)))) ∧ Below w.heap.size w wr) (fun _ _ _ i _ => n - (intOf i).toNat)
    case atStart => exact ⟨0, Nat.zero_le _, rfl, HG, HO, hb⟩
    case round =>
      clear HG HO hb
      obtain ⟨k, hk, rfl, HG, HO, hb⟩ := hrel
      have HB := Lib.hid hb
      clear hb
      by_cases hlt : k < n
      · have hkl : k < P.length := by rw [HN.out]; exact hlt
        obtain ⟨b, o, vl, vr, rfl, h5, hL, hR⟩ := H.out k hkl
        have hd := HL.out P[k] (List.getElem_mem hkl)
        have HS := Lib.hid (nodesB_drop (n := n) (m := m) hkl)
        have HT := Lib.hid (linksOf_take hkl)
        obtain ⟨d, hx⟩ : ∃ d, P[k] = d := ⟨_, rfl⟩
        rw [hx] at h5 hL hR hd HS HT
        obtain ⟨d1, d2⟩ := hd
        obtain ⟨al, nl, cl, rfl⟩ := hL.form
        obtain ⟨ar, nr, cr, rfl⟩ := hR.form
        have C := Lib.hid (fun W h h' => specWeighingOk (.slice al nl cl) (.slice ar nr cr) d.L d.R m W h h' (by omega) (by omega))
        have F1 := Lib.hid (h5.below HB.out)
        have I1 := Lib.hid (hL.below HB.out)
        have I2 := Lib.hid (hR.below HB.out)
        have hrow : w.heap.size < wr.heap.size := (HO.out.lt w.heap.size rfl).2
        have i0' : (0 : Int) ≤ (k : Int) := by omega
        have i1 : (k : Int) < (n : Int) := by omega
        clear h5 hL hR hx hkl d1 d2
        obtain ⟨e0, e1, e2, e3, e4, -⟩ := F1.out
        have P3 := Lib.hid (Five.new wr 39 (.slice al nl cl) (.slice ar nr cr) d.a d.b d.c)
        have B3 := Lib.hid (alloc_below wr (.cells #[.slice al nl cl, .slice ar nr cr, .int .i64 d.a, .int .i64 d.b, .int .i64 d.c] 39))
        generalize hX3 : wr.alloc (.cells #[.slice al nl cl, .slice ar nr cr, .int .i64 d.a, .int .i64 d.b, .int .i64 d.c] 39) = X3 at P3 B3
        have G1 := Lib.hid (I1.out.below B3.out)
        have G2 := Lib.hid (I2.out.below B3.out)
        obtain ⟨f0, f1, -⟩ := P3.out
        go_wp2_with fail
        refine (C.out _ G1.out G2.out).mono ?_
        rintro e w4 ⟨rfl, b4⟩
        have B4 := Lib.hid (below_up (below_up HB.out B3.out) b4)
        have P4 := Lib.hid (P3.out.below b4)
        have R4 : Hid (RowAt w4 w.heap.size n (cntRow n (linksOf (P.take k)))) := owns_below (owns_below HO.out B3.out) b4
        have hs4 : w.heap.size < w4.heap.size := (R4.out.lt w.heap.size rfl).2
        clear b4 e0 e1 e2 e3 e4 f0 f1 hX3
        cases hw : weighB d.L d.R m with
        | false =>
          have HF : Hid (r = false) := by unfold Hid; rw [HG.out, HS.out]; unfold nodeB; rw [hw]; rfl
          go_wp2
          go_ret
          exact ⟨ret_bool HF.out.symm, B4.out⟩
        | true =>
          obtain ⟨q, hq⟩ : ∃ q : Bool, (nodesB n m (k + 1) (P.drop (k + 1)) && onceB (linksOf P) n 0) = q := ⟨_, rfl⟩
          have HQ := Lib.hid hq
          have HR : Hid (r = ((([d.a, d.b, d.c].drop 0).all (linkB n k)) && q)) := by
            unfold Hid; rw [HG.out, HS.out, ← hq]; unfold nodeB; rw [hw]; simp [Bool.and_assoc]
          clear hq hw HG HS
          obtain ⟨f0, f1, f2, f3, f4, -⟩ := P4.out
          have T5 := Lib.hid (TripAt.new w4 3 d.a d.b d.c)
          have B5 := Lib.hid (alloc_below w4 (.cells #[.int .i64 d.a, .int .i64 d.b, .int .i64 d.c] 3))
          generalize hX5 : w4.alloc (.cells #[.int .i64 d.a, .int .i64 d.b, .int .i64 d.c] 3) = X5 at T5 B5
          have R5 : Hid (RowAt X5 w.heap.size n (cntRow n (linksOf (P.take k)))) := owns_below R4.out B5.out
          have BX := Lib.hid (below_up B4.out B5.out)
          have hkl : (linksOf (P.take k)).length ≤ 180 := by rw [linksOf_len]; simp; omega
          go_wp2_with fail
          clear f0 f1 f2 f3 f4 hX5
          go_loopw [9, 43] (fun _ jv ws => ∃ (j : Nat) (ks : List Int), j ≤ 3 ∧ jv = .int .i64 j ∧ ks.length ≤ 180 + j ∧ Hid (r = ((([d.a, d.b, d.c].drop j).all (linkB n k)) && q)) ∧ Hid (ks = linksOf (P.take k) ++ [d.a, d.b, d.c].take j) ∧ Hid (RowAt ws w.heap.size n (cntRow n ks)) ∧ Hid (TripAt ws w4.heap.size d.a d.b d.c) ∧ Below w.heap.size w ws) (fun _ jv _ => 3 - (intOf jv).toNat)
          case atStart => exact ⟨0, _, by omega, rfl, hkl, HR, by simp [Hid], R5, T5, BX.out⟩
          case round =>
            clear HR R5 T5 BX hkl
            obtain ⟨j, ks, hj, rfl, hks, HR, HK, HO5, HT5, hb5⟩ := hrel
            have HB5 := Lib.hid hb5
            clear hb5
            by_cases hj3 : j < 3
            · have e0 := HT5.out.1 j hj3
              have HD : Hid ([d.a, d.b, d.c].drop j = [d.a, d.b, d.c][j] :: [d.a, d.b, d.c].drop (j + 1)) := List.drop_eq_getElem_cons hj3
              have HTK : Hid ([d.a, d.b, d.c].take (j + 1) = [d.a, d.b, d.c].take j ++ [[d.a, d.b, d.c][j]]) := List.take_succ_eq_append_getElem hj3
              obtain ⟨x, hx⟩ : ∃ x, [d.a, d.b, d.c][j] = x := ⟨_, rfl⟩
              rw [hx] at e0 HD HTK
              clear hx
              have HA : Hid (r = ((linkB n k x && ([d.a, d.b, d.c].drop (j + 1)).all (linkB n k)) && q)) := by unfold Hid; rw [HR.out, HD.out]; rfl
              have j0 : (0 : Int) ≤ (j : Int) := by omega
              have j1 : (j : Int) < 3 := by omega
              by_cases hm1 : x = -1
              · subst hm1
                have HN1 : Hid (r = ((([d.a, d.b, d.c].drop (j + 1)).all (linkB n k)) && q)) := by unfold Hid; rw [HA.out]; rfl
                have HK1 : Hid (ks ++ [-1] = linksOf (P.take k) ++ [d.a, d.b, d.c].take (j + 1)) := by unfold Hid; rw [HK.out, HTK.out, List.append_assoc]
                go_wp2
                go_roundw
                case rel => exact ⟨j + 1, ks ++ [-1], by omega, by go_num, by simp; omega, HN1, HK1, by unfold Hid; rw [cntRow_none]; exact HO5.out, HT5, HB5.out⟩
                case measure => simp [intOf]; omega
              · have hne : (x == -1) = false := beq_eq_false_iff_ne.2 hm1
                by_cases hle : x ≤ (k : Int)
                · have HF : Hid (r = false) := by
                    unfold Hid; rw [HA.out]; unfold linkB; rw [hne, decide_eq_false (show ¬ (k : Int) < x by omega)]; rfl
                  go_wp2
                  go_ret
                  exact ⟨ret_bool HF.out.symm, HB5.out⟩
                · by_cases hge : (n : Int) ≤ x
                  · have HF : Hid (r = false) := by
                      unfold Hid; rw [HA.out]; unfold linkB; rw [hne, decide_eq_false (show ¬ x < (n : Int) by omega), Bool.and_false]; rfl
                    go_wp2
                    go_ret
                    exact ⟨ret_bool HF.out.symm, HB5.out⟩
                  · obtain ⟨y, rfl⟩ : ∃ y : Nat, x = (y : Int) := ⟨x.toNat, by omega⟩
                    have HN1 : Hid (r = ((([d.a, d.b, d.c].drop (j + 1)).all (linkB n k)) && q)) := by
                      unfold Hid; rw [HA.out]; unfold linkB; rw [hne, decide_eq_true (show (k : Int) < (y : Int) by omega), decide_eq_true (show (y : Int) < (n : Int) by omega)]; rfl
                    have HK1 : Hid (ks ++ [(y : Int)] = linksOf (P.take k) ++ [d.a, d.b, d.c].take (j + 1)) := by unfold Hid; rw [HK.out, HTK.out, List.append_assoc]
                    have hyl : y < (cntRow n ks).length := by rw [cntRow_length]; omega
                    have HC := Lib.hid (cntRow_add n ks y hyl)
                    have hr := cntRow_le n ks y hyl
                    have e1 : wr.cell? ⟨w.heap.size, y, none⟩ = some (.int .i64 ((cntRow n ks)[y])) := by
                      have := HO5.out
                      unfold RowAt at this
                      rw [this.cellAt y (by omega), List.getElem?_map, List.getElem?_eq_getElem hyl]; rfl
                    have fz : wr.frozen? ⟨w.heap.size, y, none⟩ = false := World.ownsRow.frozenAt (show wr.ownsRow _ _ 1 (.slice (some ⟨w.heap.size, 0, none⟩) n n) n _ from HO5.out) y
                    obtain ⟨z, hz⟩ : ∃ z, (cntRow n ks)[y] = z := ⟨_, rfl⟩
                    rw [hz] at e1 HC hr
                    have y0 : (0 : Int) ≤ (y : Int) := by omega
                    have y1 : (y : Int) < (n : Int) := by omega
                    clear hz hyl
                    go_wp2
                    go_roundw
                    case rel =>
                      have h2 := World.ownsRow.stored (show wr.ownsRow _ _ 1 (.slice (some ⟨w.heap.size, 0, none⟩) n n) n _ from HO5.out) y (.int .i64 (z + 1))
                      refine ⟨j + 1, ks ++ [(y : Int)], by omega, by go_num, by simp; omega, HN1, HK1, ?_, HT5.out.far (by omega) _ _, HB5.out.setCell (p := ⟨w.heap.size, y, none⟩) (Nat.le_refl _) _⟩
                      unfold Hid RowAt
                      rw [← HC.out, List.map_set]
                      exact h2.1
                    case measure => simp [intOf]; omega
            · obtain rfl : j = 3 := by omega
              have HN1 : Hid (r = (nodesB n m (k + 1) (P.drop (k + 1)) && onceB (linksOf P) n 0)) := by unfold Hid; rw [HR.out, HQ.out]; rfl
              have HK1 : Hid (ks = linksOf (P.take (k + 1))) := by unfold Hid; rw [HK.out, HT.out]; simp
              go_wp2
              go_roundw
              case rel => exact ⟨k + 1, by omega, by go_num, HN1, by rw [← HK1.out]; exact HO5, HB5.out⟩
              case measure => simp [intOf]; omega
      · obtain rfl : k = n := by omega
        have HF : Hid (r = onceB (linksOf P) k 0) := by
          unfold Hid; rw [HG.out, nodesB_end (by rw [HN.out]; omega)]; rfl
        have HO2 : Hid (RowAt wr w.heap.size k (cntRow k (linksOf P))) := by
          have := HO.out
          rw [List.take_of_length_le (by rw [HN.out]; omega)] at this
          exact this
        clear HG HO
        go_wp2
        go_loop [10, 11, 68] (fun _ _ i => ∃ j : Nat, j ≤ k ∧ i = .int .i64 j ∧ Hid (r = onceB (linksOf P) k j)) (fun _ _ i => k - (intOf i).toNat)
        case atStart => exact ⟨0, Nat.zero_le _, rfl, HF⟩
        case round =>
          clear HF
          obtain ⟨j, hj, rfl, HF⟩ := hrel
          by_cases hjk : j < k
          · have hjl : j < (cntRow k (linksOf P)).length := by rw [cntRow_length]; exact hjk
            have e1 : wr.cell? ⟨w.heap.size, j, none⟩ = some (.int .i64 ((linksOf P).count (j : Int) : Int)) := by
              have := HO2.out
              unfold RowAt at this
              rw [this.cellAt j (by omega), List.getElem?_map, List.getElem?_eq_getElem hjl, cntRow_at]; rfl
            have HS := Lib.hid (onceB_step (ks := linksOf P) hjk)
            generalize (linksOf P).count (j : Int) = z at e1 HS
            have j0 : (0 : Int) ≤ (j : Int) := by omega
            have j1 : (j : Int) < (k : Int) := by omega
            clear hjl
            by_cases h0 : (j : Int) = 0
            · obtain rfl : j = 0 := by omega
              have HN1 : Hid (r = onceB (linksOf P) k (0 + 1)) := by unfold Hid; rw [HF.out, HS.out]; rfl
              have hn0 : ¬ ((0 : Nat) : Int) > 0 := by omega
              go_wp2
              go_round
              case rel => exact ⟨0 + 1, by omega, by go_num, HN1⟩
              case measure => simp [intOf]; omega
            · have hpos : (0 : Int) < (j : Int) := by omega
              by_cases h1 : z = 1
              · subst h1
                have HN1 : Hid (r = onceB (linksOf P) k (j + 1)) := by unfold Hid; rw [HF.out, HS.out]; simp
                go_wp2
                go_round
                case rel => exact ⟨j + 1, by omega, by go_num, HN1⟩
                case measure => simp [intOf]; omega
              · have hne : ((z : Int) != 1) = true := by simp; omega
                have HN1 : Hid (r = false) := by
                  unfold Hid; rw [HF.out, HS.out, beq_eq_false_iff_ne.2 (show j ≠ 0 by omega), beq_eq_false_iff_ne.2 h1]; rfl
                go_wp2
                go_ret
                exact ⟨ret_bool HN1.out.symm, HB.out⟩
          · have HN1 : Hid (r = true) := by unfold Hid; rw [HF.out, onceB_end (by omega)]
            go_wp2
            go_ret
            exact ⟨ret_bool HN1.out.symm, HB.out⟩
end Go.Proofs.Ytipbjioghicmlaa
