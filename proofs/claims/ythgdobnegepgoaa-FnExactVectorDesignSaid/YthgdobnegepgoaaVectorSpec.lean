/- The contract of the model's VectorDesign: it returns the fixed designs for every argument. No condition. -/
import Derived.Test.YthgdobnegepgoaaWdsRow
import Derived.Test.YthgdobnegepgoaaVectors
import Derived.Test.YthgdobnegepgoaaVectorLaw
namespace Go.Proofs.Ythgdobnegepgoaa
open Go.RowKit

/-- The numbers, from 1 on, of the first m vectors whose n-th number is c. -/
def colC (V : List (List Int)) (n : Nat) (c : Int) : Nat → List Int
  | 0 => []
  | j + 1 => colC V n c j ++ (if (V[j]?.bind (·[n]?)) = some c then [((j : Int) + 1)] else [])
theorem colC_len (V : List (List Int)) (n : Nat) (c : Int) : ∀ m, (colC V n c m).length ≤ m
  | 0 => by simp [colC]
  | j + 1 => by
    have := colC_len V n c j
    unfold colC
    split <;> simp <;> omega
theorem cols_two : (List.range 2).map (fun n => (⟨colC (vecsL 2) n 0 3, colC (vecsL 2) n 2 3⟩ : WD)) = vecD 2 := by rfl
theorem cols_three : (List.range 3).map (fun n => (⟨colC (vecsL 3) n 0 12, colC (vecsL 3) n 2 12⟩ : WD)) = vecD 3 := by rfl
theorem vecs_len_two : (vecsL 2).length = 3 := by rfl
theorem vecs_len_three : (vecsL 3).length = 12 := by rfl

/-- The weighings of the first i numbers. -/
def colsL (V : List (List Int)) (m i : Nat) : List WD := (List.range i).map fun n => ⟨colC V n 0 m, colC V n 2 m⟩
theorem colsL_succ (V : List (List Int)) (m i : Nat) : colsL V m (i + 1) = colsL V m i ++ [⟨colC V i 0 m, colC V i 2 m⟩] := by
  unfold colsL; rw [List.range_succ, List.map_append]; rfl
theorem colsL_len (V : List (List Int)) (m i : Nat) : (colsL V m i).length = i := by simp [colsL]
/-- The weighing under way: its variable and its two lists. -/
structure Filling (w W : World) (b : Nat) (vl vr : Value) (L R : List Int) : Prop where
  var : VarAt W b vl vr
  ol : Own W (b + 1) vl L
  or_ : Own W (b + 1) vr R
  sep : Sep vl vr
  bel : Below w.heap.size w W
  lt : w.heap.size ≤ b
theorem Filling.left {w W X W2 : World} {b : Nat} {vl vr v' : Value} {L R : List Int} {x : Int} (d : Filling w W b vl vr L R) (hX : Below W.heap.size W X)
    (hown : W2.ownsRow (b + 1) 3 1 v' (L.length + 1) (L.map (Value.int .i64) ++ [.int .i64 x])) (hg : X.grownBy W2 vl.ownBlock) (hat : v'.ownBlock = vl.ownBlock ∨ v'.ownBlock = some X.heap.size) :
    Filling w (W2.setCell ⟨b, 0, none⟩ v') b v' vr (L ++ [x]) R := by
  have hlt := d.lt
  have xs := hX.size
  have dv := d.var.1.2.2
  have ws := d.bel.size
  have TX : Only (fun k => vl.ownBlock = some k) W W2 := (Only.fresh hX).trans (Only.of_grown hg)
  have own' : Own W2 (b + 1) v' (L ++ [x]) := by unfold Own; simpa using hown
  have bl : ∀ k, vl.ownBlock = some k → b + 1 ≤ k := fun k hk => (d.ol.blk k hk).1
  have var2 : VarAt W2 b vl vr := (d.var.below hX).grown hg fun e => by have := bl _ e; omega
  have or2 : Own W2 (b + 1) vr R := d.or_.only TX fun k hk e => d.sep k e hk
  refine ⟨var2.set0 _, own'.setCell (by omega) _, or2.setCell (by omega) _, ?_, ?_, hlt⟩
  · intro k h1 h2
    rcases hat with e | e
    · exact d.sep k (e ▸ h1) h2
    · rw [e] at h1
      have := (d.or_.blk k h2).2
      simp at h1
      omega
  · exact Below.setCell (d.bel.trans (TX.below (B := w.heap.size) (by omega) fun k hk => by have := bl k hk; omega)) hlt _
theorem Filling.right {w W X W2 : World} {b : Nat} {vl vr v' : Value} {L R : List Int} {x : Int} (d : Filling w W b vl vr L R) (hX : Below W.heap.size W X)
    (hown : W2.ownsRow (b + 1) 3 1 v' (R.length + 1) (R.map (Value.int .i64) ++ [.int .i64 x])) (hg : X.grownBy W2 vr.ownBlock) (hat : v'.ownBlock = vr.ownBlock ∨ v'.ownBlock = some X.heap.size) :
    Filling w (W2.setCell ⟨b, 1, none⟩ v') b vl v' L (R ++ [x]) := by
  have hlt := d.lt
  have xs := hX.size
  have dv := d.var.1.2.2
  have ws := d.bel.size
  have TX : Only (fun k => vr.ownBlock = some k) W W2 := (Only.fresh hX).trans (Only.of_grown hg)
  have own' : Own W2 (b + 1) v' (R ++ [x]) := by unfold Own; simpa using hown
  have bl : ∀ k, vr.ownBlock = some k → b + 1 ≤ k := fun k hk => (d.or_.blk k hk).1
  have var2 : VarAt W2 b vl vr := (d.var.below hX).grown hg fun e => by have := bl _ e; omega
  have ol2 : Own W2 (b + 1) vl L := d.ol.only TX fun k hk e => d.sep k hk e
  refine ⟨var2.set1 _, ol2.setCell (by omega) _, own'.setCell (by omega) _, ?_, ?_, hlt⟩
  · intro k h1 h2
    rcases hat with e | e
    · exact d.sep k h1 (e ▸ h2)
    · rw [e] at h2
      have := (d.ol.blk k h1).2
      simp at h2
      omega
  · exact Below.setCell (d.bel.trans (TX.below (B := w.heap.size) (by omega) fun k hk => by have := bl k hk; omega)) hlt _

theorem specVecNone (k : Int) (h2 : k ≠ 2) (h3 : k ≠ 3) : VecReads 35 k := by
  intro W
  have e1 : vecN k = 0 := by unfold vecN; rw [if_neg h2, if_neg h3]
  have e2 : vecB k = false := by unfold vecB; simp [h2, h3]
  have e3 : vecD k = [] := by unfold vecD; rw [if_neg h2, if_neg h3]
  rw [e1, e2, e3]
  have g2 : (k != 2) = true := by simpa using h2
  have g3 : (k != 3) = true := by simpa using h3
  go_enter Try.func35, Try.ntmps35
  go_wp2
  go_ret3
  exact ⟨_, rfl, WdsAt.nil _, Below.refl _ _⟩

set_option maxRecDepth 100000 in
set_option maxHeartbeats 12800000 in
theorem specVecs2 (m : Nat) (V : List (List Int)) (hV : vecsL 2 = V) (hm : V.length = m) (hmm : m ≤ 12) (hlen : ∀ v ∈ V, v.length = 2) (w : World) :
    Calls Try.prog 35 #[.int .i64 2] w fun e w' => ∃ v, e = .returned (.tuple #[v, .int .i64 (m : Int), .bool true]) ∧ WdsAt w' v (colsL V m 2) ∧ Below w.heap.size w w' := by
  obtain ⟨i0, hi, hz0, hz1, hz2⟩ := info_parts infoWdS
  obtain ⟨j0, hj, hy0, hy1, hy2⟩ := info_parts infoInt
  have CV := Lib.hid (specVectors 2 (by omega) (by omega) w)
  rw [hV] at CV
  have HLEN := Lib.hid hlen
  have HM := Lib.hid hm
  clear hlen hV hm
  go_enter Try.func35, Try.ntmps35
  go_wp2_with fail
  refine CV.out.mono ?_
  rintro e w1 ⟨v, rfl, lv, b1⟩
  have B1 := Lib.hid b1
  have L1 := Lib.hid lv
  obtain ⟨av, cv, hav⟩ := lv.form
  rw [HM.out] at hav
  subst hav
  clear lv b1 CV
  have G1 : Hid (WdsG (w1.alloc (.cells #[] 30)) w1.heap.size (.slice (some ⟨w1.heap.size, 0, none⟩) 0 0) (colsL V m 0) []) :=
    ⟨rfl, World.ownsRow_lit (base := w1.heap.size) (e := 30) (size := 2) w1 #[] 0 (Nat.le_refl _) (by unfold maxLen; omega) rfl, fun i h1 _ => by simp [colsL] at h1⟩
  have A1 := Lib.hid (alloc_below w1 (.cells #[] 30))
  go_wp2
  go_loopw [6, 7] (fun ov iv wr => ∃ (i : Nat) (us : List (Value × Value)), i ≤ 2 ∧ iv = .int .i64 i ∧ Hid (WdsG wr w1.heap.size ov (colsL V m i) us) ∧ Hid (Below w1.heap.size w1 wr)) (fun _ iv _ => 2 - (intOf iv).toNat)
  case atStart => exact ⟨0, [], by omega, rfl, G1, A1⟩
  case round =>
    clear G1 A1
    obtain ⟨i, us, hik, rfl, G3, B3⟩ := hrel
    by_cases hlt : i < 2
    · obtain ⟨wo, hwo⟩ : ∃ wo : World, wo = wr := ⟨_, rfl⟩
      subst hwo
      have P0 := Lib.hid (VarAt.new wo 30 (.slice none 0 0) (.slice none 0 0))
      have A0 := alloc_below wo (.cells #[.slice none 0 0, .slice none 0 0] 30)
      generalize hX0 : wo.alloc (.cells #[.slice none 0 0, .slice none 0 0] 30) = X0 at P0 A0
      obtain ⟨⟨z0, z1, z2⟩, g0, g1⟩ := P0.out
      have q0 : (X0.setCell ⟨wo.heap.size, 0, none⟩ (.slice none 0 0)).cell? ⟨wo.heap.size, 1, none⟩ = some (.slice none 0 0) := (P0.out.set0 _).1.2.1
      have i1 : (i : Int) < 2 := by omega
      have i2 : (0 : Int) ≤ (i : Int) := by omega
      have s1 : X0.heap.size = wo.heap.size + 1 := by rw [← hX0]; simp
      go_wp2
      generalize hU : (X0.setCell ⟨wo.heap.size, 0, none⟩ (.slice none 0 0)).setCell ⟨wo.heap.size, 1, none⟩ (.slice none 0 0) = U
      have F0 : Hid (Filling wo U wo.heap.size (.slice none 0 0) (.slice none 0 0) (colC V i 0 0) (colC V i 2 0)) := by
        refine ⟨?_, Own.nil _ _, Own.nil _ _, Sep.nil _, ?_, Nat.le_refl _⟩
        · rw [← hU]; exact (P0.out.set0 _).set1 _
        · rw [← hU]; exact Below.setCell (Below.setCell A0 (Nat.le_refl _) _) (Nat.le_refl _) _
      clear z0 z1 z2 g0 g1 q0 P0 A0
      go_loopw [28] (fun jv ws => ∃ (j : Nat) (vl vr : Value), j ≤ m ∧ jv = .int .i64 j ∧ Hid (Filling wo ws wo.heap.size vl vr (colC V i 0 j) (colC V i 2 j))) (fun jv _ => m - (intOf jv).toNat)
      case atStart => exact ⟨0, _, _, Nat.zero_le _, rfl, F0⟩
      case round =>
        clear F0 hU hX0 s1
        obtain ⟨j, vl, vr, hjm, rfl, F1⟩ := hrel
        by_cases hjlt : j < m
        · have hjl : j < V.length := by rw [HM.out]; exact hjlt
          obtain ⟨a', c', hv', hcell⟩ := L1.out
          rw [HM.out] at hv'
          cases hv'
          obtain ⟨g, u, rfl, e0, hu, hg⟩ := hcell j hjl
          have BW := below_up B3.out F1.out.bel
          have e1 : wr.cell? ⟨g, j, none⟩ = some u := by rw [BW.cell (p := ⟨g, j, none⟩) hg]; exact e0
          have hxl := HLEN.out V[j] (List.getElem_mem hjl)
          obtain ⟨x, hx⟩ : ∃ x, V[j] = x := ⟨_, rfl⟩
          have HVX : Hid (V[j]? = some x) := by unfold Hid; rw [← hx]; exact List.getElem?_eq_getElem hjl
          rw [hx] at hu hxl
          obtain ⟨au, cu, hul, huc⟩ := hu.1
          have hxi : i < x.length := by omega
          obtain ⟨d, hd⟩ : ∃ d, x[i] = d := ⟨_, rfl⟩
          have HXI : Hid ((V[j]?.bind (·[i]?)) = some d) := by unfold Hid; rw [HVX.out, ← hd]; exact List.getElem?_eq_getElem hxi
          rcases huc with rfl | ⟨b, o, rfl, huc⟩
          · simp at hxl
          have c1 := huc i hxi
          rw [hd] at c1
          have c2 : wr.cell? ⟨b, o + i, none⟩ = some (.int .i64 d) := by rw [BW.cell (p := ⟨b, o + i, none⟩) (World.block_lt_of_cell? w1 _ c1)]; exact c1
          have HCC : Hid (∀ W, Below wo.heap.size wo W → W.cell? ⟨b, o + i, none⟩ = some (.int .i64 d)) := fun W hW => by
            rw [(below_up B3.out hW).cell (p := ⟨b, o + i, none⟩) (World.block_lt_of_cell? w1 _ c1)]; exact c1
          rw [hxl] at hul
          subst hul
          have hL := colC_len V i 0 j
          have hR := colC_len V i 2 j
          have HL : Hid (colC V i 0 (j + 1) = colC V i 0 j ++ (if d = 0 then [((j : Int) + 1)] else [])) := by
            unfold Hid
            rw [colC, HXI.out]
            by_cases e : d = 0 <;> simp [e]
          have HR : Hid (colC V i 2 (j + 1) = colC V i 2 j ++ (if d = 2 then [((j : Int) + 1)] else [])) := by
            unfold Hid
            rw [colC, HXI.out]
            by_cases e : d = 2 <;> simp [e]
          generalize colC V i 0 j = L at F1 HL hL
          generalize colC V i 2 j = R at F1 HR hR
          have k0 : (0 : Int) ≤ (j : Int) := by omega
          have k1 : (j : Int) < (m : Int) := by omega
          have iw : IntKind.i64.wrap ((j : Int) + 1) = (j : Int) + 1 := by rw [IntKind.wrap_i64]; omega
          obtain ⟨⟨z0, z1, z2⟩, g0, g1⟩ := F1.out.var
          clear hu hx hjl hcell hxl e0 huc hxi c1 hd BW HVX HXI
          by_cases hd0 : d = 0
          · subst hd0
            have EL : Hid (colC V i 0 (j + 1) = L ++ [(j : Int) + 1]) := by unfold Hid; rw [HL.out, if_pos rfl]
            have ER : Hid (colC V i 2 (j + 1) = R) := by unfold Hid; rw [HR.out, if_neg (by decide), List.append_nil]
            have ho : wr.ownsRow (wo.heap.size + 1) 3 1 vl L.length (L.map (Value.int .i64)) := F1.out.ol
            obtain ⟨al, nl, cl, rfl⟩ := F1.out.ol.form
            go_wp2_with (at_builtin; refine wpList_append_own_at _ rfl _ _ 28 rfl (wo.heap.size + 1) 3 j0 (.int .i64 0) 1 8 Try.underlying28 hj hy0 hy1 hy2 rfl (by decide) _ _ _ rfl (ho.alloc _) ⟨wr.heap.size, 0, none⟩ 1 1 [.int .i64 ((j : Int) + 1)] rfl rfl (cell_one_new _ _ _) (by simp [Value.oneCell']) (by unfold maxLen; omega) (by omega) (by simp; omega) ?_; intro v' w2 hown' hg1 _ hat; have V2 := Lib.hid ((F1.out.var.below (alloc_below _ _)).grown hg1 (fun e => by have := (F1.out.ol.blk _ e).1; omega)); obtain ⟨⟨y0, y1, y2⟩, h0, h1⟩ := V2.out; obtain ⟨a', n', c', hv'⟩ := rowForm hown'; subst hv'; have DN := Lib.hid (F1.out.left (alloc_below _ _) hown' hg1 hat); have c3 := HCC.out _ DN.out.bel; clear hown' hg1 hat ho)
            rw [← EL.out, ← ER.out] at DN
            go_wp2
            go_roundw
            case rel => exact ⟨j + 1, _, _, by omega, by go_num, DN⟩
            case measure => simp [intOf]; omega
          · by_cases hd2 : d = 2
            · subst hd2
              have EL : Hid (colC V i 0 (j + 1) = L) := by unfold Hid; rw [HL.out, if_neg (by decide), List.append_nil]
              have ER : Hid (colC V i 2 (j + 1) = R ++ [(j : Int) + 1]) := by unfold Hid; rw [HR.out, if_pos rfl]
              have ho : wr.ownsRow (wo.heap.size + 1) 3 1 vr R.length (R.map (Value.int .i64)) := F1.out.or_
              obtain ⟨ar, nr, cr, rfl⟩ := F1.out.or_.form
              go_wp2_with (at_builtin; refine wpList_append_own_at _ rfl _ _ 28 rfl (wo.heap.size + 1) 3 j0 (.int .i64 0) 1 8 Try.underlying28 hj hy0 hy1 hy2 rfl (by decide) _ _ _ rfl (ho.alloc _) ⟨wr.heap.size, 0, none⟩ 1 1 [.int .i64 ((j : Int) + 1)] rfl rfl (cell_one_new _ _ _) (by simp [Value.oneCell']) (by unfold maxLen; omega) (by omega) (by simp; omega) ?_; intro v' w2 hown' hg1 _ hat; have V2 := Lib.hid ((F1.out.var.below (alloc_below _ _)).grown hg1 (fun e => by have := (F1.out.or_.blk _ e).1; omega)); obtain ⟨⟨y0, y1, y2⟩, h0, h1⟩ := V2.out; obtain ⟨a', n', c', hv'⟩ := rowForm hown'; subst hv'; have DN := Lib.hid (F1.out.right (alloc_below _ _) hown' hg1 hat); have c3 := HCC.out _ DN.out.bel; clear hown' hg1 hat ho)
              rw [← EL.out, ← ER.out] at DN
              go_wp2
              go_roundw
              case rel => exact ⟨j + 1, _, _, by omega, by go_num, DN⟩
              case measure => simp [intOf]; omega
            · have hb0 : (d == 0) = false := by simpa using hd0
              have hb2 : (d == 2) = false := by simpa using hd2
              have F2 : Hid (Filling wo wr wo.heap.size vl vr (colC V i 0 (j + 1)) (colC V i 2 (j + 1))) := by
                unfold Hid
                rw [HL.out, HR.out, if_neg hd0, if_neg hd2, List.append_nil, List.append_nil]
                exact F1.out
              go_wp2
              go_roundw
              case rel => exact ⟨j + 1, _, _, by omega, by go_num, F2⟩
              case measure => simp [intOf]; omega
        · obtain rfl : j = m := by omega
          obtain ⟨ga, na, ca, rfl⟩ := F1.out.ol.form
          obtain ⟨gb, nb, cb, rfl⟩ := F1.out.or_.form
          have G4 := Lib.hid (G3.out.below F1.out.bel)
          obtain ⟨ao, co, hov⟩ := G3.out.reads.form
          rw [colsL_len] at hov
          subst hov
          have hrow := G3.out.2.1.lt
          have A5 := Lib.hid (alloc_below wr (.cells #[.slice ga na ca, .slice gb nb cb] 30))
          have BB := Lib.hid (below_on F1.out.bel F1.out.bel.size A5.out)
          have s5 := F1.out.bel.size
          have BL1 : Hid (Blk (fun q => (Value.slice ao i co).ownBlock ≠ some q ∧ q < (wr.alloc (.cells #[.slice ga na ca, .slice gb nb cb] 30)).heap.size) (.slice ga na ca)) := fun q hq => by
            have h1 := F1.out.ol.blk q hq
            exact ⟨fun e => by have := (hrow q e).2; omega, by simp; omega⟩
          have BL2 : Hid (Blk (fun q => (Value.slice ao i co).ownBlock ≠ some q ∧ q < (wr.alloc (.cells #[.slice ga na ca, .slice gb nb cb] 30)).heap.size) (.slice gb nb cb)) := fun q hq => by
            have h1 := F1.out.or_.blk q hq
            exact ⟨fun e => by have := (hrow q e).2; omega, by simp; omega⟩
          have I1 := Lib.hid (F1.out.ol.reads.below A5.out)
          have I2 := Lib.hid (F1.out.or_.reads.below A5.out)
          have G6 := Lib.hid (G4.out.below A5.out)
          have R6 : Hid ((wr.alloc (.cells #[.slice ga na ca, .slice gb nb cb] 30)).ownsRow w1.heap.size 30 2 (.slice ao i co) i (pcells us)) := by
            have := G6.out.2.1
            rw [colsL_len] at this
            exact this
          have s6 : w1.heap.size ≤ wo.heap.size := B3.out.size
          have hsz2 : w1.heap.size ≤ (wr.alloc (.cells #[.slice ga na ca, .slice gb nb cb] 30)).heap.size := by simp; omega
          obtain ⟨⟨z0, z1, z2⟩, g0, g1⟩ := F1.out.var
          clear hrow
          go_wp2_with (at_builtin; refine wpList_append_own_at _ rfl _ _ 26 rfl w1.heap.size 30 i0 (.agg #[.slice none 0 0, .slice none 0 0]) 2 48 Try.underlying26 hi hz0 hz1 hz2 rfl (by decide) _ _ _ rfl R6.out ⟨wr.heap.size, 0, none⟩ 1 1 [.slice ga na ca, .slice gb nb cb] rfl rfl (cell_two_new _ _ _ _) (by simp [Value.oneCell']) (by unfold maxLen; omega) (by omega) hsz2 ?_; intro v7 w7 hown' hg7 _ hat)
          have hg8 : (wr.alloc (.cells #[.slice ga na ca, .slice gb nb cb] 30)).grownBy w7 (Value.slice ao i co).ownBlock := hg7
          have G7 := G6.out.push (d := ⟨colC V i 0 j, colC V i 2 j⟩) hg8 (by rw [colsL_len]; exact hown') hat I1.out BL1.out I2.out BL2.out
          rw [← colsL_succ] at G7
          have HG7 := Lib.hid G7
          have B7 := Lib.hid (Below.grown (below_on B3.out B3.out.size BB.out) hg8 hsz2 (fun q hq => by have := (R6.out.lt q hq).1; omega))
          clear hown' hg7 hg8 hat G7
          go_wp2
          go_roundw
          case rel => exact ⟨i + 1, _, by omega, by go_num, HG7, B7⟩
          case measure => simp [intOf]; omega
    · obtain rfl : i = 2 := by omega
      obtain ⟨ao, co, hov⟩ := G3.out.reads.form
      subst hov
      go_wp2
      go_ret3
      exact ⟨_, rfl, G3.out.reads, below_up B1.out B3.out⟩

set_option maxRecDepth 100000 in
set_option maxHeartbeats 12800000 in
theorem specVecs3 (m : Nat) (V : List (List Int)) (hV : vecsL 3 = V) (hm : V.length = m) (hmm : m ≤ 12) (hlen : ∀ v ∈ V, v.length = 3) (w : World) :
    Calls Try.prog 35 #[.int .i64 3] w fun e w' => ∃ v, e = .returned (.tuple #[v, .int .i64 (m : Int), .bool true]) ∧ WdsAt w' v (colsL V m 3) ∧ Below w.heap.size w w' := by
  obtain ⟨i0, hi, hz0, hz1, hz2⟩ := info_parts infoWdS
  obtain ⟨j0, hj, hy0, hy1, hy2⟩ := info_parts infoInt
  have CV := Lib.hid (specVectors 3 (by omega) (by omega) w)
  rw [hV] at CV
  have HLEN := Lib.hid hlen
  have HM := Lib.hid hm
  clear hlen hV hm
  go_enter Try.func35, Try.ntmps35
  go_wp2_with fail
  refine CV.out.mono ?_
  rintro e w1 ⟨v, rfl, lv, b1⟩
  have B1 := Lib.hid b1
  have L1 := Lib.hid lv
  obtain ⟨av, cv, hav⟩ := lv.form
  rw [HM.out] at hav
  subst hav
  clear lv b1 CV
  have G1 : Hid (WdsG (w1.alloc (.cells #[] 30)) w1.heap.size (.slice (some ⟨w1.heap.size, 0, none⟩) 0 0) (colsL V m 0) []) :=
    ⟨rfl, World.ownsRow_lit (base := w1.heap.size) (e := 30) (size := 2) w1 #[] 0 (Nat.le_refl _) (by unfold maxLen; omega) rfl, fun i h1 _ => by simp [colsL] at h1⟩
  have A1 := Lib.hid (alloc_below w1 (.cells #[] 30))
  go_wp2
  go_loopw [6, 7] (fun ov iv wr => ∃ (i : Nat) (us : List (Value × Value)), i ≤ 3 ∧ iv = .int .i64 i ∧ Hid (WdsG wr w1.heap.size ov (colsL V m i) us) ∧ Hid (Below w1.heap.size w1 wr)) (fun _ iv _ => 3 - (intOf iv).toNat)
  case atStart => exact ⟨0, [], by omega, rfl, G1, A1⟩
  case round =>
    clear G1 A1
    obtain ⟨i, us, hik, rfl, G3, B3⟩ := hrel
    by_cases hlt : i < 3
    · obtain ⟨wo, hwo⟩ : ∃ wo : World, wo = wr := ⟨_, rfl⟩
      subst hwo
      have P0 := Lib.hid (VarAt.new wo 30 (.slice none 0 0) (.slice none 0 0))
      have A0 := alloc_below wo (.cells #[.slice none 0 0, .slice none 0 0] 30)
      generalize hX0 : wo.alloc (.cells #[.slice none 0 0, .slice none 0 0] 30) = X0 at P0 A0
      obtain ⟨⟨z0, z1, z2⟩, g0, g1⟩ := P0.out
      have q0 : (X0.setCell ⟨wo.heap.size, 0, none⟩ (.slice none 0 0)).cell? ⟨wo.heap.size, 1, none⟩ = some (.slice none 0 0) := (P0.out.set0 _).1.2.1
      have i1 : (i : Int) < 3 := by omega
      have i2 : (0 : Int) ≤ (i : Int) := by omega
      have s1 : X0.heap.size = wo.heap.size + 1 := by rw [← hX0]; simp
      go_wp2
      generalize hU : (X0.setCell ⟨wo.heap.size, 0, none⟩ (.slice none 0 0)).setCell ⟨wo.heap.size, 1, none⟩ (.slice none 0 0) = U
      have F0 : Hid (Filling wo U wo.heap.size (.slice none 0 0) (.slice none 0 0) (colC V i 0 0) (colC V i 2 0)) := by
        refine ⟨?_, Own.nil _ _, Own.nil _ _, Sep.nil _, ?_, Nat.le_refl _⟩
        · rw [← hU]; exact (P0.out.set0 _).set1 _
        · rw [← hU]; exact Below.setCell (Below.setCell A0 (Nat.le_refl _) _) (Nat.le_refl _) _
      clear z0 z1 z2 g0 g1 q0 P0 A0
      go_loopw [28] (fun jv ws => ∃ (j : Nat) (vl vr : Value), j ≤ m ∧ jv = .int .i64 j ∧ Hid (Filling wo ws wo.heap.size vl vr (colC V i 0 j) (colC V i 2 j))) (fun jv _ => m - (intOf jv).toNat)
      case atStart => exact ⟨0, _, _, Nat.zero_le _, rfl, F0⟩
      case round =>
        clear F0 hU hX0 s1
        obtain ⟨j, vl, vr, hjm, rfl, F1⟩ := hrel
        by_cases hjlt : j < m
        · have hjl : j < V.length := by rw [HM.out]; exact hjlt
          obtain ⟨a', c', hv', hcell⟩ := L1.out
          rw [HM.out] at hv'
          cases hv'
          obtain ⟨g, u, rfl, e0, hu, hg⟩ := hcell j hjl
          have BW := below_up B3.out F1.out.bel
          have e1 : wr.cell? ⟨g, j, none⟩ = some u := by rw [BW.cell (p := ⟨g, j, none⟩) hg]; exact e0
          have hxl := HLEN.out V[j] (List.getElem_mem hjl)
          obtain ⟨x, hx⟩ : ∃ x, V[j] = x := ⟨_, rfl⟩
          have HVX : Hid (V[j]? = some x) := by unfold Hid; rw [← hx]; exact List.getElem?_eq_getElem hjl
          rw [hx] at hu hxl
          obtain ⟨au, cu, hul, huc⟩ := hu.1
          have hxi : i < x.length := by omega
          obtain ⟨d, hd⟩ : ∃ d, x[i] = d := ⟨_, rfl⟩
          have HXI : Hid ((V[j]?.bind (·[i]?)) = some d) := by unfold Hid; rw [HVX.out, ← hd]; exact List.getElem?_eq_getElem hxi
          rcases huc with rfl | ⟨b, o, rfl, huc⟩
          · simp at hxl
          have c1 := huc i hxi
          rw [hd] at c1
          have c2 : wr.cell? ⟨b, o + i, none⟩ = some (.int .i64 d) := by rw [BW.cell (p := ⟨b, o + i, none⟩) (World.block_lt_of_cell? w1 _ c1)]; exact c1
          have HCC : Hid (∀ W, Below wo.heap.size wo W → W.cell? ⟨b, o + i, none⟩ = some (.int .i64 d)) := fun W hW => by
            rw [(below_up B3.out hW).cell (p := ⟨b, o + i, none⟩) (World.block_lt_of_cell? w1 _ c1)]; exact c1
          rw [hxl] at hul
          subst hul
          have hL := colC_len V i 0 j
          have hR := colC_len V i 2 j
          have HL : Hid (colC V i 0 (j + 1) = colC V i 0 j ++ (if d = 0 then [((j : Int) + 1)] else [])) := by
            unfold Hid
            rw [colC, HXI.out]
            by_cases e : d = 0 <;> simp [e]
          have HR : Hid (colC V i 2 (j + 1) = colC V i 2 j ++ (if d = 2 then [((j : Int) + 1)] else [])) := by
            unfold Hid
            rw [colC, HXI.out]
            by_cases e : d = 2 <;> simp [e]
          generalize colC V i 0 j = L at F1 HL hL
          generalize colC V i 2 j = R at F1 HR hR
          have k0 : (0 : Int) ≤ (j : Int) := by omega
          have k1 : (j : Int) < (m : Int) := by omega
          have iw : IntKind.i64.wrap ((j : Int) + 1) = (j : Int) + 1 := by rw [IntKind.wrap_i64]; omega
          obtain ⟨⟨z0, z1, z2⟩, g0, g1⟩ := F1.out.var
          clear hu hx hjl hcell hxl e0 huc hxi c1 hd BW HVX HXI
          by_cases hd0 : d = 0
          · subst hd0
            have EL : Hid (colC V i 0 (j + 1) = L ++ [(j : Int) + 1]) := by unfold Hid; rw [HL.out, if_pos rfl]
            have ER : Hid (colC V i 2 (j + 1) = R) := by unfold Hid; rw [HR.out, if_neg (by decide), List.append_nil]
            have ho : wr.ownsRow (wo.heap.size + 1) 3 1 vl L.length (L.map (Value.int .i64)) := F1.out.ol
            obtain ⟨al, nl, cl, rfl⟩ := F1.out.ol.form
            go_wp2_with (at_builtin; refine wpList_append_own_at _ rfl _ _ 28 rfl (wo.heap.size + 1) 3 j0 (.int .i64 0) 1 8 Try.underlying28 hj hy0 hy1 hy2 rfl (by decide) _ _ _ rfl (ho.alloc _) ⟨wr.heap.size, 0, none⟩ 1 1 [.int .i64 ((j : Int) + 1)] rfl rfl (cell_one_new _ _ _) (by simp [Value.oneCell']) (by unfold maxLen; omega) (by omega) (by simp; omega) ?_; intro v' w2 hown' hg1 _ hat; have V2 := Lib.hid ((F1.out.var.below (alloc_below _ _)).grown hg1 (fun e => by have := (F1.out.ol.blk _ e).1; omega)); obtain ⟨⟨y0, y1, y2⟩, h0, h1⟩ := V2.out; obtain ⟨a', n', c', hv'⟩ := rowForm hown'; subst hv'; have DN := Lib.hid (F1.out.left (alloc_below _ _) hown' hg1 hat); have c3 := HCC.out _ DN.out.bel; clear hown' hg1 hat ho)
            rw [← EL.out, ← ER.out] at DN
            go_wp2
            go_roundw
            case rel => exact ⟨j + 1, _, _, by omega, by go_num, DN⟩
            case measure => simp [intOf]; omega
          · by_cases hd2 : d = 2
            · subst hd2
              have EL : Hid (colC V i 0 (j + 1) = L) := by unfold Hid; rw [HL.out, if_neg (by decide), List.append_nil]
              have ER : Hid (colC V i 2 (j + 1) = R ++ [(j : Int) + 1]) := by unfold Hid; rw [HR.out, if_pos rfl]
              have ho : wr.ownsRow (wo.heap.size + 1) 3 1 vr R.length (R.map (Value.int .i64)) := F1.out.or_
              obtain ⟨ar, nr, cr, rfl⟩ := F1.out.or_.form
              go_wp2_with (at_builtin; refine wpList_append_own_at _ rfl _ _ 28 rfl (wo.heap.size + 1) 3 j0 (.int .i64 0) 1 8 Try.underlying28 hj hy0 hy1 hy2 rfl (by decide) _ _ _ rfl (ho.alloc _) ⟨wr.heap.size, 0, none⟩ 1 1 [.int .i64 ((j : Int) + 1)] rfl rfl (cell_one_new _ _ _) (by simp [Value.oneCell']) (by unfold maxLen; omega) (by omega) (by simp; omega) ?_; intro v' w2 hown' hg1 _ hat; have V2 := Lib.hid ((F1.out.var.below (alloc_below _ _)).grown hg1 (fun e => by have := (F1.out.or_.blk _ e).1; omega)); obtain ⟨⟨y0, y1, y2⟩, h0, h1⟩ := V2.out; obtain ⟨a', n', c', hv'⟩ := rowForm hown'; subst hv'; have DN := Lib.hid (F1.out.right (alloc_below _ _) hown' hg1 hat); have c3 := HCC.out _ DN.out.bel; clear hown' hg1 hat ho)
              rw [← EL.out, ← ER.out] at DN
              go_wp2
              go_roundw
              case rel => exact ⟨j + 1, _, _, by omega, by go_num, DN⟩
              case measure => simp [intOf]; omega
            · have hb0 : (d == 0) = false := by simpa using hd0
              have hb2 : (d == 2) = false := by simpa using hd2
              have F2 : Hid (Filling wo wr wo.heap.size vl vr (colC V i 0 (j + 1)) (colC V i 2 (j + 1))) := by
                unfold Hid
                rw [HL.out, HR.out, if_neg hd0, if_neg hd2, List.append_nil, List.append_nil]
                exact F1.out
              go_wp2
              go_roundw
              case rel => exact ⟨j + 1, _, _, by omega, by go_num, F2⟩
              case measure => simp [intOf]; omega
        · obtain rfl : j = m := by omega
          obtain ⟨ga, na, ca, rfl⟩ := F1.out.ol.form
          obtain ⟨gb, nb, cb, rfl⟩ := F1.out.or_.form
          have G4 := Lib.hid (G3.out.below F1.out.bel)
          obtain ⟨ao, co, hov⟩ := G3.out.reads.form
          rw [colsL_len] at hov
          subst hov
          have hrow := G3.out.2.1.lt
          have A5 := Lib.hid (alloc_below wr (.cells #[.slice ga na ca, .slice gb nb cb] 30))
          have BB := Lib.hid (below_on F1.out.bel F1.out.bel.size A5.out)
          have s5 := F1.out.bel.size
          have BL1 : Hid (Blk (fun q => (Value.slice ao i co).ownBlock ≠ some q ∧ q < (wr.alloc (.cells #[.slice ga na ca, .slice gb nb cb] 30)).heap.size) (.slice ga na ca)) := fun q hq => by
            have h1 := F1.out.ol.blk q hq
            exact ⟨fun e => by have := (hrow q e).2; omega, by simp; omega⟩
          have BL2 : Hid (Blk (fun q => (Value.slice ao i co).ownBlock ≠ some q ∧ q < (wr.alloc (.cells #[.slice ga na ca, .slice gb nb cb] 30)).heap.size) (.slice gb nb cb)) := fun q hq => by
            have h1 := F1.out.or_.blk q hq
            exact ⟨fun e => by have := (hrow q e).2; omega, by simp; omega⟩
          have I1 := Lib.hid (F1.out.ol.reads.below A5.out)
          have I2 := Lib.hid (F1.out.or_.reads.below A5.out)
          have G6 := Lib.hid (G4.out.below A5.out)
          have R6 : Hid ((wr.alloc (.cells #[.slice ga na ca, .slice gb nb cb] 30)).ownsRow w1.heap.size 30 2 (.slice ao i co) i (pcells us)) := by
            have := G6.out.2.1
            rw [colsL_len] at this
            exact this
          have s6 : w1.heap.size ≤ wo.heap.size := B3.out.size
          have hsz2 : w1.heap.size ≤ (wr.alloc (.cells #[.slice ga na ca, .slice gb nb cb] 30)).heap.size := by simp; omega
          obtain ⟨⟨z0, z1, z2⟩, g0, g1⟩ := F1.out.var
          clear hrow
          go_wp2_with (at_builtin; refine wpList_append_own_at _ rfl _ _ 26 rfl w1.heap.size 30 i0 (.agg #[.slice none 0 0, .slice none 0 0]) 2 48 Try.underlying26 hi hz0 hz1 hz2 rfl (by decide) _ _ _ rfl R6.out ⟨wr.heap.size, 0, none⟩ 1 1 [.slice ga na ca, .slice gb nb cb] rfl rfl (cell_two_new _ _ _ _) (by simp [Value.oneCell']) (by unfold maxLen; omega) (by omega) hsz2 ?_; intro v7 w7 hown' hg7 _ hat)
          have hg8 : (wr.alloc (.cells #[.slice ga na ca, .slice gb nb cb] 30)).grownBy w7 (Value.slice ao i co).ownBlock := hg7
          have G7 := G6.out.push (d := ⟨colC V i 0 j, colC V i 2 j⟩) hg8 (by rw [colsL_len]; exact hown') hat I1.out BL1.out I2.out BL2.out
          rw [← colsL_succ] at G7
          have HG7 := Lib.hid G7
          have B7 := Lib.hid (Below.grown (below_on B3.out B3.out.size BB.out) hg8 hsz2 (fun q hq => by have := (R6.out.lt q hq).1; omega))
          clear hown' hg7 hg8 hat G7
          go_wp2
          go_roundw
          case rel => exact ⟨i + 1, _, by omega, by go_num, HG7, B7⟩
          case measure => simp [intOf]; omega
    · obtain rfl : i = 3 := by omega
      obtain ⟨ao, co, hov⟩ := G3.out.reads.form
      subst hov
      go_wp2
      go_ret3
      exact ⟨_, rfl, G3.out.reads, below_up B1.out B3.out⟩

/-- The model's fixed designs, for every argument. -/
theorem specVec (k : Int) (wk : wfW k) : VecReads 35 k := by
  by_cases h2 : k = 2
  · subst h2
    intro W
    refine (specVecs2 3 (vecsL 2) rfl vecs_len_two (by omega) (fun v hv => ((allV_len 2 (by omega)).2 v (List.mem_filter.1 hv).1).1) W).mono ?_
    rintro e w' ⟨v, rfl, h, b⟩
    exact ⟨v, rfl, cols_two ▸ h, b⟩
  · by_cases h3 : k = 3
    · subst h3
      intro W
      refine (specVecs3 12 (vecsL 3) rfl vecs_len_three (by omega) (fun v hv => ((allV_len 3 (by omega)).2 v (List.mem_filter.1 hv).1).1) W).mono ?_
      rintro e w' ⟨v, rfl, h, b⟩
      exact ⟨v, rfl, cols_three ▸ h, b⟩
    · exact specVecNone k h2 h3
end Go.Proofs.Ythgdobnegepgoaa
