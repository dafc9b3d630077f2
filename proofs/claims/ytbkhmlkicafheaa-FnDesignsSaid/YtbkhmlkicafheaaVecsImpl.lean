/- The contract of the program's vectorsOf: all lists of up to three numbers from 0 to 2. Condition: at most three numbers. -/
import Derived.Test.YtbkhmlkicafheaaStepsUp
namespace Go.Proofs.Ytbkhmlkicafheaa
open Go.RowKit

/-- The slice value v reads as the lists of V, which lie from block lo on. -/
def ListsI (w : World) (lo : Nat) (v : Value) (V : List (List Int)) : Prop :=
  ∃ a cap, v = .slice a V.length cap ∧ ∀ i (h : i < V.length), ∃ g u, a = some ⟨g, 0, none⟩ ∧ w.cell? ⟨g, i, none⟩ = some u ∧ IntsAt w u V[i] ∧ g < w.heap.size ∧ lo ≤ g ∧ Blk (fun b => lo ≤ b) u
theorem ListsI.below {w w' : World} {lo : Nat} {v : Value} {V : List (List Int)} (h : ListsI w lo v V) (hb : Below w.heap.size w w') : ListsI w' lo v V := by
  obtain ⟨a, cap, rfl, h⟩ := h
  refine ⟨a, cap, rfl, fun i hi => ?_⟩
  obtain ⟨g, u, e, h1, h2, h3, h4⟩ := h i hi
  exact ⟨g, u, e, by rw [hb.cell (p := ⟨g, i, none⟩) h3]; exact h1, h2.below hb, Nat.lt_of_lt_of_le h3 hb.size, h4⟩
theorem ListsI.only {T : Nat → Prop} {w w' : World} {lo : Nat} {v : Value} {V : List (List Int)} (h : ListsI w lo v V) (ho : Only T w w') (hT : ∀ b, lo ≤ b → ¬ T b) : ListsI w' lo v V := by
  obtain ⟨a, cap, rfl, h⟩ := h
  refine ⟨a, cap, rfl, fun i hi => ?_⟩
  obtain ⟨g, u, e, h1, h2, h3, h4, h5⟩ := h i hi
  refine ⟨g, u, e, ?_, h2.only ho (fun b hb => hT b (h5 b hb)), Nat.lt_of_lt_of_le h3 ho.size, h4, h5⟩
  rw [World.cell?_of_block (w := w) (a := ⟨g, i, none⟩) (ho.block g h3 (hT g h4))]
  exact h1
theorem ListsI.form {w : World} {lo : Nat} {v : Value} {V : List (List Int)} (h : ListsI w lo v V) : ∃ a c, v = .slice a V.length c := by
  obtain ⟨a, c, rfl, -⟩ := h
  exact ⟨a, c, rfl⟩
theorem ListsK.readsI {w : World} {lo lo' : Nat} {ov : Value} {S : List (List Int)} {us : List Value} (h : ListsK w lo ov S us) (hl : lo' ≤ lo) (hu : ∀ u ∈ us, Blk (fun b => lo' ≤ b) u) : ListsI w lo' ov S := by
  rcases h.2.1.2 with ⟨h0, hn⟩ | ⟨g, cap, cur, h0, _⟩
  · exact ⟨none, 0, by rw [h0, hn], fun i hi => by omega⟩
  · have h1 := h.2.1
    subst h0
    refine ⟨_, cap, rfl, fun i hi => ?_⟩
    have hi' : i < us.length := by rw [h.1]; exact hi
    exact ⟨g, us[i], rfl, by rw [h1.cellAt i (by omega), List.getElem?_eq_getElem hi'], (h.2.2 i hi hi').1, (h1.lt g rfl).2, Nat.le_trans hl (h1.lt g rfl).1, hu _ (List.getElem_mem hi')⟩

set_option maxRecDepth 100000 in
set_option maxHeartbeats 12800000 in
theorem implVectorsOf (k : Nat) (hk3 : k ≤ 3) (w : World) :
    Calls Try.prog 76 #[.int .i64 (k : Int)] w fun e w' => ∃ v, e = .returned v ∧ ListsI w' w.heap.size v (allV k) ∧ Below w.heap.size w w' := by
  obtain ⟨i0, hi, hz0, hz1, hz2⟩ := info_parts infoLst
  obtain ⟨j0, hj, hy0, hy1, hy2⟩ := info_parts infoInt
  have HAV := Lib.hid allV_len
  have L0 : Hid (ListsI (w.alloc (.cells #[.slice none 0 0] 39)) w.heap.size (.slice (some ⟨w.heap.size, 0, none⟩) 1 1) (allV 0)) := by
    refine ⟨_, 1, rfl, fun i hi => ?_⟩
    have e0 : i = 0 := by simpa [allV] using hi
    subst e0
    exact ⟨w.heap.size, .slice none 0 0, rfl, by simp, ⟨none, 0, rfl, .inl rfl⟩, by simp, Nat.le_refl _, fun b hb => by simp [Value.ownBlock] at hb⟩
  have B0 := Lib.hid (alloc_below w (.cells #[.slice none 0 0] 39))
  go_enter Try.func76, Try.ntmps76
  go_wp2
  go_loopw [3, 10] (fun av iv wr => ∃ i : Nat, i ≤ k ∧ iv = .int .i64 i ∧ Hid (ListsI wr w.heap.size av (allV i)) ∧ Hid (Below w.heap.size w wr)) (fun _ iv _ => k - (intOf iv).toNat)
  case atStart => exact ⟨0, Nat.zero_le _, rfl, L0, B0⟩
  case round =>
    clear L0 B0
    obtain ⟨i, hik, rfl, L1, B1⟩ := hrel
    by_cases hlt : i < k
    · obtain ⟨hv27, hvi⟩ := HAV.out i (by omega)
      have HVI := Lib.hid hvi
      have hxt : allV (i + 1) = extV (allV i) := rfl
      have HXT := Lib.hid hxt
      clear hxt hvi
      obtain ⟨V2, hV2⟩ : ∃ V2, allV (i + 1) = V2 := ⟨_, rfl⟩
      rw [hV2] at HXT
      have HV2 := Lib.hid hV2
      clear hV2
      generalize allV i = V at L1 hv27 HVI HXT
      obtain ⟨av, ac, hav⟩ := L1.out.form
      obtain ⟨m, hm⟩ : ∃ m, V.length = m := ⟨_, rfl⟩
      rw [hm] at hav hv27
      subst hav
      have HM := Lib.hid hm
      clear hm
      have i0' : (0 : Int) ≤ (i : Int) := by omega
      have i1 : (i : Int) < (k : Int) := by omega
      have R2 : Hid (ListsK wr wr.heap.size (.slice none 0 0) [] []) := ⟨rfl, World.ownsRow_nil _ _ _ _, fun i h1 _ => by simp at h1⟩
      have A2 : Hid (Below wr.heap.size wr wr) := Below.refl _ _
      obtain ⟨wo, hwo⟩ : ∃ wo : World, wo = wr := ⟨_, rfl⟩
      subst hwo
      go_wp2
      go_loopw [4, 14] (fun nv jv ws => ∃ (j : Nat) (us : List Value), j ≤ m ∧ jv = .int .i64 j ∧ Hid (ListsK ws wo.heap.size nv (extV (V.take j)) us) ∧ Hid (∀ u ∈ us, Blk (fun b => w.heap.size ≤ b) u) ∧ Hid (Below wo.heap.size wo ws)) (fun _ jv _ => m - (intOf jv).toNat)
      case atStart => exact ⟨0, [], Nat.zero_le _, rfl, R2, fun u hu => by simp at hu, A2⟩
      case round =>
        clear R2 A2
        obtain ⟨j, us, hjm, rfl, R3, U3, B3⟩ := hrel
        by_cases hjlt : j < m
        · have hjl : j < V.length := by rw [HM.out]; exact hjlt
          obtain ⟨a', c', hv', hcell⟩ := L1.out
          rw [HM.out] at hv'
          cases hv'
          obtain ⟨g, u, rfl, e0, hu, hg, -⟩ := hcell j hjl
          have e1 : wr.cell? ⟨g, j, none⟩ = some u := by rw [B3.out.cell (p := ⟨g, j, none⟩) hg]; exact e0
          have hvl := (HVI.out V[j] (List.getElem_mem hjl)).1
          have HET := Lib.hid (extV_take hjl)
          have hxl : (extV (V.take j)).length = 3 * j := by rw [extV_len]; simp; omega
          have HXL := Lib.hid hxl
          obtain ⟨x, hx⟩ : ∃ x, V[j] = x := ⟨_, rfl⟩
          rw [hx] at hu hvl HET
          obtain ⟨au, nu, cu, rfl⟩ := hu.form
          have HU := Lib.hid hu
          have HVL := Lib.hid hvl
          have CC := Lib.hid (fun W h => implCopyI (.slice au nu cu) x W h (by rw [hvl]; omega))
          have k0 : (0 : Int) ≤ (j : Int) := by omega
          have k1 : (j : Int) < (m : Int) := by omega
          clear hu hx hjl hcell hvl hxl e0
          have R4 : Hid (ListsK wr wo.heap.size u4 (extV (V.take j) ++ [x ++ [0], x ++ [1], x ++ [2]].take 0) us) := by
            unfold Hid
            simpa using R3.out
          have hsr : wo.heap.size ≤ wr.heap.size := B3.out.size
          obtain ⟨wp, hwp⟩ : ∃ wp : World, wp = wr := ⟨_, rfl⟩
          subst hwp
          go_wp2
          go_loopw [4, 18] (fun nv xv wt => ∃ (y : Nat) (us : List Value), y ≤ 3 ∧ xv = .int .i64 y ∧ Hid (ListsK wt wo.heap.size nv (extV (V.take j) ++ [x ++ [0], x ++ [1], x ++ [2]].take y) us) ∧ Hid (∀ u ∈ us, Blk (fun b => w.heap.size ≤ b) u) ∧ Hid (Below wo.heap.size wo wt)) (fun _ xv _ => 3 - (intOf xv).toNat)
          case atStart => exact ⟨0, us, by omega, rfl, R4, U3, B3⟩
          case round =>
            clear R4 B3 U3
            obtain ⟨y, us, hy3, rfl, R5, U5, B5⟩ := hrel
            by_cases hylt : y < 3
            · have hTS : extV (V.take j) ++ [x ++ [0], x ++ [1], x ++ [2]].take (y + 1) = (extV (V.take j) ++ [x ++ [0], x ++ [1], x ++ [2]].take y) ++ [x ++ [(y : Int)]] := by
                rcases (show y = 0 ∨ y = 1 ∨ y = 2 by omega) with rfl | rfl | rfl <;> simp
              have HTS := Lib.hid hTS
              have hSl : (extV (V.take j) ++ [x ++ [0], x ++ [1], x ++ [2]].take y).length ≤ 100 := by
                rw [List.length_append, HXL.out]; simp; omega
              generalize extV (V.take j) ++ [x ++ [0], x ++ [1], x ++ [2]].take y = S at R5 HTS hSl
              obtain ⟨an, cn, hnv⟩ := R5.out.form
              obtain ⟨nS, hnS⟩ : ∃ nS, S.length = nS := ⟨_, rfl⟩
              rw [hnS] at hnv hSl
              have HNS := Lib.hid hnS
              subst hnv
              clear hnS hTS
              have IU := Lib.hid (HU.out.below B5.out)
              have y0 : (0 : Int) ≤ (y : Int) := by omega
              have y1 : (y : Int) < 3 := by omega
              have hik3 : i ≤ 3 := by omega
              go_wp2_with fail
              refine (CC.out _ IU.out).mono ?_
              rintro e w1 ⟨u1, rfl, hown1, b1⟩
              obtain ⟨a1, n1, c1, rfl⟩ := hown1.form
              have BB1 := Lib.hid b1
              have A2 := Lib.hid (alloc_below w1 (.cells #[.int .i64 (y : Int)] 3))
              have O2 : Hid ((w1.alloc (.cells #[.int .i64 (y : Int)] 3)).ownsRow wr.heap.size 3 1 (.slice a1 n1 c1) (0 + i) ([] ++ x.map (Value.int .i64))) := by
                have := owns_below hown1 A2.out
                rw [HVL.out] at this
                unfold Hid
                rw [Nat.zero_add, List.nil_append]
                exact this
              have z2 : wr.heap.size ≤ (w1.alloc (.cells #[.int .i64 (y : Int)] 3)).heap.size := by have := b1.size; simp; omega
              clear hown1 b1
              go_wp2_with (at_builtin; first
                | (refine wpList_append_own_at _ rfl _ _ 39 rfl wr.heap.size 3 j0 (.int .i64 0) 1 8 Try.underlying39 hj hy0 hy1 hy2 rfl (by decide) (.slice a1 n1 c1) (0 + i) ([] ++ x.map (Value.int .i64)) rfl O2.out ⟨w1.heap.size, 0, none⟩ 1 1 [.int .i64 (y : Int)] rfl rfl (cell_one_new _ _ _) (by simp [Value.oneCell']) (by unfold maxLen; omega) (by omega) z2 ?_
                   intro v2 w2 hown2 hg2 _ hat2
                   obtain ⟨a2, n2, c2, hv2⟩ := rowForm hown2
                   subst hv2
                   have hg2' : (w1.alloc (.cells #[.int .i64 (y : Int)] 3)).grownBy w2 (Value.slice a1 n1 c1).ownBlock := hg2
                   have b2 : Below wr.heap.size wr w2 := Below.grown (below_up BB1.out A2.out) hg2' z2 (fun q hq => by have := (O2.out.lt q hq).1; omega)
                   have BB2 := Lib.hid b2
                   have R6 := Lib.hid (R5.out.below b2)
                   have V2 := Lib.hid (intsOwn x (y : Int) (by rw [HVL.out]) hown2)
                   have BV := Lib.hid (owns_blk hown2)
                   have A3 := Lib.hid (alloc_below w2 (.cells #[.slice a2 n2 c2] 39))
                   have R7 := Lib.hid (R6.out.below A3.out)
                   have O3 : Hid ((w2.alloc (.cells #[.slice a2 n2 c2] 39)).ownsRow wo.heap.size 39 1 (.slice an nS cn) nS us) := listsRow R7.out HNS.out
                   have z3 : wo.heap.size ≤ (w2.alloc (.cells #[.slice a2 n2 c2] 39)).heap.size := by have := b2.size; have := B5.out.size; simp; omega
                   clear hg2 hg2' hown2 b2 hat2)
                | (refine wpList_append_own_at _ rfl _ _ 101 rfl wo.heap.size 39 i0 (.slice none 0 0) 1 24 Try.underlying101 hi hz0 hz1 hz2 rfl (by decide) (.slice an nS cn) nS us rfl O3.out ⟨w2.heap.size, 0, none⟩ 1 1 [.slice a2 n2 c2] rfl rfl (cell_one_new _ _ _) (by simp [Value.oneCell']) (by unfold maxLen; omega) (by omega) z3 ?_
                   intro v3 w3 hown3 hg3 _ hat3
                   have hg3' : (w2.alloc (.cells #[.slice a2 n2 c2] 39)).grownBy w3 (Value.slice an nS cn).ownBlock := hg3
                   have HG3 := Lib.hid hg3'
                   have HO3 := Lib.hid hown3
                   have HAT3 := Lib.hid hat3
                   clear hg3 hg3' hown3 hat3))
              have R8 : Hid (ListsK w3 wo.heap.size v3 (S ++ [x ++ [(y : Int)]]) (us ++ [.slice a2 n2 c2])) := R7.out.push HG3.out (by rw [HNS.out]; exact HO3.out) HAT3.out (V2.out.below A3.out) (fun q hq => ⟨fun e => by have h1 := (BV.out q hq).1; have h2 := (R5.out.2.1.lt q e).2; omega, by have h1 := (BV.out q hq).2; simp; omega⟩)
              rw [← HTS.out] at R8
              have B8 := Lib.hid (Below.grown (below_on B5.out B5.out.size ((BB2.out).trans (A3.out.mono BB2.out.size))) HG3.out z3 (fun q hq => by have := (O3.out.lt q hq).1; omega))
              have hwo : w.heap.size ≤ wo.heap.size := B1.out.size
              have hwr : wo.heap.size ≤ wr.heap.size := B5.out.size
              have U8 : Hid (∀ u ∈ us ++ [.slice a2 n2 c2], Blk (fun b => w.heap.size ≤ b) u) := fun u hu => by
                rcases List.mem_append.1 hu with hu | hu
                · exact U5.out u hu
                · rw [List.mem_singleton] at hu
                  subst hu
                  exact fun q hq => by have := (BV.out q hq).1; omega
              go_wp2
              go_roundw
              case rel => exact ⟨y + 1, us ++ [.slice a2 n2 c2], by omega, by go_num, R8, U8, B8⟩
              case measure => simp [intOf]; omega
            · obtain rfl : y = 3 := by omega
              have R6 : Hid (ListsK wr wo.heap.size u4 (extV (V.take (j + 1))) us) := by
                unfold Hid
                rw [HET.out]
                simpa using R5.out
              go_wp2
              go_roundw
              case rel => exact ⟨j + 1, us, by omega, by go_num, R6, U5, B5⟩
              case measure => simp [intOf]; omega
        · obtain rfl : j = m := by omega
          have R6 : Hid (ListsI wr w.heap.size u4 V2) := by
            have := R3.out.readsI B1.out.size U3.out
            rw [List.take_of_length_le (by rw [HM.out]; omega), ← HXT.out] at this
            exact this
          go_wp2
          go_roundw
          case rel => exact ⟨i + 1, by omega, by go_num, by rw [HV2.out]; exact R6, below_up B1.out B3.out⟩
          case measure => simp [intOf]; omega
    · obtain rfl : i = k := by omega
      obtain ⟨av, ac, hav⟩ := L1.out.form
      subst hav
      go_wp2
      go_ret
      exact ⟨_, rfl, L1.out, B1.out⟩
end Go.Proofs.Ytbkhmlkicafheaa
