/- The contract of the model's list of the vectors of coins. Condition: two or three numbers a vector. -/
import Derived.Test.YthgdobnegepgoaaCountSpec
import Derived.Test.YthgdobnegepgoaaTurnSpec
import Derived.Deep.QuietTactic
import Derived.BigQuiet
namespace Go.Proofs.Ythgdobnegepgoaa
open Go.RowKit

/-- A slice value of integers that lies somewhere. -/
def SrcAt (w : World) (v : Value) (l : List Int) : Prop := IntsAt w v l ∧ ∃ k n c, v = .slice (some k) n c
theorem SrcAt.below {w w' : World} {v : Value} {l : List Int} (h : SrcAt w v l) (hb : Below w.heap.size w w') : SrcAt w' v l := ⟨h.1.below hb, h.2⟩
theorem SrcAt.src {w : World} {v : Value} {l : List Int} (h : SrcAt w v l) : ∃ ad c, v = .slice (some ad) l.length c ∧ ∀ j u, (l.map (Value.int .i64))[j]? = some u → w.cell? (ad.add j) = some u := by
  obtain ⟨⟨a, cap, rfl, h⟩, k, n, c, e⟩ := h
  cases e
  refine ⟨k, cap, rfl, fun j u hj => ?_⟩
  rcases h with rfl | ⟨b, o, e, hc⟩
  · simp at hj
  · cases e
    obtain ⟨h1, h2⟩ := List.getElem?_eq_some_iff.1 hj
    rw [List.length_map] at h1
    rw [List.getElem_map] at h2
    rw [← h2, Addr.add_lit]
    exact hc j h1
theorem SrcAt.blk {w : World} {v : Value} {l : List Int} (h : SrcAt w v l) (hl : l ≠ []) : Blk (· < w.heap.size) v := by
  obtain ⟨⟨a, cap, rfl, h⟩, k, n, c, e⟩ := h
  cases e
  rcases h with rfl | ⟨b, o, e, hc⟩
  · exact absurd rfl hl
  · cases e
    intro q hq
    have h0 := hc 0 (List.length_pos_iff.2 hl)
    have e : b = q := by simpa [Value.ownBlock] using hq
    subst e
    exact World.block_lt_of_cell? w _ h0
theorem SrcAt.of {w : World} {v : Value} {l : List Int} (h : IntsAt w v l) (hl : l ≠ []) : SrcAt w v l := by
  refine ⟨h, ?_⟩
  obtain ⟨a, cap, rfl, h⟩ := h
  rcases h with rfl | ⟨b, o, rfl, hc⟩
  · exact absurd rfl hl
  · exact ⟨_, _, _, rfl⟩
theorem rowForm {w : World} {B e s n : Nat} {v : Value} {xs : List Value} (h : w.ownsRow B e s v n xs) : ∃ a m c, v = .slice a m c := by
  rcases h.2 with ⟨rfl, _⟩ | ⟨g, c, cur, rfl, _⟩
  · exact ⟨none, 0, 0, rfl⟩
  · exact ⟨_, _, _, rfl⟩

/-- The slice value v reads as the lists of V. -/
def ListsAt (w : World) (v : Value) (V : List (List Int)) : Prop :=
  ∃ a cap, v = .slice a V.length cap ∧ ∀ i (h : i < V.length), ∃ g u, a = some ⟨g, 0, none⟩ ∧ w.cell? ⟨g, i, none⟩ = some u ∧ SrcAt w u V[i] ∧ g < w.heap.size
theorem ListsAt.below {w w' : World} {v : Value} {V : List (List Int)} (h : ListsAt w v V) (hb : Below w.heap.size w w') : ListsAt w' v V := by
  obtain ⟨a, cap, rfl, h⟩ := h
  refine ⟨a, cap, rfl, fun i hi => ?_⟩
  obtain ⟨g, u, e, h1, h2, h3⟩ := h i hi
  exact ⟨g, u, e, by rw [hb.cell (p := ⟨g, i, none⟩) h3]; exact h1, h2.below hb, Nat.lt_of_lt_of_le h3 hb.size⟩
theorem ListsAt.form {w : World} {v : Value} {V : List (List Int)} (h : ListsAt w v V) : ∃ a c, v = .slice a V.length c := by
  obtain ⟨a, c, rfl, -⟩ := h
  exact ⟨a, c, rfl⟩
theorem ListsK.reads {w : World} {lo : Nat} {ov : Value} {S : List (List Int)} {us : List Value} (h : ListsK w lo ov S us) (hs : ∀ s ∈ S, s ≠ []) : ListsAt w ov S := by
  rcases h.2.1.2 with ⟨h0, hn⟩ | ⟨g, cap, cur, h0, _⟩
  · exact ⟨none, 0, by rw [h0, hn], fun i hi => by omega⟩
  · have h1 := h.2.1
    subst h0
    refine ⟨_, cap, rfl, fun i hi => ?_⟩
    have hi' : i < us.length := by rw [h.1]; exact hi
    exact ⟨g, us[i], rfl, by rw [h1.cellAt i (by omega), List.getElem?_eq_getElem hi'], SrcAt.of (h.2.2 i hi hi').1 (hs _ (List.getElem_mem hi)), (h1.lt g rfl).2⟩
theorem ListsK.form {w : World} {lo : Nat} {ov : Value} {S : List (List Int)} {us : List Value} (h : ListsK w lo ov S us) : ∃ a c, ov = .slice a S.length c := by
  rcases h.2.1.2 with ⟨h0, hn⟩ | ⟨g, cap, cur, h0, _⟩
  · exact ⟨none, 0, by rw [h0, hn]⟩
  · exact ⟨_, cap, h0⟩


/-- Each list with each of three numbers behind it. -/
def extV (V : List (List Int)) : List (List Int) := V.flatMap fun v => [v ++ [0], v ++ [1], v ++ [2]]
/-- All lists of so many numbers from 0 to 2. -/
def allV : Nat → List (List Int)
  | 0 => [[]]
  | i + 1 => extV (allV i)
theorem extV_take {V : List (List Int)} {j : Nat} (h : j < V.length) : extV (V.take (j + 1)) = extV (V.take j) ++ [V[j] ++ [0], V[j] ++ [1], V[j] ++ [2]] := by
  unfold extV
  rw [List.take_succ_eq_append_getElem h, List.flatMap_append]
  simp
theorem extV_len (V : List (List Int)) : (extV V).length = 3 * V.length := by
  induction V with
  | nil => rfl
  | cons v r ih => simp [extV] at ih ⊢; omega
theorem allV_len (i : Nat) (h : i ≤ 3) : (allV i).length ≤ 27 ∧ ∀ v ∈ allV i, v.length = i ∧ ∀ x ∈ v, 0 ≤ x ∧ x ≤ 2 := by
  match i, h with
  | 0, _ => decide
  | 1, _ => decide
  | 2, _ => decide
  | 3, _ => decide
theorem extV_ne {V : List (List Int)} : ∀ s ∈ extV V, s ≠ [] := by
  intro s hs
  unfold extV at hs
  rw [List.mem_flatMap] at hs
  obtain ⟨v, _, h⟩ := hs
  simp at h
  rcases h with rfl | rfl | rfl <;> simp
/-- The first place from j on at which the next number differs. -/
def diffF (v : List Int) (k : Nat) : Nat → Nat → Nat
  | 0, j => j
  | f + 1, j => if j + 1 < k ∧ v[j + 1]? = v[j]? then diffF v k f (j + 1) else j
/-- Whether a vector stands for a coin. -/
def coinV (k : Nat) (v : List Int) : Bool :=
  let j := diffF v k k 0
  decide (j + 1 < k) && decide (((v[j + 1]?.getD 0) - (v[j]?.getD 0) + 3) % 3 = 1)
/-- The vectors of the coins. -/
def vecsL (k : Nat) : List (List Int) := (allV k).filter (coinV k)

theorem filter_take {V : List (List Int)} {p : List Int → Bool} {j : Nat} (h : j < V.length) : (V.take (j + 1)).filter p = (V.take j).filter p ++ (if p V[j] = true then [V[j]] else []) := by
  rw [List.take_succ_eq_append_getElem h, List.filter_append]
  congr 1
  by_cases e : p V[j] = true
  · simp [e]
  · simp [e]
theorem intsOwn {w : World} {B i : Nat} {v : Value} (x : List Int) (y : Int) (hi : x.length = i) (h : w.ownsRow B 3 1 v (0 + i + 1) (([] ++ x.map (Value.int .i64)) ++ [.int .i64 y])) : IntsAt w v (x ++ [y]) := by
  have e : w.ownsRow B 3 1 v (x ++ [y]).length ((x ++ [y]).map (Value.int .i64)) := by
    rw [List.length_append, List.map_append, hi]
    simpa using h
  exact IntsAt.of_owns e
theorem listsRow {w : World} {lo n : Nat} {v : Value} {S : List (List Int)} {us : List Value} (h : ListsK w lo v S us) (hn : S.length = n) : w.ownsRow lo 28 1 v n us := by
  rw [← hn]; exact h.2.1

set_option maxRecDepth 100000 in
set_option maxHeartbeats 12800000 in
theorem specVectors (k : Nat) (hk2 : 2 ≤ k) (hk3 : k ≤ 3) (w : World) :
    Calls Try.prog 59 #[.int .i64 (k : Int)] w fun e w' => ∃ v, e = .returned v ∧ ListsAt w' v (vecsL k) ∧ Below w.heap.size w w' := by
  obtain ⟨i0, hi, hz0, hz1, hz2⟩ := info_parts infoLst
  obtain ⟨j0, hj, hy0, hy1, hy2⟩ := info_parts infoInt
  have HAV := Lib.hid allV_len
  have A1 := alloc_below w (.cells #[] 3)
  have A2 := alloc_below (w.alloc (.cells #[] 3)) (.cells #[.slice (some ⟨w.heap.size, 0, none⟩) 0 0] 28)
  have L0 : Hid (ListsAt ((w.alloc (.cells #[] 3)).alloc (.cells #[.slice (some ⟨w.heap.size, 0, none⟩) 0 0] 28)) (.slice (some ⟨w.heap.size + 1, 0, none⟩) 1 1) (allV 0)) := by
    refine ⟨_, 1, rfl, fun i hi => ?_⟩
    have e0 : i = 0 := by simpa [allV] using hi
    subst e0
    refine ⟨w.heap.size + 1, .slice (some ⟨w.heap.size, 0, none⟩) 0 0, rfl, ?_, ⟨⟨_, 0, rfl, .inl rfl⟩, _, _, _, rfl⟩, by simp⟩
    have e : w.heap.size + 1 = (w.alloc (.cells #[] 3)).heap.size := by simp
    rw [e]
    simp
  have B0 := Lib.hid (below_up A1 A2)
  clear A1 A2
  go_enter Try.func59, Try.ntmps59
  go_wp2
  go_loopw [3, 4] (fun av iv wr => ∃ i : Nat, i ≤ k ∧ iv = .int .i64 i ∧ Hid (ListsAt wr av (allV i)) ∧ Hid (Below w.heap.size w wr)) (fun _ iv _ => k - (intOf iv).toNat)
  case atStart => exact ⟨0, Nat.zero_le _, rfl, L0, B0⟩
  case round =>
    clear L0 B0
    obtain ⟨i, hik, rfl, L1, B1⟩ := hrel
    by_cases hlt : i < k
    · obtain ⟨hv27, hvi⟩ := HAV.out i (by omega)
      have HVI := Lib.hid hvi
      have hxt : allV (i + 1) = extV (allV i) := rfl
      have HXT := Lib.hid hxt
      clear hxt hvi
      obtain ⟨V2, hV2⟩ : ∃ V2, allV (i + 1) = V2 := ⟨_, rfl⟩
      rw [hV2] at HXT
      have HV2 := Lib.hid hV2
      clear hV2
      generalize allV i = V at L1 hv27 HVI HXT
      obtain ⟨av, ac, hav⟩ := L1.out.form
      obtain ⟨m, hm⟩ : ∃ m, V.length = m := ⟨_, rfl⟩
      rw [hm] at hav hv27
      subst hav
      have HM := Lib.hid hm
      clear hm
      have i0' : (0 : Int) ≤ (i : Int) := by omega
      have i1 : (i : Int) < (k : Int) := by omega
      have R2 : Hid (ListsK (wr.alloc (.cells #[] 28)) wr.heap.size (.slice (some ⟨wr.heap.size, 0, none⟩) 0 0) [] []) :=
        ⟨rfl, World.ownsRow_lit (base := wr.heap.size) (e := 28) (size := 1) wr #[] 0 (Nat.le_refl _) (by unfold maxLen; omega) rfl, fun i h1 _ => by simp at h1⟩
      have A2 := Lib.hid (alloc_below wr (.cells #[] 28))
      obtain ⟨wo, hwo⟩ : ∃ wo : World, wo = wr := ⟨_, rfl⟩
      subst hwo
      go_wp2
      go_loopw [5, 23] (fun nv jv ws => ∃ (j : Nat) (us : List Value), j ≤ m ∧ jv = .int .i64 j ∧ Hid (ListsK ws wo.heap.size nv (extV (V.take j)) us) ∧ Hid (Below wo.heap.size wo ws)) (fun _ jv _ => m - (intOf jv).toNat)
      case atStart => exact ⟨0, [], Nat.zero_le _, rfl, R2, A2⟩
      case round =>
        clear R2 A2
        obtain ⟨j, us, hjm, rfl, R3, B3⟩ := hrel
        by_cases hjlt : j < m
        · have hjl : j < V.length := by rw [HM.out]; exact hjlt
          obtain ⟨a', c', hv', hcell⟩ := L1.out
          rw [HM.out] at hv'
          cases hv'
          obtain ⟨g, u, rfl, e0, hu, hg⟩ := hcell j hjl
          have e1 : wr.cell? ⟨g, j, none⟩ = some u := by rw [B3.out.cell (p := ⟨g, j, none⟩) hg]; exact e0
          have hvl := (HVI.out V[j] (List.getElem_mem hjl)).1
          have HET := Lib.hid (extV_take hjl)
          have hxl : (extV (V.take j)).length = 3 * j := by rw [extV_len]; simp; omega
          have HXL := Lib.hid hxl
          obtain ⟨x, hx⟩ : ∃ x, V[j] = x := ⟨_, rfl⟩
          rw [hx] at hu hvl HET
          obtain ⟨ad, cu, hul, -⟩ := hu.src
          rw [hvl] at hul
          subst hul
          have HU := Lib.hid hu
          have HVL := Lib.hid hvl
          have k0 : (0 : Int) ≤ (j : Int) := by omega
          have k1 : (j : Int) < (m : Int) := by omega
          clear hu hx hjl hcell hvl hxl e0
          have R4 : Hid (ListsK wr wo.heap.size u5 (extV (V.take j) ++ [x ++ [0], x ++ [1], x ++ [2]].take 0) us) := by
            unfold Hid
            simpa using R3.out
          have hsr : wo.heap.size ≤ wr.heap.size := B3.out.size
          obtain ⟨wp, hwp⟩ : ∃ wp : World, wp = wr := ⟨_, rfl⟩
          subst hwp
          go_wp2
          go_loopw [5, 8] (fun nv xv wt => ∃ (y : Nat) (us : List Value), y ≤ 3 ∧ xv = .int .i64 y ∧ Hid (ListsK wt wo.heap.size nv (extV (V.take j) ++ [x ++ [0], x ++ [1], x ++ [2]].take y) us) ∧ Hid (Below wo.heap.size wo wt)) (fun _ xv _ => 3 - (intOf xv).toNat)
          case atStart => exact ⟨0, us, by omega, rfl, R4, B3⟩
          case round =>
            clear R4 B3
            obtain ⟨y, us, hy3, rfl, R5, B5⟩ := hrel
            by_cases hylt : y < 3
            · obtain ⟨ad', cu', hv', hsrc⟩ := (HU.out.below B5.out).src
              rw [HVL.out] at hv'
              cases hv'
              have hTS : extV (V.take j) ++ [x ++ [0], x ++ [1], x ++ [2]].take (y + 1) = (extV (V.take j) ++ [x ++ [0], x ++ [1], x ++ [2]].take y) ++ [x ++ [(y : Int)]] := by
                rcases (show y = 0 ∨ y = 1 ∨ y = 2 by omega) with rfl | rfl | rfl <;> simp
              have HTS := Lib.hid hTS
              have hSl : (extV (V.take j) ++ [x ++ [0], x ++ [1], x ++ [2]].take y).length ≤ 100 := by
                rw [List.length_append, HXL.out]; simp; omega
              generalize extV (V.take j) ++ [x ++ [0], x ++ [1], x ++ [2]].take y = S at R5 HTS hSl
              obtain ⟨an, cn, hnv⟩ := R5.out.form
              obtain ⟨nS, hnS⟩ : ∃ nS, S.length = nS := ⟨_, rfl⟩
              rw [hnS] at hnv hSl
              have HNS := Lib.hid hnS
              subst hnv
              clear hnS hTS
              have A1 := Lib.hid (alloc_below wr (.cells #[] 3))
              have O1 : Hid ((wr.alloc (.cells #[] 3)).ownsRow wr.heap.size 3 1 (.slice (some ⟨wr.heap.size, 0, none⟩) 0 0) 0 []) := World.ownsRow_lit (base := wr.heap.size) (e := 3) (size := 1) wr #[] 0 (Nat.le_refl _) (by unfold maxLen; omega) rfl
              have SRC : Hid (∀ j u, (x.map (Value.int .i64))[j]? = some u → (wr.alloc (.cells #[] 3)).cell? (ad.add j) = some u) := fun j u hj => by
                have hc := hsrc j u hj
                rw [A1.out.cell (World.block_lt_of_cell? wr _ hc)]
                exact hc
              have HLX : Hid ((x.map (Value.int .i64)).length = i * 1) := by unfold Hid; rw [List.length_map, HVL.out]; omega
              have z1 : wr.heap.size ≤ (wr.alloc (.cells #[] 3)).heap.size := by simp
              have y0 : (0 : Int) ≤ (y : Int) := by omega
              have y1 : (y : Int) < 3 := by omega
              have hik3 : i ≤ 3 := by omega
              clear hsrc
              go_wp2_with (at_builtin; first
                | (refine wpList_append_own_at _ rfl _ _ 28 rfl wr.heap.size 3 j0 (.int .i64 0) 1 8 Try.underlying28 hj hy0 hy1 hy2 rfl (by decide) (.slice (some ⟨wr.heap.size, 0, none⟩) 0 0) 0 [] rfl O1.out ad i cu (x.map (Value.int .i64)) rfl HLX.out SRC.out (ints_one _) (by unfold maxLen; omega) (by omega) z1 ?_
                   intro v1 w1 hown1 hg1 _ hat1
                   obtain ⟨a1, n1, c1, hv1⟩ := rowForm hown1
                   subst hv1
                   have hg1' : (wr.alloc (.cells #[] 3)).grownBy w1 (Value.slice (some ⟨wr.heap.size, 0, none⟩) 0 0).ownBlock := hg1
                   have b1 : Below wr.heap.size wr w1 := Below.grown A1.out hg1' z1 (fun q hq => by have := (O1.out.lt q hq).1; omega)
                   have BB1 := Lib.hid b1
                   have A2 := Lib.hid (alloc_below w1 (.cells #[.int .i64 (y : Int)] 3))
                   have O2 := Lib.hid (owns_below hown1 A2.out)
                   have z2 : wr.heap.size ≤ (w1.alloc (.cells #[.int .i64 (y : Int)] 3)).heap.size := by have := b1.size; simp; omega
                   clear hg1 hg1' hown1 b1 hat1)
                | (refine wpList_append_own_at _ rfl _ _ 28 rfl wr.heap.size 3 j0 (.int .i64 0) 1 8 Try.underlying28 hj hy0 hy1 hy2 rfl (by decide) (.slice a1 n1 c1) (0 + i) ([] ++ x.map (Value.int .i64)) rfl O2.out ⟨w1.heap.size, 0, none⟩ 1 1 [.int .i64 (y : Int)] rfl rfl (cell_one_new _ _ _) (by simp [Value.oneCell']) (by unfold maxLen; omega) (by omega) z2 ?_
                   intro v2 w2 hown2 hg2 _ hat2
                   obtain ⟨a2, n2, c2, hv2⟩ := rowForm hown2
                   subst hv2
                   have hg2' : (w1.alloc (.cells #[.int .i64 (y : Int)] 3)).grownBy w2 (Value.slice a1 n1 c1).ownBlock := hg2
                   have b2 : Below wr.heap.size wr w2 := Below.grown (below_up BB1.out A2.out) hg2' z2 (fun q hq => by have := (O2.out.lt q hq).1; omega)
                   have BB2 := Lib.hid b2
                   have R6 := Lib.hid (R5.out.below b2)
                   have V2 := Lib.hid (intsOwn x (y : Int) (by rw [HVL.out]) hown2)
                   have BV := Lib.hid (owns_blk hown2)
                   have A3 := Lib.hid (alloc_below w2 (.cells #[.slice a2 n2 c2] 28))
                   have R7 := Lib.hid (R6.out.below A3.out)
                   have O3 : Hid ((w2.alloc (.cells #[.slice a2 n2 c2] 28)).ownsRow wo.heap.size 28 1 (.slice an nS cn) nS us) := listsRow R7.out HNS.out
                   have z3 : wo.heap.size ≤ (w2.alloc (.cells #[.slice a2 n2 c2] 28)).heap.size := by have := b2.size; have := B5.out.size; simp; omega
                   clear hg2 hg2' hown2 b2 hat2)
                | (refine wpList_append_own_at _ rfl _ _ 79 rfl wo.heap.size 28 i0 (.slice none 0 0) 1 24 Try.underlying79 hi hz0 hz1 hz2 rfl (by decide) (.slice an nS cn) nS us rfl O3.out ⟨w2.heap.size, 0, none⟩ 1 1 [.slice a2 n2 c2] rfl rfl (cell_one_new _ _ _) (by simp [Value.oneCell']) (by unfold maxLen; omega) (by omega) z3 ?_
                   intro v3 w3 hown3 hg3 _ hat3
                   have hg3' : (w2.alloc (.cells #[.slice a2 n2 c2] 28)).grownBy w3 (Value.slice an nS cn).ownBlock := hg3
                   have HG3 := Lib.hid hg3'
                   have HO3 := Lib.hid hown3
                   have HAT3 := Lib.hid hat3
                   clear hg3 hg3' hown3 hat3))
              have R8 : Hid (ListsK w3 wo.heap.size v3 (S ++ [x ++ [(y : Int)]]) (us ++ [.slice a2 n2 c2])) := R7.out.push HG3.out (by rw [HNS.out]; exact HO3.out) HAT3.out (V2.out.below A3.out) (fun q hq => ⟨fun e => by have h1 := (BV.out q hq).1; have h2 := (R5.out.2.1.lt q e).2; omega, by have h1 := (BV.out q hq).2; simp; omega⟩)
              rw [← HTS.out] at R8
              have B8 := Lib.hid (Below.grown (below_on B5.out B5.out.size ((BB2.out).trans (A3.out.mono BB2.out.size))) HG3.out z3 (fun q hq => by have := (O3.out.lt q hq).1; omega))
              go_wp2
              go_roundw
              case rel => exact ⟨y + 1, us ++ [.slice a2 n2 c2], by omega, by go_num, R8, B8⟩
              case measure => simp [intOf]; omega
            · obtain rfl : y = 3 := by omega
              have R6 : Hid (ListsK wr wo.heap.size u5 (extV (V.take (j + 1))) us) := by
                unfold Hid
                rw [HET.out]
                simpa using R5.out
              go_wp2
              go_roundw
              case rel => exact ⟨j + 1, us, by omega, by go_num, R6, B5⟩
              case measure => simp [intOf]; omega
        · obtain rfl : j = m := by omega
          have R6 : Hid (ListsAt wr u5 V2) := by
            have := R3.out.reads extV_ne
            rw [List.take_of_length_le (by rw [HM.out]; omega), ← HXT.out] at this
            exact this
          go_wp2
          go_roundw
          case rel => exact ⟨i + 1, by omega, by go_num, by rw [HV2.out]; exact R6, below_up B1.out B3.out⟩
          case measure => simp [intOf]; omega
    · obtain rfl : i = k := by omega
      obtain ⟨hv27, hvi⟩ := HAV.out i (by omega)
      have HVI := Lib.hid hvi
      have HF : Hid (vecsL i = (allV i).filter (coinV i)) := rfl
      clear hvi
      generalize allV i = V at L1 hv27 HVI HF
      obtain ⟨av, ac, hav⟩ := L1.out.form
      obtain ⟨m, hm⟩ : ∃ m, V.length = m := ⟨_, rfl⟩
      rw [hm] at hav hv27
      subst hav
      have HM := Lib.hid hm
      clear hm
      have R2 : Hid (ListsK (wr.alloc (.cells #[] 28)) wr.heap.size (.slice (some ⟨wr.heap.size, 0, none⟩) 0 0) [] []) :=
        ⟨rfl, World.ownsRow_lit (base := wr.heap.size) (e := 28) (size := 1) wr #[] 0 (Nat.le_refl _) (by unfold maxLen; omega) rfl, fun i h1 _ => by simp at h1⟩
      have A2 := Lib.hid (alloc_below wr (.cells #[] 28))
      obtain ⟨wo, hwo⟩ : ∃ wo : World, wo = wr := ⟨_, rfl⟩
      subst hwo
      go_wp2
      go_loopw [9, 11, 12, 45] (fun ov _ _ jv ws => ∃ (j : Nat) (us : List Value), j ≤ m ∧ jv = .int .i64 j ∧ Hid (ListsK ws wo.heap.size ov ((V.take j).filter (coinV i)) us) ∧ Hid (Below wo.heap.size wo ws)) (fun _ _ _ jv _ => m - (intOf jv).toNat)
      case atStart => exact ⟨0, [], Nat.zero_le _, rfl, R2, A2⟩
      case round =>
        clear R2 A2
        obtain ⟨j, us, hjm, rfl, R3, B3⟩ := hrel
        by_cases hjlt : j < m
        · have hjl : j < V.length := by rw [HM.out]; exact hjlt
          obtain ⟨a', c', hv', hcell⟩ := L1.out
          rw [HM.out] at hv'
          cases hv'
          obtain ⟨g, u, rfl, e0, hu, hg⟩ := hcell j hjl
          have e1 : wr.cell? ⟨g, j, none⟩ = some u := by rw [B3.out.cell (p := ⟨g, j, none⟩) hg]; exact e0
          have hvl := HVI.out V[j] (List.getElem_mem hjl)
          have HET := Lib.hid (filter_take (p := coinV i) hjl)
          obtain ⟨x, hx⟩ : ∃ x, V[j] = x := ⟨_, rfl⟩
          rw [hx] at hu hvl HET
          obtain ⟨hxl, hxd⟩ := hvl
          have HXD := Lib.hid hxd
          have HXL := Lib.hid hxl
          have hne : x ≠ [] := by intro e; rw [e] at hxl; simp at hxl; omega
          have HKB := Lib.hid (hu.blk hne)
          have HI := Lib.hid hu.1
          obtain ⟨au, cu, hul, huc⟩ := hu.1
          rw [hxl] at hul
          subst hul
          rcases huc with huc | ⟨b, o, rfl, huc⟩
          · exact absurd huc hne
          have HC : Hid (∀ (n : Nat) (h : n < i), wr.cell? ⟨b, o + n, none⟩ = some (.int .i64 (x[n]'(by rw [HXL.out]; exact h)))) := fun n h => by
            have h1 := huc n (by rw [hxl]; exact h)
            rw [B3.out.cell (p := ⟨b, o + n, none⟩) (World.block_lt_of_cell? wo _ h1)]
            exact h1
          obtain ⟨J, hJ⟩ : ∃ J, diffF x i i 0 = J := ⟨_, rfl⟩
          have HCV : Hid (coinV i x = (decide (J + 1 < i) && decide (((x[J + 1]?.getD 0) - (x[J]?.getD 0) + 3) % 3 = 1))) := by
            unfold Hid coinV
            rw [hJ]
          have HJ := Lib.hid hJ
          have HR6 : Hid (coinV i x = false → ∀ W, Below wr.heap.size wr W → ListsK W wo.heap.size u9 ((V.take (j + 1)).filter (coinV i)) us) := fun hf W hW => by
            rw [HET.out, hf]
            simpa using R3.out.below hW
          have HB6 : Hid (∀ W, Below wr.heap.size wr W → Below wo.heap.size wo W) := fun W hW => below_on B3.out B3.out.size hW
          have HSX : Hid (∀ W, Below wo.heap.size wo W → SrcAt W (.slice (some ⟨b, o, none⟩) i cu) x) := fun W hW => hu.below hW
          have k0 : (0 : Int) ≤ (j : Int) := by omega
          have k1 : (j : Int) < (m : Int) := by omega
          clear hu hx hjl hcell hxl hxd e0 hne huc hJ
          obtain ⟨wp, hwp⟩ : ∃ wp : World, wp = wr := ⟨_, rfl⟩
          subst hwp
          go_wp2
          go_loopw [12] (fun iv wt => ∃ f s p q : Nat, Hid (p = s + 1) ∧ i ≤ f + p ∧ p ≤ i ∧ iv = .int .i64 (p : Int) ∧ Hid (diffF x i f s = J) ∧ wt = wp.drewN q) (fun iv _ => i - (intOf iv).toNat)
          case atStart => exact ⟨i, 0, 1, 0, rfl, by omega, by omega, rfl, HJ, rfl⟩
          case round =>
            clear HJ
            obtain ⟨f, s, p, q, HPS, hf, hp, rfl, HD, rfl⟩ := hrel
            have hs : s < i := by have := HPS.out; omega
            by_cases hlt : p < i
            · have c1 := HC.out p hlt
              have c0 := HC.out s hs
              obtain ⟨d1, hd1⟩ : ∃ d1, x[p]'(by rw [HXL.out]; exact hlt) = d1 := ⟨_, rfl⟩
              obtain ⟨d0, hd0⟩ : ∃ d0, x[s]'(by rw [HXL.out]; exact hs) = d0 := ⟨_, rfl⟩
              rw [hd1] at c1
              rw [hd0] at c0
              have b1 := HXD.out d1 (by rw [← hd1]; exact List.getElem_mem _)
              have b0 := HXD.out d0 (by rw [← hd0]; exact List.getElem_mem _)
              have G1 : Hid (x[p]? = some d1) := by unfold Hid; rw [← hd1]; exact List.getElem?_eq_getElem _
              have G0 : Hid (x[s]? = some d0) := by unfold Hid; rw [← hd0]; exact List.getElem?_eq_getElem _
              clear hd1 hd0
              have i1 : (p : Int) < (i : Int) := by omega
              have i2 : (0 : Int) ≤ (p : Int) := by omega
              have i3 : (0 : Int) ≤ (s : Int) := by omega
              have i4 : (s : Int) < (i : Int) := by omega
              have iw : IntKind.i64.wrap ((p : Int) - 1) = (s : Int) := by have := HPS.out; rw [IntKind.wrap_i64]; omega
              by_cases hdd : d1 = d0
              · subst hdd
                have HD2 : Hid (diffF x i (f - 1) p = J) := by
                  unfold Hid
                  have h1 := HD.out
                  cases f with
                  | zero => omega
                  | succ f =>
                    unfold diffF at h1
                    rw [← HPS.out, if_pos ⟨hlt, by rw [G1.out, G0.out]⟩] at h1
                    exact h1
                go_wp2
                go_quiet (fail)
                go_wp2
                go_roundw
                case rel => exact ⟨f - 1, p, p + 1, _, rfl, by omega, by omega, by go_num, HD2, rfl⟩
                case measure => simp [intOf]; omega
              · have hJ : J = s := by
                  have h1 := HD.out
                  cases f with
                  | zero => omega
                  | succ f =>
                    unfold diffF at h1
                    rw [← HPS.out, if_neg (fun h => hdd (by have := h.2; rw [G1.out, G0.out] at this; exact Option.some.inj this))] at h1
                    exact h1.symm
                subst hJ
                have HT : Hid (coinV i x = decide ((d1 - d0 + 3) % 3 = 1)) := by
                  unfold Hid
                  rw [HCV.out, ← HPS.out, decide_eq_true hlt, G1.out, G0.out]; rfl
                have w1 : IntKind.i64.wrap (d1 - d0) = d1 - d0 := by rw [IntKind.wrap_i64]; omega
                have w2 : IntKind.i64.wrap (d1 - d0 + 3) = d1 - d0 + 3 := by rw [IntKind.wrap_i64]; omega
                obtain ⟨r, hr⟩ : ∃ r, (d1 - d0 + 3) % 3 = r := ⟨_, rfl⟩
                have w3 : (d1 - d0 + 3).tmod 3 = r := by rw [Int.tmod_eq_emod_of_nonneg (by omega)]; exact hr
                have w4 : IntKind.i64.wrap r = r := by rw [IntKind.wrap_i64]; omega
                rw [hr] at HT
                have hdb : (d1 == d0) = false := by simpa using hdd
                clear hr
                by_cases hr1 : r = 1
                · subst hr1
                  have HT2 : Hid (coinV i x = true) := HT.out
                  go_wp2
                  go_quiet (fail)
                  obtain ⟨q1, hq1⟩ : ∃ q1, q1 = nq := ⟨_, rfl⟩
                  subst hq1
                  go_wp2
                  go_quiet (fail)
                  obtain ⟨Y, hY⟩ : ∃ Y, ((wp.drewN q).drewN q1).drewN nq = Y := ⟨_, rfl⟩
                  have BY : Hid (Below wp.heap.size wp Y) := by rw [← hY]; exact below_drewN (below_drewN (below_drewN (Below.refl _ _) _) _) _
                  rw [hY]
                  have R6 := Lib.hid (R3.out.below BY.out)
                  generalize hSS : (V.take j).filter (coinV i) = S at R6 HET
                  have HS : Hid (S.length ≤ 100) := by
                    unfold Hid
                    rw [← hSS]
                    exact Nat.le_trans (List.length_filter_le _ _) (by simp; omega)
                  have hSl := HS.out
                  rw [HT2.out, if_pos rfl] at HET
                  clear hSS hY
                  obtain ⟨an, cn, hnv⟩ := R6.out.form
                  obtain ⟨nS, hnS⟩ : ∃ nS, S.length = nS := ⟨_, rfl⟩
                  rw [hnS] at hnv hSl
                  have HNS := Lib.hid hnS
                  subst hnv
                  clear hnS
                  have A3 := Lib.hid (alloc_below Y (.cells #[.slice (some ⟨b, o, none⟩) i cu] 28))
                  have R7 := Lib.hid (R6.out.below A3.out)
                  have O3 : Hid ((Y.alloc (.cells #[.slice (some ⟨b, o, none⟩) i cu] 28)).ownsRow wo.heap.size 28 1 (.slice an nS cn) nS us) := listsRow R7.out HNS.out
                  have z3 : wo.heap.size ≤ (Y.alloc (.cells #[.slice (some ⟨b, o, none⟩) i cu] 28)).heap.size := by have := BY.out.size; have := B3.out.size; simp; omega
                  go_wp2_with (at_builtin; refine wpList_append_own_at _ rfl _ _ 79 rfl wo.heap.size 28 i0 (.slice none 0 0) 1 24 Try.underlying79 hi hz0 hz1 hz2 rfl (by decide) (.slice an nS cn) nS us rfl O3.out ⟨Y.heap.size, 0, none⟩ 1 1 [.slice (some ⟨b, o, none⟩) i cu] rfl rfl (cell_one_new _ _ _) (by simp [Value.oneCell']) (by unfold maxLen; omega) (by omega) z3 ?_; intro v3 w3 hown3 hg3 _ hat3)
                  have hg3' : (Y.alloc (.cells #[.slice (some ⟨b, o, none⟩) i cu] 28)).grownBy w3 (Value.slice an nS cn).ownBlock := hg3
                  have BA := Lib.hid (below_up BY.out A3.out)
                  have BO := Lib.hid (HB6.out _ BA.out)
                  have R8 := Lib.hid (R7.out.push (s := x) (u := .slice (some ⟨b, o, none⟩) i cu) hg3' (by rw [HNS.out]; exact hown3) hat3 (HSX.out _ BO.out).1 (fun q hq => ⟨fun e => by have h1 := HKB.out q hq; have h2 := (O3.out.lt q e).1; omega, by have h1 := HKB.out q hq; omega⟩))
                  have B8 := Lib.hid (Below.grown BO.out hg3' z3 (fun q hq => by have := (O3.out.lt q hq).1; omega))
                  rw [← HET.out] at R8
                  clear hg3 hg3' hown3 hat3
                  go_wp2
                  go_roundw
                  case rel => exact ⟨j + 1, us ++ [.slice (some ⟨b, o, none⟩) i cu], by omega, by go_num, R8, B8⟩
                  case measure => simp [intOf]; omega
                · have HT2 : Hid (coinV i x = false) := by unfold Hid; rw [HT.out]; exact decide_eq_false hr1
                  have hrb : (r == 1) = false := by simpa using hr1
                  go_wp2
                  go_quiet (fail)
                  obtain ⟨q1, hq1⟩ : ∃ q1, q1 = nq := ⟨_, rfl⟩
                  subst hq1
                  go_wp2
                  go_quiet (fail)
                  obtain ⟨q2, hq2⟩ : ∃ q2, q2 = nq := ⟨_, rfl⟩
                  subst hq2
                  go_wp2
                  go_roundw
                  case rel => exact ⟨j + 1, us, by omega, by go_num, HR6.out HT2.out _ (by repeat first | exact Below.refl _ _ | refine below_drewN ?_ _), HB6.out _ (by repeat first | exact Below.refl _ _ | refine below_drewN ?_ _)⟩
                  case measure => simp [intOf]; omega
            · have hJ : J = s := by
                have h1 := HD.out
                cases f with
                | zero => exact h1.symm
                | succ f => unfold diffF at h1; rw [← HPS.out, if_neg (fun h => hlt h.1)] at h1; exact h1.symm
              subst hJ
              have HN : Hid (coinV i x = false) := by
                unfold Hid
                rw [HCV.out, ← HPS.out, decide_eq_false hlt]; rfl
              have i1 : ¬ ((p : Int) < (i : Int)) := by omega
              go_wp2
              go_quiet (fail)
              obtain ⟨q1, hq1⟩ : ∃ q1, q1 = nq := ⟨_, rfl⟩
              subst hq1
              go_wp2
              go_quiet (fail)
              obtain ⟨q2, hq2⟩ : ∃ q2, q2 = nq := ⟨_, rfl⟩
              subst hq2
              go_wp2
              go_roundw
              case rel => exact ⟨j + 1, us, by omega, by go_num, HR6.out HN.out _ (by repeat first | exact Below.refl _ _ | refine below_drewN ?_ _), HB6.out _ (by repeat first | exact Below.refl _ _ | refine below_drewN ?_ _)⟩
              case measure => simp [intOf]; omega
        · obtain rfl : j = m := by omega
          have R6 : Hid (ListsAt wr u9 (vecsL i)) := by
            have := R3.out.reads (fun s hs => by
              have := (HVI.out s (List.mem_of_mem_take (List.mem_filter.1 hs).1)).1
              intro e
              rw [e] at this
              simp at this
              omega)
            rw [List.take_of_length_le (by rw [HM.out]; omega), ← HF.out] at this
            exact this
          go_wp2
          go_ret
          exact ⟨_, rfl, R6.out, below_up B1.out B3.out⟩
end Go.Proofs.Ythgdobnegepgoaa
