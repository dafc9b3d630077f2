/- The contracts of cmp.Compare, slices.Compare and slices.SortFunc at lists of integers, and of slices.CompactFunc as far as its length goes. Conditions: the lists read as integers and lie in other blocks than the row; at most 1024 of them. -/
import Derived.Test.YtoliloophjeooaaSumAllImpl
import Derived.Test.YtoliloophjeooaaSumRuns
import Derived.Test.YtoliloophjeooaaEqualImpl
import Derived.Test.YtoliloophjeooaaShelf
import Derived.Lib.SliceRun
namespace Go.Proofs.Ytoliloophjeooaa
open Go.RowKit

set_option maxHeartbeats 800000 in
theorem implCmp (x y : Int) (W : World) : Calls Try.prog 68 #[.int .i64 x, .int .i64 y] W fun e w' => e = .returned (.int .i64 (if x < y then -1 else if y < x then 1 else 0)) ∧ W = w' := by
  have nx : (x != x) = false := by simp
  have ny : (y != y) = false := by simp
  by_cases h1 : x < y
  · rw [if_pos h1]
    go_enter Try.func68, Try.ntmps68
    go_wp2
    go_ret
    exact ⟨rfl, rfl⟩
  · rw [if_neg h1]
    by_cases h2 : y < x
    · rw [if_pos h2]
      go_enter Try.func68, Try.ntmps68
      go_wp2
      go_ret
      exact ⟨rfl, rfl⟩
    · rw [if_neg h2]
      go_enter Try.func68, Try.ntmps68
      go_wp2
      go_ret
      exact ⟨rfl, rfl⟩

set_option maxHeartbeats 1600000 in
theorem implCompare (u v : Value) (A B : List Int) (w : World) (h1 : IntsAt w u A) (h2 : IntsAt w v B) (m1 : A.length ≤ 1048576) (m2 : B.length ≤ 1048576) :
    Calls Try.prog 43 #[u, v] w fun e w' => e = .returned (.int .i64 (cmpL A B)) ∧ w = w' := by
  obtain ⟨a1, c1, rfl, h1⟩ := h1
  obtain ⟨a2, c2, rfl, h2⟩ := h2
  have H1 : Hid (∀ i (h : i < A.length), ∃ b o, a1 = some ⟨b, o, none⟩ ∧ w.cell? ⟨b, o + i, none⟩ = some (.int .i64 A[i])) := by
    intro i hi
    rcases h1 with rfl | ⟨b, o, rfl, hc⟩
    · simp at hi
    · exact ⟨b, o, rfl, hc i hi⟩
  have H2 : Hid (∀ i (h : i < B.length), ∃ b o, a2 = some ⟨b, o, none⟩ ∧ w.cell? ⟨b, o + i, none⟩ = some (.int .i64 B[i])) := by
    intro i hi
    rcases h2 with rfl | ⟨b, o, rfl, hc⟩
    · simp at hi
    · exact ⟨b, o, rfl, hc i hi⟩
  clear h1 h2
  have HS0 : Hid (cmpL A B = cmpL (A.drop 0) (B.drop 0)) := rfl
  generalize cmpL A B = r at HS0 ⊢
  obtain ⟨n, hn⟩ : ∃ n, A.length = n := ⟨_, rfl⟩
  obtain ⟨m, hm⟩ : ∃ m, B.length = m := ⟨_, rfl⟩
  have HN := Lib.hid hn
  have HM := Lib.hid hm
  rw [hn] at m1 ⊢
  rw [hm] at m2 ⊢
  clear hn hm
  go_enter Try.func43, Try.ntmps43
  go_wp2
  go_loop [11] (fun i => ∃ k : Nat, k ≤ n ∧ k ≤ m ∧ i = .int .i64 k ∧ Hid (r = cmpL (A.drop k) (B.drop k))) (fun i => n - (intOf i).toNat)
  case atStart => exact ⟨0, Nat.zero_le _, Nat.zero_le _, rfl, HS0⟩
  case round =>
    clear HS0
    obtain ⟨k, hk, hk2, rfl, HS⟩ := hrel
    by_cases hlt : k < n
    · have hkl : k < A.length := by rw [HN.out]; exact hlt
      obtain ⟨b, o, rfl, e0⟩ := H1.out k hkl
      by_cases hl2 : k < m
      · have hkm : k < B.length := by rw [HM.out]; exact hl2
        obtain ⟨b', o', rfl, e1⟩ := H2.out k hkm
        have HD := HS.out
        rw [List.drop_eq_getElem_cons hkl, List.drop_eq_getElem_cons hkm, cmpL] at HD
        obtain ⟨x, hx⟩ : ∃ x, A[k] = x := ⟨_, rfl⟩
        obtain ⟨y, hy⟩ : ∃ y, B[k] = y := ⟨_, rfl⟩
        rw [hx] at e0 HD
        rw [hy] at e1 HD
        have CC := Lib.hid (implCmp x y w)
        have HDD := Lib.hid HD
        have k0 : (0 : Int) ≤ (k : Int) := by omega
        have k1 : (k : Int) < (n : Int) := by omega
        have k2 : ¬ (m : Int) ≤ (k : Int) := by omega
        have k3 : (k : Int) < (m : Int) := by omega
        clear hx hy hkl hkm HD HS
        by_cases g1 : x < y
        · have HE : Hid (r = -1) := by unfold Hid; rw [HDD.out, if_pos g1]
          rw [if_pos g1] at CC
          clear g1
          go_wp2_with fail
          refine CC.out.mono ?_
          rintro e w1 ⟨rfl, rfl⟩
          go_wp2
          go_ret
          exact ⟨ret_int HE.out.symm, rfl⟩
        · by_cases g2 : y < x
          · have HE : Hid (r = 1) := by unfold Hid; rw [HDD.out, if_neg g1, if_pos g2]
            rw [if_neg g1, if_pos g2] at CC
            clear g1 g2
            go_wp2_with fail
            refine CC.out.mono ?_
            rintro e w1 ⟨rfl, rfl⟩
            go_wp2
            go_ret
            exact ⟨ret_int HE.out.symm, rfl⟩
          · have HE : Hid (r = cmpL (A.drop (k + 1)) (B.drop (k + 1))) := by unfold Hid; rw [HDD.out, if_neg g1, if_neg g2]
            rw [if_neg g1, if_neg g2] at CC
            clear g1 g2
            go_wp2_with fail
            refine CC.out.mono ?_
            rintro e w1 ⟨rfl, rfl⟩
            go_wp2
            go_round
            case rel => exact ⟨k + 1, by omega, by omega, by go_num, HE⟩
            case measure => simp [intOf]; omega
      · have HE : Hid (r = 1) := by
          unfold Hid
          have hd : B.drop k = [] := List.drop_of_length_le (by rw [HM.out]; omega)
          rw [HS.out, hd, List.drop_eq_getElem_cons hkl]
          rfl
        have k0 : (0 : Int) ≤ (k : Int) := by omega
        have k1 : (k : Int) < (n : Int) := by omega
        have k2 : (m : Int) ≤ (k : Int) := by omega
        obtain ⟨x, hx⟩ : ∃ x, A[k] = x := ⟨_, rfl⟩
        rw [hx] at e0
        clear hx hkl HS
        go_wp2
        go_ret
        exact ⟨ret_int HE.out.symm, rfl⟩
    · obtain rfl : k = n := by omega
      by_cases hl2 : k < m
      · have hkm : k < B.length := by rw [HM.out]; exact hl2
        have HE : Hid (r = -1) := by
          unfold Hid
          have hd : A.drop k = [] := List.drop_of_length_le (by rw [HN.out]; omega)
          rw [HS.out, hd, List.drop_eq_getElem_cons hkm]
          rfl
        have k1 : (k : Int) < (m : Int) := by omega
        clear hkm HS
        go_wp2
        go_ret
        exact ⟨ret_int HE.out.symm, rfl⟩
      · have HE : Hid (r = 0) := by
          unfold Hid
          have hd : A.drop k = [] := List.drop_of_length_le (by rw [HN.out]; omega)
          have hd2 : B.drop k = [] := List.drop_of_length_le (by rw [HM.out]; omega)
          rw [HS.out, hd, hd2]
          rfl
        have k1 : ¬ (k : Int) < (m : Int) := by omega
        clear HS
        go_wp2
        go_ret
        exact ⟨ret_int HE.out.symm, rfl⟩

section
variable {α : Type} [Inhabited α] {enc : α → Value} {w : World} {g n : Nat} {os : Array Obj}
theorem heap_sortedL {cur : Array Value} {e : TypeId} {fr : Nat × Nat} (d : Array α) (hb : w.heap[g]? = some (.cells cur e fr)) :
    (sortWorld enc w g 0 n d os).heap[g]? = some (.cells (Sort.putCells enc 0 d cur) e fr) := by
  have hg : g < w.heap.size := (Array.getElem?_eq_some_iff.1 hb).1
  unfold sortWorld
  rw [Sort.heap_grow_old _ _ (by simpa using hg)]
  simp [Sort.putRow, Sort.mapBlock, Sort.ahead, Array.getElem?_modify, hb, Sort.onCells]
theorem grownBy_sortedL (d : Array α) : w.grownBy (sortWorld enc w g 0 n d os) (some g) := by
  refine ⟨rfl, rfl, rfl, by simp [sortWorld], fun k hk hne => ?_⟩
  unfold sortWorld
  rw [Sort.heap_grow_old _ _ (by simpa using hk)]
  have : g ≠ k := fun e => hne (by rw [e])
  simp [Sort.putRow, Sort.mapBlock, Sort.ahead, Array.getElem?_modify, this]
theorem take_putCellsL (cur : Array Value) (d : Array α) (h : d.size ≤ cur.size) : (Sort.putCells enc 0 d cur).toList.take d.size = (List.range d.size).map fun i => enc d[i]! := by
  apply List.ext_getElem?
  intro j
  by_cases hj : j < d.size
  · rw [List.getElem?_take_of_lt hj, Array.getElem?_toList]
    simp [Sort.putCells, hj, show j < cur.size by omega]
  · rw [List.getElem?_take_eq_none (by omega), List.getElem?_eq_none (by simp; omega)]
theorem ownsRow_sortedL {base cap m : Nat} {e : TypeId} {xs : List Value} {d : Array α} (h : w.ownsRow base e 1 (.slice (some ⟨g, 0, none⟩) m cap) m xs) (hd : d.size = m) :
    (sortWorld enc w g 0 n d os).ownsRow base e 1 (.slice (some ⟨g, 0, none⟩) m cap) m ((List.range m).map fun i => enc d[i]!) := by
  rcases h.2 with ⟨h0, _⟩ | ⟨g', cap', cur, h0, hbase, hb, h1, h2, h3, _⟩
  · cases h0
  · cases h0
    refine ⟨by simp, .inr ⟨g, cap, _, rfl, hbase, heap_sortedL _ hb, h1, h2, by simp [Sort.putCells, h3], ?_⟩⟩
    rw [Nat.mul_one, ← hd]
    exact take_putCellsL cur d (by omega)
end
theorem extract_all {β : Type} (d : Array β) {m : Nat} (h : d.size = m) : d.extract 0 m = d := by subst h; simp
/-- A row that is sorted: what lies where. -/
structure Sorted (P : List Int) (N : Nat) (p : Nat → Nat) : Prop where
  lt : ∀ i, i < N → p i < N
  all : ∀ k, k < N → ∃ i, i < N ∧ p i = k
  up : ∀ i j, i < j → j < N → ¬ cmpL (sumL P (p j : Nat)) (sumL P (p i : Nat)) < 0

theorem swoL (P : List Int) (N : Nat) : Sort.SWO (ltOf fun (x y : Fin N) => cmpL (sumL P (x.1 : Int)) (sumL P (y.1 : Int))) where
  irrefl x := by
    show decide (cmpL (sumL P (x.1 : Int)) (sumL P (x.1 : Int)) < 0) = false
    rw [cmpL_self]
    rfl
  trans x y z h1 h2 := by
    unfold ltOf at *
    exact decide_eq_true (cmpL_trans _ _ _ (of_decide_eq_true h1) (of_decide_eq_true h2))
  ntrans x y z h1 h2 := by
    unfold ltOf at *
    exact decide_eq_false (cmpL_ntrans _ _ _ (of_decide_eq_false h1) (of_decide_eq_false h2))

set_option maxRecDepth 100000 in
set_option maxHeartbeats 3200000 in
theorem implSortRows (P : List Int) (hP : P.length ≤ 1048576) (w : World) (lo g cap N : Nat) (us : List Value) (h0 : 0 < N) (hN : N ≤ 1024) (h : RowsI w lo (.slice (some ⟨g, 0, none⟩) N cap) (allSL P N) us) :
    Calls Try.prog 42 #[.slice (some ⟨g, 0, none⟩) N cap, .func (.func 43) #[] #[]] w fun e w' => e = .returned (.tuple #[]) ∧
      ∃ (p : Nat → Nat) (us' : List Value), Sorted P N p ∧ RowsI w' lo (.slice (some ⟨g, 0, none⟩) N cap) ((List.range N).map fun i => sumL P (p i : Nat)) us' ∧ w.grownBy w' (some g) := by
  haveI : Inhabited (Fin N) := ⟨⟨0, h0⟩⟩
  have hlen : us.length = N := by rw [h.1, allSL_len]
  have hrow := h.2.1
  rw [allSL_len] at hrow
  have hget : ∀ x : Fin N, IntsAt w (us[x.1]'(by rw [hlen]; exact x.2)) (sumL P (x.1 : Int)) ∧ Blk (fun b => (Value.slice (some ⟨g, 0, none⟩) N cap).ownBlock ≠ some b ∧ b < w.heap.size) (us[x.1]'(by rw [hlen]; exact x.2)) := fun x => by
    have := h.2.2 x.1 (by rw [allSL_len]; exact x.2) (by rw [hlen]; exact x.2)
    rw [allSL_at] at this
    exact this
  let enc : Fin N → Value := fun x => us[x.1]'(by rw [hlen]; exact x.2)
  have hone : OneCell enc := fun x => by
    obtain ⟨a, n, c, e⟩ := (hget x).1.form
    show (us[x.1]'(by rw [hlen]; exact x.2)).oneCell' = true
    rw [e]
    rfl
  let d : Array (Fin N) := Array.ofFn fun x => x
  have hd : d.size = N := by simp [d]
  have hdi : ∀ i (hi : i < N), d[i]! = ⟨i, hi⟩ := fun i hi => by
    rw [getElem!_pos d i (by rw [hd]; exact hi)]
    simp [d]
  have hH : Sort.Holds enc w g 0 d := fun j hj => by
    have hj' : j < N := by rw [← hd]; exact hj
    rw [Nat.zero_add, hrow.cellAt j (by omega), hdi j hj', List.getElem?_eq_getElem (by rw [hlen]; exact hj')]
    exact ⟨rfl, hrow.frozenAt j⟩
  have hone' : ∀ (m : Nat) (os : Array Obj) (dk : Array (Fin N)) (x : Fin N), IntsAt (sortWorld enc w g 0 m dk os) (enc x) (sumL P (x.1 : Int)) := fun m os dk x =>
    (hget x).1.only (Only.of_grown (grownBy_sortedL dk)) fun b hb e => ((hget x).2 b hb).1 e
  have hcmp : CmpReads Try.prog 43 #[] enc (fun x y => cmpL (sumL P (x.1 : Int)) (sumL P (y.1 : Int))) g 0 d.size w := fun m os dk _ x y =>
    (implCompare _ _ _ _ _ (hone' m os dk x) (hone' m os dk y) (by rw [sumL_len]; exact hP) (by rw [sumL_len]; exact hP)).mono fun _ _ ⟨he, hw⟩ => ⟨he, 0, hw.symm⟩
  have eg : ∀ args w, (callFunc 43 args).run Try.prog w = .ok (.enter 43 args) w := enters_of Try.func43 (by kernel_rfl) rfl
  have hg : g < w.heap.size := (hrow.lt g rfl).2
  have hs := Try.slices_SortFunc enc hone (fun x y => cmpL (sumL P (x.1 : Int)) (sumL P (y.1 : Int))) (swoL P N) 43 #[] g 0 cap d w eg hcmp.lays hH hg (by rw [hd]; omega)
  rw [hd] at hs
  refine hs.mono ?_
  rintro e w' ⟨rfl, d', n, os, hp, hso, rfl⟩
  obtain ⟨hsz, -, hperm⟩ := hp
  rw [hd] at hsz
  refine ⟨rfl, fun i => (d'[i]!).1, (List.range N).map fun i => enc d'[i]!, ⟨fun i _ => (d'[i]!).2, fun k hk => ?_, fun i j h1 h2 => ?_⟩, ⟨by simp, ?_, fun i h1 h2 => ?_⟩, grownBy_sortedL d'⟩
  · have hm : (⟨k, hk⟩ : Fin N) ∈ d'.toList := by
      rw [extract_all d' hsz, extract_all d hd] at hperm
      exact hperm.mem_iff.2 (by simp [d])
    obtain ⟨i, hi, he⟩ := List.mem_iff_getElem.1 hm
    have hi' : i < d'.size := by simpa using hi
    refine ⟨i, by rw [← hsz]; exact hi', ?_⟩
    have : d'[i]! = ⟨k, hk⟩ := by rw [getElem!_pos d' i hi', ← he]; simp
    rw [this]
  · have := hso i j (Nat.zero_le _) h1 (by rw [hd] at *; exact h2)
    unfold ltOf at this
    exact of_decide_eq_false this
  · rw [List.length_map, List.length_range]
    exact ownsRow_sortedL hrow hsz
  · simp only [List.getElem_map, List.getElem_range]
    exact ⟨hone' n os d' _, fun b hb => ⟨((hget _).2 b hb).1, Nat.lt_of_lt_of_le ((hget _).2 b hb).2 (grownBy_sortedL d').size⟩⟩
end Go.Proofs.Ytoliloophjeooaa
