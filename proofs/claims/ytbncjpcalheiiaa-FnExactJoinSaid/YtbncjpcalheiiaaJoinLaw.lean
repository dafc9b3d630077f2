/- The contracts of the helpers of the law of Join, of Join in the model and in the program, and the walk of that law. Condition: the slice that came in reads as strings. -/
import Derived.Test.YtbncjpcalheiiaaPad
import Derived.Test.YtbncjpcalheiiaaLines
namespace Go.Proofs.Ytbncjpcalheiiaa
open Go.RowKit

/-! ### the size of a list of strings -/
def szGo : List ByteArray → Int → Int
  | [], r => r
  | x :: xs, r => if r - x.size < 0 then -1 else szGo xs (r - x.size)
def szF (l : List ByteArray) (left : Int) : Int := if left - l.length < 0 then -1 else szGo l (left - l.length)

def sumSizes (l : List ByteArray) : Nat := (l.map ByteArray.size).sum

theorem szGo_ok (l : List ByteArray) (r : Int) (h : 0 ≤ szGo l r) : (sumSizes l : Int) ≤ r := by
  induction l generalizing r with
  | nil => simpa [szGo, sumSizes] using h
  | cons x xs ih =>
    unfold szGo at h
    split at h
    · omega
    · have := ih _ h
      simp only [sumSizes, List.map_cons, List.sum_cons] at this ⊢
      omega
theorem szF_ok (l : List ByteArray) (r : Int) (h : 0 ≤ szF l r) : (l.length : Int) + (sumSizes l : Int) ≤ r := by
  unfold szF at h
  split at h
  · omega
  · have := szGo_ok _ _ h
    omega

theorem mem_sumSizes {l : List ByteArray} {x : ByteArray} (h : x ∈ l) : x.size ≤ sumSizes l := by
  induction l with
  | nil => simp at h
  | cons y ys ih =>
    simp only [sumSizes, List.map_cons, List.sum_cons]
    rcases List.mem_cons.1 h with rfl | h
    · omega
    · have := ih h
      simp only [sumSizes] at this
      omega

set_option maxHeartbeats 800000 in
theorem szStrs (v : Value) (l : List ByteArray) (w : World) (h : StrsAt w v l) (hm : l.length ≤ maxLen) (hx : ∀ x ∈ l, x.size ≤ maxLen) :
    Calls Try.prog 20 #[v, .int .i64 1048576] w fun e w' => e = .returned (.int .i64 (szF l 1048576)) ∧ w = w' := by
  obtain ⟨a, c, rfl, h⟩ := h
  unfold maxLen at hm hx
  by_cases hlt : (1048576 : Int) - (l.length : Int) < 0
  · have HP : Hid (szF l 1048576 = -1) := by unfold Hid szF; rw [if_pos hlt]
    go_enter Try.func20, Try.ntmps20
    go_wp2
    go_ret
    exact ⟨ret_int HP.out.symm, rfl⟩
  · have HP : Hid (szF l 1048576 = szGo l (1048576 - l.length)) := by unfold Hid szF; rw [if_neg hlt]
    have H : Hid (∀ i (h : i < l.length), ∃ b o, a = some ⟨b, o, none⟩ ∧ w.cell? ⟨b, o + i, none⟩ = some (.string l[i])) := by
      intro i hi
      rcases h with rfl | ⟨b, o, rfl, hc⟩
      · simp at hi
      · exact ⟨b, o, rfl, hc i hi⟩
    have HX := Lib.hid hx
    clear h hx
    obtain ⟨n, hn⟩ : ∃ n, l.length = n := ⟨_, rfl⟩
    rw [hn] at hlt HP hm ⊢
    have HN := Lib.hid hn
    clear hn
    by_cases hz : n ≤ 0
    · obtain rfl : n = 0 := by omega
      have hl0 : l = [] := List.eq_nil_of_length_eq_zero HN.out
      have HQ : Hid (szF l 1048576 = 1048576) := by unfold Hid; rw [hl0]; rfl
      clear H HX HP hl0
      go_enter Try.func20, Try.ntmps20
      go_wp2
      go_loop [1, 5] (fun r i => r = .int .i64 1048576 ∧ i = .int .i64 0) (fun _ _ => 0)
      case atStart => exact ⟨rfl, rfl⟩
      case round =>
        obtain ⟨rfl, rfl⟩ := hrel
        go_wp2
        go_ret
        exact ⟨ret_int HQ.out.symm, rfl⟩
    · obtain ⟨b, o, rfl, _⟩ := H.out 0 (by rw [HN.out]; omega)
      have H2 : Hid (∀ i (h : i < l.length), w.cell? ⟨b, o + i, none⟩ = some (.string l[i])) := by
        intro i hi
        obtain ⟨b', o', e, hc⟩ := H.out i hi
        cases e
        exact hc
      clear H
      go_enter Try.func20, Try.ntmps20
      go_wp2
      go_loop [1, 5] (fun r i => ∃ (k : Nat) (q : Int), k ≤ n ∧ r = .int .i64 q ∧ i = .int .i64 k ∧ 0 ≤ q ∧ q ≤ 1048576 ∧ Hid (szGo (l.drop k) q = szF l 1048576)) (fun _ i => n - (intOf i).toNat)
      case atStart => exact ⟨0, _, Nat.zero_le _, rfl, rfl, by omega, by omega, by rw [HP.out]; rfl⟩
      case round =>
        obtain ⟨k, q, hk, rfl, rfl, hq0, hq1, HQ⟩ := hrel
        by_cases hkn : k < n
        · have hkl : k < l.length := by rw [HN.out]; exact hkn
          have e1 := H2.out k hkl
          obtain ⟨x, hx⟩ : ∃ x, l[k] = x := ⟨_, rfl⟩
          have hxs : x.size ≤ 2 ^ 63 - 1 := HX.out x (by rw [← hx]; exact List.getElem_mem hkl)
          have hq := HQ.out
          rw [List.drop_eq_getElem_cons hkl, szGo, hx] at hq
          rw [hx] at e1
          clear hx hkl
          have i0 : (0 : Int) ≤ (k : Int) := by omega
          have i1 : (k : Int) < (n : Int) := by omega
          by_cases hneg : q - (x.size : Int) < 0
          · rw [if_pos hneg] at hq
            have HR := Lib.hid hq
            clear hq
            go_wp2
            go_ret
            exact ⟨ret_int HR.out, rfl⟩
          · rw [if_neg hneg] at hq
            have HR := Lib.hid hq
            clear hq
            go_wp2
            go_round
            case rel => exact ⟨k + 1, _, by omega, rfl, by go_num, by omega, by omega, HR⟩
            case measure => simp [intOf]; omega
        · have HR : Hid (q = szF l 1048576) := by
            have := HQ.out
            rw [List.drop_of_length_le (by rw [HN.out]; omega)] at this
            exact this
          go_wp2
          go_ret
          exact ⟨ret_int HR.out, rfl⟩

/-! ### the copy -/
def copied (l : List ByteArray) (n k : Nat) : List ByteArray := l.take k ++ List.replicate (n - k) ByteArray.empty
theorem copied_length {l : List ByteArray} {n k : Nat} (h : l.length = n) (hk : k ≤ n) : (copied l n k).length = n := by simp [copied]; omega
theorem copied_set {l : List ByteArray} {n k : Nat} (h : l.length = n) (hk : k < n) : (copied l n k).set k (l[k]'(by omega)) = copied l n (k + 1) := by
  unfold copied
  have h1 : (l.take k).length = k := by simp; omega
  rw [List.set_append_right _ _ (by omega), h1, Nat.sub_self, show n - k = (n - (k + 1)) + 1 by omega, List.replicate_succ, List.set_cons_zero, List.take_succ_eq_append_getElem (by omega), List.append_assoc]
  rfl
theorem copied_all {l : List ByteArray} {n : Nat} (h : l.length = n) : copied l n n = l := by
  simp [copied, List.take_of_length_le (Nat.le_of_eq h)]

set_option maxHeartbeats 1600000 in
theorem toStrs (v : Value) (l : List ByteArray) (w : World) (h : StrsAt w v l) (hm : l.length ≤ 1048576) :
    Calls Try.prog 22 #[v] w (fun e w' => ∃ g, e = .returned (.slice (some ⟨g, 0, none⟩) l.length l.length) ∧ w'.ownsRow w.heap.size 9 1 (.slice (some ⟨g, 0, none⟩) l.length l.length) l.length (l.map Value.string) ∧ Below w.heap.size w w') := by
  obtain ⟨i0, hi, hz0, hz1, hz2⟩ := info_parts infoStr
  obtain ⟨a, c, rfl, h⟩ := h
  have H : Hid (∀ i (h : i < l.length), ∃ b o, a = some ⟨b, o, none⟩ ∧ w.cell? ⟨b, o + i, none⟩ = some (.string l[i])) := by
    intro i hi
    rcases h with rfl | ⟨b, o, rfl, hc⟩
    · simp at hi
    · exact ⟨b, o, rfl, hc i hi⟩
  clear h
  obtain ⟨n, hn⟩ : ∃ n, l.length = n := ⟨_, rfl⟩
  rw [hn] at hm ⊢
  have HN := Lib.hid hn
  clear hn
  go_enter Try.func22, Try.ntmps22
  go_wp2_with (at_make; refine wpList_make_full _ rfl _ _ 23 rfl w.heap.size 9 i0 (.string ByteArray.empty) 1 Try.underlying23 hi hz0 hz1 .i64 .i64 _ _ n rfl rfl rfl rfl (by rw [hz2]; omega) (by unfold maxLen; omega) (Nat.le_refl _) ?_; intro w1 hown hg)
  have hb := Below.grown (Below.refl w.heap.size w) hg (Nat.le_refl _) (by intro k hk; cases hk)
  have HO : Hid (w1.ownsRow w.heap.size 9 1 (.slice (some ⟨w.heap.size, 0, none⟩) n n) n ((copied l n 0).map Value.string)) := by
    have : (madeCells (Value.string ByteArray.empty).cells (n * 1)).toList = (copied l n 0).map Value.string := by
      simp [copied, madeCells, Value.cells, Nat.mod_one]
      apply List.ext_getElem <;> simp
    rw [← this]
    exact hown
  clear hown hg
  go_wp2
  go_loopw [4] (fun i wr => ∃ k : Nat, k ≤ n ∧ i = .int .i64 k ∧ Hid (wr.ownsRow w.heap.size 9 1 (.slice (some ⟨w.heap.size, 0, none⟩) n n) n ((copied l n k).map Value.string)) ∧ Below w.heap.size w wr) (fun i _ => n - (intOf i).toNat)
  case atStart => exact ⟨0, Nat.zero_le _, rfl, HO, hb⟩
  case round =>
    clear HO hb
    obtain ⟨k, hk, rfl, HO, hb⟩ := hrel
    have HB := Lib.hid hb
    clear hb
    by_cases hlt : k < n
    · have hkl : k < l.length := by rw [HN.out]; exact hlt
      obtain ⟨b, o, rfl, e0⟩ := H.out k hkl
      have hbl := World.block_lt_of_cell? w _ e0
      have e1 : wr.cell? ⟨b, o + k, none⟩ = some (.string (l[k])) := by rw [HB.out.cell (p := ⟨b, o + k, none⟩) hbl]; exact e0
      obtain ⟨x, hx⟩ : ∃ x, l[k] = x := ⟨_, rfl⟩
      have HS : Hid ((copied l n k).set k x = copied l n (k + 1)) := by unfold Hid; rw [← hx]; exact copied_set HN.out hlt
      rw [hx] at e1
      clear hx e0 hbl
      have fz := HO.out.frozenAt k
      have hcl : k < (copied l n k).length := by rw [copied_length HN.out (by omega)]; exact hlt
      have e2 : wr.cell? ⟨w.heap.size, k, none⟩ = some (.string ((copied l n k)[k])) := by rw [HO.out.cellAt k (by omega), List.getElem?_map, List.getElem?_eq_getElem hcl]; rfl
      generalize (copied l n k)[k] = y at e2
      clear hcl hkl
      have i0' : (0 : Int) ≤ (k : Int) := by omega
      have i1 : (k : Int) < (n : Int) := by omega
      go_wp2
      go_roundw
      case rel =>
        have h2 := HO.out.stored k (.string x)
        refine ⟨k + 1, by omega, by go_num, ?_, Below.setCell HB.out (Nat.le_refl _) _⟩
        unfold Hid
        rw [← HS.out, List.map_set]
        exact h2.1
      case measure => simp [intOf]; omega
    · obtain rfl : k = n := by omega
      have h1 := HO.out
      rw [copied_all HN.out] at h1
      have HW := Lib.hid h1
      clear h1
      go_wp2
      go_ret
      exact ⟨w.heap.size, rfl, HW.out, HB.out⟩

/-! ### the joined text -/
def joinB (l : List ByteArray) (y : ByteArray) : ByteArray := ⟨(Lib.join (l.map (·.data.toList)) y.data.toList).toArray⟩

theorem bytes_eq {a b : ByteArray} (h : a.data.toList = b.data.toList) : a = b := ByteArray.ext (Array.toList_inj.1 h)

theorem joinB_none (y : ByteArray) : joinB [] y = ⟨#[]⟩ := rfl

theorem join_snoc (xs : List (List UInt8)) (y : List UInt8) (sep : List UInt8) (h : xs ≠ []) : Lib.join (xs ++ [y]) sep = Lib.join xs sep ++ sep ++ y := by
  cases xs with
  | nil => exact absurd rfl h
  | cons x r =>
    rw [List.cons_append, Lib.join_cons, Lib.join_cons]
    simp [Lib.joinTail, List.append_assoc]

theorem joinB_first {l : List ByteArray} (y : ByteArray) (h : 0 < l.length) : joinB (l.take 1) y = ⟨#[]⟩ ++ l[0] := by
  cases l with
  | nil => simp at h
  | cons x r =>
    apply bytes_eq
    simp [joinB, Lib.join_one, ByteArray.data_append]

theorem joinB_next {l : List ByteArray} (y : ByteArray) {k : Nat} (h0 : 0 < k) (h : k < l.length) : joinB (l.take (k + 1)) y = (joinB (l.take k) y ++ y) ++ l[k] := by
  apply bytes_eq
  rw [List.take_succ_eq_append_getElem h]
  unfold joinB
  rw [List.map_append, List.map_cons, List.map_nil, join_snoc _ _ _ (by
    intro hn
    have h1 := congrArg List.length hn
    rw [List.length_map, List.length_take, List.length_nil] at h1
    omega)]
  simp [ByteArray.data_append]

set_option maxRecDepth 100000 in
set_option maxHeartbeats 1600000 in
theorem specJoin (v : Value) (l : List ByteArray) (y : ByteArray) (w : World) (h : StrsAt w v l) (hm : l.length ≤ 1048576) (hy : y.size ≤ 1048576) (hx : ∀ x ∈ l, x.size ≤ 1048576) :
    Calls Try.prog 21 #[v, .string y] w fun e w' => e = .returned (.string (joinB l y)) ∧ w = w' := by
  obtain ⟨a, c, rfl, h⟩ := h
  have H : Hid (∀ i (h : i < l.length), ∃ b o, a = some ⟨b, o, none⟩ ∧ w.cell? ⟨b, o + i, none⟩ = some (.string l[i])) := by
    intro i hi
    rcases h with rfl | ⟨b, o, rfl, hc⟩
    · simp at hi
    · exact ⟨b, o, rfl, hc i hi⟩
  have HX := Lib.hid hx
  clear h hx
  obtain ⟨n, hn⟩ : ∃ n, l.length = n := ⟨_, rfl⟩
  rw [hn] at hm ⊢
  have HN := Lib.hid hn
  clear hn
  go_enter Try.func21, Try.ntmps21
  go_wp2
  go_loop [5, 10] (fun s i => ∃ (k : Nat) (t : ByteArray), k ≤ n ∧ i = .int .i64 k ∧ s = .string t ∧ Hid (t.size ≤ k * 2097152) ∧ Hid (joinB (l.take k) y = t)) (fun _ i => n - (intOf i).toNat)
  case atStart => exact ⟨0, _, Nat.zero_le _, rfl, rfl, Nat.zero_le _, joinB_none y⟩
  case round =>
    obtain ⟨k, t, hk, rfl, rfl, HTS, HT⟩ := hrel
    have htb : t.size ≤ 3000000000000 := by have := HTS.out; omega
    by_cases hkn : k < n
    · have hkl : k < l.length := by rw [HN.out]; exact hkn
      obtain ⟨b, o, rfl, e1⟩ := H.out k hkl
      have hxs : l[k].size ≤ 1048576 := HX.out _ (List.getElem_mem hkl)
      have i0 : (0 : Int) ≤ (k : Int) := by omega
      have i1 : (k : Int) < (n : Int) := by omega
      rcases Nat.eq_zero_or_pos k with h0 | h0
      · have HS : Hid (joinB (l.take (k + 1)) y = t ++ l[k]) := by
          subst h0
          have e0 := HT.out
          rw [List.take_zero, joinB_none] at e0
          rw [← e0]
          exact joinB_first y hkl
        have h0' : (k : Int) ≤ 0 := by omega
        clear h0
        generalize l[k] = x at e1 hxs HS
        have hz := Nat.le_of_eq (ByteArray.size_append (a := t) (b := x))
        go_wp2
        go_round
        case rel => exact ⟨k + 1, _, by omega, by go_num, rfl, by have := HTS.out; unfold Hid; omega, HS⟩
        case measure => simp [intOf]; omega
      · have HS := Lib.hid (joinB_next y h0 hkl)
        rw [HT.out] at HS
        generalize l[k] = x at e1 hxs HS
        have hz := Nat.le_of_eq (ByteArray.size_append (a := t) (b := y))
        have hz2 := Nat.le_of_eq (ByteArray.size_append (a := t ++ y) (b := x))
        have h0' : (0 : Int) < (k : Int) := by omega
        go_wp2
        go_round
        case rel => exact ⟨k + 1, _, by omega, by go_num, rfl, by have := HTS.out; unfold Hid; omega, HS⟩
        case measure => simp [intOf]; omega
    · have HD : Hid (joinB l y = t) := by
        have := HT.out
        rw [List.take_of_length_le (by rw [HN.out]; omega)] at this
        exact this
      go_wp2
      go_ret
      exact ⟨ret_str HD.out.symm, rfl⟩

theorem joinB_small {l : List ByteArray} {y : ByteArray} (hm : (l.length : Int) + (sumSizes l : Int) ≤ 1048576) (hy : y.size ≤ 1048576) : (Lib.join (l.map (·.data.toList)) y.data.toList).length ≤ 140737488355328 := by
  cases l with
  | nil => simp [Lib.join, List.intercalate]
  | cons x r =>
    rw [List.map_cons, Lib.join_length]
    have h1 : Lib.lens (x.data.toList :: r.map (·.data.toList)) = sumSizes (x :: r) := by
      simp [Lib.lens, sumSizes, Function.comp_def]
    have hyl : y.data.toList.length ≤ 1048576 := by simpa using hy
    have h2 : y.data.toList.length * (r.map (·.data.toList)).length ≤ 1048576 * 1048576 := Nat.mul_le_mul hyl (by simp at hm ⊢; omega)
    rw [h1]
    omega

theorem implJoin (g : Nat) (l : List ByteArray) (y : ByteArray) (w : World) (B : Nat) (h : w.ownsRow B 9 1 (.slice (some ⟨g, 0, none⟩) l.length l.length) l.length (l.map Value.string)) (hm : (l.length : Int) + (sumSizes l : Int) ≤ 1048576) (hy : y.size ≤ 1048576) :
    Calls Try.prog 23 #[.slice (some ⟨g, 0, none⟩) l.length l.length, .string y] w fun e w' => e = .returned (.string (joinB l y)) ∧ Below w.heap.size w w' := by
  have C := Lib.hid (joinParts_any g 0 l.length l.length l y w rfl (fun j x hj => by
    have hjl := (List.getElem?_eq_some_iff.1 hj).1
    rw [Nat.zero_add, h.cellAt j (by omega), List.getElem?_map, hj]
    rfl) (h.lt g rfl).2 (by omega) (Nat.le_refl _) (joinB_small hm hy))
  have HJ : Hid (joinB l y = ⟨(Lib.join (l.map (·.data.toList)) y.data.toList).toArray⟩) := rfl
  generalize (⟨(Lib.join (l.map (·.data.toList)) y.data.toList).toArray⟩ : ByteArray) = r at C HJ
  generalize l.length = n at C
  clear h hm
  go_enter Try.func23, Try.ntmps23
  go_wp2_with fail
  refine C.out.mono ?_
  rintro e w' ⟨rfl, hb⟩
  go_wp2
  go_ret
  exact ⟨ret_str HJ.out.symm, hb⟩

/-- What the walk is told of a slice of strings that came in. -/
def IsStrs (w : World) (a : Option Addr) (len cap : Nat) (zs : List ByteArray) : Prop :=
  (a = none ∧ len = 0 ∧ cap = 0 ∧ zs = []) ∨
  ∃ x, a = some x ∧ len ≤ cap ∧ cap ≤ maxLen ∧ zs.length = cap ∧ (∀ i, i < zs.length → w.cell? (x.add i) = some (.string (zs.getD i ByteArray.empty))) ∧ ∀ s ∈ zs, s.size ≤ maxLen

theorem strsAt_of {w : World} {a : Option Addr} {len cap : Nat} {zs : List ByteArray} (h : IsStrs w a len cap zs) : ∃ l, l.length = len ∧ StrsAt w (.slice a len cap) l ∧ l.length ≤ maxLen ∧ ∀ x ∈ l, x.size ≤ maxLen := by
  rcases h with ⟨rfl, rfl, rfl, rfl⟩ | ⟨x, rfl, hl, hm, hz, hc, hs⟩
  · exact ⟨[], rfl, ⟨none, 0, rfl, .inl rfl⟩, by unfold maxLen; simp, by simp⟩
  · have hlen : (zs.take len).length = len := by simp; omega
    refine ⟨zs.take len, hlen, ⟨some x, cap, by rw [hlen], ?_⟩, by omega, fun y hy => hs y (List.mem_of_mem_take hy)⟩
    by_cases h0 : len = 0
    · exact .inl (List.eq_nil_of_length_eq_zero (by omega))
    · obtain ⟨b, o, spot⟩ := x
      have hc0 := hc 0 (by omega)
      have hspot : spot = none := by simpa [Addr.add] using World.cell?_spot hc0
      subst hspot
      refine .inr ⟨b, o, rfl, fun i hi => ?_⟩
      have := hc i (by omega)
      rw [Addr.add_lit] at this
      rw [this, List.getElem_take]
      simp [List.getD_eq_getElem?_getD, List.getElem?_eq_getElem (show i < zs.length by omega)]

set_option maxHeartbeats 1600000 in
theorem walkFnExactJoin (w : World) (a0 : Option Addr) (len0 cap0 : Nat) (z0 : List ByteArray) (w0 : IsStrs w a0 len0 cap0 z0) (a1 : ByteArray) (_w1 : a1.size ≤ maxLen) :
    Calls Try.prog 7 #[.slice a0 len0 cap0, .string a1] w fun e w' => e = .returned (.bool true) ∧ Below w.heap.size w w' := by
  obtain ⟨l, hll, hS, hlm, hxm⟩ := strsAt_of w0
  clear hll
  generalize Value.slice a0 len0 cap0 = v at hS ⊢
  by_cases hb : (1048576 : Int) < (a1.size : Int)
  · clear hS hlm hxm w0
    go_enter Try.func7, Try.ntmps7
    go_wp2
    go_ret
    exact ⟨rfl, Below.refl _ _⟩
  have hy : a1.size ≤ 1048576 := by omega
  have CZ := Lib.hid (szStrs v l w hS hlm hxm)
  by_cases hr : szF l 1048576 < 0
  · generalize szF l 1048576 = r at CZ hr
    clear hS hlm hxm w0
    go_enter Try.func7, Try.ntmps7
    go_wp2_with fail
    refine CZ.out.mono ?_
    rintro e w1 ⟨rfl, rfl⟩
    go_wp2
    go_ret
    exact ⟨rfl, Below.refl _ _⟩
  have hsum := szF_ok l 1048576 (by omega)
  have hlen : l.length ≤ 1048576 := by omega
  have hx : ∀ x ∈ l, x.size ≤ 1048576 := fun x hx => by have := mem_sumSizes hx; omega
  have S0 := Lib.hid hS
  have HT := Lib.hid (fun (v' : Value) (W : World) (h : StrsAt W v' l) => toStrs v' l W h hlen)
  have HS := Lib.hid (fun (v' : Value) (W : World) (h : StrsAt W v' l) => specJoin v' l a1 W h hlen hy hx)
  have HI := Lib.hid (fun (g : Nat) (W : World) (B : Nat) (h : W.ownsRow B 9 1 (.slice (some ⟨g, 0, none⟩) l.length l.length) l.length (l.map Value.string)) => implJoin g l a1 W B h hsum hy)
  generalize szF l 1048576 = r at CZ hr
  generalize joinB l a1 = p at HS HI
  clear hS hlm hxm w0 hsum hx
  go_enter Try.func7, Try.ntmps7
  go_wp2_with fail
  refine CZ.out.mono ?_
  rintro e w1 ⟨rfl, rfl⟩
  go_wp2_with fail
  refine (HT.out v w S0.out).mono ?_
  rintro e w1 ⟨g1, rfl, O1, B1⟩
  have X1 := Lib.hid B1
  have P1 := Lib.hid O1
  clear O1 B1
  go_wp2_with fail
  refine (HS.out _ _ (StrsAt.of_owns P1.out)).mono ?_
  rintro e w2 ⟨rfl, rfl⟩
  have S1 := Lib.hid (S0.out.below X1.out)
  go_wp2_with fail
  refine (HT.out v w1 S1.out).mono ?_
  rintro e w2 ⟨g2, rfl, O2, B2⟩
  have X2 := Lib.hid B2
  have P2 := Lib.hid O2
  clear O2 B2
  go_wp2_with fail
  refine (HI.out g2 w2 _ P2.out).mono ?_
  rintro e w3 ⟨rfl, B3⟩
  have X3 := Lib.hid B3
  clear B3
  have S3 := Lib.hid ((S1.out.below X2.out).below X3.out)
  go_wp2_with fail
  refine (HT.out v w3 S3.out).mono ?_
  rintro e w4 ⟨g3, rfl, O4, B4⟩
  have X4 := Lib.hid B4
  have P4 := Lib.hid O4
  clear O4 B4
  go_wp2_with fail
  refine (eqStrs_same _ _ l w4 (((StrsAt.of_owns P2.out).below X3.out).below X4.out) (StrsAt.of_owns P4.out) (by omega)).mono ?_
  rintro e w5 ⟨rfl, B5⟩
  have X5 := Lib.hid B5
  clear B5
  go_wp2
  go_ret
  have Y2 := X1.out.trans (X2.out.mono X1.out.size)
  have Y3 := Y2.trans (X3.out.mono Y2.size)
  have Y4 := Y3.trans (X4.out.mono Y3.size)
  exact ⟨rfl, Y4.trans (X5.out.mono Y4.size)⟩
end Go.Proofs.Ytbncjpcalheiiaa
