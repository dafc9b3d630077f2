/- The contract of the model's Join: it returns the elements joined. Condition: the list reads as strings of at most 33554432 bytes each. -/
import Derived.Test.YtlflblngbneacaaGreatDoorGSpl
import Derived.Test.YtlflblngbneacaaGreatDoorGBase
import Derived.Test.YtlflblngbneacaaGreatDoorSplit
namespace Go.Proofs.YtlflblngbneacaaGreatDoor
open Go.RowKit

theorem joinB_none (y : ByteArray) : joinB [] y = ⟨#[]⟩ := rfl

theorem joinB_first {l : List ByteArray} (y : ByteArray) (h : 0 < l.length) : joinB (l.take 1) y = ⟨#[]⟩ ++ l[0] := by
  cases l with
  | nil => simp at h
  | cons x r =>
    apply bytes_eq
    simp [joinB, Lib.join_one, ByteArray.data_append]

theorem joinB_next {l : List ByteArray} (y : ByteArray) {k : Nat} (h0 : 0 < k) (h : k < l.length) : joinB (l.take (k + 1)) y = (joinB (l.take k) y ++ y) ++ l[k] := by
  apply bytes_eq
  rw [List.take_succ_eq_append_getElem h]
  unfold joinB
  rw [List.map_append, List.map_cons, List.map_nil, join_snoc _ _ _ (by
    intro hn
    have h1 := congrArg List.length hn
    rw [List.length_map, List.length_take, List.length_nil] at h1
    omega)]
  simp [ByteArray.data_append]

set_option maxRecDepth 100000 in
set_option maxHeartbeats 1600000 in
theorem specJoin25 (v : Value) (l : List ByteArray) (y : ByteArray) (w : World) (h : StrsAt w v l) (hm : l.length ≤ 1048576) (hy : y.size ≤ 1048576) (hx : ∀ x ∈ l, x.size ≤ 33554432) :
    Calls Tryz.prog 47 #[v, .string y] w fun e w' => e = .returned (.string (joinB l y)) ∧ w = w' := by
  obtain ⟨a, c, rfl, h⟩ := h
  have H : Hid (∀ i (h : i < l.length), ∃ b o, a = some ⟨b, o, none⟩ ∧ w.cell? ⟨b, o + i, none⟩ = some (.string l[i])) := by
    intro i hi
    rcases h with rfl | ⟨b, o, rfl, hc⟩
    · simp at hi
    · exact ⟨b, o, rfl, hc i hi⟩
  have HX := Lib.hid hx
  clear h hx
  obtain ⟨n, hn⟩ : ∃ n, l.length = n := ⟨_, rfl⟩
  rw [hn] at hm ⊢
  have HN := Lib.hid hn
  clear hn
  go_enter Tryz.func47, Tryz.ntmps47
  go_wp2
  go_loop [5, 10] (fun s i => ∃ (k : Nat) (t : ByteArray), k ≤ n ∧ i = .int .i64 k ∧ s = .string t ∧ Hid (t.size ≤ k * 34603008) ∧ Hid (joinB (l.take k) y = t)) (fun _ i => n - (intOf i).toNat)
  case atStart => exact ⟨0, _, Nat.zero_le _, rfl, rfl, Nat.zero_le _, joinB_none y⟩
  case round =>
    obtain ⟨k, t, hk, rfl, rfl, HTS, HT⟩ := hrel
    have htb : t.size ≤ 40000000000000 := by have := HTS.out; omega
    by_cases hkn : k < n
    · have hkl : k < l.length := by rw [HN.out]; exact hkn
      obtain ⟨b, o, rfl, e1⟩ := H.out k hkl
      have hxs : l[k].size ≤ 33554432 := HX.out _ (List.getElem_mem hkl)
      have i0 : (0 : Int) ≤ (k : Int) := by omega
      have i1 : (k : Int) < (n : Int) := by omega
      rcases Nat.eq_zero_or_pos k with h0 | h0
      · have HS : Hid (joinB (l.take (k + 1)) y = t ++ l[k]) := by
          subst h0
          have e0 := HT.out
          rw [List.take_zero, joinB_none] at e0
          rw [← e0]
          exact joinB_first y hkl
        have h0' : (k : Int) ≤ 0 := by omega
        clear h0
        generalize l[k] = x at e1 hxs HS
        have hz := Nat.le_of_eq (ByteArray.size_append (a := t) (b := x))
        go_wp2
        go_round
        case rel => exact ⟨k + 1, _, by omega, by go_num, rfl, by have := HTS.out; unfold Hid; omega, HS⟩
        case measure => simp [intOf]; omega
      · have HS := Lib.hid (joinB_next y h0 hkl)
        rw [HT.out] at HS
        generalize l[k] = x at e1 hxs HS
        have hz := Nat.le_of_eq (ByteArray.size_append (a := t) (b := y))
        have hz2 := Nat.le_of_eq (ByteArray.size_append (a := t ++ y) (b := x))
        have h0' : (0 : Int) < (k : Int) := by omega
        go_wp2
        go_round
        case rel => exact ⟨k + 1, _, by omega, by go_num, rfl, by have := HTS.out; unfold Hid; omega, HS⟩
        case measure => simp [intOf]; omega
    · have HD : Hid (joinB l y = t) := by
        have := HT.out
        rw [List.take_of_length_le (by rw [HN.out]; omega)] at this
        exact this
      go_wp2
      go_ret
      exact ⟨ret_str HD.out.symm, rfl⟩
theorem specJoin (v : Value) (l : List ByteArray) (y : ByteArray) (w : World) (h : StrsAt w v l) (hm : l.length ≤ 1048576) (hy : y.size ≤ 1048576) (hx : ∀ x ∈ l, x.size ≤ 1048576) :
    Calls Tryz.prog 47 #[v, .string y] w fun e w' => e = .returned (.string (joinB l y)) ∧ w = w' := specJoin25 v l y w h hm hy fun x hx' => Nat.le_trans (hx x hx') (by decide)
end Go.Proofs.YtlflblngbneacaaGreatDoor
