/- The contracts of the program's allItems, maybeBad, itemsOk, itemsWithBit, BitPools and DecodeItems. Conditions: the slices read as integers and as truth values, and are short enough to be counted. -/
import Derived.Test.YtfopallbhfcppaaTopPlain
import Derived.Test.YtfopallbhfcppaaItemsSpec
import Derived.Test.YtfopallbhfcppaaConsImpl
namespace Go.Proofs.Ytfopallbhfcppaa
open Go.RowKit

set_option maxHeartbeats 1600000 in
theorem implAll (n : Int) (n1 : 1 ≤ n) (n10 : n ≤ 10) (w : World) : Calls Try.prog 57 #[.int .i64 n] w fun e w' => e = .returned (.int .i64 (topI n)) ∧ w = w' := by
  obtain ⟨hs1, hs2, hs3, hs4⟩ := shl_top n1 n10
  rw [hs2] at hs1
  generalize topI n = T at hs1 hs2 hs3 hs4 ⊢
  have hw : IntKind.i64.wrap (T + 1 - 1) = T := by rw [IntKind.wrap_i64]; omega
  go_enter Try.func57, Try.ntmps57
  go_wp2
  go_ret
  exact ⟨ret_int (by first | exact hw | rfl | (rw [IntKind.wrap_i64]; omega)), rfl⟩

set_option maxHeartbeats 1600000 in
theorem implMaybe (n : Int) (v vr : Value) (P : List Int) (R : List Bool) (w : World) (h : IntsAt w v P) (hr : BoolsAt w vr R) (hm : P.length ≤ 1048576) (hp : poolsB n P = true) :
    Calls Try.prog 60 #[.int .i64 n, v, vr] w fun e w' => e = .returned (.int .i64 (topI n - goodR n P R)) ∧ w = w' := by
  obtain ⟨⟨n1, n10⟩, -, -⟩ := pools_in hp
  have CA := Lib.hid (implAll n n1 n10 w)
  have CG := Lib.hid (implGood n v vr P R w h hr hm)
  have hg := goodR_top R hp
  have HE := Lib.hid (top_left n1 n10 hg.1 hg.2)
  clear hg hp
  obtain ⟨a, c, rfl, -⟩ := h
  obtain ⟨a2, c2, rfl, -⟩ := hr
  generalize goodR n P R = g at CG HE ⊢
  generalize topI n = T at CA HE ⊢
  go_enter Try.func60, Try.ntmps60
  go_wp2_with fail
  refine CA.out.mono ?_
  rintro e w1 ⟨rfl, rfl⟩
  go_wp2_with fail
  refine CG.out.mono ?_
  rintro e w1 ⟨rfl, rfl⟩
  go_wp2
  go_ret
  exact ⟨ret_int HE.out, rfl⟩

theorem implItemsOk (n : Int) (w : World) : Calls Try.prog 49 #[.int .i64 n] w fun e w' => e = .returned (.bool (itemsB n)) ∧ w = w' := by
  have CP := Lib.hid (implPoolsOk n (.slice none 0 0) [] w ⟨none, 0, rfl, .inl rfl⟩ (by simp [maxLen]))
  rw [pools_nil] at CP
  generalize itemsB n = b at CP ⊢
  go_enter Try.func49, Try.ntmps49
  go_wp2_with fail
  refine CP.out.mono ?_
  rintro e w1 ⟨rfl, rfl⟩
  go_wp2
  go_ret
  exact ⟨rfl, rfl⟩

set_option maxHeartbeats 1000000 in
theorem implHas (s : Int) (i : Nat) (hi : i ≤ 10) (w : World) : Calls Try.prog 69 #[.int .i64 s, .int .i64 i] w fun e w' => e = .returned (.bool (bits .and .i64 s (2 ^ i) != 0)) ∧ w = w' := by
  obtain ⟨q1, q2, q3⟩ := pow_in hi
  have hi0 : (0 : Int) ≤ i := by omega
  have hi1 : (i : Int) ≤ 64 := by omega
  go_enter Try.func69, Try.ntmps69
  go_wp2
  go_ret
  exact ⟨rfl, rfl⟩

set_option maxHeartbeats 1600000 in
theorem implWithBit (m j : Nat) (m10 : m ≤ 10) (hj : j ≤ 10) (w : World) : Calls Try.prog 56 #[.int .i64 m, .int .i64 j] w fun e w' => e = .returned (.int .i64 (bitF (2 ^ j) m)) ∧ w = w' := by
  have HH : Hid (∀ k : Nat, ∀ W, Calls Try.prog 69 #[.int .i64 k, .int .i64 j] W fun e w' => e = .returned (.bool (bits .and .i64 (k : Int) (2 ^ j) != 0)) ∧ W = w') := fun k W => implHas k j hj W
  have HBS : Hid (∀ k : Nat, bitF (2 ^ j) (k + 1) = if bits .and .i64 (k : Int) (2 ^ j) = 0 then bitF (2 ^ j) k else bits .or .i64 (bitF (2 ^ j) k) (2 ^ k)) := fun _ => rfl
  have HB0 : Hid (bitF (2 ^ j) 0 = 0) := rfl
  generalize bitF (2 ^ j) = F at HBS HB0 ⊢
  go_enter Try.func56, Try.ntmps56
  go_wp2
  go_loopw [5, 8] (fun pv kv ws => ∃ k : Nat, k ≤ m ∧ kv = .int .i64 k ∧ pv = .int .i64 (F k) ∧ ws = w) (fun _ kv _ => m - (intOf kv).toNat)
  case atStart => exact ⟨0, Nat.zero_le _, rfl, by rw [HB0.out], rfl⟩
  case round =>
    obtain ⟨k, hk, rfl, rfl, rfl⟩ := hrel
    by_cases hkm : k < m
    · have HF := Lib.hid (HBS.out k)
      have CH := Lib.hid (HH.out k)
      obtain ⟨q1, q2, q3⟩ := pow_in (k := k) (by omega)
      have km : (k : Int) < (m : Int) := by omega
      have k0 : (0 : Int) ≤ (k : Int) := by omega
      generalize F k = f at HF ⊢
      by_cases hx : bits .and .i64 (k : Int) (2 ^ j) = 0
      · rw [if_pos hx] at HF
        rw [hx] at CH
        go_wp2_with fail
        refine (CH.out _).mono ?_
        rintro e w1 ⟨rfl, rfl⟩
        go_wp2
        go_roundw
        case rel => exact ⟨k + 1, by omega, by go_num, by rw [HF.out], by first | rfl | trivial⟩
        case measure => simp [intOf]; omega
      · rw [if_neg hx] at HF
        have hx2 : (bits .and .i64 (k : Int) (2 ^ j) != 0) = true := by simpa using hx
        rw [hx2] at CH
        clear hx hx2
        go_wp2_with fail
        refine (CH.out _).mono ?_
        rintro e w1 ⟨rfl, rfl⟩
        go_wp2
        go_roundw
        case rel => exact ⟨k + 1, by omega, by go_num, by rw [HF.out], by first | rfl | trivial⟩
        case measure => simp [intOf]; omega
    · obtain rfl : k = m := by omega
      go_wp2
      go_ret
      exact ⟨rfl, rfl⟩

set_option maxRecDepth 100000 in
set_option maxHeartbeats 3200000 in
theorem implBitPools (n : Int) (w : World) :
    Calls Try.prog 32 #[.int .i64 n] w (Gives (bitsO n) (itemsB n) w) := by
  obtain ⟨i0, hi, hz0, hz1, hz2⟩ := info_parts infoIntA
  have CI : Hid (∀ W, Calls Try.prog 49 #[.int .i64 n] W fun e w' => e = .returned (.bool (itemsB n)) ∧ W = w') := fun W => implItemsOk n W
  have HL : Hid (bitsO n = if itemsB n = true then bitsK n (bitN n) else []) := rfl
  have HB : Hid (itemsB n = true → 1 ≤ n ∧ n ≤ 10) := fun h => by unfold itemsB at h; simpa using h
  generalize bitsO n = L at HL ⊢
  generalize hb : itemsB n = b at CI HL HB ⊢
  clear hb
  cases b with
  | false =>
    have HE : Hid (L = []) := HL.out
    go_enter Try.func32, Try.ntmps32
    go_wp2_with fail
    refine (CI.out _).mono ?_
    rintro e w1 ⟨rfl, rfl⟩
    go_wp2
    go_ret2
    exact Gives.no HE.out rfl (Below.refl _ _)
  | true =>
    obtain ⟨n1, n10⟩ := HB.out rfl
    have HE : Hid (L = bitsK n (bitN n)) := HL.out
    have HS : Hid (∀ j, bitsK n (j + 1) = bitsK n j ++ [bitF (2 ^ j) n.toNat, topI n - bitF (2 ^ j) n.toNat]) := fun _ => rfl
    have HM : Hid (∀ j : Nat, (2 : Int) ^ j < n → j < bitN n ∧ j ≤ 3) := fun j h => bitN_more h n10
    have HN : Hid (∀ j : Nat, ¬ (2 : Int) ^ j < n → j ≤ bitN n → bitN n = j) := fun j h hj => bitN_end h hj
    have HLN : Hid (∀ j, (bitsK n j).length = 2 * j) := bitsK_len n
    have HA : Hid (∀ W, Calls Try.prog 57 #[.int .i64 n] W fun e w' => e = .returned (.int .i64 (topI n)) ∧ W = w') := fun W => implAll n n1 n10 W
    have HW : Hid (∀ j : Nat, j ≤ 10 → ∀ W, Calls Try.prog 56 #[.int .i64 n, .int .i64 j] W fun e w' => e = .returned (.int .i64 (bitF (2 ^ j) n.toNat)) ∧ W = w') := fun j hj W => by
      have hn : ((n.toNat : Nat) : Int) = n := by omega
      have := implWithBit n.toNat j (by omega) hj W
      rwa [hn] at this
    have HT : Hid (∀ j : Nat, bits .andNot .i64 (topI n) (bitF (2 ^ j) n.toNat) = topI n - bitF (2 ^ j) n.toNat) := fun j => by
      have hx := bitF_top n1 n10 (2 ^ j) n.toNat (Nat.le_refl _)
      exact top_left n1 n10 hx.1 hx.2
    have O1 : Hid (Own w w.heap.size (.slice none 0 0) (bitsK n 0)) := Own.nil _ _
    have B1 := Lib.hid (Below.refl w.heap.size w)
    have H4 : bitN n ≤ 4 := by have := bitN_is n; omega
    generalize bitN n = z at HE HM HN H4
    generalize topI n = T at HS HA HT
    generalize bitsK n = K at HE HS HLN O1
    clear HL HB
    go_enter Try.func32, Try.ntmps32
    go_wp2_with fail
    refine (CI.out _).mono ?_
    rintro e w1 ⟨rfl, rfl⟩
    go_wp2_with fail
    go_loopw [4, 5] (fun ov bv wr => ∃ (j : Nat), j ≤ z ∧ bv = .int .i64 j ∧ Hid (Own wr w.heap.size ov (K j)) ∧ Hid (Below w.heap.size w wr)) (fun _ bv _ => z - (intOf bv).toNat)
    case atStart => exact ⟨0, Nat.zero_le _, rfl, O1, B1⟩
    case round =>
      clear O1 B1
      obtain ⟨j, hj, rfl, O2, B2⟩ := hrel
      obtain ⟨q1, q2, q3⟩ := pow_in (k := j) (by omega)
      have j0 : (0 : Int) ≤ (j : Int) := by omega
      by_cases hlt : (2 : Int) ^ j < n
      · obtain ⟨hjz, hj3⟩ := HM.out j hlt
        have HK := Lib.hid (HS.out j)
        have hlen := HLN.out j
        have CW := Lib.hid (HW.out j (by omega))
        have HTT := Lib.hid (HT.out j)
        generalize bitF (2 ^ j) n.toNat = f at HK CW HTT
        have hown := O2.out
        have hbs : w.heap.size ≤ wr.heap.size := B2.out.size
        obtain ⟨g, mm, cc, rfl⟩ := O2.out.form
        generalize K j = S at hown hlen HK
        clear O2
        unfold Own at hown
        go_wp2_with fail
        refine (CW.out _).mono ?_
        rintro e w1 ⟨rfl, rfl⟩
        go_wp2_with fail
        refine (HA.out _).mono ?_
        rintro e w1 ⟨rfl, rfl⟩
        have hT := HTT.out
        go_wp2_with (at_builtin; refine wpList_append_own _ rfl _ _ 24 rfl w.heap.size 3 i0 (.int .i64 0) 1 8 Try.underlying24 hi hz0 hz1 hz2 rfl (by decide) _ _ _ rfl (hown.alloc _) ⟨wr.heap.size, 0, none⟩ 2 2 [.int .i64 f, .int .i64 (T - f)] rfl rfl (cell_two_new _ _ _ _) (by simp [Value.oneCell']) (by unfold maxLen; omega) (by omega) (by simp; omega) ?_; intro v' w5 hown' hg1 _)
        have hb2 := Below.grown (B2.out.alloc hbs _) hg1 (by simp; omega) (fun j hj => (hown.lt j hj).1)
        go_wp2
        go_roundw
        case rel =>
          refine ⟨j + 1, by omega, by go_num, ?_, Lib.hid hb2⟩
          unfold Hid Own
          rw [HK.out]
          simpa using hown'
        case measure => simp [intOf]; omega
      · obtain rfl : z = j := HN.out j (by omega) hj
        go_wp2
        go_ret2
        exact Gives.yes rfl (by rw [HE.out]; exact O2.out) B2.out

end Go.Proofs.Ytfopallbhfcppaa
