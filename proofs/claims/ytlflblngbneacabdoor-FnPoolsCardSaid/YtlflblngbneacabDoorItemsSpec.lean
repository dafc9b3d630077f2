/- The contracts of the model's DecodeItems, SinglePools and BitPools. Conditions: the slices read as integers and as truth values. -/
import Derived.Test.YtlflblngbneacabDoorItemsPlain
import Derived.Test.YtlflblngbneacabDoorGDis
import Derived.Deep.RegionWith
import Derived.WalkSmall
namespace Go.Proofs.YtlflblngbneacabDoor
open Go.RowKit

/-- What a function that makes pools gives back. -/
def Gives (L : List Int) (b : Bool) (w : World) (e : Ending) (w' : World) : Prop :=
  ∃ u, e = .returned (.tuple #[u, .bool b]) ∧ Own w' w.heap.size u L ∧ Below w.heap.size w w'
theorem Gives.no {L : List Int} {b : Bool} {w w' : World} (hl : L = []) (h : b = false) (hb : Below w.heap.size w w') : Gives L b w (.returned (.tuple #[.slice none 0 0, .bool false])) w' := by
  subst h hl
  exact ⟨_, rfl, Own.nil _ _, hb⟩
theorem Gives.yes {L : List Int} {b : Bool} {w w' : World} {u : Value} (h : b = true) (ho : Own w' w.heap.size u L) (hb : Below w.heap.size w w') : Gives L b w (.returned (.tuple #[u, .bool true])) w' := by
  subst h
  exact ⟨_, rfl, ho, hb⟩
theorem pow_in {k : Nat} (h : k ≤ 10) : IntKind.i64.wrap (2 ^ k) = 2 ^ k ∧ (1 : Int) ≤ 2 ^ k ∧ (2 : Int) ^ k ≤ 1024 := by
  have := two_pow_in k h
  refine ⟨?_, this⟩
  rw [IntKind.wrap_i64]
  omega

set_option maxHeartbeats 1600000 in
theorem specSinglePools (n : Int) (w : World) :
    Calls Tryd.prog 94 #[.int .i64 n] w (Gives (singO n) (itemsB n) w) := by
  obtain ⟨i0, hi, hz0, hz1, hz2⟩ := info_parts infoIntA
  have CI : Hid (∀ W, Calls Tryd.prog 124 #[.int .i64 n, .int .i64 1, .int .i64 10] W fun e w' => e = .returned (.bool (itemsB n)) ∧ W = w') := fun W => l01In_is n 1 10 W
  have HL : Hid (singO n = if itemsB n = true then singK n.toNat else []) := rfl
  have HB : Hid (itemsB n = true → 1 ≤ n ∧ n ≤ 10) := fun h => by unfold itemsB at h; simpa using h
  generalize singO n = L at HL ⊢
  generalize hb : itemsB n = b at CI HL HB ⊢
  clear hb
  cases b with
  | false =>
    have HE : Hid (L = []) := HL.out
    go_enter Tryd.func94, Tryd.ntmps94
    go_wp2_with fail
    refine (CI.out _).mono ?_
    rintro e w1 ⟨rfl, rfl⟩
    go_wp2
    go_ret2
    exact Gives.no HE.out rfl (Below.refl _ _)
  | true =>
    obtain ⟨n1, n10⟩ := HB.out rfl
    obtain ⟨m, rfl⟩ : ∃ m : Nat, n = m := ⟨n.toNat, by omega⟩
    have HE : Hid (L = singK m) := by unfold Hid; rw [HL.out, Int.toNat_natCast]; rfl
    have O1 := Lib.hid (Own.lit w w.heap.size (Nat.le_refl _))
    have B1 := Lib.hid (alloc_below w (.cells #[] 3))
    clear HL HB
    go_enter Tryd.func94, Tryd.ntmps94
    go_wp2_with fail
    refine (CI.out _).mono ?_
    rintro e w1 ⟨rfl, rfl⟩
    go_wp2_with fail
    go_loopw [4, 5] (fun ov kv wr => ∃ k : Nat, k ≤ m ∧ kv = .int .i64 k ∧ Hid (Own wr w.heap.size ov (singK k)) ∧ Hid (Below w.heap.size w wr)) (fun _ kv _ => m - (intOf kv).toNat)
    case atStart => exact ⟨0, Nat.zero_le _, rfl, O1, B1⟩
    case round =>
      clear O1 B1
      obtain ⟨k, hk, rfl, O2, B2⟩ := hrel
      by_cases hlt : k < m
      · have HK := Lib.hid (singK_succ k)
        have hlen := singK_len k
        obtain ⟨q1, q2, q3⟩ := pow_in (k := k) (by omega)
        have km : (k : Int) < (m : Int) := by omega
        have hown := O2.out
        have hbs : w.heap.size ≤ wr.heap.size := B2.out.size
        obtain ⟨g, mm, cc, rfl⟩ := O2.out.form
        generalize singK k = S at hown hlen HK
        clear O2
        unfold Own at hown
        go_wp2_with (at_builtin; refine wpList_append_own _ rfl _ _ 32 rfl w.heap.size 3 i0 (.int .i64 0) 1 8 Tryd.underlying32 hi hz0 hz1 hz2 rfl (by decide) _ _ _ rfl (hown.alloc _) ⟨wr.heap.size, 0, none⟩ 1 1 [.int .i64 (2 ^ k)] rfl rfl (cell_one_new _ _ _) (by simp [Value.oneCell']) (by unfold maxLen; omega) (by omega) (by simp; omega) ?_; intro v' w5 hown' hg1 _)
        have hb2 := Below.grown (B2.out.alloc hbs _) hg1 (by simp; omega) (fun j hj => (hown.lt j hj).1)
        go_wp2
        go_roundw
        case rel =>
          refine ⟨k + 1, by omega, by go_num, ?_, Lib.hid hb2⟩
          unfold Hid Own
          rw [HK.out]
          simpa using hown'
        case measure => simp [intOf]; omega
      · obtain rfl : k = m := by omega
        go_wp2
        go_ret2
        exact Gives.yes rfl (by rw [HE.out]; exact O2.out) B2.out

set_option maxRecDepth 100000 in
set_option maxHeartbeats 3200000 in
theorem specBitPools (n : Int) (w : World) :
    Calls Tryd.prog 93 #[.int .i64 n] w (Gives (bitsO n) (itemsB n) w) := by
  obtain ⟨i0, hi, hz0, hz1, hz2⟩ := info_parts infoIntA
  have CI : Hid (∀ W, Calls Tryd.prog 124 #[.int .i64 n, .int .i64 1, .int .i64 10] W fun e w' => e = .returned (.bool (itemsB n)) ∧ W = w') := fun W => l01In_is n 1 10 W
  have HL : Hid (bitsO n = if itemsB n = true then bitsK n (bitN n) else []) := rfl
  have HB : Hid (itemsB n = true → 1 ≤ n ∧ n ≤ 10) := fun h => by unfold itemsB at h; simpa using h
  generalize bitsO n = L at HL ⊢
  generalize hb : itemsB n = b at CI HL HB ⊢
  clear hb
  cases b with
  | false =>
    have HE : Hid (L = []) := HL.out
    go_enter Tryd.func93, Tryd.ntmps93
    go_wp2_with fail
    refine (CI.out _).mono ?_
    rintro e w1 ⟨rfl, rfl⟩
    go_wp2
    go_ret2
    exact Gives.no HE.out rfl (Below.refl _ _)
  | true =>
    obtain ⟨n1, n10⟩ := HB.out rfl
    obtain ⟨hs1, hs2, hs3, hs4⟩ := shl_top n1 n10
    rw [hs2] at hs1
    have hT : IntKind.i64.wrap (topI n) = topI n := by rw [IntKind.wrap_i64]; omega
    have HE : Hid (L = bitsK n (bitN n)) := HL.out
    have HS : Hid (∀ j, bitsK n (j + 1) = bitsK n j ++ [bitF (2 ^ j) n.toNat, topI n - bitF (2 ^ j) n.toNat]) := fun _ => rfl
    have HM : Hid (∀ j : Nat, (2 : Int) ^ j < n → j < bitN n ∧ j ≤ 3) := fun j h => bitN_more h n10
    have HN : Hid (∀ j : Nat, ¬ (2 : Int) ^ j < n → j ≤ bitN n → bitN n = j) := fun j h hj => bitN_end h hj
    have HLN : Hid (∀ j, (bitsK n j).length = 2 * j) := bitsK_len n
    have O1 : Hid (Own (w.alloc (.cells #[] 3)) w.heap.size (.slice (some ⟨w.heap.size, 0, none⟩) 0 0) (bitsK n 0)) := Own.lit w w.heap.size (Nat.le_refl _)
    have B1 := Lib.hid (alloc_below w (.cells #[] 3))
    have H4 : bitN n ≤ 4 := by have := bitN_is n; omega
    generalize bitN n = z at HE HM HN H4
    generalize topI n = T at hs1 hs2 hs3 hs4 hT HS
    generalize bitsK n = K at HE HS HLN O1
    obtain ⟨m, rfl⟩ : ∃ m : Nat, n = m := ⟨n.toNat, by omega⟩
    rw [Int.toNat_natCast] at hs2
    have HS2 : Hid (∀ j, K (j + 1) = K j ++ [bitF (2 ^ j) m, T - bitF (2 ^ j) m]) := fun j => by have := HS.out j; rwa [Int.toNat_natCast] at this
    clear HL HB HS
    go_enter Tryd.func93, Tryd.ntmps93
    go_wp2_with fail
    refine (CI.out _).mono ?_
    rintro e w1 ⟨rfl, rfl⟩
    go_wp2_with fail
    go_loopw [4, 5] (fun ov bv wr => ∃ (j : Nat) (q : Int), j ≤ z ∧ bv = .int .i64 q ∧ Hid (q = 2 ^ j) ∧ Hid (Own wr w.heap.size ov (K j)) ∧ Hid (Below w.heap.size w wr)) (fun _ bv _ => 32 - (intOf bv).toNat)
    case atStart => exact ⟨0, 1, Nat.zero_le _, rfl, rfl, O1, B1⟩
    case round =>
      clear O1 B1
      obtain ⟨j, q, hj, rfl, HQ, O2, B2⟩ := hrel
      by_cases hlt : q < (m : Int)
      · obtain ⟨hjz, hj3⟩ := HM.out j (by rw [← HQ.out]; exact hlt)
        obtain ⟨-, p2, p3⟩ := pow_in (k := j) (by omega)
        have HBI : Hid (∀ k, k ≤ 10 → 0 ≤ bitF (2 ^ j) k ∧ bitF (2 ^ j) k ≤ 1023) := bitF_in (2 ^ j)
        have HBS : Hid (∀ k : Nat, bitF (2 ^ j) (k + 1) = if bits .and .i64 (k : Int) (2 ^ j) = 0 then bitF (2 ^ j) k else bits .or .i64 (bitF (2 ^ j) k) (2 ^ k)) := fun _ => rfl
        have HB0 : Hid (bitF (2 ^ j) 0 = 0) := rfl
        have HK := Lib.hid (HS2.out j)
        have hlen := HLN.out j
        have hp2 : (2 : Int) ^ (j + 1) = 2 * 2 ^ j := by rw [Int.pow_succ]; omega
        generalize bitF (2 ^ j) = F at HBI HBS HB0 HK
        rw [← HQ.out] at p2 p3 HBS
        have HP : Hid (2 * q = 2 ^ (j + 1)) := by unfold Hid; rw [hp2, HQ.out]
        clear hp2 HQ
        go_wp2
        go_loopw [6, 7] (fun pv kv ws => ∃ k : Nat, k ≤ m ∧ kv = .int .i64 k ∧ pv = .int .i64 (F k) ∧ ws = wr) (fun _ kv _ => m - (intOf kv).toNat)
        case atStart => exact ⟨0, Nat.zero_le _, rfl, by rw [HB0.out], rfl⟩
        case round =>
          obtain ⟨k, hk, rfl, rfl, rfl⟩ := hrel
          obtain ⟨f0, f1⟩ := HBI.out k (by omega)
          by_cases hkm : k < m
          · have HF := Lib.hid (HBS.out k)
            obtain ⟨q1, q2, q3⟩ := pow_in (k := k) (by omega)
            have km : (k : Int) < (m : Int) := by omega
            generalize F k = f at HF f0 f1 ⊢
            by_cases hx : bits .and .i64 (k : Int) q = 0
            · rw [if_pos hx] at HF
              go_wp2
              go_roundw
              case rel => exact ⟨k + 1, by omega, by go_num, by rw [HF.out], by first | rfl | trivial⟩
              case measure => simp [intOf]; omega
            · rw [if_neg hx] at HF
              go_wp2
              go_roundw
              case rel => exact ⟨k + 1, by omega, by go_num, by rw [HF.out], by first | rfl | trivial⟩
              case measure => simp [intOf]; omega
          · obtain rfl : k = m := by omega
            generalize F k = f at HK f0 f1 ⊢
            have hown := O2.out
            have hbs : w.heap.size ≤ wr.heap.size := B2.out.size
            obtain ⟨g, mm, cc, rfl⟩ := O2.out.form
            generalize K j = S at hown hlen HK
            clear O2
            unfold Own at hown
            go_wp2_with (at_builtin; refine wpList_append_own _ rfl _ _ 32 rfl w.heap.size 3 i0 (.int .i64 0) 1 8 Tryd.underlying32 hi hz0 hz1 hz2 rfl (by decide) _ _ _ rfl (hown.alloc _) ⟨wr.heap.size, 0, none⟩ 2 2 [.int .i64 f, .int .i64 (T - f)] rfl rfl (cell_two_new _ _ _ _) (by simp [Value.oneCell']) (by unfold maxLen; omega) (by omega) (by simp; omega) ?_; intro v' w5 hown' hg1 _)
            have hb2 := Below.grown (B2.out.alloc hbs _) hg1 (by simp; omega) (fun j hj => (hown.lt j hj).1)
            go_wp2
            go_roundw
            case rel =>
              refine ⟨j + 1, 2 * q, by omega, by first | rfl | trivial, HP, ?_, Lib.hid hb2⟩
              unfold Hid Own
              rw [HK.out]
              simpa using hown'
            case measure => simp [intOf]; omega
      · obtain rfl : z = j := HN.out j (by rw [← HQ.out]; omega) hj
        go_wp2
        go_ret2
        exact Gives.yes rfl (by rw [HE.out]; exact O2.out) B2.out
end Go.Proofs.YtlflblngbneacabDoor
