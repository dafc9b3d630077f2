/- The contracts of the model's DecodeItems, SinglePools and BitPools. Conditions: the slices read as integers and as truth values. -/
import Derived.Test.YtfopallbhfcppaaItemsPlain
import Derived.Test.YtfopallbhfcppaaSetsSpec
import Derived.Deep.RegionWith
import Derived.WalkSmall
namespace Go.Proofs.Ytfopallbhfcppaa
open Go.RowKit

/-- What a function that makes pools gives back. -/
def Gives (L : List Int) (b : Bool) (w : World) (e : Ending) (w' : World) : Prop :=
  ∃ u, e = .returned (.tuple #[u, .bool b]) ∧ Own w' w.heap.size u L ∧ Below w.heap.size w w'
theorem Gives.no {L : List Int} {b : Bool} {w w' : World} (hl : L = []) (h : b = false) (hb : Below w.heap.size w w') : Gives L b w (.returned (.tuple #[.slice none 0 0, .bool false])) w' := by
  subst h hl
  exact ⟨_, rfl, Own.nil _ _, hb⟩
theorem Gives.yes {L : List Int} {b : Bool} {w w' : World} {u : Value} (h : b = true) (ho : Own w' w.heap.size u L) (hb : Below w.heap.size w w') : Gives L b w (.returned (.tuple #[u, .bool true])) w' := by
  subst h
  exact ⟨_, rfl, ho, hb⟩
theorem pow_in {k : Nat} (h : k ≤ 10) : IntKind.i64.wrap (2 ^ k) = 2 ^ k ∧ (1 : Int) ≤ 2 ^ k ∧ (2 : Int) ^ k ≤ 1024 := by
  have := two_pow_in k h
  refine ⟨?_, this⟩
  rw [IntKind.wrap_i64]
  omega

set_option maxHeartbeats 1600000 in
theorem specSinglePools (n : Int) (w : World) :
    Calls Try.prog 38 #[.int .i64 n] w (Gives (singO n) (itemsB n) w) := by
  obtain ⟨i0, hi, hz0, hz1, hz2⟩ := info_parts infoIntA
  have CI : Hid (∀ W, Calls Try.prog 51 #[.int .i64 n, .int .i64 1, .int .i64 10] W fun e w' => e = .returned (.bool (itemsB n)) ∧ W = w') := fun W => l01In_is n 1 10 W
  have HL : Hid (singO n = if itemsB n = true then singK n.toNat else []) := rfl
  have HB : Hid (itemsB n = true → 1 ≤ n ∧ n ≤ 10) := fun h => by unfold itemsB at h; simpa using h
  generalize singO n = L at HL ⊢
  generalize hb : itemsB n = b at CI HL HB ⊢
  clear hb
  cases b with
  | false =>
    have HE : Hid (L = []) := HL.out
    go_enter Try.func38, Try.ntmps38
    go_wp2_with fail
    refine (CI.out _).mono ?_
    rintro e w1 ⟨rfl, rfl⟩
    go_wp2
    go_ret2
    exact Gives.no HE.out rfl (Below.refl _ _)
  | true =>
    obtain ⟨n1, n10⟩ := HB.out rfl
    obtain ⟨m, rfl⟩ : ∃ m : Nat, n = m := ⟨n.toNat, by omega⟩
    have HE : Hid (L = singK m) := by unfold Hid; rw [HL.out, Int.toNat_natCast]; rfl
    have O1 := Lib.hid (Own.lit w w.heap.size (Nat.le_refl _))
    have B1 := Lib.hid (alloc_below w (.cells #[] 3))
    clear HL HB
    go_enter Try.func38, Try.ntmps38
    go_wp2_with fail
    refine (CI.out _).mono ?_
    rintro e w1 ⟨rfl, rfl⟩
    go_wp2_with fail
    go_loopw [4, 5] (fun ov kv wr => ∃ k : Nat, k ≤ m ∧ kv = .int .i64 k ∧ Hid (Own wr w.heap.size ov (singK k)) ∧ Hid (Below w.heap.size w wr)) (fun _ kv _ => m - (intOf kv).toNat)
    case atStart => exact ⟨0, Nat.zero_le _, rfl, O1, B1⟩
    case round =>
      clear O1 B1
      obtain ⟨k, hk, rfl, O2, B2⟩ := hrel
      by_cases hlt : k < m
      · have HK := Lib.hid (singK_succ k)
        have hlen := singK_len k
        obtain ⟨q1, q2, q3⟩ := pow_in (k := k) (by omega)
        have km : (k : Int) < (m : Int) := by omega
        have hown := O2.out
        have hbs : w.heap.size ≤ wr.heap.size := B2.out.size
        obtain ⟨g, mm, cc, rfl⟩ := O2.out.form
        generalize singK k = S at hown hlen HK
        clear O2
        unfold Own at hown
        go_wp2_with (at_builtin; refine wpList_append_own _ rfl _ _ 24 rfl w.heap.size 3 i0 (.int .i64 0) 1 8 Try.underlying24 hi hz0 hz1 hz2 rfl (by decide) _ _ _ rfl (hown.alloc _) ⟨wr.heap.size, 0, none⟩ 1 1 [.int .i64 (2 ^ k)] rfl rfl (cell_one_new _ _ _) (by simp [Value.oneCell']) (by unfold maxLen; omega) (by omega) (by simp; omega) ?_; intro v' w5 hown' hg1 _)
        have hb2 := Below.grown (B2.out.alloc hbs _) hg1 (by simp; omega) (fun j hj => (hown.lt j hj).1)
        go_wp2
        go_roundw
        case rel =>
          refine ⟨k + 1, by omega, by go_num, ?_, Lib.hid hb2⟩
          unfold Hid Own
          rw [HK.out]
          simpa using hown'
        case measure => simp [intOf]; omega
      · obtain rfl : k = m := by omega
        go_wp2
        go_ret2
        exact Gives.yes rfl (by rw [HE.out]; exact O2.out) B2.out

end Go.Proofs.Ytfopallbhfcppaa
