/- The contracts of SplitAny, in the model and in the program: both return the parts of the text in a list of the call's own. Condition: the texts have at most 1048576 bytes each. -/
import Derived.Test.YtlflblngbneacabGreatDoorGBase
import Derived.Test.YtlflblngbneacabGreatDoorGSpl
import Derived.Test.YtlflblngbneacabGreatDoorShelf
import Derived.Lib.IndexAny
namespace Go.Proofs.YtlflblngbneacabGreatDoor
open Go.RowKit

theorem infoStr : (Tryz.prog.info? 9).map (fun i => (i.zero, i.size, i.bytes)) = some (some (.string ByteArray.empty), 1, 16) := by kernel_rfl

theorem has_yes {y : ByteArray} {c : UInt8} (h : isBy y c = true) : 0 ≤ Lib.indexByte y.data.toList c := by
  unfold isBy at h
  rw [Lib.contains_iff_indexByte] at h
  exact of_decide_eq_true h
theorem has_no {y : ByteArray} {c : UInt8} (h : isBy y c = false) : Lib.indexByte y.data.toList c < 0 := by
  unfold isBy at h
  rw [Lib.contains_iff_indexByte] at h
  have := of_decide_eq_false h
  omega

/-- What a function that splits s by the bytes of y gives back. -/
def Splits (s y : ByteArray) (w : World) (e : Ending) (w' : World) : Prop :=
  ∃ v, e = .returned v ∧ w'.ownsRow w.heap.size 9 1 v (parts s (isBy y)).length ((parts s (isBy y)).map Value.string) ∧ Below w.heap.size w w'

theorem idx_any (y : ByteArray) (c : UInt8) (w : World) : Calls Tryz.prog 97 #[.string y, .int .u8 (c.toNat : Int)] w fun e w' => e = .returned (.int .i64 (Lib.indexByte y.data.toList c)) ∧ w = w' := by
  have h := Tryz.strings_IndexByte y (c.toNat : Int) w
  rw [show ((c.toNat : Int)).toNat.toUInt8 = c from by simp] at h
  exact h.mono fun e w' hh => ⟨hh.1, hh.2.symm⟩

set_option maxRecDepth 100000 in
set_option maxHeartbeats 1600000 in
theorem implSplit (s y : ByteArray) (w : World) (hs : s.size ≤ 1048576) :
    Calls Tryz.prog 49 #[.string s, .string y] w (Splits s y w) := by
  obtain ⟨i0, hi, hz0, hz1, hz2⟩ := info_parts infoStr
  go_enter Tryz.func49, Tryz.ntmps49
  go_wp2
  go_loopw [5, 6, 7] (fun v f i wr => ∃ (k fr : Nat) (ps : List ByteArray), k ≤ s.size ∧ i = .int .i64 k ∧ f = .int .i64 fr ∧ fr ≤ k ∧ ps.length ≤ k ∧ Hid (spl s (isBy y) k = (ps, fr)) ∧ wr.ownsRow w.heap.size 9 1 v ps.length (ps.map Value.string) ∧ Below w.heap.size w wr) (fun _ _ i _ => s.size - (intOf i).toNat)
  case atStart => exact ⟨0, 0, [], Nat.zero_le _, rfl, rfl, Nat.le_refl _, Nat.zero_le _, rfl, World.ownsRow_nil _ _ _ _, Below.refl _ _⟩
  case round =>
    obtain ⟨k, fr, ps, hk, rfl, rfl, hfr, hps, HS, hown, hb⟩ := hrel
    have hbs := hb.size
    by_cases hlt : k < s.size
    · obtain ⟨c, hc⟩ : ∃ c, s[k] = c := ⟨_, rfl⟩
      obtain ⟨r, hr⟩ : ∃ r, Lib.indexByte y.data.toList c = r := ⟨_, rfl⟩
      have C := Lib.hid (idx_any y c)
      rw [hr] at C
      cases hp : isBy y c with
      | true =>
        have hr0 : 0 ≤ r := by rw [← hr]; exact has_yes hp
        have HS2 := Lib.hid (spl_yes hlt (by rw [hc]; exact hp) HS.out)
        rw [← hc] at C
        clear hr hp hc
        go_wp2_with (first
          | (go_at_call 97; refine (C.out _).mono ?_; rintro e w' ⟨rfl, rfl⟩)
          | (at_builtin; refine wpList_append_own _ rfl _ _ 75 rfl w.heap.size 9 i0 (.string ByteArray.empty) 1 16 Tryz.underlying75 hi hz0 hz1 hz2 rfl (by decide) _ _ _ rfl (hown.alloc _) ⟨wr.heap.size, 0, none⟩ 1 1 [.string (s.extract fr k)] rfl rfl (cell_one_str _ _ _) (by simp [Value.oneCell']) (by unfold maxLen; omega) (by omega) (by simp; omega) ?_; intro v' w1 hown' hg1 _))
        have hb2 := Below.grown (hb.alloc hbs _) hg1 (by simp; omega) (fun j hj => (hown.lt j hj).1)
        go_wp2
        go_roundw
        case rel => exact ⟨k + 1, k + 1, _, by omega, by go_num, by go_num, by omega, by simp; omega, HS2, by simpa using hown', hb2⟩
        case measure => simp [intOf]; omega
      | false =>
        have hr0 : r < 0 := by rw [← hr]; exact has_no hp
        have HS2 := Lib.hid (spl_no hlt (by rw [hc]; exact hp) HS.out)
        rw [← hc] at C
        clear hr hp hc
        go_wp2_with (go_at_call 97; refine (C.out _).mono ?_; rintro e w' ⟨rfl, rfl⟩)
        go_roundw
        case rel => exact ⟨k + 1, fr, ps, by omega, by go_num, rfl, by omega, by omega, HS2, hown, hb⟩
        case measure => simp [intOf]; omega
    · obtain rfl : k = s.size := by omega
      have HP := Lib.hid (parts_of HS.out)
      go_wp2_with (at_builtin; refine wpList_append_own _ rfl _ _ 75 rfl w.heap.size 9 i0 (.string ByteArray.empty) 1 16 Tryz.underlying75 hi hz0 hz1 hz2 rfl (by decide) _ _ _ rfl (hown.alloc _) ⟨wr.heap.size, 0, none⟩ 1 1 [.string (s.extract fr s.size)] rfl rfl (cell_one_str _ _ _) (by simp [Value.oneCell']) (by unfold maxLen; omega) (by omega) (by simp; omega) ?_; intro v' w1 hown' hg1 _)
      have hb2 := Below.grown (hb.alloc hbs _) hg1 (by simp; omega) (fun j hj => (hown.lt j hj).1)
      go_wp2
      go_ret
      refine ⟨v', rfl, ?_, hb2⟩
      rw [HP.out]
      simpa using hown'

end Go.Proofs.YtlflblngbneacabGreatDoor
