/- The contracts of FormatInt, in the model and in the program: both return the decimal numeral of the number. Conditions: the number fits Go's int; where the program's is called, the library's table of powers of ten is as its text lays it. -/
import Derived.Test.YtlflblngbneacabGreatDoorGBase
import Derived.Test.YtlflblngbneacabGreatDoorShelf
import Derived.Lib.ItoaNum
import Derived.Lib.ItoaLen
import Derived.Deep.RegionWith
import Derived.IntWalk
namespace Go.Proofs.YtlflblngbneacabGreatDoor
open Go.RowKit

theorem dec_small (u : Nat) (h : u < 10) : Lib.decDigits u = [UInt8.ofNat (48 + u)] := by rw [Lib.decDigits, dif_pos h]
theorem dec_big (u : Nat) (h : ¬ u < 10) : Lib.decDigits u = Lib.decDigits (u / 10) ++ [UInt8.ofNat (48 + u % 10)] := by rw [Lib.decDigits, dif_neg h]

theorem below_via {W X w1 : World} (h : Below W.heap.size W X) (hb : Below X.heap.size X w1) : Below W.heap.size W w1 := h.trans (hb.mono h.size)

/-- The numeral of a number. -/
def fmtB (n : Int) : ByteArray := ⟨(Lib.itoa n).toArray⟩

/-! ### the program's, by the library's contract -/
theorem gTab : Tryz.prog.globalNamed "internal/strconv.uint64pow10" = some 4 := by kernel_rfl

/-- The library's table of powers of ten is as its text lays it. -/
def TabOk (W : World) : Prop := Lib.TabIs Tryz.prog W "internal/strconv.uint64pow10" .u64 Lib.pow10Tab

theorem TabOk.lt {W : World} (h : TabOk W) : 4 < W.heap.size :=
  World.block_lt_of_cell? W _ (Lib.TabIs.cell h gTab 0 (by decide))
theorem TabOk.below {W W' : World} (h : TabOk W) (hb : Below W.heap.size W W') : TabOk W' := var?_below hb gTab h.lt h

theorem below_app {W W' : World} {os : Array Obj} (h1 : W'.os = W.os) (h2 : W'.tape = W.tape) (h3 : W'.output = W.output) (hh : W'.heap = W.heap ++ os) : Below W.heap.size W W' :=
  ⟨h1, h2, h3, by rw [hh]; simp, fun j hj => by rw [hh, Array.getElem?_append_left hj]⟩

theorem implFmt (n : Int) (W : World) (h0 : -9223372036854775808 ≤ n) (h1 : n ≤ 9223372036854775807) (ht : TabOk W) :
    Calls Tryz.prog 30 #[.int .i64 n] W fun e w' => e = .returned (.string (fmtB n)) ∧ Below W.heap.size W w' := by
  have C : Hid (Calls Tryz.prog 82 #[.int .i64 n] W fun e w' => e = .returned (.string ⟨(Lib.itoa n).toArray⟩) ∧ Below W.heap.size W w') :=
    (Tryz.strconv_Itoa n h0 h1 W ht).mono fun e w' hh => by
      obtain ⟨he, k, os, hw⟩ := hh
      refine ⟨he, ?_⟩
      rw [hw]
      exact below_app (os := os) rfl rfl rfl rfl
  have HF : Hid (fmtB n = ⟨(Lib.itoa n).toArray⟩) := rfl
  generalize (⟨(Lib.itoa n).toArray⟩ : ByteArray) = t at C HF
  clear ht
  go_enter Tryz.func30, Tryz.ntmps30
  go_wp2_with fail
  refine C.out.mono ?_
  rintro e w1 ⟨rfl, hb⟩
  have HB := Lib.hid hb
  clear hb
  go_wp2
  go_ret
  exact ⟨ret_str HF.out.symm, HB.out⟩
end Go.Proofs.YtlflblngbneacabGreatDoor
