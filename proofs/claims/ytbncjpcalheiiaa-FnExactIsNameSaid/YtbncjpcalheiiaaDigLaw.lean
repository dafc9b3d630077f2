/- The walks of the laws of IsDigits and IsName: each returns true for every text. -/
import Derived.Test.YtbncjpcalheiiaaDig
import Derived.Test.YtbncjpcalheiiaaNam
namespace Go.Proofs.Ytbncjpcalheiiaa
open Go.RowKit

theorem walkFnExactIsDigits (a0 : ByteArray) (w0 : a0.size ≤ maxLen) (w : World) :
    Calls Try.prog 3 #[.string a0] w fun e w' => e = .returned (.bool true) ∧ Below w.heap.size w w' := by
  by_cases hb : (1048576 : Int) < (a0.size : Int)
  · go_enter Try.func3, Try.ntmps3
    go_wp2
    go_ret
    exact ⟨rfl, Below.refl _ _⟩
  · obtain ⟨b, hbd⟩ : ∃ b, digitsB a0 = b := ⟨_, rfl⟩
    have HB := Lib.hid hbd
    clear hbd
    have c1 := fun w => (specDigits a0 w w0)
    have c2 := fun w => (implDigits a0 w)
    rw [HB.out] at c1 c2
    have C1 := Lib.hid c1
    have C2 := Lib.hid c2
    clear c1 c2
    go_enter Try.func3, Try.ntmps3
    cases b <;> (
      go_wp2_with (first | (go_at_call 9; refine (C1.out _).mono ?_; rintro e w' ⟨rfl, rfl⟩) | (go_at_call 10; refine (C2.out _).mono ?_; rintro e w' ⟨rfl, hbel⟩))
      go_ret
      exact ⟨rfl, hbel⟩)

theorem walkFnExactIsName (a0 : ByteArray) (w0 : a0.size ≤ maxLen) (w : World) :
    Calls Try.prog 4 #[.string a0] w fun e w' => e = .returned (.bool true) ∧ Below w.heap.size w w' := by
  by_cases hb : (1048576 : Int) < (a0.size : Int)
  · go_enter Try.func4, Try.ntmps4
    go_wp2
    go_ret
    exact ⟨rfl, Below.refl _ _⟩
  · obtain ⟨b, hbd⟩ : ∃ b, nameB a0 = b := ⟨_, rfl⟩
    have HB := Lib.hid hbd
    clear hbd
    have c1 := fun w => (specName a0 w w0)
    have c2 := fun w => (implName a0 w w0)
    rw [HB.out] at c1 c2
    have C1 := Lib.hid c1
    have C2 := Lib.hid c2
    clear c1 c2
    go_enter Try.func4, Try.ntmps4
    cases b <;> (
      go_wp2_with (first | (go_at_call 11; refine (C1.out _).mono ?_; rintro e w' ⟨rfl, rfl⟩) | (go_at_call 12; refine (C2.out _).mono ?_; rintro e w' ⟨rfl, hbel⟩))
      go_ret
      exact ⟨rfl, hbel⟩)
end Go.Proofs.Ytbncjpcalheiiaa
