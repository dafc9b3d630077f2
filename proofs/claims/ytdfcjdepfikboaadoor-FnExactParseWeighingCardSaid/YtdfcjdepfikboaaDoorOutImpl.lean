/- The contract of the program's OutcomeOf. Conditions: the sides read as integers and are short enough to be counted; a case that fits Go's int. -/
import Derived.Test.YtdfcjdepfikboaaDoorOkImpl
namespace Go.Proofs.YtdfcjdepfikboaaDoor
open Go.RowKit

theorem ascB_no0 {l : List Int} {n : Int} (h : ascB l n = true) : hasI l 0 = false := by
  simp only [ascB, Bool.and_eq_true, List.all_eq_true, decide_eq_true_eq] at h
  cases hh : hasI l 0 with
  | false => rfl
  | true => have := h.2 0 (hasI_mem.1 hh); omega
theorem outI_valid {L R : List Int} (h : weighB L R 13 = true) (c : Int) : outI L R c = outcI L R c := by
  unfold outI
  cases hi : inB c with
  | true => rw [h]; rfl
  | false =>
    simp only [weighB, sideB, Bool.and_eq_true] at h
    have h1 := ascB_no0 h.1.1.1.2.1
    have h2 := ascB_no0 h.1.1.2.1
    have hq : coinI c = 0 := by unfold coinI; rw [hi]; rfl
    unfold outcI
    rw [hq, h1, h2]
    simp

theorem asLL (v : Value) (w : World) : (Instr.typeAssert (.iface 51 v) 43 51 true).run Tryd.prog w = .ok (.tuple #[v, .bool true]) w := by kernel_rfl
theorem asRL (v : Value) (w : World) : (Instr.typeAssert (.iface 52 v) 43 51 true).run Tryd.prog w = .ok (.tuple #[.slice none 0 0, .bool false]) w := by kernel_rfl
theorem asRR (v : Value) (w : World) : (Instr.typeAssert (.iface 52 v) 43 52 true).run Tryd.prog w = .ok (.tuple #[v, .bool true]) w := by kernel_rfl

end Go.Proofs.YtdfcjdepfikboaaDoor
