/- The walk of the law of outcomes round the contracts of the program's functions and of the model's draw of a weighing: it returns true for every code. Condition: the slice that came in reads as bytes. -/
import Derived.Test.YtlflblngbneacabDoorGWei
import Derived.Test.YtlflblngbneacabDoorTurnLaw
import Derived.Test.YtlflblngbneacabDoorCur
namespace Go.Proofs.YtlflblngbneacabDoor
open Go.RowKit

set_option maxHeartbeats 800000 in
theorem lawsHas (v : Value) (l : List Int) (x : Int) (w : World) (h : IntsAt w v l) (hm : l.length ≤ 100000000) :
    Calls Tryd.prog 26 #[v, .int .i64 x] w fun e w' => e = .returned (.bool (hasI l x)) ∧ w = w' := by
  obtain ⟨a, c, rfl, h⟩ := h
  have H : Hid (∀ i (h : i < l.length), ∃ b o, a = some ⟨b, o, none⟩ ∧ w.cell? ⟨b, o + i, none⟩ = some (.int .i64 l[i])) := by
    intro i hi
    rcases h with rfl | ⟨b, o, rfl, hc⟩
    · simp at hi
    · exact ⟨b, o, rfl, hc i hi⟩
  clear h
  obtain ⟨n, hn⟩ : ∃ n, l.length = n := ⟨_, rfl⟩
  rw [hn] at hm ⊢
  have HN := Lib.hid hn
  clear hn
  go_enter Tryd.func26, Tryd.ntmps26
  go_wp2
  go_loop [6, 9] (fun _ i => ∃ k : Nat, k ≤ n ∧ i = .int .i64 k ∧ Hid (hasI (l.take k) x = false)) (fun _ i => n - (intOf i).toNat)
  case atStart => exact ⟨0, Nat.zero_le _, rfl, by simp [Hid, hasI]⟩
  case round =>
    obtain ⟨k, hk, rfl, HF⟩ := hrel
    by_cases hlt : k < n
    · have hkl : k < l.length := by rw [HN.out]; exact hlt
      obtain ⟨b, o, rfl, e0⟩ := H.out k hkl
      have i0 : (0 : Int) ≤ (k : Int) := by omega
      have i1 : (k : Int) < (n : Int) := by omega
      obtain ⟨y, hy⟩ : ∃ y, l[k] = y := ⟨_, rfl⟩
      rw [hy] at e0
      cases hc : (y == x) with
      | true =>
        have HY := Lib.hid (hasI_yes hkl (hy.trans (eq_of_beq hc)))
        clear hy hkl
        go_wp2
        go_ret
        exact ⟨ret_bool HY.out.symm, rfl⟩
      | false =>
        have HY := Lib.hid (hasI_step hkl HF.out (fun e => by rw [hy] at e; subst e; simp at hc))
        clear hy hkl
        go_wp2
        go_round
        case rel => exact ⟨k + 1, by omega, by go_num, HY⟩
        case measure => simp [intOf]; omega
    · have HY := Lib.hid (hasI_end (by rw [HN.out]; omega) HF.out)
      go_wp2
      go_ret
      exact ⟨ret_bool HY.out.symm, rfl⟩

/-- The contract of the model's draw of a weighing. -/
def MakesW : Prop :=
  ∀ (W w : World) (a : Option Addr) (len cap : Nat) (n : Int), BytesAt W a len → Below W.heap.size W w → len ≤ 1048576 → 2 ≤ n → n ≤ 13 →
    Calls Tryd.prog 22 #[.slice a len cap, .int .i64 20, .int .i64 n] w fun e w' => ∃ v L R, e = .returned v ∧ OwnW w' w.heap.size v L R ∧ weighB L R n = true ∧ Below w.heap.size w w'

end Go.Proofs.YtlflblngbneacabDoor
