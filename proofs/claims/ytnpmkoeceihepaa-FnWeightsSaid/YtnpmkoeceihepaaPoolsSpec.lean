/- The contracts of the model's CountItems, PoolsOk, TestPools and their helpers. Conditions: the slices read as integers and as truth values. -/
import Derived.Test.YtnpmkoeceihepaaPoolPlain
import Derived.Test.YtnpmkoeceihepaaBools
import Derived.Test.YtnpmkoeceihepaaGBase
import Derived.Test.YtnpmkoeceihepaaGWei
namespace Go.Proofs.Ytnpmkoeceihepaa
open Go.RowKit

set_option maxHeartbeats 1600000 in
theorem specCount (s : Int) (h1 : s ≤ 9223372036854775807) (w : World) : Calls Try.prog 38 #[.int .i64 s] w fun e w' => e = .returned (.int .i64 (cntI s)) ∧ w = w' := by
  have HC : Hid (cntI s = cntF 64 s) := rfl
  generalize cntI s = c at HC ⊢
  go_enter Try.func38, Try.ntmps38
  go_wp2
  go_loopw [0, 3] (fun sv nv wr => ∃ (f : Nat) (q n : Int), f ≤ 64 ∧ sv = .int .i64 q ∧ nv = .int .i64 n ∧ q < 2 ^ f ∧ q ≤ 9223372036854775807 ∧ 0 ≤ n ∧ n + f ≤ 64 ∧ Hid (n + cntF f q = c) ∧ wr = w) (fun sv _ _ => (intOf sv).toNat)
  case atStart =>
    have h64 : (2 : Int) ^ 64 = 18446744073709551616 := by decide
    refine ⟨64, s, 0, by omega, rfl, rfl, by omega, h1, by omega, by omega, ?_, rfl⟩
    unfold Hid
    rw [HC.out]
    omega
  case round =>
    clear HC
    obtain ⟨f, q, n, hf, rfl, rfl, hq, hq1, hn0, hn1, HS, rfl⟩ := hrel
    by_cases hpos : 0 < q
    · obtain ⟨g, rfl⟩ : ∃ g, f = g + 1 := by
        cases f with
        | zero => exfalso; have : (2 : Int) ^ 0 = 1 := by decide
                  omega
        | succ g => exact ⟨g, rfl⟩
      have h2 : q / 2 < 2 ^ g := by rw [Int.pow_succ] at hq; omega
      have HS2 : Hid ((n + q % 2) + cntF g (q / 2) = c) := by
        have := HS.out
        unfold cntF at this
        rw [if_pos hpos] at this
        unfold Hid
        omega
      have HF : Hid (n + q % 2 + g ≤ 64) := by unfold Hid; omega
      clear hq HS
      go_wp2
      go_roundw
      case rel => exact ⟨g, q / 2, n + q % 2, by omega, by first | rfl | trivial, by first | rfl | trivial, h2, by omega, by omega, by have := HF.out; omega, HS2, by first | rfl | trivial⟩
      case measure => simp [intOf]; omega
    · have HE : Hid (n = c) := by
        have := HS.out
        rw [cntF_none (by omega)] at this
        unfold Hid
        omega
      go_wp2
      go_ret
      exact ⟨ret_int HE.out, rfl⟩

/-- A function that gives back a list of truth values of its own. -/
def ListsB (L : List Bool) (w : World) (e : Ending) (w' : World) : Prop := ∃ v, e = .returned v ∧ OwnB w' w.heap.size v L ∧ Below w.heap.size w w'
theorem OwnB.lit (X : World) (B : Nat) (hB : B ≤ X.heap.size) : OwnB (X.alloc (.cells #[] 4)) B (.slice (some ⟨X.heap.size, 0, none⟩) 0 0) [] :=
  World.ownsRow_lit (base := B) (e := 4) (size := 1) X #[] 0 hB (by unfold maxLen; omega) rfl

end Go.Proofs.Ytnpmkoeceihepaa
