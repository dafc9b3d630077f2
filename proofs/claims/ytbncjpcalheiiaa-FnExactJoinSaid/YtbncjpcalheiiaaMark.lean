/- The contracts of the law's own helpers on lists of strings: markText returns a text that its number alone decides. Condition: the number is from 1 to 1000000000. -/
import Derived.Test.YtbncjpcalheiiaaProg
import Derived.Test.YtbncjpcalheiiaaPlain
import Derived.WalkKit
import Derived.WalkSpells
import Derived.WalkLawsBesides
import Derived.Lib.Hide
import Derived.Laws.IdiomStrings
namespace Go.Proofs.Ytbncjpcalheiiaa
open Go.RowKit

def oneByte (n : Int) : ByteArray := ⟨#[n.toNat.toUInt8]⟩
theorem oneByte_size (n : Int) : (oneByte n).size = 1 := rfl

theorem conv_one (w : World) (n : Int) (h0 : 0 ≤ n) (h1 : n ≤ 255) :
    (convert 39 9 (.slice (some ⟨w.heap.size, 0, none⟩) 1 1)).run Try.prog (w.alloc (.cells #[.int .u8 n] 5)) = .ok (.string (oneByte n)) (w.alloc (.cells #[.int .u8 n] 5)) := by
  have := run_convert_bytes_back (P := Try.prog) (w.alloc (.cells #[.int .u8 n] 5)) 39 9 5 ⟨w.heap.size, 0, none⟩ 1 [n.toNat.toUInt8] Try.underlying39 Try.underlying5 Try.underlying9 (by
    intro j hj
    match j, hj with
    | 0, _ =>
      simp [Addr.add]
      omega)
  exact this

def mtA : Nat → Int → ByteArray → ByteArray
  | 0, _, t => t
  | f + 1, n, t => if 0 < n then mtA f (n / 10) (oneByte (48 + n % 10) ++ t) else t
def mt (k : Int) : ByteArray := ⟨#[109]⟩ ++ mtA k.toNat k ⟨#[]⟩

theorem mtA_end (f : Nat) (n : Int) (t : ByteArray) (h : ¬ 0 < n) : mtA f n t = t := by
  cases f with
  | zero => rfl
  | succ f => simp [mtA, h]

theorem ret_str {a b : ByteArray} (h : a = b) : Ending.returned (.string a) = .returned (.string b) := by rw [h]

set_option maxHeartbeats 400000 in
theorem markText_any (k : Int) (w : World) (h0 : 0 < k) (h1 : k ≤ 1000000000) :
    Calls Try.prog 30 #[.int .i64 k] w fun e w' => e = .returned (.string (mt k)) ∧ Below w.heap.size w w' := by
  go_enter Try.func30, Try.ntmps30
  go_wp2
  go_loopw [0, 3] (fun v s wr => ∃ (n : Int) (t : ByteArray) (f : Nat), v = .int .i64 n ∧ s = .string t ∧ 0 ≤ n ∧ n ≤ 1000000000 ∧ (t.size : Int) ≤ 1000000000 - n ∧ n.toNat ≤ f ∧ Hid (mtA f n t = mtA k.toNat k ⟨#[]⟩) ∧ Below w.heap.size w wr) (fun v _ _ => (intOf v).toNat)
  case atStart => exact ⟨k, _, k.toNat, rfl, rfl, by omega, by omega, by show ((0 : Nat) : Int) ≤ _; omega, Nat.le_refl _, rfl, Below.refl _ _⟩
  case round =>
    obtain ⟨n, t, f, rfl, rfl, hn0, hn1, hs, hf, HM, hb⟩ := hrel
    by_cases hn : 0 < n
    · have hcv := conv_one wr (48 + n % 10) (by omega) (by omega)
      have h1s := Nat.le_of_eq (oneByte_size (48 + n % 10))
      obtain ⟨f, rfl⟩ : ∃ f', f = f' + 1 := ⟨f - 1, by omega⟩
      have HM2 : Hid (mtA f (n / 10) (oneByte (48 + n % 10) ++ t) = mtA k.toNat k ⟨#[]⟩) := by
        unfold Hid; rw [← HM.out]; simp [mtA, hn]
      have hz : Hid ((oneByte (48 + n % 10) ++ t).size = 1 + t.size) := by unfold Hid; rw [ByteArray.size_append, oneByte_size]
      have hbs := hb.size
      go_wp2
      go_roundw
      case rel => exact ⟨n / 10, _, f, rfl, rfl, by omega, by omega, by have := hz.out; omega, by omega, HM2, hb.alloc (by omega) _⟩
      case measure => simp [intOf]; omega
    · have HE : Hid (mt k = ⟨#[109]⟩ ++ t) := by unfold Hid mt; rw [← HM.out, mtA_end f n t hn]
      go_wp2
      go_ret
      exact ⟨ret_str HE.out.symm, hb⟩
end Go.Proofs.Ytbncjpcalheiiaa
