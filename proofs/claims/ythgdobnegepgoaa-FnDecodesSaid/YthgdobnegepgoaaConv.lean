/- A slice of one byte as a string. Condition: the byte's number is from 0 to 255. -/
import Derived.Test.YthgdobnegepgoaaProg
import Derived.Test.YthgdobnegepgoaaPlain
import Derived.WalkKit
import Derived.WalkSpells
import Derived.WalkLawsBesides
import Derived.Lib.Hide
import Derived.Laws.IdiomStrings
namespace Go.Proofs.Ythgdobnegepgoaa
open Go.RowKit

def oneByte (n : Int) : ByteArray := ⟨#[n.toNat.toUInt8]⟩
theorem oneByte_size (n : Int) : (oneByte n).size = 1 := rfl

theorem conv_one (w : World) (n : Int) (h0 : 0 ≤ n) (h1 : n ≤ 255) :
    (convert 22 9 (.slice (some ⟨w.heap.size, 0, none⟩) 1 1)).run Try.prog (w.alloc (.cells #[.int .u8 n] 5)) = .ok (.string (oneByte n)) (w.alloc (.cells #[.int .u8 n] 5)) := by
  have := run_convert_bytes_back (P := Try.prog) (w.alloc (.cells #[.int .u8 n] 5)) 22 9 5 ⟨w.heap.size, 0, none⟩ 1 [n.toNat.toUInt8] Try.underlying22 Try.underlying5 Try.underlying9 (by
    intro j hj
    match j, hj with
    | 0, _ =>
      simp [Addr.add]
      omega)
  exact this

theorem ret_str {a b : ByteArray} (h : a = b) : Ending.returned (.string a) = .returned (.string b) := by rw [h]

theorem conv_at (W : World) (b : Nat) (n : Int) (h0 : 0 ≤ n) (h1 : n ≤ 255) (hc : W.cell? ⟨b, 0, none⟩ = some (.int .u8 n)) :
    (convert 22 9 (.slice (some ⟨b, 0, none⟩) 1 1)).run Try.prog W = .ok (.string (oneByte n)) W := by
  have := run_convert_bytes_back (P := Try.prog) W 22 9 5 ⟨b, 0, none⟩ 1 [n.toNat.toUInt8] Try.underlying22 Try.underlying5 Try.underlying9 (by
    intro j hj
    match j, hj with
    | 0, _ =>
      simp [Addr.add, hc]
      omega)
  exact this

theorem bcell {W w1 : World} (hb : Below W.heap.size W w1) : (∀ b o, b < W.heap.size → w1.cell? ⟨b, o, none⟩ = W.cell? ⟨b, o, none⟩) ∧ (∀ b o, b < W.heap.size → w1.frozen? ⟨b, o, none⟩ = W.frozen? ⟨b, o, none⟩) :=
  ⟨fun b o h => hb.cell (p := ⟨b, o, none⟩) h, fun b o h => hb.frozen (p := ⟨b, o, none⟩) h⟩
end Go.Proofs.Ythgdobnegepgoaa
