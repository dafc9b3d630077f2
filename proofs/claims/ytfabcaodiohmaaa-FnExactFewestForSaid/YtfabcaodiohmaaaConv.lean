/- A slice of one byte as a string. Condition: the byte's number is from 0 to 255. -/
import Derived.Test.YtfabcaodiohmaaaProg
import Derived.Test.YtfabcaodiohmaaaPlain
import Derived.WalkKit
import Derived.WalkSpells
import Derived.WalkLawsBesides
import Derived.Lib.Hide
import Derived.Laws.IdiomStrings
namespace Go.Proofs.Ytfabcaodiohmaaa
open Go.RowKit

def oneByte (n : Int) : ByteArray := ⟨#[n.toNat.toUInt8]⟩
theorem oneByte_size (n : Int) : (oneByte n).size = 1 := rfl

theorem ret_str {a b : ByteArray} (h : a = b) : Ending.returned (.string a) = .returned (.string b) := by rw [h]

theorem bcell {W w1 : World} (hb : Below W.heap.size W w1) : (∀ b o, b < W.heap.size → w1.cell? ⟨b, o, none⟩ = W.cell? ⟨b, o, none⟩) ∧ (∀ b o, b < W.heap.size → w1.frozen? ⟨b, o, none⟩ = W.frozen? ⟨b, o, none⟩) :=
  ⟨fun b o h => hb.cell (p := ⟨b, o, none⟩) h, fun b o h => hb.frozen (p := ⟨b, o, none⟩) h⟩
end Go.Proofs.Ytfabcaodiohmaaa
