/- The walk of the exact law of DecodeSigns round the contract of the program's function: the law returns true for every argument. Condition: the lists that came in read as weighings and as integers. -/
import Derived.Test.YtbkhmlkicafheaaDesignLaws
import Derived.Test.YtbkhmlkicafheaaGWei
namespace Go.Proofs.Ytbkhmlkicafheaa
open Go.RowKit

theorem ProbAt.only {T : Nat → Prop} {w w' : World} {b : Nat} {n : Int} {h l z : Bool} (hp : ProbAt w b n h l z) (ho : Only T w w') (hb : ¬ T b) : ProbAt w' b n h l z := by
  obtain ⟨e0, e1, e2, e3, hlt⟩ := hp
  have k := ho.block b hlt hb
  refine ⟨?_, ?_, ?_, ?_, Nat.lt_of_lt_of_le hlt ho.size⟩
  · rw [World.cell?_of_block (w := w) (a := ⟨b, 0, none⟩) k]; exact e0
  · rw [World.cell?_of_block (w := w) (a := ⟨b, 1, none⟩) k]; exact e1
  · rw [World.cell?_of_block (w := w) (a := ⟨b, 2, none⟩) k]; exact e2
  · rw [World.cell?_of_block (w := w) (a := ⟨b, 3, none⟩) k]; exact e3
theorem outc_small (L R : List Int) (c : Int) : -1 ≤ outcI L R c ∧ outcI L R c ≤ 1 := by
  unfold outcI
  repeat' split
  all_goals omega
theorem signs_wf (P : List WD) (c : Int) : ∀ x ∈ signsL P c, wfW x := fun x hx => by
  unfold signsL at hx
  obtain ⟨d, -, rfl⟩ := List.mem_map.1 hx
  have := outc_small d.L d.R c
  simp [wfW, Lit.wf, IntKind.min, IntKind.max, IntKind.signed, IntKind.bits]
  omega
/-- The contract of a function that decodes signs. -/
def DecodeIs (f : FuncId) (P : List WD) (n : Int) (h l z : Bool) (S : List Int) : Prop :=
  ∀ W v vs, WdsAt W v P → IntsAt W vs S → Calls Try.prog f #[probV n h l z, v, vs] W (Lists (decR P n h l z S) W)

end Go.Proofs.Ytbkhmlkicafheaa
