/- Signs as a key of a map, and the contract of the program's keyOf. Conditions: the signs read as integers and are short enough to be counted. -/
import Derived.Test.YtbkhmlkicafheaaGroupsPlain
import Derived.Test.YtbkhmlkicafheaaCameWds
import Derived.DeepKeys4
import Derived.Maps.Keyed
import Derived.Laws.CopyOwn
namespace Go.Proofs.Ytbkhmlkicafheaa
open Go.RowKit

/-- The value of a key: the number of the signs, and the first six of them. -/
def keyV (s : List Int) : Value :=
  .agg #[.int .i64 s.length, .int .i64 (s[0]?.getD 0), .int .i64 (s[1]?.getD 0), .int .i64 (s[2]?.getD 0), .int .i64 (s[3]?.getD 0), .int .i64 (s[4]?.getD 0), .int .i64 (s[5]?.getD 0)]
def keyCells (s : List Int) : List Value :=
  [.int .i64 s.length, .int .i64 (s[0]?.getD 0), .int .i64 (s[1]?.getD 0), .int .i64 (s[2]?.getD 0), .int .i64 (s[3]?.getD 0), .int .i64 (s[4]?.getD 0), .int .i64 (s[5]?.getD 0)]
theorem key_splice (s : List Int) : splice [.int .i64 s.length, .int .i64 0, .int .i64 0, .int .i64 0, .int .i64 0, .int .i64 0, .int .i64 0] 1 ((s.take 6).map (Value.int .i64)) = keyCells s := by
  rcases s with _ | ⟨a, _ | ⟨b, _ | ⟨c, _ | ⟨d, _ | ⟨e, _ | ⟨f, r⟩⟩⟩⟩⟩⟩ <;> simp [splice, keyCells]
theorem keyV_inj {s s' : List Int} (h : s.length ≤ 6) (e : keyV s = keyV s') : s = s' := by
  simp only [keyV, Value.agg.injEq, Array.mk.injEq, List.cons.injEq, Value.int.injEq, true_and, and_true] at e
  obtain ⟨e0, e1, e2, e3, e4, e5, e6⟩ := e
  have hl : s.length = s'.length := by omega
  apply List.ext_getElem hl
  intro i h1 h2
  have key : ∀ (l : List Int) (j : Nat) (hj : j < l.length), l[j]?.getD 0 = l[j] := fun l j hj => by simp [List.getElem?_eq_getElem hj]
  have hi : i < 6 := by omega
  rcases i with _ | _ | _ | _ | _ | _ | i
  · rw [← key s 0 h1, ← key s' 0 h2]; exact e1
  · rw [← key s 1 h1, ← key s' 1 h2]; exact e2
  · rw [← key s 2 h1, ← key s' 2 h2]; exact e3
  · rw [← key s 3 h1, ← key s' 3 h2]; exact e4
  · rw [← key s 4 h1, ← key s' 4 h2]; exact e5
  · rw [← key s 5 h1, ← key s' 5 h2]; exact e6
  · omega

/-! ### the key's type -/
theorem laidOut : laidOutB Try.prog = true := by kernel_rfl
theorem keyRow : (109 : TypeId) < Try.prog.types.size := of_decide_eq_true (by kernel_rfl)
theorem keyDeep : Try.prog.keyTypeAt (Try.prog.types.size + 1) 109 = true := by kernel_rfl
theorem keyWide : (match Try.prog.underlying 109 with | some (.array _ _) | some (.struct _) => true | _ => false) = true := by rw [Try.underlying109]
theorem keyAt3 : Try.prog.keyTypeAt 3 109 = true := by kernel_rfl
theorem keyLaw : WideMaps.KeyLaw Try.prog 109 := deep_law_laid laidOut (m := 3) (by omega) keyRow keyAt3 (by rw [Try.underlying109])
theorem keyKeyed : Maps.Keyed Try.prog 109 := Maps.Keyed.of_law keyLaw
theorem keyCellsOf : Try.prog.cellsOf 109 = 7 := by kernel_rfl
theorem keyFormed {a b c d e f g : Value} : (Value.agg #[a, b, c, d, e, f, g]).formed Try.prog 109 = true := by simp [Value.formed, Try.underlying109, keyCellsOf]
theorem keyRead (n : Nat) {x0 x1 x2 x3 x4 x5 x6 : Int} (h0 : (Lit.int .i64 x0).wf = true) (h1 : (Lit.int .i64 x1).wf = true) (h2 : (Lit.int .i64 x2).wf = true) (h3 : (Lit.int .i64 x3).wf = true) (h4 : (Lit.int .i64 x4).wf = true) (h5 : (Lit.int .i64 x5).wf = true) (h6 : (Lit.int .i64 x6).wf = true) :
    Try.prog.keyLits (n + 3) 109 [.int .i64 x0, .int .i64 x1, .int .i64 x2, .int .i64 x3, .int .i64 x4, .int .i64 x5, .int .i64 x6] = some [.int .i64 x0, .int .i64 x1, .int .i64 x2, .int .i64 x3, .int .i64 x4, .int .i64 x5, .int .i64 x6] := by
  have c1 : Try.prog.cellsOf 107 = 6 := by kernel_rfl
  have c2 : Try.prog.cellsOf 3 = 1 := by kernel_rfl
  simp [Program.keyLits, Try.underlying109, Try.underlying107, Try.underlying3, keyCellsOf, c1, c2, List.range_succ, h0, h1, h2, h3, h4, h5, h6]
theorem typesSize : ∃ n, Try.prog.types.size + 1 = n + 3 := ⟨Try.prog.types.size - 2, by have h : ((109 : Nat)) < Try.prog.types.size := keyRow; omega⟩
/-- Signs that a key can be made of. -/
def KeyOk (s : List Int) : Prop := s.length ≤ 1048576 ∧ ∀ x ∈ s, (Lit.int .i64 x).wf = true
theorem keyOf_mk {s : List Int} (h : KeyOk s) : ∃ l, Go.keyOf Try.prog 109 (keyV s) = some l := by
  have w0 : (Lit.int .i64 0).wf = true := by decide
  have wl : (Lit.int .i64 (s.length : Int)).wf = true := by
    have := h.1
    simp [Lit.wf, IntKind.min, IntKind.max, IntKind.signed, IntKind.bits]
    omega
  have wj : ∀ j : Nat, (Lit.int .i64 (s[j]?.getD 0)).wf = true := fun j => by
    by_cases hj : j < s.length
    · rw [show s[j]?.getD 0 = s[j] by simp [List.getElem?_eq_getElem hj]]
      exact h.2 _ (List.getElem_mem hj)
    · rw [show s[j]?.getD 0 = 0 by simp [List.getElem?_eq_none (by omega : s.length ≤ j)]]
      exact w0
  obtain ⟨n, hn⟩ := typesSize
  have kr := keyRead n wl (wj 0) (wj 1) (wj 2) (wj 3) (wj 4) (wj 5)
  have kt : Try.prog.keyType 109 = true := keyDeep
  unfold Go.keyOf
  rw [Try.underlying109]
  simp only [keyV, kt, keyFormed, Bool.and_self, if_true, Value.cells, hn]
  rw [kr]
  exact ⟨_, rfl⟩
def litI : Value → Option (List Lit)
  | .int q n => if q = .i64 ∧ (Lit.int .i64 n).wf = true then some [.int .i64 n] else none
  | _ => none
theorem litInt (m : Nat) (v : Value) : Try.prog.keyLits (m + 1) 3 [v] = litI v := by
  cases v <;> simp [Program.keyLits, Try.underlying3, litI]
theorem litI_inv {v : Value} {L : List Lit} (h : litI v = some L) : ∃ x, v = .int .i64 x := by
  cases v <;> simp [litI] at h
  obtain ⟨⟨rfl, -⟩, -⟩ := h
  exact ⟨_, rfl⟩
theorem keyOf_inv {v : Value} {l : Lit} (h : Go.keyOf Try.prog 109 v = some l) : ∃ x0 x1 x2 x3 x4 x5 x6, v = .agg #[.int .i64 x0, .int .i64 x1, .int .i64 x2, .int .i64 x3, .int .i64 x4, .int .i64 x5, .int .i64 x6] := by
  obtain ⟨n, hn⟩ := typesSize
  have c1 : Try.prog.cellsOf 107 = 6 := by kernel_rfl
  have c2 : Try.prog.cellsOf 3 = 1 := by kernel_rfl
  obtain ⟨cs, L, rfl, hL, -⟩ := keyOf_top (by rw [Try.underlying109]) h
  rw [hn] at hL
  clear h hn
  obtain ⟨l0, hl⟩ : ∃ l0, cs.toList = l0 := ⟨_, rfl⟩
  have hcs : cs = l0.toArray := by rw [← hl]
  subst hcs
  clear hl
  simp only [] at hL
  by_cases hlen : l0.length = 7
  · obtain ⟨v0, v1, v2, v3, v4, v5, v6, rfl⟩ : ∃ v0 v1 v2 v3 v4 v5 v6, l0 = [v0, v1, v2, v3, v4, v5, v6] := by
      rcases l0 with _ | ⟨a, _ | ⟨b, _ | ⟨c, _ | ⟨d, _ | ⟨e, _ | ⟨f, _ | ⟨g, _ | ⟨z, r⟩⟩⟩⟩⟩⟩⟩⟩ <;> simp at hlen
      exact ⟨_, _, _, _, _, _, _, rfl⟩
    clear hlen
    unfold Program.keyLits at hL
    simp [Try.underlying109, keyCellsOf, c1, c2, litInt, Option.bind_eq_some_iff] at hL
    obtain ⟨_, h0, _, ⟨a, hA, -⟩, -⟩ := hL
    unfold Program.keyLits at hA
    simp [Try.underlying107, c1, c2, litInt, Option.bind_eq_some_iff, List.range_succ] at hA
    obtain ⟨_, h1, _, ⟨_, h2, _, ⟨_, h3, _, ⟨_, h4, _, ⟨_, h5, _, ⟨_, h6, -⟩, -⟩, -⟩, -⟩, -⟩, -⟩ := hA
    obtain ⟨x0, rfl⟩ := litI_inv h0
    obtain ⟨x1, rfl⟩ := litI_inv h1
    obtain ⟨x2, rfl⟩ := litI_inv h2
    obtain ⟨x3, rfl⟩ := litI_inv h3
    obtain ⟨x4, rfl⟩ := litI_inv h4
    obtain ⟨x5, rfl⟩ := litI_inv h5
    obtain ⟨x6, rfl⟩ := litI_inv h6
    exact ⟨x0, x1, x2, x3, x4, x5, x6, rfl⟩
  · simp [Program.keyLits, Try.underlying109, keyCellsOf, hlen] at hL

theorem keyCells_at {w : World} {g t : Nat} {s : List Int} (h : w.heap[g]? = some (.cells (keyCells s).toArray t (0, 0))) :
    w.cell? ⟨g, 0, none⟩ = some (.int .i64 s.length) ∧ w.cell? ⟨g, 1, none⟩ = some (.int .i64 (s[0]?.getD 0)) ∧ w.cell? ⟨g, 2, none⟩ = some (.int .i64 (s[1]?.getD 0)) ∧ w.cell? ⟨g, 3, none⟩ = some (.int .i64 (s[2]?.getD 0)) ∧
    w.cell? ⟨g, 4, none⟩ = some (.int .i64 (s[3]?.getD 0)) ∧ w.cell? ⟨g, 5, none⟩ = some (.int .i64 (s[4]?.getD 0)) ∧ w.cell? ⟨g, 6, none⟩ = some (.int .i64 (s[5]?.getD 0)) ∧ g < w.heap.size := by
  have hlt : g < w.heap.size := (Array.getElem?_eq_some_iff.1 h).1
  refine ⟨?_, ?_, ?_, ?_, ?_, ?_, ?_, hlt⟩ <;> simp [World.cell?, h, keyCells]
end Go.Proofs.Ytbkhmlkicafheaa
