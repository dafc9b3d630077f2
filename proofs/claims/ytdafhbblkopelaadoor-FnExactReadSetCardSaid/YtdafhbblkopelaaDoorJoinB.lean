/- The joined text, and the contracts of the program's Join: it returns the elements joined. Condition: the elements and the separators together have at most 2^47 bytes, and the list is one of the call's own. -/
import Derived.Test.YtdafhbblkopelaaDoorGBase
import Derived.Test.YtdafhbblkopelaaDoorShelf
import Derived.Test.YtdafhbblkopelaaDoorSplitPlain
import Derived.Lib.Join
namespace Go.Proofs.YtdafhbblkopelaaDoor
open Go.RowKit

theorem joinParts_any (bk o c n : Nat) (xs : List ByteArray) (sep : ByteArray) (w : World) (hn : xs.length = n) (hcells : ∀ (j : Nat) x, xs[j]? = some x → w.cell? ⟨bk, o + j, none⟩ = some (.string x)) (hbk : bk < w.heap.size) (hN : n ≤ 140737488355328) (hcap : n ≤ c)
    (hlen : (Lib.join (xs.map (·.data.toList)) sep.data.toList).length ≤ 140737488355328) :
    Calls Tryd.prog 19 #[.string sep, .slice (some ⟨bk, o, none⟩) n c] w fun e w' => e = .returned (.string ⟨(Lib.join (xs.map (·.data.toList)) sep.data.toList).toArray⟩) ∧ Below w.heap.size w w' := by
  subst hn
  have C := Lib.hid (Tryd.strings_Join bk o c xs sep w hcells hbk hN hcap hlen)
  generalize (Lib.join (xs.map (·.data.toList)) sep.data.toList) = r at C ⊢
  generalize xs.length = n at C ⊢
  clear hcells hlen hN hcap
  go_enter Tryd.func19, Tryd.ntmps19
  go_wp2_with fail
  refine C.out.mono ?_
  rintro e w' ⟨rfl, hb⟩
  go_wp2
  go_ret
  exact ⟨rfl, hb⟩

def joinB (l : List ByteArray) (y : ByteArray) : ByteArray := ⟨(Lib.join (l.map (·.data.toList)) y.data.toList).toArray⟩

theorem implJoinAny (g cap : Nat) (l : List ByteArray) (y : ByteArray) (w : World) (B : Nat) (h : w.ownsRow B 9 1 (.slice (some ⟨g, 0, none⟩) l.length cap) l.length (l.map Value.string)) (hc : l.length ≤ cap) (hm : l.length ≤ 140737488355328) (hlen : (Lib.join (l.map (·.data.toList)) y.data.toList).length ≤ 140737488355328) :
    Calls Tryd.prog 14 #[.slice (some ⟨g, 0, none⟩) l.length cap, .string y] w fun e w' => e = .returned (.string (joinB l y)) ∧ Below w.heap.size w w' := by
  have C := Lib.hid (joinParts_any g 0 cap l.length l y w rfl (fun j x hj => by
    have hjl := (List.getElem?_eq_some_iff.1 hj).1
    rw [Nat.zero_add, h.cellAt j (by omega), List.getElem?_map, hj]
    rfl) (h.lt g rfl).2 hm hc hlen)
  have HJ : Hid (joinB l y = ⟨(Lib.join (l.map (·.data.toList)) y.data.toList).toArray⟩) := rfl
  generalize (⟨(Lib.join (l.map (·.data.toList)) y.data.toList).toArray⟩ : ByteArray) = r at C HJ
  generalize l.length = n at C
  clear h hm hlen hc
  go_enter Tryd.func14, Tryd.ntmps14
  go_wp2_with fail
  refine C.out.mono ?_
  rintro e w' ⟨rfl, hb⟩
  go_wp2
  go_ret
  exact ⟨ret_str HJ.out.symm, hb⟩

/-! ### what is split at a separator is joined by it again -/
def sepSp : ByteArray := ⟨#[32]⟩

theorem isBy_sp (c : UInt8) : isBy sepSp c = (c == 32) := by
  show [32].contains c = (c == 32)
  simp
  rfl

theorem join_snoc (xs : List (List UInt8)) (y : List UInt8) (sep : List UInt8) (h : xs ≠ []) : Lib.join (xs ++ [y]) sep = Lib.join xs sep ++ sep ++ y := by
  cases xs with
  | nil => exact absurd rfl h
  | cons x r =>
    rw [List.cons_append, Lib.join_cons, Lib.join_cons]
    simp [Lib.joinTail, List.append_assoc]

theorem extract_list (s : ByteArray) (a b : Nat) : (s.extract a b).data.toList = (s.data.toList.drop a).take (b - a) := by
  simp

/-- The closed parts before byte k, each with its separator: the text before the open part. -/
theorem spl_flat (s : ByteArray) (k : Nat) (hk : k ≤ s.size) :
    (spl s (isBy sepSp) k).2 ≤ k ∧ ((spl s (isBy sepSp) k).1.map (fun x => x.data.toList ++ [32])).flatten = s.data.toList.take (spl s (isBy sepSp) k).2 := by
  induction k with
  | zero => simp [spl]
  | succ k ih =>
    have hlt : k < s.size := by omega
    obtain ⟨h1, h2⟩ := ih (by omega)
    obtain ⟨fr, hfr⟩ : ∃ fr, (spl s (isBy sepSp) k).2 = fr := ⟨_, rfl⟩
    obtain ⟨ps, hps⟩ : ∃ ps, (spl s (isBy sepSp) k).1 = ps := ⟨_, rfl⟩
    have he : spl s (isBy sepSp) k = (ps, fr) := by rw [← hps, ← hfr]
    rw [hfr] at h1 h2
    rw [hps] at h2
    cases hp : isBy sepSp s[k] with
    | true =>
      rw [spl_yes hlt hp he]
      refine ⟨Nat.le_refl _, ?_⟩
      rw [isBy_sp] at hp
      have hc : s[k] = 32 := eq_of_beq hp
      rw [List.map_append, List.flatten_append, h2]
      simp only [List.map_cons, List.map_nil, List.flatten_cons, List.flatten_nil, List.append_nil]
      rw [take_snoc s k hlt, hc, extract_list, ← List.append_assoc]
      congr 1
      rw [← List.drop_take]
      have : s.data.toList.take fr = (s.data.toList.take k).take fr := by rw [List.take_take]; congr 1; omega
      rw [this, List.take_append_drop]
    | false =>
      rw [spl_no hlt hp he]
      exact ⟨by omega, h2⟩

theorem join_two (x z : List UInt8) (r : List (List UInt8)) (sep : List UInt8) : Lib.join (x :: z :: r) sep = x ++ sep ++ Lib.join (z :: r) sep := by
  rw [Lib.join_cons, Lib.join_cons]
  simp [Lib.joinTail, List.append_assoc]

theorem join_flat (xs : List (List UInt8)) (y : List UInt8) : Lib.join (xs ++ [y]) [32] = (xs.map (· ++ [32])).flatten ++ y := by
  induction xs with
  | nil => simp [Lib.join_one]
  | cons x r ih =>
    cases r with
    | nil => rw [List.cons_append, List.nil_append, join_two, Lib.join_one]; simp
    | cons z r =>
      rw [List.cons_append, List.cons_append, join_two, ← List.cons_append, ih]
      simp [List.append_assoc]

theorem split_join (s : ByteArray) : (Lib.join ((parts s (isBy sepSp)).map (·.data.toList)) sepSp.data.toList) = s.data.toList := by
  obtain ⟨h1, h2⟩ := spl_flat s s.size (Nat.le_refl _)
  unfold parts
  rw [List.map_append, List.map_cons, List.map_nil]
  show Lib.join _ [32] = _
  rw [join_flat, List.map_map]
  have : (fun x : List UInt8 => x ++ [32]) ∘ (fun x : ByteArray => x.data.toList) = fun x : ByteArray => x.data.toList ++ [32] := rfl
  rw [this, h2, extract_list, ← List.drop_take]
  have : s.data.toList.take (spl s (isBy sepSp) s.size).2 = (s.data.toList.take s.size).take (spl s (isBy sepSp) s.size).2 := by rw [List.take_take]; congr 1; omega
  rw [this, List.take_append_drop]
  exact List.take_of_length_le (by simp)
end Go.Proofs.YtdafhbblkopelaaDoor
