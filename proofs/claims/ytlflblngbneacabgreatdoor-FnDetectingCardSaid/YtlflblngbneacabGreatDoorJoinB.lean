/- The joined text, and the contracts of the program's Join: it returns the elements joined. Condition: the elements and the separators together have at most 2^47 bytes, and the list is one of the call's own. -/
import Derived.Test.YtlflblngbneacabGreatDoorGBase
import Derived.Test.YtlflblngbneacabGreatDoorShelf
import Derived.Test.YtlflblngbneacabGreatDoorGSpl
namespace Go.Proofs.YtlflblngbneacabGreatDoor
open Go.RowKit

theorem joinParts_any (bk o c n : Nat) (xs : List ByteArray) (sep : ByteArray) (w : World) (hn : xs.length = n) (hcells : ∀ (j : Nat) x, xs[j]? = some x → w.cell? ⟨bk, o + j, none⟩ = some (.string x)) (hbk : bk < w.heap.size) (hN : n ≤ 140737488355328) (hcap : n ≤ c)
    (hlen : (Lib.join (xs.map (·.data.toList)) sep.data.toList).length ≤ 140737488355328) :
    Calls Tryz.prog 100 #[.string sep, .slice (some ⟨bk, o, none⟩) n c] w fun e w' => e = .returned (.string ⟨(Lib.join (xs.map (·.data.toList)) sep.data.toList).toArray⟩) ∧ Below w.heap.size w w' := by
  subst hn
  have C := Lib.hid (Tryz.strings_Join bk o c xs sep w hcells hbk hN hcap hlen)
  generalize (Lib.join (xs.map (·.data.toList)) sep.data.toList) = r at C ⊢
  generalize xs.length = n at C ⊢
  clear hcells hlen hN hcap
  go_enter Tryz.func100, Tryz.ntmps100
  go_wp2_with fail
  refine C.out.mono ?_
  rintro e w' ⟨rfl, hb⟩
  go_wp2
  go_ret
  exact ⟨rfl, hb⟩

theorem implJoinAny (g cap : Nat) (l : List ByteArray) (y : ByteArray) (w : World) (B : Nat) (h : w.ownsRow B 9 1 (.slice (some ⟨g, 0, none⟩) l.length cap) l.length (l.map Value.string)) (hc : l.length ≤ cap) (hm : l.length ≤ 140737488355328) (hlen : (Lib.join (l.map (·.data.toList)) y.data.toList).length ≤ 140737488355328) :
    Calls Tryz.prog 55 #[.slice (some ⟨g, 0, none⟩) l.length cap, .string y] w fun e w' => e = .returned (.string (joinB l y)) ∧ Below w.heap.size w w' := by
  have C := Lib.hid (joinParts_any g 0 cap l.length l y w rfl (fun j x hj => by
    have hjl := (List.getElem?_eq_some_iff.1 hj).1
    rw [Nat.zero_add, h.cellAt j (by omega), List.getElem?_map, hj]
    rfl) (h.lt g rfl).2 hm hc hlen)
  have HJ : Hid (joinB l y = ⟨(Lib.join (l.map (·.data.toList)) y.data.toList).toArray⟩) := rfl
  generalize (⟨(Lib.join (l.map (·.data.toList)) y.data.toList).toArray⟩ : ByteArray) = r at C HJ
  generalize l.length = n at C
  clear h hm hlen hc
  go_enter Tryz.func55, Tryz.ntmps55
  go_wp2_with fail
  refine C.out.mono ?_
  rintro e w' ⟨rfl, hb⟩
  go_wp2
  go_ret
  exact ⟨ret_str HJ.out.symm, hb⟩

end Go.Proofs.YtlflblngbneacabGreatDoor
