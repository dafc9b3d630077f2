/- The contracts of SplitLines, in the model and in the program: both return the lines of the text in a list of the call's own. Condition: the text has at most 1048576 bytes. -/
import Derived.Test.YtbncjpcalheiiaaDoorSplit
namespace Go.Proofs.YtbncjpcalheiiaaDoor
open Go.RowKit

/-- A function gives back the strings l in a list of the call's own. -/
def Owned (l : List ByteArray) (w : World) (e : Ending) (w' : World) : Prop :=
  ∃ v, e = .returned v ∧ w'.ownsRow w.heap.size 9 1 v l.length (l.map Value.string) ∧ Below w.heap.size w w'

theorem owns_take {w : World} {B e g n cap : Nat} {xs : List Value} (h : w.ownsRow B e 1 (.slice (some ⟨g, 0, none⟩) n cap) n xs) (m : Nat) (hm : m ≤ n) : w.ownsRow B e 1 (.slice (some ⟨g, 0, none⟩) m cap) m (xs.take m) := by
  obtain ⟨h1, h2⟩ := h
  refine ⟨by simp; omega, ?_⟩
  rcases h2 with ⟨h0, _⟩ | ⟨g', cap', cur, hv, hg, hh, hn, hcap, hsz, htake⟩
  · cases h0
  · cases hv
    refine .inr ⟨g, cap, cur, rfl, hg, hh, by omega, hcap, hsz, ?_⟩
    rw [← htake, List.take_take]
    congr 1
    omega

/-- The parts without the last one if that is empty. -/
def dropEnd (L : List ByteArray) : List ByteArray := match L.getLast? with | some x => if x.toList.isEmpty = true then L.take (L.length - 1) else L | none => L
def linesOf (s : ByteArray) : List ByteArray := dropEnd (parts s (isBy ⟨#[10]⟩))

theorem dropEnd_yes {L : List ByteArray} (h : L.length - 1 < L.length) (he : L[L.length - 1].toList.isEmpty = true) : dropEnd L = L.take (L.length - 1) := by
  have : L.getLast? = some L[L.length - 1] := by rw [List.getLast?_eq_getElem?, List.getElem?_eq_getElem h]
  simp [dropEnd, this, he]
theorem dropEnd_no {L : List ByteArray} (h : L.length - 1 < L.length) (he : L[L.length - 1].toList.isEmpty = false) : dropEnd L = L := by
  have : L.getLast? = some L[L.length - 1] := by rw [List.getLast?_eq_getElem?, List.getElem?_eq_getElem h]
  simp [dropEnd, this, he]
theorem dropEnd_le (L : List ByteArray) : (dropEnd L).length ≤ L.length := by
  unfold dropEnd
  split
  · split
    · simp
    · omega
  · omega
theorem lines_length (s : ByteArray) : (linesOf s).length ≤ s.size + 1 := Nat.le_trans (dropEnd_le _) (parts_length s _).2

/-- The parts, their list's address written out. -/
def SomeRow (L : List ByteArray) (w : World) (e : Ending) (w' : World) : Prop :=
  ∃ g cap, e = .returned (.slice (some ⟨g, 0, none⟩) L.length cap) ∧ L.length ≤ cap ∧ w'.ownsRow w.heap.size 9 1 (.slice (some ⟨g, 0, none⟩) L.length cap) L.length (L.map Value.string) ∧ Below w.heap.size w w'

theorem some_row {s y : ByteArray} {w w' : World} {e : Ending} (h : Splits s y w e w') : SomeRow (parts s (isBy y)) w e w' := by
  obtain ⟨v, rfl, hown, hb⟩ := h
  rcases hown.2 with ⟨rfl, h0⟩ | ⟨g, cap, cur, rfl, _, _, hn, _⟩
  · have := (parts_length s (isBy y)).1
    omega
  · exact ⟨g, cap, rfl, hn, hown, hb⟩

set_option maxHeartbeats 1600000 in
theorem implLines (s : ByteArray) (w : World) (hs : s.size ≤ 1048576) :
    Calls Tryd.prog 13 #[.string s] w (Owned (linesOf s) w) := by
  have C := Lib.hid (fun W => (implSplit s ⟨#[10]⟩ W hs).mono fun e w' h => some_row h)
  have hl := parts_length s (isBy ⟨#[10]⟩)
  unfold linesOf
  generalize parts s (isBy ⟨#[10]⟩) = L at C hl ⊢
  have hlt : L.length - 1 < L.length := by omega
  obtain ⟨x, hx⟩ : ∃ x, L[L.length - 1] = x := ⟨_, rfl⟩
  have HX := Lib.hid hx
  clear hx
  obtain ⟨n, hn⟩ : ∃ n, L.length = n + 1 := ⟨L.length - 1, by omega⟩
  have HN := Lib.hid hn
  have hn2 : n ≤ 1048576 := by omega
  have HE : Hid (x.toList.isEmpty = true → dropEnd L = L.take n) := fun h => by
    have h1 := dropEnd_yes hlt (by rw [HX.out]; exact h)
    rw [h1, hn]; rfl
  have HF : Hid (x.toList.isEmpty = false → dropEnd L = L) := fun h => dropEnd_no hlt (by rw [HX.out]; exact h)
  have hat : L[n]? = some x := by
    rw [← HX.out, ← List.getElem?_eq_getElem hlt]
    congr 1
    omega
  have HAT := Lib.hid hat
  clear HX hl hn hat hlt
  unfold SomeRow at C
  rw [HN.out] at C
  have h00 : (0 : Int) ≤ (n : Int) := by omega
  have h01 : (n : Int) < (n : Int) + 1 := by omega
  cases hxe : x.toList.isEmpty with
  | true =>
    have HD := Lib.hid (HE.out hxe)
    clear HE HF
    go_enter Tryd.func13, Tryd.ntmps13
    go_wp2_with fail
    refine (C.out _).mono ?_
    rintro e w1 ⟨g, cap, rfl, hcap, hown, hb⟩
    have e1 : w1.cell? ⟨g, n, none⟩ = some (.string x) := by
      rw [hown.cellAt n (by omega), List.getElem?_map, HAT.out]; rfl
    have HO := Lib.hid hown
    have HB := Lib.hid hb
    clear hown hb
    go_wp2
    go_ret
    refine ⟨_, rfl, ?_, HB.out⟩
    have hlen : (L.take n).length = n := by rw [List.length_take, HN.out]; omega
    rw [HD.out, hlen, List.map_take]
    exact owns_take HO.out n (by omega)
  | false =>
    have HD := Lib.hid (HF.out hxe)
    clear HE HF
    go_enter Tryd.func13, Tryd.ntmps13
    go_wp2_with fail
    refine (C.out _).mono ?_
    rintro e w1 ⟨g, cap, rfl, hcap, hown, hb⟩
    have e1 : w1.cell? ⟨g, n, none⟩ = some (.string x) := by
      rw [hown.cellAt n (by omega), List.getElem?_map, HAT.out]; rfl
    have HO := Lib.hid hown
    have HB := Lib.hid hb
    clear hown hb
    go_wp2
    go_ret
    refine ⟨_, rfl, ?_, HB.out⟩
    rw [HD.out, HN.out]
    exact HO.out

end Go.Proofs.YtbncjpcalheiiaaDoor
