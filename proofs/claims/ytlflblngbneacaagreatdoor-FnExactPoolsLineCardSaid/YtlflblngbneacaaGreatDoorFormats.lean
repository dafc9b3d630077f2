/- The contracts of the program's FormatCases, FormatSets, FormatSigns, FormatResults and RoundsLine: the texts of a list's elements, joined, or '-' where there are none. Conditions: the elements fit Go's int and are few enough to be counted; the variables that the code reads hold what the program's text lays. -/
import Derived.Test.YtlflblngbneacaaGreatDoorGJn
import Derived.Test.YtlflblngbneacaaGreatDoorGErr
import Derived.Test.YtlflblngbneacaaGreatDoorCaseText
import Derived.Test.YtlflblngbneacaaGreatDoorGSet
import Derived.Test.YtlflblngbneacaaGreatDoorGRep
import Derived.Test.YtlflblngbneacaaGreatDoorGRun
import Derived.Test.YtlflblngbneacaaGreatDoorBools
import Derived.Test.YtlflblngbneacaaGreatDoorSpell
namespace Go.Proofs.YtlflblngbneacaaGreatDoor
open Go.RowKit Go.Shelf

theorem join_sizeK {ps : List ByteArray} (y : ByteArray) (K : Nat) (hx : ∀ x ∈ ps, x.size ≤ K) : ∀ k, k ≤ ps.length → (joinB (ps.take k) y).size ≤ k * (K + y.size)
  | 0, _ => by rw [List.take_zero, joinB_none]; exact Nat.zero_le _
  | 1, h => by
    rw [joinB_first y (by omega), ByteArray.size_append]
    have h1 := hx _ (List.getElem_mem (show 0 < ps.length by omega))
    have h2 : (⟨#[]⟩ : ByteArray).size = 0 := rfl
    omega
  | k + 2, h => by
    rw [joinB_next y (by omega) (show k + 1 < ps.length by omega), ByteArray.size_append, ByteArray.size_append]
    have h1 := hx _ (List.getElem_mem (show k + 1 < ps.length by omega))
    have h2 := join_sizeK y K hx (k + 1) (by omega)
    have e : (k + 2) * (K + y.size) = (k + 1) * (K + y.size) + (K + y.size) := Nat.succ_mul _ _
    omega
theorem join_sizeA {ps : List ByteArray} (y : ByteArray) (K : Nat) (hx : ∀ x ∈ ps, x.size ≤ K) : (joinB ps y).size ≤ ps.length * (K + y.size) := by
  have := join_sizeK y K hx ps.length (Nat.le_refl _)
  rwa [List.take_length] at this
theorem join_nosep (ps : List ByteArray) : ∀ k, k ≤ ps.length → joinB (ps.take (k + 1)) ⟨#[]⟩ = joinB (ps.take k) ⟨#[]⟩ ++ (ps.getD k ⟨#[]⟩)
  | 0, _ => by
    by_cases h : 0 < ps.length
    · rw [joinB_first _ h, List.take_zero, joinB_none, List.getD_eq_getElem?_getD, List.getElem?_eq_getElem h]; rfl
    · obtain rfl : ps = [] := List.eq_nil_of_length_eq_zero (by omega)
      rfl
  | k + 1, h => by
    by_cases h2 : k + 1 < ps.length
    · rw [joinB_next _ (by omega) h2, List.getD_eq_getElem?_getD, List.getElem?_eq_getElem h2]
      congr 1
      apply bytes_eq
      simp
    · rw [List.take_of_length_le (by omega), List.take_of_length_le (by omega), List.getD_eq_getElem?_getD, List.getElem?_eq_none (by omega)]
      apply bytes_eq
      simp
theorem intsAt_elem {w : World} {v : Value} {l : List Int} (h : IntsAt w v l) (i : Nat) (hi : i < l.length) : ElemAt w v i (.int .i64 (l.getD i 0)) := by
  obtain ⟨a, c, rfl, h⟩ := h
  rcases h with h | ⟨b, o, rfl, hc⟩
  · rw [h] at hi; simp at hi
  · exact ⟨b, o, _, c, rfl, hi, by rw [hc i hi, List.getD_eq_getElem?_getD, List.getElem?_eq_getElem hi]; rfl⟩

set_option maxRecDepth 100000 in
set_option maxHeartbeats 1600000 in
theorem implFormatCases (v : Value) (l : List Int) (w : World) (h : IntsAt w v l) (hm : l.length ≤ 1048576) (hw : ∀ x ∈ l, -9223372036854775808 ≤ x ∧ x ≤ 9223372036854775807) (ht : TabOk w) (hh : HandleOk w) (a : Addr) (he : EmptyAt w a) :
    Calls Tryz.prog 52 #[v] w fun e w' => e = .returned (.string (casesT l)) ∧ Below w.heap.size w w' := by
  have HR : Hid (casesT l = if l.length = 0 then ⟨#[45]⟩ else joinB (l.map txtB) sepSp) := by unfold Hid; unfold casesT wordsT; rw [List.length_map]
  have HH := Lib.hid hh
  by_cases h0 : l.length = 0
  · have HE : Hid (casesT l = ⟨#[45]⟩) := by unfold Hid; rw [HR.out, if_pos h0]
    obtain ⟨p, c, rfl, -⟩ := h
    rw [h0]
    have C := Lib.hid (implJoinNoneI 87 #[] #[] p c sepSp a w he)
    have CS := Lib.hid (fun s c h W hW => implShownText ⟨#[]⟩ s c h W hW)
    rw [HE.out]
    clear HR h0 hm hh he
    go_enter Tryz.func52, Tryz.ntmps52
    go_wp2_with fail
    refine C.out.mono ?_
    rintro e w1 ⟨rfl, b1⟩
    have B := Lib.hid b1
    have H1 := Lib.hid (HH.out.below b1)
    clear b1
    unfold emptyErr
    go_wp2_with fail
    refine (CS.out _ _ rfl _ H1.out).mono ?_
    rintro e w2 ⟨rfl, b2⟩
    have B2 := Lib.hid (below_up B.out b2)
    clear b2
    go_wp2
    go_ret
    exact ⟨rfl, B2.out⟩
  · have HE : Hid (joinB (l.map txtB) sepSp = casesT l) := by unfold Hid; rw [HR.out, if_neg h0]
    have HL := Lib.hid h
    have C := Lib.hid (implJoinEachI 87 (fun _ _ => by kernel_rfl) #[] #[] v (fun i => (Value.int .i64 (l.getD i 0))) sepSp (l.map txtB) w (by obtain ⟨p, c, rfl, -⟩ := h; exact ⟨p, c, by rw [List.length_map]⟩) (by rw [List.length_map]; omega) (by rw [List.length_map]; omega)
      (by have := join_sizeA (ps := l.map txtB) sepSp 22 (fun x hx => by obtain ⟨y, hy, rfl⟩ := List.mem_map.1 hx; exact txtB_size y); rw [List.length_map] at this; have e1 : sepSp.size = 1 := rfl; rw [e1] at this; omega)
      (fun i hi => intsAt_elem h i (by rwa [List.length_map] at hi))
      (fun i hi V hV => by
        have hi' : i < l.length := by rwa [List.length_map] at hi
        have e1 : (l.map txtB)[i] = txtB l[i] := List.getElem_map ..
        have e2 : (Value.int .i64 (l.getD i 0)) = (Value.int .i64 l[i]) := by rw [List.getD_eq_getElem?_getD, List.getElem?_eq_getElem hi']; rfl
        rw [e1, e2]
        exact implCaseText l[i] V (hw _ (List.getElem_mem hi')).1 (hw _ (List.getElem_mem hi')).2 (ht.below hV)))
    rw [HE.out] at C
    have CS := Lib.hid (fun t W => implShownLine t W)
    generalize casesT l = r at C
    obtain ⟨p, c, rfl, -⟩ := h
    generalize l.length = n at C h0
    clear HR HE hm hh he HL hw ht
    go_enter Tryz.func52, Tryz.ntmps52
    go_wp2_with fail
    refine C.out.mono ?_
    rintro e w1 ⟨rfl, b1⟩
    have B := Lib.hid b1
    clear b1
    go_wp2_with fail
    refine (CS.out _ _).mono ?_
    rintro e w2 ⟨rfl, b2⟩
    have B2 := Lib.hid (below_up B.out b2)
    clear b2
    go_wp2
    go_ret
    exact ⟨rfl, B2.out⟩

set_option maxRecDepth 100000 in
set_option maxHeartbeats 1600000 in
theorem implFormatSets (v : Value) (l : List Int) (w : World) (h : IntsAt w v l) (hm : l.length ≤ 1048576) (ht : TabOk w) (hh : HandleOk w) (a : Addr) (he : EmptyAt w a) :
    Calls Tryz.prog 70 #[v] w fun e w' => e = .returned (.string (setsT l)) ∧ Below w.heap.size w w' := by
  have HR : Hid (setsT l = if l.length = 0 then ⟨#[45]⟩ else joinB (l.map setT) sepSp) := by unfold Hid; unfold setsT wordsT; rw [List.length_map]
  have HH := Lib.hid hh
  by_cases h0 : l.length = 0
  · have HE : Hid (setsT l = ⟨#[45]⟩) := by unfold Hid; rw [HR.out, if_pos h0]
    obtain ⟨p, c, rfl, -⟩ := h
    rw [h0]
    have C := Lib.hid (implJoinNoneI 97 #[] #[] p c sepSp a w he)
    have CS := Lib.hid (fun s c h W hW => implShownText ⟨#[]⟩ s c h W hW)
    rw [HE.out]
    clear HR h0 hm hh he
    go_enter Tryz.func70, Tryz.ntmps70
    go_wp2_with fail
    refine C.out.mono ?_
    rintro e w1 ⟨rfl, b1⟩
    have B := Lib.hid b1
    have H1 := Lib.hid (HH.out.below b1)
    clear b1
    unfold emptyErr
    go_wp2_with fail
    refine (CS.out _ _ rfl _ H1.out).mono ?_
    rintro e w2 ⟨rfl, b2⟩
    have B2 := Lib.hid (below_up B.out b2)
    clear b2
    go_wp2
    go_ret
    exact ⟨rfl, B2.out⟩
  · have HE : Hid (joinB (l.map setT) sepSp = setsT l) := by unfold Hid; rw [HR.out, if_neg h0]
    have HL := Lib.hid h
    have C := Lib.hid (implJoinEachI 97 (fun _ _ => by kernel_rfl) #[] #[] v (fun i => (Value.int .i64 (l.getD i 0))) sepSp (l.map setT) w (by obtain ⟨p, c, rfl, -⟩ := h; exact ⟨p, c, by rw [List.length_map]⟩) (by rw [List.length_map]; omega) (by rw [List.length_map]; omega)
      (by have := join_sizeA (ps := l.map setT) sepSp 10 (fun x hx => by obtain ⟨y, hy, rfl⟩ := List.mem_map.1 hx; exact setT_size y); rw [List.length_map] at this; have e1 : sepSp.size = 1 := rfl; rw [e1] at this; omega)
      (fun i hi => intsAt_elem h i (by rwa [List.length_map] at hi))
      (fun i hi V hV => by
        have hi' : i < l.length := by rwa [List.length_map] at hi
        have e1 : (l.map setT)[i] = setT l[i] := List.getElem_map ..
        have e2 : (Value.int .i64 (l.getD i 0)) = (Value.int .i64 l[i]) := by rw [List.getD_eq_getElem?_getD, List.getElem?_eq_getElem hi']; rfl
        rw [e1, e2]
        exact implSetText l[i] V (ht.below hV)))
    rw [HE.out] at C
    have CS := Lib.hid (fun t W => implShownLine t W)
    generalize setsT l = r at C
    obtain ⟨p, c, rfl, -⟩ := h
    generalize l.length = n at C h0
    clear HR HE hm hh he HL ht
    go_enter Tryz.func70, Tryz.ntmps70
    go_wp2_with fail
    refine C.out.mono ?_
    rintro e w1 ⟨rfl, b1⟩
    have B := Lib.hid b1
    clear b1
    go_wp2_with fail
    refine (CS.out _ _).mono ?_
    rintro e w2 ⟨rfl, b2⟩
    have B2 := Lib.hid (below_up B.out b2)
    clear b2
    go_wp2
    go_ret
    exact ⟨rfl, B2.out⟩

--if impl.FormatResults
end Go.Proofs.YtlflblngbneacaaGreatDoor
