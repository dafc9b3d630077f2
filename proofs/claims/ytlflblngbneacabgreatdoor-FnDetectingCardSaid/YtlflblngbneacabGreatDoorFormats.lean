/- The contracts of the program's FormatCases, FormatSets, FormatSigns, FormatResults and RoundsLine: the texts of a list's elements, joined, or '-' where there are none. Conditions: the elements fit Go's int and are few enough to be counted; the variables that the code reads hold what the program's text lays. -/
import Derived.Test.YtlflblngbneacabGreatDoorGJn
import Derived.Test.YtlflblngbneacabGreatDoorGErr
import Derived.Test.YtlflblngbneacabGreatDoorCaseText
import Derived.Test.YtlflblngbneacabGreatDoorGSet
import Derived.Test.YtlflblngbneacabGreatDoorGRep
import Derived.Test.YtlflblngbneacabGreatDoorGRun
import Derived.Test.YtlflblngbneacabGreatDoorBools
import Derived.Test.YtlflblngbneacabGreatDoorSpell
namespace Go.Proofs.YtlflblngbneacabGreatDoor
open Go.RowKit Go.Shelf

theorem join_sizeK {ps : List ByteArray} (y : ByteArray) (K : Nat) (hx : ∀ x ∈ ps, x.size ≤ K) : ∀ k, k ≤ ps.length → (joinB (ps.take k) y).size ≤ k * (K + y.size)
  | 0, _ => by rw [List.take_zero, joinB_none]; exact Nat.zero_le _
  | 1, h => by
    rw [joinB_first y (by omega), ByteArray.size_append]
    have h1 := hx _ (List.getElem_mem (show 0 < ps.length by omega))
    have h2 : (⟨#[]⟩ : ByteArray).size = 0 := rfl
    omega
  | k + 2, h => by
    rw [joinB_next y (by omega) (show k + 1 < ps.length by omega), ByteArray.size_append, ByteArray.size_append]
    have h1 := hx _ (List.getElem_mem (show k + 1 < ps.length by omega))
    have h2 := join_sizeK y K hx (k + 1) (by omega)
    have e : (k + 2) * (K + y.size) = (k + 1) * (K + y.size) + (K + y.size) := Nat.succ_mul _ _
    omega
theorem join_sizeA {ps : List ByteArray} (y : ByteArray) (K : Nat) (hx : ∀ x ∈ ps, x.size ≤ K) : (joinB ps y).size ≤ ps.length * (K + y.size) := by
  have := join_sizeK y K hx ps.length (Nat.le_refl _)
  rwa [List.take_length] at this
theorem join_nosep (ps : List ByteArray) : ∀ k, k ≤ ps.length → joinB (ps.take (k + 1)) ⟨#[]⟩ = joinB (ps.take k) ⟨#[]⟩ ++ (ps.getD k ⟨#[]⟩)
  | 0, _ => by
    by_cases h : 0 < ps.length
    · rw [joinB_first _ h, List.take_zero, joinB_none, List.getD_eq_getElem?_getD, List.getElem?_eq_getElem h]; rfl
    · obtain rfl : ps = [] := List.eq_nil_of_length_eq_zero (by omega)
      rfl
  | k + 1, h => by
    by_cases h2 : k + 1 < ps.length
    · rw [joinB_next _ (by omega) h2, List.getD_eq_getElem?_getD, List.getElem?_eq_getElem h2]
      congr 1
      apply bytes_eq
      simp
    · rw [List.take_of_length_le (by omega), List.take_of_length_le (by omega), List.getD_eq_getElem?_getD, List.getElem?_eq_none (by omega)]
      apply bytes_eq
      simp
theorem intsAt_elem {w : World} {v : Value} {l : List Int} (h : IntsAt w v l) (i : Nat) (hi : i < l.length) : ElemAt w v i (.int .i64 (l.getD i 0)) := by
  obtain ⟨a, c, rfl, h⟩ := h
  rcases h with h | ⟨b, o, rfl, hc⟩
  · rw [h] at hi; simp at hi
  · exact ⟨b, o, _, c, rfl, hi, by rw [hc i hi, List.getD_eq_getElem?_getD, List.getElem?_eq_getElem hi]; rfl⟩
theorem boolsAt_elem {w : World} {v : Value} {l : List Bool} (h : BoolsAt w v l) (i : Nat) (hi : i < l.length) : ElemAt w v i (.bool (l.getD i false)) := by
  obtain ⟨a, c, rfl, h⟩ := h
  rcases h with h | ⟨b, o, rfl, hc⟩
  · rw [h] at hi; simp at hi
  · exact ⟨b, o, _, c, rfl, hi, by rw [hc i hi, List.getD_eq_getElem?_getD, List.getElem?_eq_getElem hi]; rfl⟩
theorem signs_join (l : List Int) : joinB (l.map signB) ⟨#[]⟩ = signsC l l.length := by
  have key : ∀ k, k ≤ l.length → joinB ((l.map signB).take k) ⟨#[]⟩ = signsC l k := by
    intro k hk
    induction k with
    | zero => rw [List.take_zero, joinB_none]; rfl
    | succ k ih =>
      rw [join_nosep _ k (by rw [List.length_map]; omega), ih (by omega), signsC_succ (by omega), List.getD_eq_getElem?_getD, List.getElem?_map, List.getElem?_eq_getElem (show k < l.length by omega)]
      rfl
  have := key l.length (Nat.le_refl _)
  rwa [List.take_of_length_le (by rw [List.length_map]; omega)] at this
theorem ress_join (l : List Bool) : joinB (l.map resB) ⟨#[]⟩ = ressC l l.length := by
  have key : ∀ k, k ≤ l.length → joinB ((l.map resB).take k) ⟨#[]⟩ = ressC l k := by
    intro k hk
    induction k with
    | zero => rw [List.take_zero, joinB_none]; rfl
    | succ k ih =>
      rw [join_nosep _ k (by rw [List.length_map]; omega), ih (by omega), ressC_succ (by omega), List.getD_eq_getElem?_getD, List.getElem?_map, List.getElem?_eq_getElem (show k < l.length by omega)]
      rfl
  have := key l.length (Nat.le_refl _)
  rwa [List.take_of_length_le (by rw [List.length_map]; omega)] at this

set_option maxRecDepth 100000 in
set_option maxHeartbeats 1600000 in
theorem implFormatSets (v : Value) (l : List Int) (w : World) (h : IntsAt w v l) (hm : l.length ≤ 1048576) (ht : TabOk w) (hh : HandleOk w) (a : Addr) (he : EmptyAt w a) :
    Calls Tryz.prog 36 #[v] w fun e w' => e = .returned (.string (setsT l)) ∧ Below w.heap.size w w' := by
  have HR : Hid (setsT l = if l.length = 0 then ⟨#[45]⟩ else joinB (l.map setT) sepSp) := by unfold Hid; unfold setsT wordsT; rw [List.length_map]
  have HH := Lib.hid hh
  by_cases h0 : l.length = 0
  · have HE : Hid (setsT l = ⟨#[45]⟩) := by unfold Hid; rw [HR.out, if_pos h0]
    obtain ⟨p, c, rfl, -⟩ := h
    rw [h0]
    have C := Lib.hid (implJoinNoneI 22 #[] #[] p c sepSp a w he)
    have CS := Lib.hid (fun s c h W hW => implShownText ⟨#[]⟩ s c h W hW)
    rw [HE.out]
    clear HR h0 hm hh he
    go_enter Tryz.func36, Tryz.ntmps36
    go_wp2_with fail
    refine C.out.mono ?_
    rintro e w1 ⟨rfl, b1⟩
    have B := Lib.hid b1
    have H1 := Lib.hid (HH.out.below b1)
    clear b1
    unfold emptyErr
    go_wp2_with fail
    refine (CS.out _ _ rfl _ H1.out).mono ?_
    rintro e w2 ⟨rfl, b2⟩
    have B2 := Lib.hid (below_up B.out b2)
    clear b2
    go_wp2
    go_ret
    exact ⟨rfl, B2.out⟩
  · have HE : Hid (joinB (l.map setT) sepSp = setsT l) := by unfold Hid; rw [HR.out, if_neg h0]
    have HL := Lib.hid h
    have C := Lib.hid (implJoinEachI 22 (fun _ _ => by kernel_rfl) #[] #[] v (fun i => (Value.int .i64 (l.getD i 0))) sepSp (l.map setT) w (by obtain ⟨p, c, rfl, -⟩ := h; exact ⟨p, c, by rw [List.length_map]⟩) (by rw [List.length_map]; omega) (by rw [List.length_map]; omega)
      (by have := join_sizeA (ps := l.map setT) sepSp 10 (fun x hx => by obtain ⟨y, hy, rfl⟩ := List.mem_map.1 hx; exact setT_size y); rw [List.length_map] at this; have e1 : sepSp.size = 1 := rfl; rw [e1] at this; omega)
      (fun i hi => intsAt_elem h i (by rwa [List.length_map] at hi))
      (fun i hi V hV => by
        have hi' : i < l.length := by rwa [List.length_map] at hi
        have e1 : (l.map setT)[i] = setT l[i] := List.getElem_map ..
        have e2 : (Value.int .i64 (l.getD i 0)) = (Value.int .i64 l[i]) := by rw [List.getD_eq_getElem?_getD, List.getElem?_eq_getElem hi']; rfl
        rw [e1, e2]
        exact implSetText l[i] V (ht.below hV)))
    rw [HE.out] at C
    have CS := Lib.hid (fun t W => implShownLine t W)
    generalize setsT l = r at C
    obtain ⟨p, c, rfl, -⟩ := h
    generalize l.length = n at C h0
    clear HR HE hm hh he HL ht
    go_enter Tryz.func36, Tryz.ntmps36
    go_wp2_with fail
    refine C.out.mono ?_
    rintro e w1 ⟨rfl, b1⟩
    have B := Lib.hid b1
    clear b1
    go_wp2_with fail
    refine (CS.out _ _).mono ?_
    rintro e w2 ⟨rfl, b2⟩
    have B2 := Lib.hid (below_up B.out b2)
    clear b2
    go_wp2
    go_ret
    exact ⟨rfl, B2.out⟩

set_option maxRecDepth 100000 in
set_option maxHeartbeats 1600000 in
theorem implTextI (sp v : Value) (l : List Int) (w : World) (hsp : SpellI w sp) (h : IntsAt w v l) (hm : l.length ≤ 1048576) (hh : HandleOk w) (a : Addr) (he : EmptyAt w a) :
    Calls Tryz.prog 64 #[sp, v] w fun e w' => e = .returned (.string (signsT l)) ∧ Below w.heap.size w w' := by
  have HR : Hid (signsT l = if l.length = 0 then ⟨#[45]⟩ else joinB (l.map signB) ⟨#[]⟩) := by unfold Hid signsT; rw [signs_join]
  have B1 := alloc_below w (.cells sp.cells 97)
  have h1 := h.below B1
  have hsp1 := hsp.below B1
  have hh1 := hh.below B1
  have he1 := he.below B1
  obtain ⟨bb, hspv, -⟩ := id hsp
  have P1 := Lib.hid (TwoAt.new w 97 (.slice (some ⟨bb, 0, none⟩) 3 3) (.string ⟨#[60, 61, 62]⟩))
  have e0 : (w.alloc (.cells sp.cells 97)) = w.alloc (.cells #[.slice (some ⟨bb, 0, none⟩) 3 3, .string ⟨#[60, 61, 62]⟩] 97) := by rw [hspv]; rfl
  rw [e0] at B1 h1 hsp1 hh1 he1
  generalize hX1 : w.alloc (.cells #[.slice (some ⟨bb, 0, none⟩) 3 3, .string ⟨#[60, 61, 62]⟩] 97) = X1 at B1 h1 hsp1 hh1 he1 P1
  have HB := Lib.hid B1
  have HH := Lib.hid hh1
  clear e0 hsp h hh he
  by_cases h0 : l.length = 0
  · have HE : Hid (signsT l = ⟨#[45]⟩) := by unfold Hid; rw [HR.out, if_pos h0]
    obtain ⟨p, c, rfl, -⟩ := h1
    rw [h0]
    have C := Lib.hid (implJoinNoneI 106 #[sp] #[] p c ⟨#[]⟩ a X1 he1)
    have CS := Lib.hid (fun s c h W hW => implShownText ⟨#[]⟩ s c h W hW)
    rw [HE.out]
    subst hspv
    obtain ⟨q0, q1, -⟩ := P1.out
    clear HR h0 hm hh1 he1 hsp1 B1
    go_enter Tryz.func64, Tryz.ntmps64
    go_wp2_with fail
    refine C.out.mono ?_
    rintro e w1 ⟨rfl, b1⟩
    have B := Lib.hid (below_up HB.out b1)
    have H1 := Lib.hid (HH.out.below b1)
    clear b1
    unfold emptyErr
    go_wp2_with fail
    refine (CS.out _ _ rfl _ H1.out).mono ?_
    rintro e w2 ⟨rfl, b2⟩
    have B2 := Lib.hid (below_up B.out b2)
    clear b2
    go_wp2
    go_ret
    exact ⟨rfl, B2.out⟩
  · have HE : Hid (joinB (l.map signB) ⟨#[]⟩ = signsT l) := by unfold Hid; rw [HR.out, if_neg h0]
    have C := Lib.hid (implJoinEachI 106 (fun _ _ => by kernel_rfl) #[sp] #[] v (fun i => (Value.int .i64 (l.getD i 0))) ⟨#[]⟩ (l.map signB) X1 (by obtain ⟨p, c, rfl, -⟩ := h1; exact ⟨p, c, by rw [List.length_map]⟩) (by rw [List.length_map]; omega) (by rw [List.length_map]; omega)
      (by have := join_sizeA (ps := l.map signB) ⟨#[]⟩ 1 (fun x hx => by obtain ⟨y, hy, rfl⟩ := List.mem_map.1 hx; exact Nat.le_of_eq (signB_size y)); rw [List.length_map] at this; have e1 : (⟨#[]⟩ : ByteArray).size = 0 := rfl; rw [e1] at this; omega)
      (fun i hi => intsAt_elem h1 i (by rwa [List.length_map] at hi))
      (fun i hi V hV => by
        have hi' : i < l.length := by rwa [List.length_map] at hi
        have e1 : (l.map signB)[i] = signB l[i] := List.getElem_map ..
        have e2 : (Value.int .i64 (l.getD i 0)) = (Value.int .i64 l[i]) := by rw [List.getD_eq_getElem?_getD, List.getElem?_eq_getElem hi']; rfl
        rw [e1, e2]
        exact implMarkI l[i] sp V (hsp1.below hV)))
    rw [HE.out] at C
    have CS := Lib.hid (fun t W => implShownLine t W)
    generalize signsT l = r at C
    obtain ⟨p, c, rfl, -⟩ := h1
    generalize l.length = n at C h0
    subst hspv
    obtain ⟨q0, q1, -⟩ := P1.out
    clear HR HE hm hh1 he1 hsp1 B1
    go_enter Tryz.func64, Tryz.ntmps64
    go_wp2_with fail
    refine C.out.mono ?_
    rintro e w1 ⟨rfl, b1⟩
    have B := Lib.hid (below_up HB.out b1)
    clear b1
    go_wp2_with fail
    refine (CS.out _ _).mono ?_
    rintro e w2 ⟨rfl, b2⟩
    have B2 := Lib.hid (below_up B.out b2)
    clear b2
    go_wp2
    go_ret
    exact ⟨rfl, B2.out⟩

set_option maxRecDepth 100000 in
set_option maxHeartbeats 1600000 in
theorem implFormatSignsOf (v : Value) (l : List Int) (w : World) (h : IntsAt w v l) (hm : l.length ≤ 1048576) (hh : HandleOk w) (a : Addr) (he : EmptyAt w a) :
    Calls Tryz.prog 17 #[v] w fun e w' => e = .returned (.string (signsT l)) ∧ Below w.heap.size w w' := by
  have C0 := Lib.hid (implsignSpelling w)
  have C1 := Lib.hid (fun sp W h1 h2 h3 h4 => implTextI sp v l W h1 h2 hm h3 a h4)
  have HL := Lib.hid h
  have HH := Lib.hid hh
  have HE := Lib.hid he
  obtain ⟨p, c, rfl, -⟩ := h
  generalize signsT l = r at C1
  generalize l.length = n at C1 HL
  clear hm hh he
  go_enter Tryz.func17, Tryz.ntmps17
  go_wp2_with fail
  refine C0.out.mono ?_
  rintro e w1 ⟨sp, rfl, hs, b1⟩
  have CC := Lib.hid (C1.out sp w1 hs (HL.out.below b1) (HH.out.below b1) (HE.out.below b1))
  have B := Lib.hid b1
  obtain ⟨bb, rfl, -⟩ := hs
  clear b1 C1
  go_wp2_with fail
  refine CC.out.mono ?_
  rintro e w2 ⟨rfl, b2⟩
  have B2 := Lib.hid (below_up B.out b2)
  clear b2
  go_wp2
  go_ret
  exact ⟨rfl, B2.out⟩

set_option maxRecDepth 100000 in
set_option maxHeartbeats 1600000 in
theorem implTextB (sp v : Value) (l : List Bool) (w : World) (hsp : SpellB w sp) (h : BoolsAt w v l) (hm : l.length ≤ 1048576) (hh : HandleOk w) (a : Addr) (he : EmptyAt w a) :
    Calls Tryz.prog 71 #[sp, v] w fun e w' => e = .returned (.string (ressT l)) ∧ Below w.heap.size w w' := by
  have HR : Hid (ressT l = if l.length = 0 then ⟨#[45]⟩ else joinB (l.map resB) ⟨#[]⟩) := by unfold Hid ressT; rw [ress_join]
  have B1 := alloc_below w (.cells sp.cells 105)
  have h1 := h.below B1
  have hsp1 := hsp.below B1
  have hh1 := hh.below B1
  have he1 := he.below B1
  obtain ⟨bb, hspv, -⟩ := id hsp
  have P1 := Lib.hid (TwoAt.new w 105 (.slice (some ⟨bb, 0, none⟩) 2 2) (.string ⟨#[43, 46]⟩))
  have e0 : (w.alloc (.cells sp.cells 105)) = w.alloc (.cells #[.slice (some ⟨bb, 0, none⟩) 2 2, .string ⟨#[43, 46]⟩] 105) := by rw [hspv]; rfl
  rw [e0] at B1 h1 hsp1 hh1 he1
  generalize hX1 : w.alloc (.cells #[.slice (some ⟨bb, 0, none⟩) 2 2, .string ⟨#[43, 46]⟩] 105) = X1 at B1 h1 hsp1 hh1 he1 P1
  have HB := Lib.hid B1
  have HH := Lib.hid hh1
  clear e0 hsp h hh he
  by_cases h0 : l.length = 0
  · have HE : Hid (ressT l = ⟨#[45]⟩) := by unfold Hid; rw [HR.out, if_pos h0]
    obtain ⟨p, c, rfl, -⟩ := h1
    rw [h0]
    have C := Lib.hid (implJoinNoneB 111 #[sp] #[] p c ⟨#[]⟩ a X1 he1)
    have CS := Lib.hid (fun s c h W hW => implShownText ⟨#[]⟩ s c h W hW)
    rw [HE.out]
    subst hspv
    obtain ⟨q0, q1, -⟩ := P1.out
    clear HR h0 hm hh1 he1 hsp1 B1
    go_enter Tryz.func71, Tryz.ntmps71
    go_wp2_with fail
    refine C.out.mono ?_
    rintro e w1 ⟨rfl, b1⟩
    have B := Lib.hid (below_up HB.out b1)
    have H1 := Lib.hid (HH.out.below b1)
    clear b1
    unfold emptyErr
    go_wp2_with fail
    refine (CS.out _ _ rfl _ H1.out).mono ?_
    rintro e w2 ⟨rfl, b2⟩
    have B2 := Lib.hid (below_up B.out b2)
    clear b2
    go_wp2
    go_ret
    exact ⟨rfl, B2.out⟩
  · have HE : Hid (joinB (l.map resB) ⟨#[]⟩ = ressT l) := by unfold Hid; rw [HR.out, if_neg h0]
    have C := Lib.hid (implJoinEachB 111 (fun _ _ => by kernel_rfl) #[sp] #[] v (fun i => (Value.bool (l.getD i false))) ⟨#[]⟩ (l.map resB) X1 (by obtain ⟨p, c, rfl, -⟩ := h1; exact ⟨p, c, by rw [List.length_map]⟩) (by rw [List.length_map]; omega) (by rw [List.length_map]; omega)
      (by have := join_sizeA (ps := l.map resB) ⟨#[]⟩ 1 (fun x hx => by obtain ⟨y, hy, rfl⟩ := List.mem_map.1 hx; exact Nat.le_of_eq (resB_size y)); rw [List.length_map] at this; have e1 : (⟨#[]⟩ : ByteArray).size = 0 := rfl; rw [e1] at this; omega)
      (fun i hi => boolsAt_elem h1 i (by rwa [List.length_map] at hi))
      (fun i hi V hV => by
        have hi' : i < l.length := by rwa [List.length_map] at hi
        have e1 : (l.map resB)[i] = resB l[i] := List.getElem_map ..
        have e2 : (Value.bool (l.getD i false)) = (Value.bool l[i]) := by rw [List.getD_eq_getElem?_getD, List.getElem?_eq_getElem hi']; rfl
        rw [e1, e2]
        exact implMarkB l[i] sp V (hsp1.below hV)))
    rw [HE.out] at C
    have CS := Lib.hid (fun t W => implShownLine t W)
    generalize ressT l = r at C
    obtain ⟨p, c, rfl, -⟩ := h1
    generalize l.length = n at C h0
    subst hspv
    obtain ⟨q0, q1, -⟩ := P1.out
    clear HR HE hm hh1 he1 hsp1 B1
    go_enter Tryz.func71, Tryz.ntmps71
    go_wp2_with fail
    refine C.out.mono ?_
    rintro e w1 ⟨rfl, b1⟩
    have B := Lib.hid (below_up HB.out b1)
    clear b1
    go_wp2_with fail
    refine (CS.out _ _).mono ?_
    rintro e w2 ⟨rfl, b2⟩
    have B2 := Lib.hid (below_up B.out b2)
    clear b2
    go_wp2
    go_ret
    exact ⟨rfl, B2.out⟩

set_option maxRecDepth 100000 in
set_option maxHeartbeats 1600000 in
theorem implFormatResultsOf (v : Value) (l : List Bool) (w : World) (h : BoolsAt w v l) (hm : l.length ≤ 1048576) (hh : HandleOk w) (a : Addr) (he : EmptyAt w a) :
    Calls Tryz.prog 20 #[v] w fun e w' => e = .returned (.string (ressT l)) ∧ Below w.heap.size w w' := by
  have C0 := Lib.hid (implresultSpelling w)
  have C1 := Lib.hid (fun sp W h1 h2 h3 h4 => implTextB sp v l W h1 h2 hm h3 a h4)
  have HL := Lib.hid h
  have HH := Lib.hid hh
  have HE := Lib.hid he
  obtain ⟨p, c, rfl, -⟩ := h
  generalize ressT l = r at C1
  generalize l.length = n at C1 HL
  clear hm hh he
  go_enter Tryz.func20, Tryz.ntmps20
  go_wp2_with fail
  refine C0.out.mono ?_
  rintro e w1 ⟨sp, rfl, hs, b1⟩
  have CC := Lib.hid (C1.out sp w1 hs (HL.out.below b1) (HH.out.below b1) (HE.out.below b1))
  have B := Lib.hid b1
  obtain ⟨bb, rfl, -⟩ := hs
  clear b1 C1
  go_wp2_with fail
  refine CC.out.mono ?_
  rintro e w2 ⟨rfl, b2⟩
  have B2 := Lib.hid (below_up B.out b2)
  clear b2
  go_wp2
  go_ret
  exact ⟨rfl, B2.out⟩
end Go.Proofs.YtlflblngbneacabGreatDoor
