/- The contract of the program's RoundsLine, and the walk through its exact law. Conditions: the lists are short enough to be counted and hold integers that fit Go's int; the variables that the code reads hold what the program's text lays. -/
import Derived.Test.YtlflblngbneacabGreatDoorGJn
import Derived.Test.YtlflblngbneacabGreatDoorGErr
import Derived.Test.YtlflblngbneacabGreatDoorFormats
import Derived.Test.YtlflblngbneacabGreatDoorRepLaws2
namespace Go.Proofs.YtlflblngbneacabGreatDoor
open Go.RowKit Go.Shelf

theorem lsAt_elem {w : World} {v : Value} {S : List (List Int)} (h : LsAt w v S) : ∃ xs : Nat → Value, ∀ i (hi : i < S.length), ElemAt w v i (xs i) ∧ IntsAt w (xs i) S[i] := by
  obtain ⟨a, c, rfl, h⟩ := h
  refine ⟨fun i => if hi : i < S.length then (h i hi).choose_spec.choose_spec.choose else .nilIface, fun i hi => ?_⟩
  obtain ⟨e, h1, h2⟩ := (h i hi).choose_spec.choose_spec.choose_spec
  dsimp only
  rw [dif_pos hi]
  exact ⟨⟨_, _, S.length, c, by rw [← e], hi, h1⟩, h2⟩

set_option maxRecDepth 100000 in
set_option maxHeartbeats 1600000 in
theorem implRoundsLine (v : Value) (S : List (List Int)) (w : World) (h : LsAt w v S) (hm : S.length ≤ 1048576) (hS : ∀ d ∈ S, d.length ≤ 1048576 ∧ ∀ x ∈ d, -9223372036854775808 ≤ x ∧ x ≤ 9223372036854775807) (ht : TabOk w) (hh : HandleOk w) (a : Addr) (he : EmptyAt w a) :
    Calls Tryz.prog 37 #[v] w fun e w' => e = .returned (.string (roundsT S)) ∧ Below w.heap.size w w' := by
  have HR : Hid (roundsT S = if S.length = 0 then ⟨#[45]⟩ else joinB (S.map listB) sepSp) := by unfold Hid; unfold roundsT wordsT; rw [List.length_map]
  have HH := Lib.hid hh
  obtain ⟨p, c, hv, -⟩ := id h
  by_cases h0 : S.length = 0
  · have HE : Hid (roundsT S = ⟨#[45]⟩) := by unfold Hid; rw [HR.out, if_pos h0]
    rw [h0] at hv
    subst hv
    have C := Lib.hid (implJoinNoneL 54 #[] #[] p c sepSp a w he)
    have CS := Lib.hid (fun s c h W hW => implShownText ⟨#[]⟩ s c h W hW)
    rw [HE.out]
    clear HR h0 hm hh he h hS
    go_enter Tryz.func37, Tryz.ntmps37
    go_wp2_with fail
    refine C.out.mono ?_
    rintro e w1 ⟨rfl, b1⟩
    have B := Lib.hid b1
    have H1 := Lib.hid (HH.out.below b1)
    clear b1
    unfold emptyErr
    go_wp2_with fail
    refine (CS.out _ _ rfl _ H1.out).mono ?_
    rintro e w2 ⟨rfl, b2⟩
    have B2 := Lib.hid (below_up B.out b2)
    clear b2
    go_wp2
    go_ret
    exact ⟨rfl, B2.out⟩
  · have HE : Hid (joinB (S.map listB) sepSp = roundsT S) := by unfold Hid; rw [HR.out, if_neg h0]
    obtain ⟨xs, hxs⟩ := lsAt_elem h
    have C := Lib.hid (implJoinEachL 54 (fun _ _ => by kernel_rfl) #[] #[] v xs sepSp (S.map listB) w (by exact ⟨p, c, by rw [List.length_map]; exact hv⟩) (by rw [List.length_map]; omega) (by rw [List.length_map]; omega)
      (by
        have := join_sizeA (ps := S.map listB) sepSp 23068672 (fun x hx => by
          obtain ⟨y, hy, rfl⟩ := List.mem_map.1 hx
          have h1 := (hS y hy).1
          have h2 := listB_size (hS y hy).2
          omega)
        rw [List.length_map] at this
        have e1 : sepSp.size = 1 := rfl
        rw [e1] at this
        omega)
      (fun i hi => (hxs i (by rwa [List.length_map] at hi)).1)
      (fun i hi V hV => by
        have hi' : i < S.length := by rwa [List.length_map] at hi
        have e1 : (S.map listB)[i] = listB S[i] := List.getElem_map ..
        rw [e1]
        exact implNumbersText _ S[i] V ((hxs i hi').2.below hV) (hS _ (List.getElem_mem hi')).1 (ht.below hV) (hS _ (List.getElem_mem hi')).2))
    rw [HE.out] at C
    have CS := Lib.hid (fun t W => implShownLine t W)
    generalize roundsT S = r at C
    subst hv
    generalize S.length = n at C h0
    clear HR HE hm hh he hS hxs h ht
    go_enter Tryz.func37, Tryz.ntmps37
    go_wp2_with fail
    refine C.out.mono ?_
    rintro e w1 ⟨rfl, b1⟩
    have B := Lib.hid b1
    clear b1
    go_wp2_with fail
    refine (CS.out _ _).mono ?_
    rintro e w2 ⟨rfl, b2⟩
    have B2 := Lib.hid (below_up B.out b2)
    clear b2
    go_wp2
    go_ret
    exact ⟨rfl, B2.out⟩
theorem tot_le : ∀ {S : List (List Int)} {d : List Int}, d ∈ S → d.length ≤ totL S
  | x :: r, d, h => by
    rcases List.mem_cons.1 h with rfl | h
    · exact Nat.le_add_right _ _
    · exact Nat.le_trans (tot_le h) (Nat.le_add_left _ _)
end Go.Proofs.YtlflblngbneacabGreatDoor
