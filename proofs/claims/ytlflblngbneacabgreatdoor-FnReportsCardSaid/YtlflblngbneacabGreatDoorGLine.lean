/- Several texts in one file; each says what it proves and under which condition. No condition. -/
import Derived.Test.YtlflblngbneacabGreatDoorGJn
import Derived.Test.YtlflblngbneacabGreatDoorGErr
import Derived.Test.YtlflblngbneacabGreatDoorFmtState
import Derived.Test.YtlflblngbneacabGreatDoorGClass
import Derived.Test.YtlflblngbneacabGreatDoorFindImpl
/- The contract of the program's StateLine. Conditions: the variables that the code reads hold what the program's text lays. -/
namespace Go.Proofs.YtlflblngbneacabGreatDoor
open Go.RowKit Go.Shelf

def spCases : ByteArray := ⟨#[99, 97, 115, 101, 115, 32]⟩
def spWeigh : ByteArray := ⟨#[119, 101, 105, 103, 104, 105, 110, 103, 115, 32]⟩
/-- The three parts of a state's line. -/
def stateWs (s : SD) : List ByteArray := [listB s.list, spCases ++ fmtB (casesS s), spWeigh ++ fmtB (fewestI s)]
theorem stateWs_join (s : SD) (h : stateB s = true) : joinB (stateWs s) sepSp = stateT s := by
  unfold stateT
  rw [if_pos h]
  apply bytes_eq
  show Lib.join [_, _, _] [32] = _
  rw [join_two, join_two, Lib.join_one]
  simp [spCases, spWeigh]

set_option maxHeartbeats 1600000 in
theorem implClasses (s : SD) (hs : Fit s.list) (w : World) (ht : TabOk w) : Calls Tryz.prog 86 #[stateV s] w fun e w' => e = .returned (.string (listB s.list)) ∧ Below w.heap.size w w' := by
  have C := Lib.hid (fun W h => implFormatState s hs W h)
  have b0 := alloc_below w (.cells #[.int .i64 s.b, .int .i64 s.h, .int .i64 s.l, .int .i64 s.g] 123)
  have P0 := StateAt.new w 123 s
  generalize hX : w.alloc (.cells #[.int .i64 s.b, .int .i64 s.h, .int .i64 s.l, .int .i64 s.g] 123) = X at b0 P0
  have HB := Lib.hid b0
  have HT := Lib.hid (ht.below b0)
  obtain ⟨e0, e1, e2, e3, -⟩ := P0
  unfold stateV at C ⊢
  generalize listB s.list = r at C ⊢
  clear b0 ht
  go_enter Tryz.func86, Tryz.ntmps86
  go_wp2_with fail
  refine (C.out _ HT.out).mono ?_
  rintro e w1 ⟨rfl, bb⟩
  have B1 := Lib.hid (below_up HB.out bb)
  clear bb
  go_wp2
  go_ret
  exact ⟨rfl, B1.out⟩

set_option maxHeartbeats 1600000 in
theorem implCasesR (s : SD) (hs : stateB s = true) (w : World) (ht : TabOk w) : Calls Tryz.prog 87 #[stateV s] w fun e w' => e = .returned (.string (spCases ++ fmtB (casesS s))) ∧ Below w.heap.size w w' := by
  have C := Lib.hid (fun W => implCountCases s W)
  have hc := cases_in hs
  have CF := Lib.hid (fun W h => implFmt (casesS s) W (by omega) (by omega) h)
  have hsz : (fmtB (casesS s)).size ≤ 21 := fmtW_size _ (by omega) (by omega)
  have b0 := alloc_below w (.cells #[.int .i64 s.b, .int .i64 s.h, .int .i64 s.l, .int .i64 s.g] 123)
  have P0 := StateAt.new w 123 s
  generalize hX : w.alloc (.cells #[.int .i64 s.b, .int .i64 s.h, .int .i64 s.l, .int .i64 s.g] 123) = X at b0 P0
  have HB := Lib.hid b0
  have HT := Lib.hid (ht.below b0)
  obtain ⟨e0, e1, e2, e3, -⟩ := P0
  unfold stateV at C ⊢
  unfold spCases
  generalize fmtB (casesS s) = r at CF hsz ⊢
  generalize casesS s = k at C CF
  have hs0 : ¬ 9223372036854775807 < (⟨#[99, 97, 115, 101, 115, 32]⟩ : ByteArray).size + r.size := by
    have : (⟨#[99, 97, 115, 101, 115, 32]⟩ : ByteArray).size = 6 := rfl
    omega
  clear b0 ht hc hs
  go_enter Tryz.func87, Tryz.ntmps87
  go_wp2_with fail
  refine (C.out _).mono ?_
  rintro e w1 ⟨rfl, bb⟩
  have B1 := Lib.hid (below_up HB.out bb)
  have T1 := Lib.hid (HT.out.below bb)
  clear bb
  go_wp2_with fail
  refine (CF.out _ T1.out).mono ?_
  rintro e w2 ⟨rfl, bb⟩
  have B2 := Lib.hid (below_up B1.out bb)
  clear bb
  go_wp2
  go_ret
  exact ⟨rfl, B2.out⟩

set_option maxHeartbeats 1600000 in
theorem implWeighR (s : SD) (w : World) (ht : TabOk w) : Calls Tryz.prog 88 #[stateV s] w fun e w' => e = .returned (.string (spWeigh ++ fmtB (fewestI s))) ∧ Below w.heap.size w w' := by
  have C := Lib.hid (fun W => implFewest s W)
  have hc := fewest_in s
  have CF := Lib.hid (fun W h => implFmt (fewestI s) W (by omega) (by omega) h)
  have hsz : (fmtB (fewestI s)).size ≤ 21 := fmtW_size _ (by omega) (by omega)
  have b0 := alloc_below w (.cells #[.int .i64 s.b, .int .i64 s.h, .int .i64 s.l, .int .i64 s.g] 123)
  have P0 := StateAt.new w 123 s
  generalize hX : w.alloc (.cells #[.int .i64 s.b, .int .i64 s.h, .int .i64 s.l, .int .i64 s.g] 123) = X at b0 P0
  have HB := Lib.hid b0
  have HT := Lib.hid (ht.below b0)
  obtain ⟨e0, e1, e2, e3, -⟩ := P0
  unfold stateV at C ⊢
  unfold spWeigh
  generalize fmtB (fewestI s) = r at CF hsz ⊢
  generalize fewestI s = k at C CF
  have hs0 : ¬ 9223372036854775807 < (⟨#[119, 101, 105, 103, 104, 105, 110, 103, 115, 32]⟩ : ByteArray).size + r.size := by
    have : (⟨#[119, 101, 105, 103, 104, 105, 110, 103, 115, 32]⟩ : ByteArray).size = 10 := rfl
    omega
  clear b0 ht hc
  go_enter Tryz.func88, Tryz.ntmps88
  go_wp2_with fail
  refine (C.out _).mono ?_
  rintro e w1 ⟨rfl, bb⟩
  have B1 := Lib.hid (below_up HB.out bb)
  have T1 := Lib.hid (HT.out.below bb)
  clear bb
  go_wp2_with fail
  refine (CF.out _ T1.out).mono ?_
  rintro e w2 ⟨rfl, bb⟩
  have B2 := Lib.hid (below_up B1.out bb)
  clear bb
  go_wp2
  go_ret
  exact ⟨rfl, B2.out⟩

set_option maxHeartbeats 1600000 in
/-- The closure of lineOf: a part of its subject. -/
theorem implLine1S (F : FuncId) (HE : Enters F) (b : Nat) (s : SD) (t : ByteArray) (W : World) (h : StateAt W b s) (HC : ∀ V, Below W.heap.size W V → Calls Tryz.prog F #[stateV s] V fun e w' => e = .returned (.string t) ∧ Below V.heap.size V w') :
    Calls Tryz.prog 125 #[.func (.func F) #[] #[], .pointer (some ⟨b, 0, none⟩)] W fun e w' => e = .returned (.string t) ∧ Below W.heap.size W w' := by
  have HE' : ∀ args w, (callFunc F args).run Tryz.prog w = .ok (.enter F args) w := HE
  have CC := Lib.hid (HC W (Below.refl _ _))
  obtain ⟨e0, e1, e2, e3, -⟩ := h
  unfold stateV at CC
  clear HC HE
  go_enter Tryz.func125, Tryz.ntmps125
  go_wp2_with fail
  refine CC.out.mono ?_
  rintro e w1 ⟨rfl, bb⟩
  have B := Lib.hid bb
  clear bb
  go_wp2
  go_ret
  exact ⟨rfl, B.out⟩
end Go.Proofs.YtlflblngbneacabGreatDoor

/- The contract of the program's StateLine, and the walk through its exact law. Conditions: the variables that the code reads hold what the program's text lays. -/
namespace Go.Proofs.YtlflblngbneacabGreatDoor
open Go.RowKit Go.Shelf

theorem joinSzK {ps : List ByteArray} (y : ByteArray) (K : Nat) (hx : ∀ x ∈ ps, x.size ≤ K) : ∀ k, k ≤ ps.length → (joinB (ps.take k) y).size ≤ k * (K + y.size)
  | 0, _ => by rw [List.take_zero, joinB_none]; exact Nat.zero_le _
  | 1, h => by
    rw [joinB_first y (by omega), ByteArray.size_append]
    have h1 := hx _ (List.getElem_mem (show 0 < ps.length by omega))
    have h2 : (⟨#[]⟩ : ByteArray).size = 0 := rfl
    omega
  | k + 2, h => by
    rw [joinB_next y (by omega) (show k + 1 < ps.length by omega), ByteArray.size_append, ByteArray.size_append]
    have h1 := hx _ (List.getElem_mem (show k + 1 < ps.length by omega))
    have h2 := joinSzK y K hx (k + 1) (by omega)
    have e : (k + 2) * (K + y.size) = (k + 1) * (K + y.size) + (K + y.size) := Nat.succ_mul _ _
    omega
theorem joinSzA {ps : List ByteArray} (y : ByteArray) (K : Nat) (hx : ∀ x ∈ ps, x.size ≤ K) : (joinB ps y).size ≤ ps.length * (K + y.size) := by
  have := joinSzK y K hx ps.length (Nat.le_refl _)
  rwa [List.take_length] at this
def stateFs : Nat → Value
  | 0 => .func (.func 86) #[] #[]
  | 1 => .func (.func 87) #[] #[]
  | _ => .func (.func 88) #[] #[]

set_option maxRecDepth 100000 in
set_option maxHeartbeats 1600000 in
theorem implLineS (s : SD) (hs : stateB s = true) (q : Nat) (w : World) (hq : ∀ i, i < 3 → w.cell? ⟨q, i, none⟩ = some (stateFs i)) (ht : TabOk w) :
    Calls Tryz.prog 85 #[stateV s, .slice (some ⟨q, 0, none⟩) 3 3] w fun e w' => e = .returned (.string (stateT s)) ∧ Below w.heap.size w w' := by
  have b0 := alloc_below w (.cells #[.int .i64 s.b, .int .i64 s.h, .int .i64 s.l, .int .i64 s.g] 123)
  have P0 := StateAt.new w 123 s
  generalize hX : w.alloc (.cells #[.int .i64 s.b, .int .i64 s.h, .int .i64 s.l, .int .i64 s.g] 123) = X at b0 P0
  have HB := Lib.hid b0
  have ht1 := ht.below b0
  have hfit := state_fit hs
  have hci := cases_in hs
  have hfi := fewest_in s
  have hlen : (stateWs s).length = 3 := rfl
  have C := Lib.hid (implJoinEachS 125 (fun _ _ => by kernel_rfl) #[] #[.pointer (some ⟨w.heap.size, 0, none⟩)] (.slice (some ⟨q, 0, none⟩) 3 3) stateFs sepSp (stateWs s) X ⟨_, 3, rfl⟩ (by rw [hlen]; omega) (by rw [hlen]; omega)
    (by
      have := joinSzA (ps := stateWs s) sepSp 100 (fun x hx => by
        unfold stateWs at hx
        simp only [List.mem_cons, List.not_mem_nil, or_false] at hx
        rcases hx with rfl | rfl | rfl
        · have := listB_size hfit
          have e : s.list.length = 4 := rfl
          omega
        · rw [ByteArray.size_append]
          have e : spCases.size = 6 := rfl
          have := fmtW_size (casesS s) (by omega) (by omega)
          omega
        · rw [ByteArray.size_append]
          have e : spWeigh.size = 10 := rfl
          have := fmtW_size (fewestI s) (by omega) (by omega)
          omega)
      rw [hlen] at this
      have e1 : sepSp.size = 1 := rfl
      rw [e1] at this
      omega)
    (fun i hi => by
      rw [hlen] at hi
      have h1 := hq i hi
      exact ⟨q, 0, 3, 3, rfl, hi, by rw [Nat.zero_add, b0.cell (p := ⟨q, i, none⟩) (World.block_lt_of_cell? w _ h1)]; exact h1⟩)
    (fun i hi V hV => by
      rcases i with _ | _ | _ | i
      · exact implLine1S 86 (fun _ _ => by kernel_rfl) _ s _ V (P0.below hV) (fun V' hV' => implClasses s hfit V' ((ht1.below hV).below hV'))
      · exact implLine1S 87 (fun _ _ => by kernel_rfl) _ s _ V (P0.below hV) (fun V' hV' => implCasesR s hs V' ((ht1.below hV).below hV'))
      · exact implLine1S 88 (fun _ _ => by kernel_rfl) _ s _ V (P0.below hV) (fun V' hV' => implWeighR s V' ((ht1.below hV).below hV'))
      · rw [hlen] at hi; omega))
  rw [stateWs_join s hs] at C
  have CS := Lib.hid (fun t W => implShownLine t W)
  generalize stateT s = r at C
  unfold stateV
  clear b0 P0 hq ht ht1 hfit hci hfi hlen
  go_enter Tryz.func85, Tryz.ntmps85
  go_wp2_with fail
  refine C.out.mono ?_
  rintro e w1 ⟨rfl, b1⟩
  have B := Lib.hid (below_up HB.out b1)
  clear b1
  go_wp2_with fail
  refine (CS.out _ _).mono ?_
  rintro e w2 ⟨rfl, b2⟩
  have B2 := Lib.hid (below_up B.out b2)
  clear b2
  go_wp2
  go_ret
  exact ⟨rfl, B2.out⟩

set_option maxRecDepth 100000 in
set_option maxHeartbeats 1600000 in
theorem implStateLine (s : SD) (w : World) (ht : TabOk w) : Calls Tryz.prog 33 #[stateV s] w fun e w' => e = .returned (.string (stateT s)) ∧ Below w.heap.size w w' := by
  have C0 := Lib.hid (fun W => implStateOk s W)
  have C1 : Hid (stateB s = true → ∀ q W, (∀ i, i < 3 → W.cell? ⟨q, i, none⟩ = some (stateFs i)) → TabOk W → Calls Tryz.prog 85 #[stateV s, .slice (some ⟨q, 0, none⟩) 3 3] W fun e w' => e = .returned (.string (stateT s)) ∧ Below W.heap.size W w') := fun hs q W hq h => implLineS s hs q W hq h
  have b0 := alloc_below w (.cells #[.int .i64 s.b, .int .i64 s.h, .int .i64 s.l, .int .i64 s.g] 56)
  have P0 := StateAt.new w 56 s
  generalize hX : w.alloc (.cells #[.int .i64 s.b, .int .i64 s.h, .int .i64 s.l, .int .i64 s.g] 56) = X at b0 P0
  have HB := Lib.hid b0
  have HT := Lib.hid (ht.below b0)
  have PX := Lib.hid P0
  have HN : Hid (stateB s = false → stateT s = ⟨#[]⟩) := fun h => by unfold stateT; rw [h]; rfl
  obtain ⟨e0, e1, e2, e3, -⟩ := P0
  unfold stateV at C0 C1 ⊢
  generalize stateT s = r at C1 HN ⊢
  generalize stateB s = k at C0 C1 HN
  clear b0 ht
  cases k with
  | false =>
    have HE := Lib.hid (HN.out rfl)
    clear C1 HN
    go_enter Tryz.func33, Tryz.ntmps33
    go_wp2_with fail
    refine (C0.out _).mono ?_
    rintro e w1 ⟨rfl, bb⟩
    have B1 := Lib.hid (below_up HB.out bb)
    clear bb
    go_wp2
    go_ret
    exact ⟨ret_str HE.out.symm, B1.out⟩
  | true =>
    have C2 := Lib.hid (C1.out rfl)
    clear C1 HN
    go_enter Tryz.func33, Tryz.ntmps33
    go_wp2_with fail
    refine (C0.out _).mono ?_
    rintro e w1 ⟨rfl, bb⟩
    have B1 := Lib.hid (below_up HB.out bb)
    have T1 := Lib.hid (HT.out.below bb)
    have P1 := Lib.hid (PX.out.below bb)
    clear bb e0 e1 e2 e3
    have A2 := alloc_below w1 (.cells #[.func (.func 86) #[] #[], .func (.func 87) #[] #[], .func (.func 88) #[] #[]] 124)
    have Q2 : Hid (∀ i, i < 3 → (w1.alloc (.cells #[.func (.func 86) #[] #[], .func (.func 87) #[] #[], .func (.func 88) #[] #[]] 124)).cell? ⟨w1.heap.size, i, none⟩ = some (stateFs i)) := by
      intro i hi
      rcases i with _ | _ | _ | i
      · rw [World.cell?_alloc_at _ _ _ _ (by simp)]; rfl
      · rw [World.cell?_alloc_at _ _ _ _ (by simp)]; rfl
      · rw [World.cell?_alloc_at _ _ _ _ (by simp)]; rfl
      · omega
    have T2 := Lib.hid (T1.out.below A2)
    have B2 := Lib.hid (below_up B1.out A2)
    generalize hX2 : w1.alloc (.cells #[.func (.func 86) #[] #[], .func (.func 87) #[] #[], .func (.func 88) #[] #[]] 124) = X2 at A2 Q2 T2 B2
    clear A2
    obtain ⟨e0, e1, e2, e3, -⟩ := P1.out
    go_wp2_with fail
    refine (C2.out _ _ Q2.out T2.out).mono ?_
    rintro e w3 ⟨rfl, bb⟩
    have B3 := Lib.hid (below_up B2.out bb)
    clear bb
    go_wp2
    go_ret
    exact ⟨rfl, B3.out⟩

end Go.Proofs.YtlflblngbneacabGreatDoor
