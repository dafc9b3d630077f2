/- The contract of the program's StateLine. Conditions: the variables that the code reads hold what the program's text lays. -/
import Derived.Test.YtlflblngbneacabDoorGJn
import Derived.Test.YtlflblngbneacabDoorGErr
import Derived.Test.YtlflblngbneacabDoorFmtState
import Derived.Test.YtlflblngbneacabDoorGClass
import Derived.Test.YtlflblngbneacabDoorFindImpl
namespace Go.Proofs.YtlflblngbneacabDoor
open Go.RowKit Go.Shelf

def spCases : ByteArray := ⟨#[99, 97, 115, 101, 115, 32]⟩
def spWeigh : ByteArray := ⟨#[119, 101, 105, 103, 104, 105, 110, 103, 115, 32]⟩
/-- The three parts of a state's line. -/
def stateWs (s : SD) : List ByteArray := [listB s.list, spCases ++ fmtB (casesS s), spWeigh ++ fmtB (fewestI s)]
theorem stateWs_join (s : SD) (h : stateB s = true) : joinB (stateWs s) sepSp = stateT s := by
  unfold stateT
  rw [if_pos h]
  apply bytes_eq
  show Lib.join [_, _, _] [32] = _
  rw [join_two, join_two, Lib.join_one]
  simp [spCases, spWeigh]

set_option maxHeartbeats 1600000 in
theorem implClasses (s : SD) (hs : Fit s.list) (w : World) (ht : TabOk w) : Calls Tryd.prog 89 #[stateV s] w fun e w' => e = .returned (.string (listB s.list)) ∧ Below w.heap.size w w' := by
  have C := Lib.hid (fun W h => implFormatState s hs W h)
  have b0 := alloc_below w (.cells #[.int .i64 s.b, .int .i64 s.h, .int .i64 s.l, .int .i64 s.g] 117)
  have P0 := StateAt.new w 117 s
  generalize hX : w.alloc (.cells #[.int .i64 s.b, .int .i64 s.h, .int .i64 s.l, .int .i64 s.g] 117) = X at b0 P0
  have HB := Lib.hid b0
  have HT := Lib.hid (ht.below b0)
  obtain ⟨e0, e1, e2, e3, -⟩ := P0
  unfold stateV at C ⊢
  generalize listB s.list = r at C ⊢
  clear b0 ht
  go_enter Tryd.func89, Tryd.ntmps89
  go_wp2_with fail
  refine (C.out _ HT.out).mono ?_
  rintro e w1 ⟨rfl, bb⟩
  have B1 := Lib.hid (below_up HB.out bb)
  clear bb
  go_wp2
  go_ret
  exact ⟨rfl, B1.out⟩

set_option maxHeartbeats 1600000 in
theorem implCasesR (s : SD) (hs : stateB s = true) (w : World) (ht : TabOk w) : Calls Tryd.prog 90 #[stateV s] w fun e w' => e = .returned (.string (spCases ++ fmtB (casesS s))) ∧ Below w.heap.size w w' := by
  have C := Lib.hid (fun W => implCountCases s W)
  have hc := cases_in hs
  have CF := Lib.hid (fun W h => implFmt (casesS s) W (by omega) (by omega) h)
  have hsz : (fmtB (casesS s)).size ≤ 21 := fmtW_size _ (by omega) (by omega)
  have b0 := alloc_below w (.cells #[.int .i64 s.b, .int .i64 s.h, .int .i64 s.l, .int .i64 s.g] 117)
  have P0 := StateAt.new w 117 s
  generalize hX : w.alloc (.cells #[.int .i64 s.b, .int .i64 s.h, .int .i64 s.l, .int .i64 s.g] 117) = X at b0 P0
  have HB := Lib.hid b0
  have HT := Lib.hid (ht.below b0)
  obtain ⟨e0, e1, e2, e3, -⟩ := P0
  unfold stateV at C ⊢
  unfold spCases
  generalize fmtB (casesS s) = r at CF hsz ⊢
  generalize casesS s = k at C CF
  have hs0 : ¬ 9223372036854775807 < (⟨#[99, 97, 115, 101, 115, 32]⟩ : ByteArray).size + r.size := by
    have : (⟨#[99, 97, 115, 101, 115, 32]⟩ : ByteArray).size = 6 := rfl
    omega
  clear b0 ht hc hs
  go_enter Tryd.func90, Tryd.ntmps90
  go_wp2_with fail
  refine (C.out _).mono ?_
  rintro e w1 ⟨rfl, bb⟩
  have B1 := Lib.hid (below_up HB.out bb)
  have T1 := Lib.hid (HT.out.below bb)
  clear bb
  go_wp2_with fail
  refine (CF.out _ T1.out).mono ?_
  rintro e w2 ⟨rfl, bb⟩
  have B2 := Lib.hid (below_up B1.out bb)
  clear bb
  go_wp2
  go_ret
  exact ⟨rfl, B2.out⟩

set_option maxHeartbeats 1600000 in
theorem implWeighR (s : SD) (w : World) (ht : TabOk w) : Calls Tryd.prog 91 #[stateV s] w fun e w' => e = .returned (.string (spWeigh ++ fmtB (fewestI s))) ∧ Below w.heap.size w w' := by
  have C := Lib.hid (fun W => implFewest s W)
  have hc := fewest_in s
  have CF := Lib.hid (fun W h => implFmt (fewestI s) W (by omega) (by omega) h)
  have hsz : (fmtB (fewestI s)).size ≤ 21 := fmtW_size _ (by omega) (by omega)
  have b0 := alloc_below w (.cells #[.int .i64 s.b, .int .i64 s.h, .int .i64 s.l, .int .i64 s.g] 117)
  have P0 := StateAt.new w 117 s
  generalize hX : w.alloc (.cells #[.int .i64 s.b, .int .i64 s.h, .int .i64 s.l, .int .i64 s.g] 117) = X at b0 P0
  have HB := Lib.hid b0
  have HT := Lib.hid (ht.below b0)
  obtain ⟨e0, e1, e2, e3, -⟩ := P0
  unfold stateV at C ⊢
  unfold spWeigh
  generalize fmtB (fewestI s) = r at CF hsz ⊢
  generalize fewestI s = k at C CF
  have hs0 : ¬ 9223372036854775807 < (⟨#[119, 101, 105, 103, 104, 105, 110, 103, 115, 32]⟩ : ByteArray).size + r.size := by
    have : (⟨#[119, 101, 105, 103, 104, 105, 110, 103, 115, 32]⟩ : ByteArray).size = 10 := rfl
    omega
  clear b0 ht hc
  go_enter Tryd.func91, Tryd.ntmps91
  go_wp2_with fail
  refine (C.out _).mono ?_
  rintro e w1 ⟨rfl, bb⟩
  have B1 := Lib.hid (below_up HB.out bb)
  have T1 := Lib.hid (HT.out.below bb)
  clear bb
  go_wp2_with fail
  refine (CF.out _ T1.out).mono ?_
  rintro e w2 ⟨rfl, bb⟩
  have B2 := Lib.hid (below_up B1.out bb)
  clear bb
  go_wp2
  go_ret
  exact ⟨rfl, B2.out⟩

set_option maxHeartbeats 1600000 in
/-- The closure of lineOf: a part of its subject. -/
theorem implLine1S (F : FuncId) (HE : Enters F) (b : Nat) (s : SD) (t : ByteArray) (W : World) (h : StateAt W b s) (HC : ∀ V, Below W.heap.size W V → Calls Tryd.prog F #[stateV s] V fun e w' => e = .returned (.string t) ∧ Below V.heap.size V w') :
    Calls Tryd.prog 130 #[.func (.func F) #[] #[], .pointer (some ⟨b, 0, none⟩)] W fun e w' => e = .returned (.string t) ∧ Below W.heap.size W w' := by
  have HE' : ∀ args w, (callFunc F args).run Tryd.prog w = .ok (.enter F args) w := HE
  have CC := Lib.hid (HC W (Below.refl _ _))
  obtain ⟨e0, e1, e2, e3, -⟩ := h
  unfold stateV at CC
  clear HC HE
  go_enter Tryd.func130, Tryd.ntmps130
  go_wp2_with fail
  refine CC.out.mono ?_
  rintro e w1 ⟨rfl, bb⟩
  have B := Lib.hid bb
  clear bb
  go_wp2
  go_ret
  exact ⟨rfl, B.out⟩
end Go.Proofs.YtlflblngbneacabDoor
