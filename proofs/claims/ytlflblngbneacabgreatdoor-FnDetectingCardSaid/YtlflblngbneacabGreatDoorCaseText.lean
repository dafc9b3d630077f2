/- The contracts of CaseText, in the model and in the program: both return the text of the case. Conditions: a number that fits Go's int; where the program's is called, the library's table of powers of ten is as its text lays it. -/
import Derived.Test.YtlflblngbneacabGreatDoorGBase
import Derived.Test.YtlflblngbneacabGreatDoorFmt
namespace Go.Proofs.YtlflblngbneacabGreatDoor
open Go.RowKit

/-- The text of a case. -/
def txtB (c : Int) : ByteArray :=
  if inB c = true then (if 0 < c then fmtB c ++ ⟨#[43]⟩ else if c < 0 then fmtB (-c) ++ ⟨#[45]⟩ else ⟨#[110, 111, 110, 101]⟩) else ⟨#[]⟩

theorem fmtB_size (n : Int) (h0 : -9223372036854775808 ≤ n) (h1 : n ≤ 9223372036854775807) : (fmtB n).size ≤ 21 := by
  have := Lib.itoa_length_le n (by omega) h1
  exact this

set_option maxHeartbeats 800000 in
theorem implText (c : Int) (w : World) (c0 : -9223372036854775808 ≤ c) (c1 : c ≤ 9223372036854775807) (ht : TabOk w) :
    Calls Tryz.prog 48 #[.int .i64 c] w fun e w' => e = .returned (.string (txtB c)) ∧ Below w.heap.size w w' := by
  have HT := Lib.hid ht
  clear ht
  have C := Lib.hid (fun W => implKnown c W)
  have K := Lib.hid (fun W => implKind c W)
  have O := Lib.hid (fun W => implCoin c W c0 c1)
  have HD : Hid (txtB c = if inB c = true then (if 0 < c then fmtB c ++ ⟨#[43]⟩ else if c < 0 then fmtB (-c) ++ ⟨#[45]⟩ else ⟨#[110, 111, 110, 101]⟩) else ⟨#[]⟩) := rfl
  have HP := Lib.hid (@inB_bounds c)
  have HO : Hid (coinI c = if inB c = true then (if c < 0 then -c else c) else 0) := rfl
  generalize inB c = b at C HD HP HO
  generalize txtB c = t at HD ⊢
  cases b
  · have HE : Hid (t = ⟨#[]⟩) := HD.out
    clear HD HO
    go_enter Tryz.func48, Tryz.ntmps48
    go_wp2_with fail
    refine (C.out _).mono ?_
    rintro e w1 ⟨rfl, rfl⟩
    go_wp2
    go_ret
    exact ⟨ret_str HE.out.symm, Below.refl _ _⟩
  · obtain ⟨b0, b1⟩ := HP.out rfl
    rcases Int.lt_trichotomy c 0 with hc | hc | hc
    · have HE : Hid (t = fmtB (-c) ++ ⟨#[45]⟩) := by unfold Hid; rw [HD.out, if_pos rfl, if_neg (by omega), if_pos hc]
      have hk : kindI c = 2 := by unfold kindI; rw [if_neg (by omega), if_pos hc]
      have ho : coinI c = -c := by rw [HO.out, if_pos rfl, if_pos hc]
      rw [hk] at K
      rw [ho] at O
      have F := Lib.hid (fun W h => implFmt (-c) W (by omega) (by omega) h)
      have hts := fmtB_size (-c) (by omega) (by omega)
      generalize fmtB (-c) = f at HE F hts
      generalize -c = q at O F
      clear HD HO hk ho
      go_enter Tryz.func48, Tryz.ntmps48
      go_wp2_with fail
      refine (C.out _).mono ?_
      rintro e w1 ⟨rfl, rfl⟩
      go_wp2_with fail
      refine (K.out _).mono ?_
      rintro e w1 ⟨rfl, rfl⟩
      go_wp2_with fail
      refine (O.out _).mono ?_
      rintro e w1 ⟨rfl, rfl⟩
      go_wp2_with fail
      refine (F.out _ HT.out).mono ?_
      rintro e w1 ⟨rfl, hb⟩
      have HB := Lib.hid hb
      clear hb
      go_wp2
      go_ret
      exact ⟨ret_str HE.out.symm, HB.out⟩
    · subst hc
      have HE : Hid (t = ⟨#[110, 111, 110, 101]⟩) := by unfold Hid; rw [HD.out]; rfl
      have hk : kindI 0 = 0 := rfl
      rw [hk] at K
      clear HD HO hk
      go_enter Tryz.func48, Tryz.ntmps48
      go_wp2_with fail
      refine (C.out _).mono ?_
      rintro e w1 ⟨rfl, rfl⟩
      go_wp2_with fail
      refine (K.out _).mono ?_
      rintro e w1 ⟨rfl, rfl⟩
      go_wp2
      go_ret
      exact ⟨ret_str HE.out.symm, Below.refl _ _⟩
    · have HE : Hid (t = fmtB c ++ ⟨#[43]⟩) := by unfold Hid; rw [HD.out, if_pos rfl, if_pos hc]
      have hk : kindI c = 1 := by unfold kindI; rw [if_pos hc]
      have ho : coinI c = c := by rw [HO.out, if_pos rfl, if_neg (by omega)]
      rw [hk] at K
      rw [ho] at O
      have F := Lib.hid (fun W h => implFmt c W (by omega) (by omega) h)
      have hts := fmtB_size c (by omega) (by omega)
      generalize fmtB c = f at HE F hts
      clear HD HO hk ho
      go_enter Tryz.func48, Tryz.ntmps48
      go_wp2_with fail
      refine (C.out _).mono ?_
      rintro e w1 ⟨rfl, rfl⟩
      go_wp2_with fail
      refine (K.out _).mono ?_
      rintro e w1 ⟨rfl, rfl⟩
      go_wp2_with fail
      refine (O.out _).mono ?_
      rintro e w1 ⟨rfl, rfl⟩
      go_wp2_with fail
      refine (F.out _ HT.out).mono ?_
      rintro e w1 ⟨rfl, hb⟩
      have HB := Lib.hid hb
      clear hb
      go_wp2
      go_ret
      exact ⟨ret_str HE.out.symm, HB.out⟩

theorem implCaseText (c : Int) (w : World) (c0 : -9223372036854775808 ≤ c) (c1 : c ≤ 9223372036854775807) (ht : TabOk w) :
    Calls Tryz.prog 11 #[.int .i64 c] w fun e w' => e = .returned (.string (txtB c)) ∧ Below w.heap.size w w' := by
  have C := Lib.hid (implText c w c0 c1 ht)
  clear ht
  generalize txtB c = t at C ⊢
  go_enter Tryz.func11, Tryz.ntmps11
  go_wp2_with fail
  refine C.out.mono ?_
  rintro e w1 ⟨rfl, hb⟩
  have HB := Lib.hid hb
  clear hb
  go_wp2
  go_ret
  exact ⟨rfl, HB.out⟩

theorem case_range {n : Int} (h : (Lit.int .i64 n).wf = true) : -9223372036854775808 ≤ n ∧ n ≤ 9223372036854775807 := by
  simpa [Lit.wf, IntKind.min, IntKind.max, IntKind.signed, IntKind.bits] using h

end Go.Proofs.YtlflblngbneacabGreatDoor
