/- The contract of the program's PoolsLine. Conditions: the pools are few enough to be counted; the variables that the code reads hold what the program's text lays. -/
import Derived.Test.YtlflblngbneacabGreatDoorFormats
import Derived.Test.YtlflblngbneacabGreatDoorGSep
import Derived.Test.YtlflblngbneacabGreatDoorGTell
import Derived.Test.YtlflblngbneacabGreatDoorGRep
namespace Go.Proofs.YtlflblngbneacabGreatDoor
open Go.RowKit Go.Shelf

def spSep : ByteArray := ⟨#[115, 101, 112, 97, 114, 97, 116, 101, 115, 32]⟩
def spSums : ByteArray := ⟨#[115, 117, 109, 115, 32]⟩
def poolsWs (n : Int) (P : List Int) : List ByteArray := [setsT P, spSep ++ fmtB (sepK n P 3 : Int), spSums ++ fmtB (tellI n P)]
theorem poolsWs_join (n : Int) (P : List Int) (h : poolsB n P = true) : joinB (poolsWs n P) sepSp = poolsT n P := by
  unfold poolsT
  rw [if_pos h]
  apply bytes_eq
  show Lib.join [_, _, _] [32] = _
  rw [join_two, join_two, Lib.join_one]
  simp [spSep, spSums]
def reportV (n : Int) (v : Value) : Value := .agg #[.int .i64 n, v]

set_option maxHeartbeats 1600000 in
theorem implSetsR (n : Int) (v : Value) (P : List Int) (w : World) (h : IntsAt w v P) (hm : P.length ≤ 1048576) (ht : TabOk w) (hh : HandleOk w) (a : Addr) (he : EmptyAt w a) : Calls Tryz.prog 78 #[reportV n v] w fun e w' => e = .returned (.string (setsT P)) ∧ Below w.heap.size w w' := by
  have b0 := alloc_below w (.cells #[.int .i64 n, v] 117)
  have P0 := Lib.hid (TwoAt.new w 117 (.int .i64 n) v)
  generalize hX : w.alloc (.cells #[.int .i64 n, v] 117) = X at b0 P0
  have HB := Lib.hid b0
  have C := Lib.hid (implFormatSets v P X (h.below b0) hm (ht.below b0) (hh.below b0) a (he.below b0))
  obtain ⟨e0, e1, -⟩ := P0.out
  obtain ⟨p, k, c, rfl⟩ := h.form
  unfold reportV
  generalize setsT P = r at C ⊢
  clear b0 ht hh he h hm
  go_enter Tryz.func78, Tryz.ntmps78
  go_wp2_with fail
  refine C.out.mono ?_
  rintro e w1 ⟨rfl, bb⟩
  have B1 := Lib.hid (below_up HB.out bb)
  clear bb
  go_wp2
  go_ret
  exact ⟨rfl, B1.out⟩

set_option maxHeartbeats 1600000 in
theorem implSumsR (n : Int) (v : Value) (P : List Int) (w : World) (h : IntsAt w v P) (hm : P.length ≤ 1048576) (hk : -9223372036854775808 ≤ tellI n P ∧ tellI n P ≤ 9223372036854775807) (ht : TabOk w) : Calls Tryz.prog 80 #[reportV n v] w fun e w' => e = .returned (.string (spSums ++ fmtB (tellI n P))) ∧ Below w.heap.size w w' := by
  have b0 := alloc_below w (.cells #[.int .i64 n, v] 117)
  have P0 := Lib.hid (TwoAt.new w 117 (.int .i64 n) v)
  generalize hX : w.alloc (.cells #[.int .i64 n, v] 117) = X at b0 P0
  have HB := Lib.hid b0
  have HT := Lib.hid (ht.below b0)
  have C := Lib.hid (implTell n v P X (h.below b0) hm)
  have CF := Lib.hid (fun W h => implFmt (tellI n P) W hk.1 hk.2 h)
  have hsz : (fmtB (tellI n P)).size ≤ 21 := fmtW_size _ hk.1 hk.2
  obtain ⟨e0, e1, -⟩ := P0.out
  obtain ⟨p, k, c, rfl⟩ := h.form
  unfold reportV spSums
  generalize fmtB (tellI n P) = r at CF hsz ⊢
  generalize tellI n P = z at C CF
  have hs0 : ¬ 9223372036854775807 < (⟨#[115, 117, 109, 115, 32]⟩ : ByteArray).size + r.size := by
    have : (⟨#[115, 117, 109, 115, 32]⟩ : ByteArray).size = 5 := rfl
    omega
  clear b0 ht h hm hk
  go_enter Tryz.func80, Tryz.ntmps80
  go_wp2_with fail
  refine C.out.mono ?_
  rintro e w1 ⟨rfl, bb⟩
  have B1 := Lib.hid (below_up HB.out bb)
  have T1 := Lib.hid (HT.out.below bb)
  clear bb
  go_wp2_with fail
  refine (CF.out _ T1.out).mono ?_
  rintro e w2 ⟨rfl, bb⟩
  have B2 := Lib.hid (below_up B1.out bb)
  clear bb
  go_wp2
  go_ret
  exact ⟨rfl, B2.out⟩

set_option maxRecDepth 100000 in
set_option maxHeartbeats 3200000 in
theorem implSepR (n : Int) (v : Value) (P : List Int) (w : World) (h : IntsAt w v P) (hm : P.length ≤ 1048576) (ht : TabOk w) : Calls Tryz.prog 79 #[reportV n v] w fun e w' => e = .returned (.string (spSep ++ fmtB (sepK n P 3 : Int))) ∧ Below w.heap.size w w' := by
  have b0 := alloc_below w (.cells #[.int .i64 n, v] 117)
  have P0 := Lib.hid (TwoAt.new w 117 (.int .i64 n) v)
  generalize hX : w.alloc (.cells #[.int .i64 n, v] 117) = X at b0 P0
  have HB := Lib.hid b0
  have HT := Lib.hid (ht.below b0)
  have C : Hid (∀ (k : Nat) W, Below X.heap.size X W → Calls Tryz.prog 121 #[.int .i64 n, v, .int .i64 (k : Int)] W fun e w' => e = .returned (.bool (sepR n P (k : Int))) ∧ Below W.heap.size W w') := fun k W hW => implSep n v P k W ((h.below b0).below hW) hm
  have CF : Hid (∀ (k : Nat) W, k ≤ 3 → TabOk W → Calls Tryz.prog 30 #[.int .i64 (k : Int)] W fun e w' => e = .returned (.string (fmtB (k : Int))) ∧ Below W.heap.size W w') := fun k W hk h => implFmt (k : Int) W (by omega) (by omega) h
  have HK : Hid (∀ k, sepK n P (k + 1) = if sepR n P ((k + 1 : Nat) : Int) = true then k + 1 else sepK n P k) := fun k => rfl
  have HZ : Hid (sepK n P 0 = 0) := rfl
  have HSZ : Hid (∀ k : Nat, k ≤ 3 → (fmtB (k : Int)).size ≤ 21) := fun k hk => fmtW_size _ (by omega) (by omega)
  obtain ⟨p, c0, c, rfl⟩ := h.form
  unfold reportV spSep
  generalize sepR n P = S at C HK
  generalize sepK n P = K at HK HZ ⊢
  clear b0 ht h hm
  go_enter Tryz.func79, Tryz.ntmps79
  go_wp2
  go_loopw [3] (fun dv wr => ∃ k : Nat, k ≤ 3 ∧ dv = .int .i64 (k : Int) ∧ Hid (K 3 = K k) ∧ Hid (Below X.heap.size X wr)) (fun dv _ => (intOf dv).toNat)
  case atStart => exact ⟨3, Nat.le_refl _, rfl, Lib.hid rfl, Lib.hid (Below.refl _ _)⟩
  case round =>
    obtain ⟨k, hk, rfl, HE, B⟩ := hrel
    have P1 := Lib.hid (P0.out.below B.out)
    have T1 := Lib.hid (HT.out.below B.out)
    obtain ⟨e0, e1, -⟩ := P1.out
    by_cases hk0 : k = 0
    · subst hk0
      have CC := Lib.hid (CF.out 0 wr (by omega) T1.out)
      have hsz := HSZ.out 0 (by omega)
      have HR : Hid (K 3 = 0) := by unfold Hid; rw [HE.out, HZ.out]
      obtain ⟨r, hr⟩ : ∃ r, fmtB ((0 : Nat) : Int) = r := ⟨_, rfl⟩
      have HRR : Hid (fmtB (K 3 : Int) = r) := by unfold Hid; rw [HR.out]; exact hr
      rw [hr] at CC hsz
      clear hr
      have hs0 : ¬ 9223372036854775807 < (⟨#[115, 101, 112, 97, 114, 97, 116, 101, 115, 32]⟩ : ByteArray).size + r.size := by
        have : (⟨#[115, 101, 112, 97, 114, 97, 116, 101, 115, 32]⟩ : ByteArray).size = 10 := rfl
        omega
      go_wp2_with fail
      refine CC.out.mono ?_
      rintro e w1 ⟨rfl, bb⟩
      have B1 := Lib.hid (below_up HB.out (below_up B.out bb))
      clear bb
      go_wp2
      go_ret
      refine ⟨?_, B1.out⟩
      rw [HRR.out]
      rfl
    · have hkp : (0 : Int) < (k : Int) := by omega
      have CS := Lib.hid (C.out k wr B.out)
      have HS : Hid (K k = if S (k : Int) = true then k else K (k - 1)) := by
        obtain ⟨j, rfl⟩ : ∃ j, k = j + 1 := ⟨k - 1, by omega⟩
        exact HK.out j
      generalize S (k : Int) = q at CS HS
      go_wp2_with fail
      refine CS.out.mono ?_
      rintro e w1 ⟨rfl, bb⟩
      have B1 := Lib.hid (below_up B.out bb)
      have T2 := Lib.hid (T1.out.below bb)
      clear bb
      cases q with
      | true =>
        have CC := Lib.hid (CF.out k w1 hk T2.out)
        have hsz := HSZ.out k hk
        have HR : Hid (K 3 = k) := by unfold Hid; rw [HE.out, HS.out, if_pos rfl]
        obtain ⟨r, hr⟩ : ∃ r, fmtB (k : Int) = r := ⟨_, rfl⟩
        have HRR : Hid (fmtB (K 3 : Int) = r) := by unfold Hid; rw [HR.out]; exact hr
        rw [hr] at CC hsz
        clear hr
        have hs0 : ¬ 9223372036854775807 < (⟨#[115, 101, 112, 97, 114, 97, 116, 101, 115, 32]⟩ : ByteArray).size + r.size := by
          have : (⟨#[115, 101, 112, 97, 114, 97, 116, 101, 115, 32]⟩ : ByteArray).size = 10 := rfl
          omega
        go_wp2_with fail
        refine CC.out.mono ?_
        rintro e w2 ⟨rfl, bb⟩
        have B2 := Lib.hid (below_up HB.out (below_up B1.out bb))
        clear bb
        go_wp2
        go_ret
        refine ⟨?_, B2.out⟩
        rw [HRR.out]
        rfl
      | false =>
        have HR : Hid (K 3 = K (k - 1)) := by unfold Hid; rw [HE.out, HS.out, if_neg (by simp)]
        have hki : (k : Int) - 1 = ((k - 1 : Nat) : Int) := by omega
        go_wp2
        go_roundw
        case rel => exact ⟨k - 1, by omega, by go_num, HR, B1⟩
        case measure => simp [intOf]; omega

set_option maxHeartbeats 1600000 in
theorem implLine1P (F : FuncId) (HE : Enters F) (b : Nat) (n : Int) (v : Value) (t : ByteArray) (W : World) (h : TwoAt W b (.int .i64 n) v) (HC : ∀ V, Below W.heap.size W V → Calls Tryz.prog F #[reportV n v] V fun e w' => e = .returned (.string t) ∧ Below V.heap.size V w') :
    Calls Tryz.prog 120 #[.func (.func F) #[] #[], .pointer (some ⟨b, 0, none⟩)] W fun e w' => e = .returned (.string t) ∧ Below W.heap.size W w' := by
  have HE' : ∀ args w, (callFunc F args).run Tryz.prog w = .ok (.enter F args) w := HE
  have CC := Lib.hid (HC W (Below.refl _ _))
  obtain ⟨e0, e1, -⟩ := h
  unfold reportV at CC
  clear HC HE
  go_enter Tryz.func120, Tryz.ntmps120
  go_wp2_with fail
  refine CC.out.mono ?_
  rintro e w1 ⟨rfl, bb⟩
  have B := Lib.hid bb
  clear bb
  go_wp2
  go_ret
  exact ⟨rfl, B.out⟩
end Go.Proofs.YtlflblngbneacabGreatDoor
