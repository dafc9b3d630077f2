/- The walk of FnReports, round the contracts of the program's functions of this stage. Condition: the library's table of powers of ten is as its text lays it. -/
import Derived.Test.YtlflblngbneacabGreatDoorReportsFacts
import Derived.Test.YtlflblngbneacabGreatDoorGMkS
import Derived.Test.YtlflblngbneacabGreatDoorLawSame
import Derived.Test.YtlflblngbneacabGreatDoorFindImpl
import Derived.Test.YtlflblngbneacabGreatDoorFmt
import Derived.Deep.RegionHeld3
namespace Go.Proofs.YtlflblngbneacabGreatDoor
open Go.RowKit

theorem lit_three (W : World) : IntsAt (W.alloc (.cells #[.int .i64 0, .int .i64 1, .int .i64 10] 3)) (.slice (some ⟨W.heap.size, 0, none⟩) 3 3) [0, 1, 10] :=
  IntsAt.of_owns_n (l := [0, 1, 10]) (n := 3) (World.ownsRow_lit (base := W.heap.size) (e := 3) (size := 1) W #[.int .i64 0, .int .i64 1, .int .i64 10] 3 (Nat.le_refl _) (by unfold maxLen; omega) rfl) rfl
theorem lit_two (W : World) : IntsAt (W.alloc (.cells #[.int .i64 0, .int .i64 2] 3)) (.slice (some ⟨W.heap.size, 0, none⟩) 2 2) [0, 2] :=
  IntsAt.of_owns_n (l := [0, 2]) (n := 2) (World.ownsRow_lit (base := W.heap.size) (e := 3) (size := 1) W #[.int .i64 0, .int .i64 2] 2 (Nat.le_refl _) (by unfold maxLen; omega) rfl) rfl
theorem lit_one (W : World) : IntsAt (W.alloc (.cells #[.int .i64 1] 3)) (.slice (some ⟨W.heap.size, 0, none⟩) 1 1) [1] :=
  IntsAt.of_owns_n (l := [1]) (n := 1) (World.ownsRow_lit (base := W.heap.size) (e := 3) (size := 1) W #[.int .i64 1] 1 (Nat.le_refl _) (by unfold maxLen; omega) rfl) rfl
theorem lit_rows (W : World) : LsAt (((W.alloc (.cells #[.int .i64 0, .int .i64 2] 3)).alloc (.cells #[.int .i64 1] 3)).alloc (.cells #[.slice (some ⟨W.heap.size, 0, none⟩) 2 2, .slice (some ⟨W.heap.size + 1, 0, none⟩) 1 1] 26)) (.slice (some ⟨W.heap.size + 1 + 1, 0, none⟩) 2 2) [[0, 2], [1]] := by
  have e : (W.alloc (.cells #[.int .i64 0, .int .i64 2] 3)).heap.size = W.heap.size + 1 := by simp
  have e2 : ((W.alloc (.cells #[.int .i64 0, .int .i64 2] 3)).alloc (.cells #[.int .i64 1] 3)).heap.size = W.heap.size + 1 + 1 := by simp
  have h1 := ((lit_two W).below (alloc_below _ (.cells #[.int .i64 1] 3))).below (alloc_below _ (.cells #[.slice (some ⟨W.heap.size, 0, none⟩) 2 2, .slice (some ⟨W.heap.size + 1, 0, none⟩) 1 1] 26))
  have h2 := (lit_one (W.alloc (.cells #[.int .i64 0, .int .i64 2] 3))).below (alloc_below _ (.cells #[.slice (some ⟨W.heap.size, 0, none⟩) 2 2, .slice (some ⟨W.heap.size + 1, 0, none⟩) 1 1] 26))
  have h3 := TwoAt.new ((W.alloc (.cells #[.int .i64 0, .int .i64 2] 3)).alloc (.cells #[.int .i64 1] 3)) 26 (.slice (some ⟨W.heap.size, 0, none⟩) 2 2) (.slice (some ⟨W.heap.size + 1, 0, none⟩) 1 1)
  rw [e] at h2
  rw [e2] at h3
  refine ⟨some ⟨W.heap.size + 1 + 1, 0, none⟩, 2, rfl, fun i hi => ?_⟩
  have hi2 : i < 2 := hi
  rcases (show i = 0 ∨ i = 1 by omega) with rfl | rfl
  · exact ⟨W.heap.size + 1 + 1, 0, _, rfl, h3.1, h1⟩
  · exact ⟨W.heap.size + 1 + 1, 0, _, rfl, h3.2.1, h2⟩
theorem lit_rows2 (W : World) : LsAt (((W.alloc (.cells #[.int .i64 1] 3)).alloc (.cells #[.int .i64 0, .int .i64 2] 3)).alloc (.cells #[.slice (some ⟨W.heap.size + 1, 0, none⟩) 2 2, .slice (some ⟨W.heap.size, 0, none⟩) 1 1] 26)) (.slice (some ⟨W.heap.size + 1 + 1, 0, none⟩) 2 2) [[0, 2], [1]] := by
  have e : (W.alloc (.cells #[.int .i64 1] 3)).heap.size = W.heap.size + 1 := by simp
  have e2 : ((W.alloc (.cells #[.int .i64 1] 3)).alloc (.cells #[.int .i64 0, .int .i64 2] 3)).heap.size = W.heap.size + 1 + 1 := by simp
  have h1 := ((lit_one W).below (alloc_below _ (.cells #[.int .i64 0, .int .i64 2] 3))).below (alloc_below _ (.cells #[.slice (some ⟨W.heap.size + 1, 0, none⟩) 2 2, .slice (some ⟨W.heap.size, 0, none⟩) 1 1] 26))
  have h2 := (lit_two (W.alloc (.cells #[.int .i64 1] 3))).below (alloc_below _ (.cells #[.slice (some ⟨W.heap.size + 1, 0, none⟩) 2 2, .slice (some ⟨W.heap.size, 0, none⟩) 1 1] 26))
  have h3 := TwoAt.new ((W.alloc (.cells #[.int .i64 1] 3)).alloc (.cells #[.int .i64 0, .int .i64 2] 3)) 26 (.slice (some ⟨W.heap.size + 1, 0, none⟩) 2 2) (.slice (some ⟨W.heap.size, 0, none⟩) 1 1)
  rw [e] at h2
  rw [e2] at h3
  refine ⟨some ⟨W.heap.size + 1 + 1, 0, none⟩, 2, rfl, fun i hi => ?_⟩
  have hi2 : i < 2 := hi
  rcases (show i = 0 ∨ i = 1 by omega) with rfl | rfl
  · exact ⟨W.heap.size + 1 + 1, 0, _, rfl, h3.1, h2⟩
  · exact ⟨W.heap.size + 1 + 1, 0, _, rfl, h3.2.1, h1⟩

set_option maxRecDepth 100000 in
set_option maxHeartbeats 32000000 in
theorem walkReports (w : World) (a : Option Addr) (len cap : Nat) (hB : BytesAt w a len) (ht : TabOk w)
    (IFS : ∀ s : SD, stateB s = true → FormatStateIs 32 s w) (ISL : ∀ s : SD, stateB s = true → StateLineIs 33 s w)
    (IRS : ReadSetsIs 31 ⟨#[45, 32, 48, 32, 49, 51]⟩ w) (IFT : FormatSetsIs 36 [0, 1, 10] w)
    (IRL : RoundsLineIs 37 [[0, 2], [1]] w) (IFP : FormatPickIs 38 ⟨0, 0, 1, 1, 0, 0, 0, 0⟩ w) :
    Calls Tryz.prog 5 #[.slice a len cap] w fun e w' => e = .returned (.bool true) ∧ Below w.heap.size w w' := by
  by_cases hbig : (1048576 : Int) < (len : Int)
  · go_enter Tryz.func5, Tryz.ntmps5
    go_wp2
    go_ret
    exact ⟨rfl, Below.refl _ _⟩
  have hl : len ≤ 1048576 := by omega
  have C1 := Lib.hid (specMakeState w w a len cap hB (Below.refl _ _) hl)
  have HT := Lib.hid ht
  have HFS := Lib.hid IFS
  have HSL := Lib.hid ISL
  have HRS := Lib.hid IRS
  have HFT := Lib.hid IFT
  have HRL := Lib.hid IRL
  have HFP := Lib.hid IFP
  have HFM : Hid (∀ n W, -9223372036854775808 ≤ n → n ≤ 9223372036854775807 → Below w.heap.size w W → Calls Tryz.prog 30 #[.int .i64 n] W fun e w' => e = .returned (.string (fmtB n)) ∧ Below W.heap.size W w') := fun n W h0 h1 hb => implFmt n W h0 h1 (HT.out.below hb)
  unfold FormatStateIs at HFS
  unfold StateLineIs at HSL
  unfold ReadSetsIs GivesQ at HRS
  unfold FormatSetsIs at HFT
  unfold RoundsLineIs at HRL
  unfold FormatPickIs at HFP
  dsimp only [pickV] at HFP
  have HSA : Hid (∀ u v W, IntsAt W u [0, 1, 10] → IntsAt W v [0, 1, 10] → Calls Tryz.prog 23 #[u, v] W fun e w' => e = .returned (.bool true) ∧ W = w') := fun u v W h1 h2 => (lawsSame u v [0, 1, 10] [0, 1, 10] W h1 h2 (by simp) (by simp)).mono fun e w' h => ⟨h.1.trans (by simp), h.2⟩
  rw [rep_sets.1, rep_sets.2] at HRS
  have t1 := rep_setsT
  have t2 := rep_rounds
  have t3 := rep_pick
  generalize setsT [0, 1, 10] = tx1 at HFT t1
  generalize roundsT [[0, 2], [1]] = tx2 at HRL t2
  generalize listB (PD.list ⟨0, 0, 1, 1, 0, 0, 0, 0⟩) = tx3 at HFP t3
  clear hB ht IFS ISL IRS IFT IRL IFP
  go_enter Tryz.func5, Tryz.ntmps5
  go_wp2_with fail
  refine C1.out.mono ?_
  rintro e w1 ⟨s, rfl, hs, -, b1⟩
  have CFS := Lib.hid (HFS.out s hs)
  have CSL := Lib.hid (HSL.out s hs)
  have CC := Lib.hid (fun W => implCountCases s W)
  have CW := Lib.hid (implFewest s)
  unfold FewestIs at CW
  have hc := cases_in hs
  have hf := fewest_in s
  have hin := stateB_in hs
  have z1 := fmtW_size s.b (by omega) (by omega)
  have z2 := fmtW_size s.h (by omega) (by omega)
  have z3 := fmtW_size s.l (by omega) (by omega)
  have z4 := fmtW_size s.g (by omega) (by omega)
  have z5 := fmtW_size (casesS s) (by omega) (by omega)
  have z6 := fmtW_size (fewestI s) (by omega) (by omega)
  have M1 := Lib.hid (fun W hb => HFM.out s.b W (by omega) (by omega) hb)
  have M2 := Lib.hid (fun W hb => HFM.out s.h W (by omega) (by omega) hb)
  have M3 := Lib.hid (fun W hb => HFM.out s.l W (by omega) (by omega) hb)
  have M4 := Lib.hid (fun W hb => HFM.out s.g W (by omega) (by omega) hb)
  have M5 := Lib.hid (fun W hb => HFM.out (casesS s) W (by omega) (by omega) hb)
  have M6 := Lib.hid (fun W hb => HFM.out (fewestI s) W (by omega) (by omega) hb)
  have HST : stateT s = (((listB s.list ++ ⟨#[32, 99, 97, 115, 101, 115, 32]⟩) ++ fmtB (casesS s)) ++ ⟨#[32, 119, 101, 105, 103, 104, 105, 110, 103, 115, 32]⟩) ++ fmtB (fewestI s) := by unfold stateT; rw [if_pos hs]
  rw [HST] at CSL
  rw [rep_list4] at CFS CSL
  have P2 := StateAt.new w1 56 s
  have A2 := alloc_below w1 (.cells #[.int .i64 s.b, .int .i64 s.h, .int .i64 s.l, .int .i64 s.g] 56)
  generalize hX2 : w1.alloc (.cells #[.int .i64 s.b, .int .i64 s.h, .int .i64 s.l, .int .i64 s.g] 56) = X2 at P2 A2
  have PX := Lib.hid P2
  have BX := Lib.hid (below_up b1 A2)
  clear P2 A2 b1 HST C1 hbig hl hs hc hf hin HT HFS HSL HFM
  unfold stateV at CFS CSL CC CW ⊢
  generalize fmtB s.b = F1 at CFS CSL M1 z1
  generalize fmtB s.h = F2 at CFS CSL M2 z2
  generalize fmtB s.l = F3 at CFS CSL M3 z3
  generalize fmtB s.g = F4 at CFS CSL M4 z4
  generalize fmtB (casesS s) = F5 at CSL M5 z5
  generalize fmtB (fewestI s) = F6 at CSL M6 z6
  generalize casesS s = x5 at CC M5
  generalize fewestI s = x6 at CW M6
  have q1 : ¬ 9223372036854775807 < F1.size + 1 := by omega
  have q2 : ¬ 9223372036854775807 < F1.size + 1 + F2.size := by omega
  have q3 : ¬ 9223372036854775807 < F1.size + 1 + F2.size + 1 := by omega
  have q4 : ¬ 9223372036854775807 < F1.size + 1 + F2.size + 1 + F3.size := by omega
  have q5 : ¬ 9223372036854775807 < F1.size + 1 + F2.size + 1 + F3.size + 1 := by omega
  have q6 : ¬ 9223372036854775807 < F1.size + 1 + F2.size + 1 + F3.size + 1 + F4.size := by omega
  have HZ : Hid (F1.size ≤ 21 ∧ F2.size ≤ 21 ∧ F3.size ≤ 21 ∧ F4.size ≤ 21 ∧ F5.size ≤ 21 ∧ F6.size ≤ 21) := ⟨z1, z2, z3, z4, z5, z6⟩
  clear z1 z2 z3 z4 z5 z6
  go_wp2_with fail
  go_region_held3 (fun w' => w'.cell? ⟨w1.heap.size, 0, none⟩ = some (.int .i64 s.b) ∧ w'.cell? ⟨w1.heap.size, 1, none⟩ = some (.int .i64 s.h) ∧ w'.cell? ⟨w1.heap.size, 2, none⟩ = some (.int .i64 s.l) ∧ w'.cell? ⟨w1.heap.size, 3, none⟩ = some (.int .i64 s.g) ∧ w1.heap.size < w'.heap.size)
    (first | exact P6.out | exact P5.out | exact P4.out | exact P3.out | exact PX.out.below (Below.refl _ _).drew)
    (first
      | (go_at_call_of 30 (Value.int .i64 s.b); refine (M1.out _ BX.out.drew).mono ?_; rintro e w3 ⟨rfl, bb⟩; have P3 := Lib.hid ((PX.out.below (Below.refl _ _).drew).below bb); have B3 := Lib.hid (below_up BX.out.drew bb); clear bb)
      | (go_at_call_of 30 (Value.int .i64 s.h); refine (M2.out _ B3.out).mono ?_; rintro e w4 ⟨rfl, bb⟩; have P4 := Lib.hid (P3.out.below bb); have B4 := Lib.hid (below_up B3.out bb); clear bb)
      | (go_at_call_of 30 (Value.int .i64 s.l); refine (M3.out _ B4.out).mono ?_; rintro e w5 ⟨rfl, bb⟩; have P5 := Lib.hid (P4.out.below bb); have B5 := Lib.hid (below_up B4.out bb); clear bb)
      | (go_at_call_of 30 (Value.int .i64 s.g); refine (M4.out _ B5.out).mono ?_; rintro e w6 ⟨rfl, bb⟩; have P6 := Lib.hid (P5.out.below bb); have B6 := Lib.hid (below_up B5.out bb); clear bb)
      | fail)
  clear q1 q2 q3 q4 q5 q6 M1 M2 M3 M4 PX BX P3 B3 P4 B4 P5 B5 hX2
  have hz := HZ.out
  obtain ⟨TW, hW⟩ : ∃ TW, F1 ++ ⟨#[44]⟩ ++ F2 ++ ⟨#[44]⟩ ++ F3 ++ ⟨#[44]⟩ ++ F4 = TW := ⟨_, rfl⟩
  have hzw : TW.size ≤ 87 := by
    have e : TW.size = F1.size + 1 + F2.size + 1 + F3.size + 1 + F4.size := by
      rw [← hW]
      simp only [ByteArray.size_append]
      rfl
    omega
  rw [hW] at CFS CSL ⊢
  have r1 : ¬ 9223372036854775807 < TW.size + 7 := by omega
  have r2 : ¬ 9223372036854775807 < TW.size + 7 + F5.size := by omega
  have r3 : ¬ 9223372036854775807 < TW.size + 7 + F5.size + 11 := by omega
  have r4 : ¬ 9223372036854775807 < TW.size + 7 + F5.size + 11 + F6.size := by omega
  clear hW hz hzw HZ
  go_wp2_with fail
  refine (HRS.out _ B6.out).mono ?_
  rintro e w7 ⟨u, rfl, ou, bb⟩
  have U7 := Lib.hid ou.reads
  have P7 := Lib.hid (P6.out.below bb)
  have B7 := Lib.hid (below_up B6.out bb)
  obtain ⟨ga, gc, rfl, -⟩ := ou.reads
  clear ou bb P6 B6 HRS
  go_wp2_with fail
  go_region_held3 (fun w' => w'.cell? ⟨w1.heap.size, 0, none⟩ = some (.int .i64 s.b) ∧ w'.cell? ⟨w1.heap.size, 1, none⟩ = some (.int .i64 s.h) ∧ w'.cell? ⟨w1.heap.size, 2, none⟩ = some (.int .i64 s.l) ∧ w'.cell? ⟨w1.heap.size, 3, none⟩ = some (.int .i64 s.g) ∧ w1.heap.size < w'.heap.size)
    (first | exact P20.out | exact P19.out | exact ((P15.out.below (alloc_below _ _)).below (alloc_below _ _)).below (alloc_below _ _) | exact (P15.out.below (alloc_below _ _)).below (alloc_below _ _) | exact P15.out.below (alloc_below _ _) | exact P15.out | exact P14.out | exact P13.out.below (alloc_below _ _) | exact P13.out | exact P12.out | exact P11.out | exact P10.out | exact P9.out | exact P8.out | exact P7.out.below (Below.refl _ _).drew)
    (first
      | (go_at_call 32; refine (CFS.out _ B7.out.drew).mono ?_; rintro e w8 ⟨rfl, bb⟩; have P8 := Lib.hid ((P7.out.below (Below.refl _ _).drew).below bb); have B8 := Lib.hid (below_up B7.out.drew bb); have U8 := Lib.hid ((U7.out.below (Below.refl _ _).drew).below bb); clear bb)
      | (go_at_call 33; refine (CSL.out _ B8.out).mono ?_; rintro e w9 ⟨rfl, bb⟩; have P9 := Lib.hid (P8.out.below bb); have B9 := Lib.hid (below_up B8.out bb); have U9 := Lib.hid (U8.out.below bb); clear bb)
      | (go_at_call 34; refine (CC.out _).mono ?_; rintro e w10 ⟨rfl, bb⟩; have P10 := Lib.hid (P9.out.below bb); have B10 := Lib.hid (below_up B9.out bb); have U10 := Lib.hid (U9.out.below bb); clear bb)
      | (go_at_call_of 30 (Value.int .i64 x5); refine (M5.out _ B10.out).mono ?_; rintro e w11 ⟨rfl, bb⟩; have P11 := Lib.hid (P10.out.below bb); have B11 := Lib.hid (below_up B10.out bb); have U11 := Lib.hid (U10.out.below bb); clear bb)
      | (go_at_call 35; refine (CW.out _).mono ?_; rintro e w12 ⟨rfl, bb⟩; have P12 := Lib.hid (P11.out.below bb); have B12 := Lib.hid (below_up B11.out bb); have U12 := Lib.hid (U11.out.below bb); clear bb)
      | (go_at_call_of 30 (Value.int .i64 x6); refine (M6.out _ B12.out).mono ?_; rintro e w13 ⟨rfl, bb⟩; have P13 := Lib.hid (P12.out.below bb); have B13 := Lib.hid (below_up B12.out bb); have U13 := Lib.hid (U12.out.below bb); clear bb)
      | (go_at_call 23; refine (HSA.out _ _ _ (U13.out.below (alloc_below _ _)) (lit_three w13)).mono ?_; rintro e w14 ⟨rfl, rfl⟩; have P14 := Lib.hid (P13.out.below (alloc_below w13 (.cells #[.int .i64 0, .int .i64 1, .int .i64 10] 3))); have B14 := Lib.hid (below_up B13.out (alloc_below w13 (.cells #[.int .i64 0, .int .i64 1, .int .i64 10] 3))); have U14 := Lib.hid (U13.out.below (alloc_below w13 (.cells #[.int .i64 0, .int .i64 1, .int .i64 10] 3))))
      | (go_at_call 36; refine (HFT.out _ B14.out _ U14.out).mono ?_; rintro e w15 ⟨rfl, bb⟩; have P15 := Lib.hid (P14.out.below bb); have B15 := Lib.hid (below_up B14.out bb); have U15 := Lib.hid (U14.out.below bb); clear bb)
      | (go_at_call 37; refine (HRL.out _ (below_up (below_up (below_up B15.out (alloc_below _ _)) (alloc_below _ _)) (alloc_below _ _)) _ (by first | exact lit_rows w15 | exact lit_rows2 w15)).mono ?_; rintro e w19 ⟨rfl, bb⟩; have P19 := Lib.hid ((((P15.out.below (alloc_below _ _)).below (alloc_below _ _)).below (alloc_below _ _)).below bb); have B19 := Lib.hid (below_up (below_up (below_up (below_up B15.out (alloc_below _ _)) (alloc_below _ _)) (alloc_below _ _)) bb); clear bb)
      | (go_at_call 38; refine (HFP.out _ B19.out).mono ?_; rintro e w20 ⟨rfl, bb⟩; have P20 := Lib.hid (P19.out.below bb); have B20 := Lib.hid (below_up B19.out bb); clear bb)
      | fail)
  all_goals go_wp2
  all_goals go_ret
  all_goals exact ⟨rfl, B20.out⟩
end Go.Proofs.YtlflblngbneacabGreatDoor
