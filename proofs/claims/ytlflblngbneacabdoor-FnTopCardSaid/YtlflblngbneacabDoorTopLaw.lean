/- The walk of FnTop, round the contract of the program's StateLine. No other condition. -/
import Derived.Test.YtlflblngbneacabDoorTopFacts
import Derived.Test.YtlflblngbneacabDoorFindImpl
import Derived.Test.YtlflblngbneacabDoorBoundImpl
import Derived.Test.YtlflblngbneacabDoorRepState
import Derived.Test.YtlflblngbneacabDoorCur
namespace Go.Proofs.YtlflblngbneacabDoor
open Go.RowKit

theorem stateT_some {s : SD} (h : stateB s = true) : (stateT s).toList.isEmpty = false := by
  unfold stateT
  rw [if_pos h, ByteArray.toList_eq]
  simp [ByteArray.data_append]

set_option maxRecDepth 100000 in
set_option maxHeartbeats 16000000 in
theorem walkTop (w : World) (a : Option Addr) (len cap : Nat) (hB : BytesAt w a len)
    (CSL : ∀ s : SD, stateB s = true → ∀ W, Below w.heap.size w W → Calls Tryd.prog 39 #[stateV s] W fun e w' => e = .returned (.string (stateT s)) ∧ Below W.heap.size W w') :
    Calls Tryd.prog 7 #[.slice a len cap] w fun e w' => e = .returned (.bool true) ∧ Below w.heap.size w w' := by
  by_cases hbig : (1048576 : Int) < (len : Int)
  · go_enter Tryd.func7, Tryd.ntmps7
    go_wp2
    go_ret
    exact ⟨rfl, Below.refl _ _⟩
  have hl : len ≤ 1048576 := by omega
  have C1 := Lib.hid (makeNum_any w w a len cap 1 hB (Below.refl _ _) hl (by omega) (by omega))
  have HCL := Lib.hid CSL
  clear hB CSL
  go_enter Tryd.func7, Tryd.ntmps7
  go_wp2_with fail
  refine C1.out.mono ?_
  rintro e w1 ⟨y, rfl, y0, y1, b1⟩
  have hy : 0 ≤ y % 12 ∧ y % 12 ≤ 11 := by omega
  have B1 := Lib.hid b1
  clear C1 hbig hl b1
  go_wp2_with fail
  generalize y % 12 = z at hy ⊢
  obtain ⟨n, hn⟩ : ∃ n, 1 + z = n := ⟨_, rfl⟩
  rw [hn]
  have n0 : 1 ≤ n := by omega
  have n1 : n ≤ 12 := by omega
  clear hn hy
  have CA := implFewest ⟨n, 0, 0, 0⟩
  have CB := implFewest ⟨n, 0, 0, 1⟩
  have CH := implFewest ⟨0, n, 0, 0⟩
  have hsn := top_state (b := n) (h := 0) (g := 0) (by omega) (by omega) (by omega) (by omega) (by omega)
  have CS := Lib.hid (HCL.out ⟨n, 0, 0, 0⟩ hsn)
  have hst := stateT_some hsn
  have hh : fewestI ⟨0, n, 0, 0⟩ = infoI n := by
    obtain ⟨j, rfl⟩ := Int.eq_ofNat_of_zero_le (show 0 ≤ n by omega)
    exact top_heavy j (by omega) (by omega)
  obtain ⟨hA1, hA2⟩ := top_a n0 n1
  obtain ⟨hb1, hb2, hb3⟩ := top_b n0 n1
  have hl1 := fewest_in ⟨n, 0, 0, 0⟩
  have hl2 := fewest_in ⟨n, 0, 0, 1⟩
  have CI := Lib.hid (fun V => implInfoBoundE n V)
  unfold FewestIs stateV at CA CB CH
  unfold stateV at CS
  rw [hh] at CH
  generalize stateT ⟨n, 0, 0, 0⟩ = tx at CS hst
  generalize fewestI ⟨n, 0, 0, 0⟩ = fa at CA hA1 hA2 hl1
  generalize fewestI ⟨n, 0, 0, 1⟩ = fb at CB hb1 hb2 hb3 hl2
  generalize infoI n = fi at CH CI
  replace CA := Lib.hid CA
  replace CB := Lib.hid CB
  replace CH := Lib.hid CH
  have CM2 := Lib.hid (fun V => implMostUnknownE fa false V)
  have CM3 := Lib.hid (fun V => implMostUnknownE (fa - 1) false V)
  have CM4 := Lib.hid (fun V => implMostUnknownE fb true V)
  have CM5 := Lib.hid (fun V => implMostUnknownE (fb - 1) true V)
  generalize mostI fa false = m2 at CM2 hA1
  generalize mostI (fa - 1) false = m3 at CM3 hA1
  generalize mostI fb true = m4 at CM4 hb2
  generalize mostI (fb - 1) true = m5 at CM5 hb3
  clear hsn hh HCL
  refine (CA.out _).mono ?_
  rintro e w2 ⟨rfl, bb⟩
  have B2 := Lib.hid (below_up B1.out bb)
  clear bb B1 CA
  go_wp2_with fail
  refine (CB.out _).mono ?_
  rintro e w3 ⟨rfl, bb⟩
  have B3 := Lib.hid (below_up B2.out bb)
  clear bb B2 CB
  go_wp2_with fail
  refine (CH.out _).mono ?_
  rintro e w4 ⟨rfl, bb⟩
  have B4 := Lib.hid (below_up B3.out bb)
  clear bb B3 CH
  by_cases hn3 : n < 3
  · obtain rfl := hA2 hn3
    clear hA1 hA2 hl1 CM2 CM3
    go_wp2_with fail
    refine (CM4.out _).mono ?_
    rintro e w8 ⟨rfl, rfl⟩
    go_wp2_with fail
    refine (CM5.out _).mono ?_
    rintro e w8 ⟨rfl, rfl⟩
    go_wp2_with fail
    refine (CI.out _).mono ?_
    rintro e w8 ⟨rfl, rfl⟩
    go_wp2_with fail
    refine (CS.out _ B4.out).mono ?_
    rintro e w8 ⟨rfl, bb⟩
    have B8 := Lib.hid (below_up B4.out bb)
    clear bb
    go_wp2
    go_ret
    exact ⟨rfl, B8.out⟩
  · obtain ⟨a1, a2, a3⟩ := hA1 (by omega)
    clear hA1 hA2
    go_wp2_with fail
    refine (CM2.out _).mono ?_
    rintro e w8 ⟨rfl, rfl⟩
    go_wp2_with fail
    refine (CM3.out _).mono ?_
    rintro e w8 ⟨rfl, rfl⟩
    go_wp2_with fail
    refine (CM4.out _).mono ?_
    rintro e w8 ⟨rfl, rfl⟩
    go_wp2_with fail
    refine (CM5.out _).mono ?_
    rintro e w8 ⟨rfl, rfl⟩
    go_wp2_with fail
    refine (CI.out _).mono ?_
    rintro e w8 ⟨rfl, rfl⟩
    go_wp2_with fail
    refine (CS.out _ B4.out).mono ?_
    rintro e w8 ⟨rfl, bb⟩
    have B8 := Lib.hid (below_up B4.out bb)
    clear bb
    go_wp2
    go_ret
    exact ⟨rfl, B8.out⟩
end Go.Proofs.YtlflblngbneacabDoor
