/- The walk of the law of FormatWeighing round the contract of the program's function: it returns true for every argument. Conditions: the sides that came in read as integers; the library's table of powers of ten is as its text lays it. -/
import Derived.Test.YtlflblngbneacabDoorWeighLaw
import Derived.Test.YtlflblngbneacabDoorFmtWeighSpec
namespace Go.Proofs.YtlflblngbneacabDoor
open Go.RowKit

/-- The contract of a function that writes a weighing as text. -/
def FmtIs (f : FuncId) (L R : List Int) : Prop :=
  ∀ W vl vr, IntsAt W vl L → IntsAt W vr R → TabOk W → Calls Tryd.prog f #[.agg #[vl, vr]] W fun e w' => e = .returned (.string (weighT L R)) ∧ Below W.heap.size W w'

set_option maxHeartbeats 1600000 in
theorem lawFormatWeighing (IM : ∀ (L R : List Int), L.length ≤ 1048576 → R.length ≤ 1048576 → (∀ x ∈ L, (Lit.int .i64 x).wf = true) → (∀ x ∈ R, (Lit.int .i64 x).wf = true) → FmtIs 55 L R)
    (w : World) (vl : Value) (L : List Int) (cl : CameInts w vl L) (vr : Value) (R : List Int) (cr : CameInts w vr R) (ht : TabOk w) :
    Calls Tryd.prog 10 #[.agg #[vl, vr]] w fun e w' => e = .returned (.bool true) ∧ Below w.heap.size w w' := by
  have HT := Lib.hid ht
  clear ht
  obtain ⟨hl, ml, wl⟩ := cl
  obtain ⟨hr, mr, wr⟩ := cr
  have J0 := Lib.hid (In.new 75 hl hr)
  have hsz := Lib.hid (fun W h h' => szWeigh vl vr L R 1048576 W h h' ml mr (by omega) (by omega))
  generalize hX1 : w.alloc (.cells #[vl, vr] 75) = X1 at J0
  clear hl hr
  obtain ⟨e0, e1, -⟩ := J0.out.two
  go_enter Tryd.func10, Tryd.ntmps10
  go_wp2_with fail
  clear e0 e1
  refine (hsz.out _ J0.out.left J0.out.right).mono ?_
  rintro e w1 ⟨r, rfl, hr, b1⟩
  have J1 := Lib.hid (J0.out.below b1)
  clear b1 hX1
  by_cases hneg : r < 0
  · go_wp2
    go_ret
    exact ⟨rfl, J1.out.bel⟩
  · obtain ⟨r0, r1, hlen⟩ : 0 ≤ r ∧ r ≤ 1048576 ∧ (L.length : Int) + (R.length : Int) ≤ 1048576 := by
      rcases hr with h | h
      · omega
      · exact h
    have T := Lib.hid (fun W h h' => toWeigh vl vr L R W h h' (by omega) (by omega))
    have SP := Lib.hid (fun W ul ur h h' => specFmtWeigh ul ur L R W h h' (by omega) (by omega))
    have IP := Lib.hid (IM L R (by omega) (by omega) wl wr)
    have EQ := Lib.hid (fun W a b c d h1 h2 h3 h4 => eqWeigh_same a b c d L R W h1 h2 h3 h4 (by omega) (by omega))
    unfold FmtIs at IP
    generalize weighT L R = t at SP IP
    clear hr ml mr hlen r1 wl wr
    obtain ⟨e0, e1, -⟩ := J1.out.two
    go_wp2_with fail
    clear e0 e1
    refine (T.out _ J1.out.left J1.out.right).mono ?_
    rintro e w2 ⟨_, rfl, ⟨ul, ur, rfl, A1, A2, -, -, -⟩, b2⟩
    have J2 := Lib.hid (J1.out.below b2)
    have G1 := Lib.hid A1.reads
    have G2 := Lib.hid A2.reads
    clear A1 A2 b2
    go_wp2_with fail
    refine (SP.out _ _ _ G1.out G2.out).mono ?_
    rintro e w3 ⟨rfl, b3⟩
    have J3 := Lib.hid (J2.out.below b3)
    clear b3
    obtain ⟨e0, e1, -⟩ := J3.out.two
    go_wp2_with fail
    clear e0 e1
    refine (T.out _ J3.out.left J3.out.right).mono ?_
    rintro e w4 ⟨_, rfl, ⟨xl, xr, rfl, A1, A2, -, D1, D2⟩, b4⟩
    obtain ⟨xg, xn, xc, rfl⟩ := D1
    obtain ⟨yg, yn, yc, rfl⟩ := D2
    have J4 := Lib.hid ((J3.out.below b4).below (alloc_below w4 (.cells #[.slice (some ⟨xg, 0, none⟩) xn xc, .slice (some ⟨yg, 0, none⟩) yn yc] 40)))
    have F1 := Lib.hid (A1.reads.below (alloc_below w4 (.cells #[.slice (some ⟨xg, 0, none⟩) xn xc, .slice (some ⟨yg, 0, none⟩) yn yc] 40)))
    have F2 := Lib.hid (A2.reads.below (alloc_below w4 (.cells #[.slice (some ⟨xg, 0, none⟩) xn xc, .slice (some ⟨yg, 0, none⟩) yn yc] 40)))
    have V4 := Lib.hid (TwoAt.new w4 40 (.slice (some ⟨xg, 0, none⟩) xn xc) (.slice (some ⟨yg, 0, none⟩) yn yc))
    clear A1 A2 b4
    generalize hX5 : w4.alloc (.cells #[.slice (some ⟨xg, 0, none⟩) xn xc, .slice (some ⟨yg, 0, none⟩) yn yc] 40) = X5 at J4 F1 F2 V4
    obtain ⟨e2, e3, -⟩ := V4.out
    go_wp2_with fail
    clear e2 e3
    refine (IP.out _ _ _ F1.out F2.out (HT.out.below J4.out.bel)).mono ?_
    rintro e w6 ⟨rfl, b6⟩
    have J6 := Lib.hid (J4.out.below b6)
    have G6 := Lib.hid (F1.out.below b6)
    have H6 := Lib.hid (F2.out.below b6)
    have V6 := Lib.hid (V4.out.below b6)
    clear b6 hX5
    obtain ⟨e0, e1, -⟩ := J6.out.two
    obtain ⟨e2, e3, -⟩ := V6.out
    generalize w4.heap.size = b at V6 e2 e3 ⊢
    all_goals
      go_wp2_with fail
      first | (go_region_held3 (fun w' => (w'.cell? ⟨w.heap.size, 0, none⟩ = some vl ∧ w'.cell? ⟨w.heap.size, 1, none⟩ = some vr ∧ w.heap.size < w'.heap.size) ∧ (w'.cell? ⟨b, 0, none⟩ = some (.slice (some ⟨xg, 0, none⟩) xn xc) ∧ w'.cell? ⟨b, 1, none⟩ = some (.slice (some ⟨yg, 0, none⟩) yn yc) ∧ b < w'.heap.size))
        (first | exact ⟨J8.out.two, V8.out⟩ | exact ⟨J7.out.two, V7.out⟩ | exact ⟨J6.out.two.drewT, V6.out.drewT⟩)
        (first
          | (go_at_call 54; refine (T.out _ J6.out.left.drewT J6.out.right.drewT).mono ?_; rintro e w7 ⟨_, rfl, ⟨zl, zr, rfl, A1, A2, -, -, -⟩, b7⟩; have J7 := Lib.hid (J6.out.below ((Below.refl _ _).drew.trans b7)); have V7 := Lib.hid (V6.out.drewT.below b7); have G7 := Lib.hid (G6.out.drewT.below b7); have H7 := Lib.hid (H6.out.drewT.below b7); have Z1 := Lib.hid A1.reads; have Z2 := Lib.hid A2.reads; clear A1 A2 b7)
          | (go_at_call 56; refine (EQ.out _ _ _ _ _ G7.out H7.out Z1.out Z2.out).mono ?_; rintro e w8 ⟨rfl, b8⟩; have J8 := Lib.hid (J7.out.below b8); have V8 := Lib.hid (V7.out.below b8); clear b8)
          | fail)) | fail
      go_wp2
      go_ret
      exact ⟨rfl, J8.out.bel⟩
end Go.Proofs.YtlflblngbneacabDoor
