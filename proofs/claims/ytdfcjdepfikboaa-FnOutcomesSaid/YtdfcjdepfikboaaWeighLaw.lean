/- The walks of the laws of WeighingOk and OutcomeOf round the contracts of the program's functions: each law returns true for every argument. Condition: the sides that came in read as integers. -/
import Derived.Test.YtdfcjdepfikboaaOutSpec
namespace Go.Proofs.Ytdfcjdepfikboaa
open Go.RowKit

theorem range_of {n : Int} (h : (Lit.int .i64 n).wf = true) : -9223372036854775808 ≤ n ∧ n ≤ 9223372036854775807 := by
  simpa [Lit.wf, IntKind.min, IntKind.max, IntKind.signed, IntKind.bits] using h

/-- In the world W the weighing that came in at the world w lies in the law's own variable and reads as L and R. -/
structure In (w W : World) (vl vr : Value) (L R : List Int) : Prop where
  two : TwoAt W w.heap.size vl vr
  left : IntsAt W vl L
  right : IntsAt W vr R
  bel : Below w.heap.size w W
theorem In.below {w W W' : World} {vl vr : Value} {L R : List Int} (h : In w W vl vr L R) (hb : Below W.heap.size W W') : In w W' vl vr L R := ⟨h.two.below hb, h.left.below hb, h.right.below hb, below_up h.bel hb⟩
theorem In.new {w : World} {vl vr : Value} {L R : List Int} (ty : TypeId) (hl : IntsAt w vl L) (hr : IntsAt w vr R) : In w (w.alloc (.cells #[vl, vr] ty)) vl vr L R :=
  ⟨TwoAt.new w ty vl vr, hl.below (alloc_below _ _), hr.below (alloc_below _ _), alloc_below _ _⟩
theorem TwoAt.drewT {X : World} {b : Nat} {x y : Value} (hp : TwoAt X b x y) : TwoAt X.drew b x y := hp.below ((Below.refl _ _).drew)
theorem IntsAt.drewT {w : World} {v : Value} {l : List Int} (h : IntsAt w v l) : IntsAt w.drew v l := h.below ((Below.refl _ _).drew)

/-- The contract of a function that tells whether a weighing is valid. -/
def OkIs (f : FuncId) (L R : List Int) (n : Int) : Prop :=
  ∀ W vl vr, IntsAt W vl L → IntsAt W vr R → Calls Try.prog f #[.agg #[vl, vr], .int .i64 n] W fun e w' => e = .returned (.bool (weighB L R n)) ∧ Below W.heap.size W w'

set_option maxHeartbeats 1600000 in
theorem lawWeighingOk (IM : ∀ (L R : List Int) (n : Int), L.length ≤ 1048576 → R.length ≤ 1048576 → -9223372036854775808 ≤ n → n ≤ 9223372036854775807 → OkIs 12 L R n)
    (w : World) (vl : Value) (L : List Int) (cl : CameInts w vl L) (vr : Value) (R : List Int) (cr : CameInts w vr R) (n : Int) (wn : (Lit.int .i64 n).wf = true) :
    Calls Try.prog 4 #[.agg #[vl, vr], .int .i64 n] w fun e w' => e = .returned (.bool true) ∧ Below w.heap.size w w' := by
  obtain ⟨n0, n1⟩ := range_of wn
  obtain ⟨hl, ml, -⟩ := cl
  obtain ⟨hr, mr, -⟩ := cr
  have J0 := Lib.hid (In.new 33 hl hr)
  have hsz := Lib.hid (fun W h h' => szWeigh vl vr L R 1048576 W h h' ml mr (by omega) (by omega))
  generalize hX1 : w.alloc (.cells #[vl, vr] 33) = X1 at J0
  clear hl hr
  obtain ⟨e0, e1, -⟩ := J0.out.two
  go_enter Try.func4, Try.ntmps4
  go_wp2_with fail
  clear e0 e1
  refine (hsz.out _ J0.out.left J0.out.right).mono ?_
  rintro e w1 ⟨r, rfl, hr, b1⟩
  have J1 := Lib.hid (J0.out.below b1)
  clear b1 hX1
  by_cases hneg : r < 0
  · go_wp2
    go_ret
    exact ⟨rfl, J1.out.bel⟩
  · obtain ⟨r0, r1, hlen⟩ : 0 ≤ r ∧ r ≤ 1048576 ∧ (L.length : Int) + (R.length : Int) ≤ 1048576 := by
      rcases hr with h | h
      · omega
      · exact h
    have T := Lib.hid (fun W h h' => toWeigh vl vr L R W h h' (by omega) (by omega))
    have SP := Lib.hid (fun W ul ur h h' => specWeighingOk ul ur L R n W h h' (by omega) (by omega))
    have IP := Lib.hid (IM L R n (by omega) (by omega) n0 n1)
    have EQ := Lib.hid (fun W a b c d h1 h2 h3 h4 => eqWeigh_same a b c d L R W h1 h2 h3 h4 (by omega) (by omega))
    unfold OkIs at IP
    generalize weighB L R n = t at SP IP
    clear hr ml mr hlen r1
    obtain ⟨e0, e1, -⟩ := J1.out.two
    go_wp2_with fail
    clear e0 e1
    refine (T.out _ J1.out.left J1.out.right).mono ?_
    rintro e w2 ⟨_, rfl, ⟨ul, ur, rfl, A1, A2, -, -, -⟩, b2⟩
    have J2 := Lib.hid (J1.out.below b2)
    have G1 := Lib.hid A1.reads
    have G2 := Lib.hid A2.reads
    clear A1 A2 b2
    go_wp2_with fail
    refine (SP.out _ _ _ G1.out G2.out).mono ?_
    rintro e w3 ⟨rfl, b3⟩
    have J3 := Lib.hid (J2.out.below b3)
    clear b3
    obtain ⟨e0, e1, -⟩ := J3.out.two
    go_wp2_with fail
    clear e0 e1
    refine (T.out _ J3.out.left J3.out.right).mono ?_
    rintro e w4 ⟨_, rfl, ⟨xl, xr, rfl, A1, A2, -, D1, D2⟩, b4⟩
    obtain ⟨xg, xn, xc, rfl⟩ := D1
    obtain ⟨yg, yn, yc, rfl⟩ := D2
    have J4 := Lib.hid ((J3.out.below b4).below (alloc_below w4 (.cells #[.slice (some ⟨xg, 0, none⟩) xn xc, .slice (some ⟨yg, 0, none⟩) yn yc] 26)))
    have F1 := Lib.hid (A1.reads.below (alloc_below w4 (.cells #[.slice (some ⟨xg, 0, none⟩) xn xc, .slice (some ⟨yg, 0, none⟩) yn yc] 26)))
    have F2 := Lib.hid (A2.reads.below (alloc_below w4 (.cells #[.slice (some ⟨xg, 0, none⟩) xn xc, .slice (some ⟨yg, 0, none⟩) yn yc] 26)))
    have V4 := Lib.hid (TwoAt.new w4 26 (.slice (some ⟨xg, 0, none⟩) xn xc) (.slice (some ⟨yg, 0, none⟩) yn yc))
    clear A1 A2 b4
    generalize hX5 : w4.alloc (.cells #[.slice (some ⟨xg, 0, none⟩) xn xc, .slice (some ⟨yg, 0, none⟩) yn yc] 26) = X5 at J4 F1 F2 V4
    obtain ⟨e2, e3, -⟩ := V4.out
    go_wp2_with fail
    clear e2 e3
    refine (IP.out _ _ _ F1.out F2.out).mono ?_
    rintro e w6 ⟨rfl, b6⟩
    have J6 := Lib.hid (J4.out.below b6)
    have G6 := Lib.hid (F1.out.below b6)
    have H6 := Lib.hid (F2.out.below b6)
    have V6 := Lib.hid (V4.out.below b6)
    clear b6 hX5
    obtain ⟨e0, e1, -⟩ := J6.out.two
    obtain ⟨e2, e3, -⟩ := V6.out
    generalize w4.heap.size = b at V6 e2 e3 ⊢
    cases t
    all_goals
      go_wp2_with fail
      first | (go_region_held3 (fun w' => (w'.cell? ⟨w.heap.size, 0, none⟩ = some vl ∧ w'.cell? ⟨w.heap.size, 1, none⟩ = some vr ∧ w.heap.size < w'.heap.size) ∧ (w'.cell? ⟨b, 0, none⟩ = some (.slice (some ⟨xg, 0, none⟩) xn xc) ∧ w'.cell? ⟨b, 1, none⟩ = some (.slice (some ⟨yg, 0, none⟩) yn yc) ∧ b < w'.heap.size))
        (first | exact ⟨J8.out.two, V8.out⟩ | exact ⟨J7.out.two, V7.out⟩ | exact ⟨J6.out.two.drewT, V6.out.drewT⟩)
        (first
          | (go_at_call 17; refine (T.out _ J6.out.left.drewT J6.out.right.drewT).mono ?_; rintro e w7 ⟨_, rfl, ⟨zl, zr, rfl, A1, A2, -, -, -⟩, b7⟩; have J7 := Lib.hid (J6.out.below ((Below.refl _ _).drew.trans b7)); have V7 := Lib.hid (V6.out.drewT.below b7); have G7 := Lib.hid (G6.out.drewT.below b7); have H7 := Lib.hid (H6.out.drewT.below b7); have Z1 := Lib.hid A1.reads; have Z2 := Lib.hid A2.reads; clear A1 A2 b7)
          | (go_at_call 18; refine (EQ.out _ _ _ _ _ G7.out H7.out Z1.out Z2.out).mono ?_; rintro e w8 ⟨rfl, b8⟩; have J8 := Lib.hid (J7.out.below b8); have V8 := Lib.hid (V7.out.below b8); clear b8)
          | fail)) | fail
      go_wp2
      go_ret
      exact ⟨rfl, J8.out.bel⟩
/-- The contract of a function that tells the outcome of a weighing. -/
def OutIs (f : FuncId) (L R : List Int) (n : Int) : Prop :=
  ∀ W vl vr, IntsAt W vl L → IntsAt W vr R → Calls Try.prog f #[.agg #[vl, vr], .int .i64 n] W fun e w' => e = .returned (.int .i64 (outI L R n)) ∧ Below W.heap.size W w'

set_option maxHeartbeats 1600000 in
theorem lawOutcomeOf (IM : ∀ (L R : List Int) (n : Int), L.length ≤ 1048576 → R.length ≤ 1048576 → -9223372036854775808 ≤ n → n ≤ 9223372036854775807 → OutIs 13 L R n)
    (w : World) (vl : Value) (L : List Int) (cl : CameInts w vl L) (vr : Value) (R : List Int) (cr : CameInts w vr R) (n : Int) (wn : (Lit.int .i64 n).wf = true) :
    Calls Try.prog 5 #[.agg #[vl, vr], .int .i64 n] w fun e w' => e = .returned (.bool true) ∧ Below w.heap.size w w' := by
  obtain ⟨n0, n1⟩ := range_of wn
  obtain ⟨hl, ml, -⟩ := cl
  obtain ⟨hr, mr, -⟩ := cr
  have J0 := Lib.hid (In.new 33 hl hr)
  have hsz := Lib.hid (fun W h h' => szWeigh vl vr L R 1048576 W h h' ml mr (by omega) (by omega))
  generalize hX1 : w.alloc (.cells #[vl, vr] 33) = X1 at J0
  clear hl hr
  obtain ⟨e0, e1, -⟩ := J0.out.two
  go_enter Try.func5, Try.ntmps5
  go_wp2_with fail
  clear e0 e1
  refine (hsz.out _ J0.out.left J0.out.right).mono ?_
  rintro e w1 ⟨r, rfl, hr, b1⟩
  have J1 := Lib.hid (J0.out.below b1)
  clear b1 hX1
  by_cases hneg : r < 0
  · go_wp2
    go_ret
    exact ⟨rfl, J1.out.bel⟩
  · obtain ⟨r0, r1, hlen⟩ : 0 ≤ r ∧ r ≤ 1048576 ∧ (L.length : Int) + (R.length : Int) ≤ 1048576 := by
      rcases hr with h | h
      · omega
      · exact h
    have T := Lib.hid (fun W h h' => toWeigh vl vr L R W h h' (by omega) (by omega))
    have SP := Lib.hid (fun W ul ur h h' => specOutcome ul ur L R n W h h' (by omega) (by omega) n0 n1)
    have IP := Lib.hid (IM L R n (by omega) (by omega) n0 n1)
    have EQ := Lib.hid (fun W a b c d h1 h2 h3 h4 => eqWeigh_same a b c d L R W h1 h2 h3 h4 (by omega) (by omega))
    unfold OutIs at IP
    generalize outI L R n = t at SP IP
    clear hr ml mr hlen r1
    obtain ⟨e0, e1, -⟩ := J1.out.two
    go_wp2_with fail
    clear e0 e1
    refine (T.out _ J1.out.left J1.out.right).mono ?_
    rintro e w2 ⟨_, rfl, ⟨ul, ur, rfl, A1, A2, -, -, -⟩, b2⟩
    have J2 := Lib.hid (J1.out.below b2)
    have G1 := Lib.hid A1.reads
    have G2 := Lib.hid A2.reads
    clear A1 A2 b2
    go_wp2_with fail
    refine (SP.out _ _ _ G1.out G2.out).mono ?_
    rintro e w3 ⟨rfl, b3⟩
    have J3 := Lib.hid (J2.out.below b3)
    clear b3
    obtain ⟨e0, e1, -⟩ := J3.out.two
    go_wp2_with fail
    clear e0 e1
    refine (T.out _ J3.out.left J3.out.right).mono ?_
    rintro e w4 ⟨_, rfl, ⟨xl, xr, rfl, A1, A2, -, D1, D2⟩, b4⟩
    obtain ⟨xg, xn, xc, rfl⟩ := D1
    obtain ⟨yg, yn, yc, rfl⟩ := D2
    have J4 := Lib.hid ((J3.out.below b4).below (alloc_below w4 (.cells #[.slice (some ⟨xg, 0, none⟩) xn xc, .slice (some ⟨yg, 0, none⟩) yn yc] 26)))
    have F1 := Lib.hid (A1.reads.below (alloc_below w4 (.cells #[.slice (some ⟨xg, 0, none⟩) xn xc, .slice (some ⟨yg, 0, none⟩) yn yc] 26)))
    have F2 := Lib.hid (A2.reads.below (alloc_below w4 (.cells #[.slice (some ⟨xg, 0, none⟩) xn xc, .slice (some ⟨yg, 0, none⟩) yn yc] 26)))
    have V4 := Lib.hid (TwoAt.new w4 26 (.slice (some ⟨xg, 0, none⟩) xn xc) (.slice (some ⟨yg, 0, none⟩) yn yc))
    clear A1 A2 b4
    generalize hX5 : w4.alloc (.cells #[.slice (some ⟨xg, 0, none⟩) xn xc, .slice (some ⟨yg, 0, none⟩) yn yc] 26) = X5 at J4 F1 F2 V4
    obtain ⟨e2, e3, -⟩ := V4.out
    go_wp2_with fail
    clear e2 e3
    refine (IP.out _ _ _ F1.out F2.out).mono ?_
    rintro e w6 ⟨rfl, b6⟩
    have J6 := Lib.hid (J4.out.below b6)
    have G6 := Lib.hid (F1.out.below b6)
    have H6 := Lib.hid (F2.out.below b6)
    have V6 := Lib.hid (V4.out.below b6)
    clear b6 hX5
    obtain ⟨e0, e1, -⟩ := J6.out.two
    obtain ⟨e2, e3, -⟩ := V6.out
    generalize w4.heap.size = b at V6 e2 e3 ⊢
    all_goals
      go_wp2_with fail
      first | (go_region_held3 (fun w' => (w'.cell? ⟨w.heap.size, 0, none⟩ = some vl ∧ w'.cell? ⟨w.heap.size, 1, none⟩ = some vr ∧ w.heap.size < w'.heap.size) ∧ (w'.cell? ⟨b, 0, none⟩ = some (.slice (some ⟨xg, 0, none⟩) xn xc) ∧ w'.cell? ⟨b, 1, none⟩ = some (.slice (some ⟨yg, 0, none⟩) yn yc) ∧ b < w'.heap.size))
        (first | exact ⟨J8.out.two, V8.out⟩ | exact ⟨J7.out.two, V7.out⟩ | exact ⟨J6.out.two.drewT, V6.out.drewT⟩)
        (first
          | (go_at_call 17; refine (T.out _ J6.out.left.drewT J6.out.right.drewT).mono ?_; rintro e w7 ⟨_, rfl, ⟨zl, zr, rfl, A1, A2, -, -, -⟩, b7⟩; have J7 := Lib.hid (J6.out.below ((Below.refl _ _).drew.trans b7)); have V7 := Lib.hid (V6.out.drewT.below b7); have G7 := Lib.hid (G6.out.drewT.below b7); have H7 := Lib.hid (H6.out.drewT.below b7); have Z1 := Lib.hid A1.reads; have Z2 := Lib.hid A2.reads; clear A1 A2 b7)
          | (go_at_call 18; refine (EQ.out _ _ _ _ _ G7.out H7.out Z1.out Z2.out).mono ?_; rintro e w8 ⟨rfl, b8⟩; have J8 := Lib.hid (J7.out.below b8); have V8 := Lib.hid (V7.out.below b8); clear b8)
          | fail)) | fail
      go_wp2
      go_ret
      exact ⟨rfl, J8.out.bel⟩
end Go.Proofs.Ytdfcjdepfikboaa
