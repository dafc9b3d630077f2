/- The walk of the law of ParseWeighing round the contract of the program's function: it returns true for every text. Condition: a fact on the world that stays where nothing old is written, and that the contract asks. -/
import Derived.Test.YtdfcjdepfikboaaDoorTurnLaw
import Derived.Test.YtdfcjdepfikboaaDoorParseWeighSpec
import Derived.Test.YtdfcjdepfikboaaDoorOutPlain
namespace Go.Proofs.YtdfcjdepfikboaaDoor
open Go.RowKit

theorem isW_len {s : ByteArray} {L R : List Int} {b : Bool} (h : IsW s L R b) : L.length ≤ 13 ∧ R.length ≤ 13 := by
  rcases h with ⟨_, h, _⟩ | ⟨_, rfl, rfl, _⟩
  · unfold weighB at h
    simp only [Bool.and_eq_true, decide_eq_true_eq] at h
    obtain ⟨⟨⟨⟨_, h1⟩, h2⟩, _⟩, _⟩ := h
    constructor
    · rcases side_len h1 with h | rfl
      · omega
      · simp
    · rcases side_len h2 with h | rfl
      · omega
      · simp
  · simp

set_option maxHeartbeats 3200000 in
theorem lawParseWeighing (G : World → Prop) (hG : ∀ W W', G W → Below W.heap.size W W' → G W')
    (IM : ∀ (s : ByteArray) (W : World), s.size ≤ 1048576 → G W → Calls Tryd.prog 11 #[.string s] W (ParsesW s W))
    (a0 : ByteArray) (_w0 : a0.size ≤ maxLen) (w : World) (hg : G w) :
    Calls Tryd.prog 4 #[.string a0] w fun e w' => e = .returned (.bool true) ∧ Below w.heap.size w w' := by
  by_cases hb : (1048576 : Int) < (a0.size : Int)
  · go_enter Tryd.func4, Tryd.ntmps4
    go_wp2
    go_ret
    exact ⟨rfl, Below.refl _ _⟩
  have hs : a0.size ≤ 1048576 := by omega
  have SP := Lib.hid (fun W => specParseWeigh a0 W hs)
  have IP := Lib.hid (fun W h => IM a0 W hs h)
  have HG := Lib.hid hG
  have G0 := Lib.hid hg
  unfold ParsesW at SP IP
  clear IM hG hg hs
  go_enter Tryd.func4, Tryd.ntmps4
  go_wp2_with fail
  refine (SP.out _).mono ?_
  rintro e w1 ⟨v1, v2, ok, L, R, rfl, hW, O1, O2, S1, b1⟩
  obtain ⟨f1, n1, c1, rfl⟩ := O1.form
  obtain ⟨f2, n2, c2, rfl⟩ := O2.form
  have HW := Lib.hid hW
  have al := alloc_below w1 (.cells #[.slice f1 n1 c1, .slice f2 n2 c2] 27)
  have P1 := Lib.hid (Var.new 27 O1 O2 S1 b1.size)
  have B1 := Lib.hid (below_up b1 al)
  clear hW O1 O2 S1 b1 al
  generalize hX1 : w1.alloc (.cells #[.slice f1 n1 c1, .slice f2 n2 c2] 27) = X1 at P1 B1
  have s1 : Hid (X1.heap.size = w1.heap.size + 1) := by unfold Hid; rw [← hX1]; simp
  go_wp2_with fail
  refine (IP.out _ (HG.out _ _ G0.out B1.out)).mono ?_
  rintro e w2 ⟨v3, v4, ok', L', R', rfl, hW, O1, O2, S2, b2⟩
  obtain ⟨rfl, rfl, rfl⟩ := isW_unique HW.out hW
  obtain ⟨f3, n3, c3, rfl⟩ := O1.form
  obtain ⟨f4, n4, c4, rfl⟩ := O2.form
  obtain ⟨l1, l2⟩ := isW_len hW
  have al := alloc_below w2 (.cells #[.slice f3 n3 c3, .slice f4 n4 c4] 27)
  have V2 := Lib.hid (Var.new 27 O1 O2 S2 b2.size)
  have P2 := Lib.hid ((P1.out.below b2).below al)
  have B2 := Lib.hid (below_up (below_up B1.out b2) al)
  have Z2 := Lib.hid b2.size
  clear hW O1 O2 S2 b2 al hX1
  generalize hX2 : w2.alloc (.cells #[.slice f3 n3 c3, .slice f4 n4 c4] 27) = X2 at V2 P2 B2
  have EQ := Lib.hid (fun W a b c d h1 h2 h3 h4 => eqWeigh_same a b c d L R W h1 h2 h3 h4 (by omega) (by omega))
  have MK := Lib.hid (fun W B a b h1 h2 hs => markWeigh B B a b 1 L R W h1 h2 hs (by omega) (by omega) (by omega) (by omega))
  have HE := Lib.hid (fun W a b h1 h2 => heldWeigh a b 1 L.length R.length W h1 h2 (by omega) (by omega) (by omega) (by omega))
  obtain ⟨k1, hk1⟩ : ∃ k1, (1 : Int) + (L.length : Int) + (R.length : Int) = k1 := ⟨_, rfl⟩
  have p1 : 0 ≤ k1 := by omega
  rw [hk1] at MK HE
  clear l1 l2 hk1
  obtain ⟨e0, e1, -⟩ := V2.out.two
  obtain ⟨e2, e3, -⟩ := P2.out.two
  go_wp2_with fail
  clear e0 e1 e2 e3
  refine (EQ.out _ _ _ _ _ V2.out.left.reads V2.out.right.reads P2.out.left.reads P2.out.right.reads).mono ?_
  rintro e w3 ⟨rfl, b3⟩
  have V3 := Lib.hid (V2.out.below b3)
  have P3 := Lib.hid (P2.out.below b3)
  have B3 := Lib.hid (below_up B2.out b3)
  clear b3 hX2
  obtain ⟨e0, e1, -⟩ := V3.out.two
  have hok : (ok == ok) = true := by cases ok <;> rfl
  go_wp2_with fail
  clear e0 e1
  refine (MK.out _ _ _ _ V3.out.left V3.out.right V3.out.sep).mono ?_
  rintro e w4 ⟨rfl, A1, A2, O4⟩
  have hS := V3.out.sides
  have P4 := Lib.hid (P3.out.only O4 fun k hk => by have := hS k hk; have := s1.out; omega)
  have B4 := Lib.hid (B3.out.trans (O4.below B3.out.size fun k hk => by have := hS k hk; have := s1.out; have := P3.out.hb; have := P3.out.lh; omega))
  have V4 := Lib.hid (V3.out.marked O4 A1 A2)
  clear A1 A2 O4 hS
  obtain ⟨e0, e1, -⟩ := V4.out.two
  go_wp2_with fail
  clear e0 e1
  refine (HE.out _ _ _ V4.out.left.reads V4.out.right.reads).mono ?_
  rintro e w5 ⟨rfl, b5⟩
  have V5 := Lib.hid (V4.out.below b5)
  have P5 := Lib.hid (P4.out.below b5)
  have B5 := Lib.hid (below_up B4.out b5)
  clear b5
  go_wp2_with fail
  refine (IP.out _ (HG.out _ _ G0.out B5.out)).mono ?_
  rintro e w6 ⟨v5, v6, ok'', L'', R'', rfl, hW, O1, O2, S6, b6⟩
  obtain ⟨rfl, rfl, rfl⟩ := isW_unique HW.out hW
  obtain ⟨f5, n5, c5, rfl⟩ := O1.form
  obtain ⟨f6, n6, c6, rfl⟩ := O2.form
  have al := alloc_below w6 (.cells #[.slice f5 n5 c5, .slice f6 n6 c6] 27)
  have T6 := Lib.hid (Var.new 27 O1 O2 S6 b6.size)
  have V6 := Lib.hid ((V5.out.below b6).below al)
  have P6 := Lib.hid ((P5.out.below b6).below al)
  have B6 := Lib.hid (below_up (below_up B5.out b6) al)
  clear hW O1 O2 S6 b6 al
  generalize hX6 : w6.alloc (.cells #[.slice f5 n5 c5, .slice f6 n6 c6] 27) = X6 at T6 V6 P6 B6
  obtain ⟨e0, e1, -⟩ := T6.out.two
  obtain ⟨e2, e3, -⟩ := P6.out.two
  go_wp2_with fail
  clear e0 e1 e2 e3
  refine (EQ.out _ _ _ _ _ T6.out.left.reads T6.out.right.reads P6.out.left.reads P6.out.right.reads).mono ?_
  rintro e w7 ⟨rfl, b7⟩
  have V7 := Lib.hid (V6.out.below b7)
  have B7 := Lib.hid (below_up B6.out b7)
  clear b7 hX6
  obtain ⟨e0, e1, -⟩ := V7.out.two
  go_wp2_with fail
  clear e0 e1
  refine (HE.out _ _ _ V7.out.left.reads V7.out.right.reads).mono ?_
  rintro e w8 ⟨rfl, b8⟩
  have B8 := Lib.hid (below_up B7.out b8)
  clear b8
  go_wp2
  go_ret
  exact ⟨rfl, B8.out⟩
end Go.Proofs.YtdfcjdepfikboaaDoor
