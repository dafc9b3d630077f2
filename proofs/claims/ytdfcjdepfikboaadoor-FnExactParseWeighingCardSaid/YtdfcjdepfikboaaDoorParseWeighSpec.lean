/- The contract of the model's ParseWeighing: it returns the weighing whose text is given, or none. Condition: the text has at most 1048576 bytes. -/
import Derived.Test.YtdfcjdepfikboaaDoorWeighText
namespace Go.Proofs.YtdfcjdepfikboaaDoor
open Go.RowKit

/-- What a function that reads a weighing ends with: both sides are lists of the call's own, in different blocks. -/
def ParsesW (s : ByteArray) (w : World) (e : Ending) (w' : World) : Prop :=
  ∃ vl vr b L R, e = .returned (.tuple #[.agg #[vl, vr], .bool b]) ∧ IsW s L R b ∧ Own w' w.heap.size vl L ∧ Own w' w.heap.size vr R ∧ Sep vl vr ∧ Below w.heap.size w w'

theorem two_sizes {s p0 p1 : ByteArray} (h : parts s (isBy colon) = [p0, p1]) : p0.size + 1 + p1.size = s.size := by
  have := congrArg List.length (parts_join 58 s)
  show _
  have h' : parts s (isBy (sepC 58)) = [p0, p1] := h
  rw [h'] at this
  simp only [List.map_cons, List.map_nil] at this
  rw [join_twoC, Lib.join_one] at this
  simp at this
  omega

theorem isL_len {ps : List ByteArray} {l : List Int} {b : Bool} (h : IsL ps l b) : l.length ≤ ps.length := by
  rcases h with ⟨_, _, h⟩ | ⟨_, rfl, _⟩
  · rw [h]; simp
  · simp
theorem isL_in {ps : List ByteArray} {l : List Int} {b : Bool} (h : IsL ps l b) : ∀ x ∈ l, inR x := by
  rcases h with ⟨_, h, _⟩ | ⟨_, rfl, _⟩
  · exact h
  · simp

set_option maxHeartbeats 3200000 in
theorem specParseWeigh (s : ByteArray) (w : World) (hs : s.size ≤ 1048576) : Calls Tryd.prog 10 #[.string s] w (ParsesW s w) := by
  have SPL := Lib.hid (fun W => specSplit s colon W hs (by decide))
  unfold Splits at SPL
  have P0 := Lib.hid (VarAt.new w 27 (.slice none 0 0) (.slice none 0 0))
  have B0 := Lib.hid (alloc_below w (.cells #[.slice none 0 0, .slice none 0 0] 27))
  generalize hX0 : w.alloc (.cells #[.slice none 0 0, .slice none 0 0] 27) = X0 at P0 B0
  have s0 : Hid (X0.heap.size = w.heap.size + 1) := by unfold Hid; rw [← hX0]; simp
  by_cases hl : (parts s (isBy colon)).length = 2
  · obtain ⟨p0, p1, hp⟩ : ∃ p0 p1, parts s (isBy colon) = [p0, p1] := by
      match h : parts s (isBy colon), hl with
      | [p0, p1], _ => exact ⟨p0, p1, rfl⟩
    have hz := two_sizes hp
    have HP := Lib.hid hp
    have C0 := Lib.hid (fun W => specReadL p0 W (by omega))
    have C1 := Lib.hid (fun W => specReadL p1 W (by omega))
    unfold ReadsL at C0 C1
    have L0 := Lib.hid (show (parts p0 (isBy comma)).length ≤ 1048576 by have := (parts_length p0 (isBy comma)).2; omega)
    have L1 := Lib.hid (show (parts p1 (isBy comma)).length ≤ 1048576 by have := (parts_length p1 (isBy comma)).2; omega)
    rw [hp] at SPL
    clear hl hp hz
    go_enter Tryd.func10, Tryd.ntmps10
    go_wp2_with fail
    refine (SPL.out X0).mono ?_
    rintro e w1 ⟨vp, rfl, OP, b1⟩
    have SP := StrsAt.of_owns OP
    have P1 := Lib.hid (P0.out.below b1)
    have B1 := Lib.hid (below_up B0.out b1)
    have S1 : Hid (w.heap.size + 1 ≤ w1.heap.size) := by unfold Hid; rw [← s0.out]; exact b1.size
    clear OP b1 hX0
    obtain ⟨ap, cp, rfl, hc⟩ := SP
    rcases hc with hc | ⟨bp, op, rfl, hc⟩
    · cases hc
    have e0 : w1.cell? ⟨bp, op, none⟩ = some (.string p0) := hc 0 (by simp)
    have e1 : w1.cell? ⟨bp, op + 1, none⟩ = some (.string p1) := hc 1 (by simp)
    have hbp : bp < w1.heap.size := World.block_lt_of_cell? w1 _ e0
    have E1 : Hid (∀ W, Below w1.heap.size w1 W → W.cell? ⟨bp, op + 1, none⟩ = some (.string p1)) := fun W h => by rw [h.cell (p := ⟨bp, op + 1, none⟩) hbp]; exact e1
    clear hc e1 hbp
    go_wp2_with fail
    clear e0
    refine (C0.out _).mono ?_
    rintro e w2 ⟨v0, one, la, rfl, A0, O0, b2⟩
    have e1 := E1.out _ b2
    have P2 := Lib.hid (P1.out.below b2)
    have B2 := Lib.hid (below_up B1.out b2)
    have S2 : Hid (w1.heap.size ≤ w2.heap.size) := b2.size
    obtain ⟨f1, n1, c1, rfl⟩ := O0.form
    have Q0 := Lib.hid O0
    have I0 := Lib.hid A0
    clear O0 A0 b2
    go_wp2_with fail
    clear e1
    refine (C1.out _).mono ?_
    rintro e w3 ⟨v1, two, lb, rfl, A1, O1, b3⟩
    obtain ⟨f2, n2, c2, rfl⟩ := O1.form
    have I1 := Lib.hid A1
    have al := alloc_below w3 (.cells #[.slice f1 n1 c1, .slice f2 n2 c2] 27)
    have P3 := Lib.hid ((P2.out.below b3).below al)
    have B3 := Lib.hid (below_up (below_up B2.out b3) al)
    have Q1 := Lib.hid ((Q0.out.below b3).below al)
    have R1 := Lib.hid (O1.below al)
    have SE : Hid (Sep (.slice f1 n1 c1) (.slice f2 n2 c2)) := fun k h h' => by
      have a1 := (Q0.out.blk k h).2
      have a2 := (O1.blk k h').1
      omega
    have T3 := Lib.hid (TwoAt.new w3 27 (.slice f1 n1 c1) (.slice f2 n2 c2))
    have S3 : Hid (w2.heap.size ≤ w3.heap.size) := b3.size
    clear A1 O1 b3 al
    generalize hX3 : w3.alloc (.cells #[.slice f1 n1 c1, .slice f2 n2 c2] 27) = X3 at P3 B3 Q1 R1 T3
    have F := Lib.hid (specFmtWeigh (.slice f1 n1 c1) (.slice f2 n2 c2) la lb X3 Q1.out.reads R1.out.reads (Nat.le_trans (isL_len I0.out) L0.out) (Nat.le_trans (isL_len I1.out) L1.out))
    have HD := Lib.hid (isW_read HP.out I0.out I1.out)
    generalize weighT la lb = t at F HD
    obtain ⟨e2, e3, -⟩ := T3.out
    obtain ⟨⟨z0, z1, z2⟩, g0, g1⟩ := P3.out
    cases one with
    | false =>
      have HE := Lib.hid (HD.out.2 (by simp))
      have q0 : (X3.setCell ⟨w.heap.size, 0, none⟩ (.slice none 0 0)).cell? ⟨w.heap.size, 1, none⟩ = some (.slice none 0 0) := (P3.out.set0 _).1.2.1
      go_wp2
      generalize hU : (X3.setCell ⟨w.heap.size, 0, none⟩ (.slice none 0 0)).setCell ⟨w.heap.size, 1, none⟩ (.slice none 0 0) = U
      have V1 : VarAt U w.heap.size (.slice none 0 0) (.slice none 0 0) := by rw [← hU]; exact (P3.out.set0 _).set1 _
      have BU : Below w.heap.size w U := by rw [← hU]; exact (B3.out.setCell (p := ⟨w.heap.size, 0, none⟩) (Nat.le_refl _) _).setCell (p := ⟨w.heap.size, 1, none⟩) (Nat.le_refl _) _
      obtain ⟨⟨u0, u1, -⟩, -, -⟩ := V1
      refine bodyPost_ret (v := .tuple #[.agg #[.slice none 0 0, .slice none 0 0], .bool false]) (by simp [results, Tryd.results10, go_sem, u0, u1]) rfl ⟨_, _, false, [], [], rfl, HE.out, Own.nil _ _, Own.nil _ _, Sep.nil _, BU⟩
    | true =>
      cases two with
      | false =>
        have HE := Lib.hid (HD.out.2 (by simp))
        have q0 : (X3.setCell ⟨w.heap.size, 0, none⟩ (.slice none 0 0)).cell? ⟨w.heap.size, 1, none⟩ = some (.slice none 0 0) := (P3.out.set0 _).1.2.1
        go_wp2
        generalize hU : (X3.setCell ⟨w.heap.size, 0, none⟩ (.slice none 0 0)).setCell ⟨w.heap.size, 1, none⟩ (.slice none 0 0) = U
        have V1 : VarAt U w.heap.size (.slice none 0 0) (.slice none 0 0) := by rw [← hU]; exact (P3.out.set0 _).set1 _
        have BU : Below w.heap.size w U := by rw [← hU]; exact (B3.out.setCell (p := ⟨w.heap.size, 0, none⟩) (Nat.le_refl _) _).setCell (p := ⟨w.heap.size, 1, none⟩) (Nat.le_refl _) _
        obtain ⟨⟨u0, u1, -⟩, -, -⟩ := V1
        refine bodyPost_ret (v := .tuple #[.agg #[.slice none 0 0, .slice none 0 0], .bool false]) (by simp [results, Tryd.results10, go_sem, u0, u1]) rfl ⟨_, _, false, [], [], rfl, HE.out, Own.nil _ _, Own.nil _ _, Sep.nil _, BU⟩
      | true =>
        cases hcmp : (t.toList == s.toList) with
        | false =>
          have HE := Lib.hid (HD.out.2 (fun h => by rw [h.2] at hcmp; simp at hcmp))
          clear HD
          go_wp2_with fail
          clear e2 e3 z0 z1 z2 g0 g1
          refine F.out.mono ?_
          rintro e w4 ⟨rfl, b4⟩
          have P4 := Lib.hid (P3.out.below b4)
          have B4 := Lib.hid (below_up B3.out b4)
          clear b4
          obtain ⟨⟨z0, z1, z2⟩, g0, g1⟩ := P4.out
          have q0 : (w4.setCell ⟨w.heap.size, 0, none⟩ (.slice none 0 0)).cell? ⟨w.heap.size, 1, none⟩ = some (.slice none 0 0) := (P4.out.set0 _).1.2.1
          go_wp2
          generalize hU : (w4.setCell ⟨w.heap.size, 0, none⟩ (.slice none 0 0)).setCell ⟨w.heap.size, 1, none⟩ (.slice none 0 0) = U
          have V1 : VarAt U w.heap.size (.slice none 0 0) (.slice none 0 0) := by rw [← hU]; exact (P4.out.set0 _).set1 _
          have BU : Below w.heap.size w U := by rw [← hU]; exact (B4.out.setCell (p := ⟨w.heap.size, 0, none⟩) (Nat.le_refl _) _).setCell (p := ⟨w.heap.size, 1, none⟩) (Nat.le_refl _) _
          obtain ⟨⟨u0, u1, -⟩, -, -⟩ := V1
          refine bodyPost_ret (v := .tuple #[.agg #[.slice none 0 0, .slice none 0 0], .bool false]) (by simp [results, Tryd.results10, go_sem, u0, u1]) rfl ⟨_, _, false, [], [], rfl, HE.out, Own.nil _ _, Own.nil _ _, Sep.nil _, BU⟩
        | true =>
          have HE := Lib.hid (HD.out.1 ⟨rfl, toList_inj (by have := eq_of_beq hcmp; rwa [ByteArray.toList_eq, ByteArray.toList_eq] at this)⟩)
          clear HD
          go_wp2_with fail
          clear e2 e3 z0 z1 z2 g0 g1
          refine F.out.mono ?_
          rintro e w4 ⟨rfl, b4⟩
          have P4 := Lib.hid (P3.out.below b4)
          have B4 := Lib.hid (below_up B3.out b4)
          have T4 := Lib.hid (T3.out.below b4)
          have Q4 := Lib.hid (Q1.out.below b4)
          have R4 := Lib.hid (R1.out.below b4)
          clear b4
          obtain ⟨⟨z0, z1, z2⟩, g0, g1⟩ := P4.out
          obtain ⟨e2, e3, -⟩ := T4.out
          have q0 : (w4.setCell ⟨w.heap.size, 0, none⟩ (.slice f1 n1 c1)).cell? ⟨w.heap.size, 1, none⟩ = some (.slice none 0 0) := (P4.out.set0 _).1.2.1
          go_wp2
          generalize hU : (w4.setCell ⟨w.heap.size, 0, none⟩ (.slice f1 n1 c1)).setCell ⟨w.heap.size, 1, none⟩ (.slice f2 n2 c2) = U
          have V1 : VarAt U w.heap.size (.slice f1 n1 c1) (.slice f2 n2 c2) := by rw [← hU]; exact (P4.out.set0 _).set1 _
          have BU : Below w.heap.size w U := by rw [← hU]; exact (B4.out.setCell (p := ⟨w.heap.size, 0, none⟩) (Nat.le_refl _) _).setCell (p := ⟨w.heap.size, 1, none⟩) (Nat.le_refl _) _
          have HS1 := S1.out
          have HS2 := S2.out
          have QU : Own U w1.heap.size (.slice f1 n1 c1) la := by rw [← hU]; exact (Q4.out.setCell (by omega) _).setCell (by omega) _
          have RU : Own U w2.heap.size (.slice f2 n2 c2) lb := by rw [← hU]; exact (R4.out.setCell (by omega) _).setCell (by omega) _
          obtain ⟨⟨u0, u1, -⟩, -, -⟩ := V1
          refine bodyPost_ret (v := .tuple #[.agg #[.slice f1 n1 c1, .slice f2 n2 c2], .bool true]) (by simp [results, Tryd.results10, go_sem, u0, u1]) rfl ⟨_, _, true, la, lb, rfl, HE.out, QU.lower (by omega), RU.lower (by omega), SE.out, BU⟩
  · have HE := Lib.hid (isW_two hl)
    have hlen := Lib.hid hl
    obtain ⟨m, hm⟩ : ∃ m, (parts s (isBy colon)).length = m := ⟨_, rfl⟩
    have hml := (parts_length s (isBy colon)).2
    rw [hm] at hl hml SPL
    have hne : ((m : Int) == 2) = false := beq_eq_false_iff_ne.2 (by omega)
    clear hl hlen
    go_enter Tryd.func10, Tryd.ntmps10
    go_wp2_with fail
    refine (SPL.out X0).mono ?_
    rintro e w1 ⟨vp, rfl, OP, b1⟩
    have P1 := Lib.hid (P0.out.below b1)
    have B1 := Lib.hid (below_up B0.out b1)
    obtain ⟨ap, cp, rfl⟩ : ∃ a c, vp = .slice a m c := by
      rcases OP.2 with ⟨h, h0⟩ | ⟨g, c, cur, h, _⟩
      · exact ⟨none, 0, by rw [h, h0]⟩
      · exact ⟨_, c, h⟩
    clear OP b1 hX0 hm
    obtain ⟨⟨z0, z1, z2⟩, g0, g1⟩ := P1.out
    have q0 : (w1.setCell ⟨w.heap.size, 0, none⟩ (.slice none 0 0)).cell? ⟨w.heap.size, 1, none⟩ = some (.slice none 0 0) := (P1.out.set0 _).1.2.1
    go_wp2
    generalize hU : (w1.setCell ⟨w.heap.size, 0, none⟩ (.slice none 0 0)).setCell ⟨w.heap.size, 1, none⟩ (.slice none 0 0) = U
    have V1 : VarAt U w.heap.size (.slice none 0 0) (.slice none 0 0) := by rw [← hU]; exact (P1.out.set0 _).set1 _
    have BU : Below w.heap.size w U := by rw [← hU]; exact (B1.out.setCell (p := ⟨w.heap.size, 0, none⟩) (Nat.le_refl _) _).setCell (p := ⟨w.heap.size, 1, none⟩) (Nat.le_refl _) _
    obtain ⟨⟨u0, u1, -⟩, -, -⟩ := V1
    refine bodyPost_ret (v := .tuple #[.agg #[.slice none 0 0, .slice none 0 0], .bool false]) (by simp [results, Tryd.results10, go_sem, u0, u1]) rfl ⟨_, _, false, [], [], rfl, HE.out, Own.nil _ _, Own.nil _ _, Sep.nil _, BU⟩
end Go.Proofs.YtdfcjdepfikboaaDoor
