/- The contract of the program's ParseWeighing, and the walk of its law: it returns the weighing whose text is given, or none. Conditions: the text has at most 1048576 bytes; strconv's table and errors are as the program's text lays them. -/
import Derived.Test.YtdfcjdepfikboaaDoorSidesImpl
import Derived.Test.YtdfcjdepfikboaaDoorReadImpl
import Derived.Test.YtdfcjdepfikboaaDoorParseWeighLaw
namespace Go.Proofs.YtdfcjdepfikboaaDoor
open Go.RowKit

/-- A text whose parts are read as lists is that of their weighing if it is valid. -/
theorem isW_valid {s p0 p1 : ByteArray} {a b : List Int} {one two : Bool} (hp : parts s (isBy colon) = [p0, p1]) (h0 : IsL (parts p0 (isBy comma)) a one) (h1 : IsL (parts p1 (isBy comma)) b two) :
    ((one && two) = true ∧ weighB a b 13 = true → IsW s a b true) ∧ (¬ ((one && two) = true ∧ weighB a b 13 = true) → IsW s [] [] false) := by
  have H := isW_read hp h0 h1
  have key : (one && two) = true → (weighT a b = s ↔ weighB a b 13 = true) := by
    intro ho
    constructor
    · intro h
      rcases H.1 ⟨ho, h⟩ with ⟨_, h, _⟩ | ⟨h, _⟩
      · exact h
      · cases h
    · intro h
      simp only [Bool.and_eq_true] at ho
      rcases h0 with ⟨_, _, e0⟩ | ⟨h0, _⟩
      · rcases h1 with ⟨_, _, e1⟩ | ⟨h1, _⟩
        · have j0 : (listB a).data.toList = p0.data.toList := by
            rw [listB_list, ← e0]; exact parts_join 44 p0
          have j1 : (listB b).data.toList = p1.data.toList := by
            rw [listB_list, ← e1]; exact parts_join 44 p1
          have js : Lib.join ((parts s (isBy colon)).map (·.data.toList)) [58] = s.data.toList := parts_join 58 s
          rw [hp] at js
          simp only [List.map_cons, List.map_nil] at js
          rw [join_twoC, Lib.join_one] at js
          refine bytes_eq ?_
          unfold weighT
          rw [if_pos h, ByteArray.data_append, ByteArray.data_append, Array.toList_append, Array.toList_append, j0, j1, ← js]
        · rw [h1] at ho; cases ho.2
      · rw [h0] at ho; cases ho.1
  constructor
  · rintro ⟨ho, h⟩
    exact H.1 ⟨ho, (key ho).2 h⟩
  · intro hn
    exact H.2 fun ⟨ho, h⟩ => hn ⟨ho, (key ho).1 h⟩

set_option maxRecDepth 100000 in
set_option maxHeartbeats 3200000 in
theorem implParseWeigh (s : ByteArray) (w : World) (hs : s.size ≤ 1048576) (ht : ParOk w) : Calls Tryd.prog 11 #[.string s] w (ParsesW s w) := by
  have HT0 := Lib.hid ht
  clear ht
  have SPL := Lib.hid (fun W => implSplit s colon W hs)
  unfold Splits at SPL
  have P0 := Lib.hid (VarAt.new w 27 (.slice none 0 0) (.slice none 0 0))
  have B0 := Lib.hid (alloc_below w (.cells #[.slice none 0 0, .slice none 0 0] 27))
  generalize hX0 : w.alloc (.cells #[.slice none 0 0, .slice none 0 0] 27) = X0 at P0 B0
  have s0 : Hid (X0.heap.size = w.heap.size + 1) := by unfold Hid; rw [← hX0]; simp
  by_cases hl : (parts s (isBy colon)).length = 2
  · obtain ⟨p0, p1, hp⟩ : ∃ p0 p1, parts s (isBy colon) = [p0, p1] := by
      match h : parts s (isBy colon), hl with
      | [p0, p1], _ => exact ⟨p0, p1, rfl⟩
    have hz := two_sizes hp
    have HP := Lib.hid hp
    have C0 := Lib.hid (fun W h => implReadL p0 W (by omega) h)
    have C1 := Lib.hid (fun W h => implReadL p1 W (by omega) h)
    unfold ReadsL at C0 C1
    have L0 := Lib.hid (show (parts p0 (isBy comma)).length ≤ 1048576 by have := (parts_length p0 (isBy comma)).2; omega)
    have L1 := Lib.hid (show (parts p1 (isBy comma)).length ≤ 1048576 by have := (parts_length p1 (isBy comma)).2; omega)
    rw [hp] at SPL
    clear hl hp hz
    go_enter Tryd.func11, Tryd.ntmps11
    go_wp2_with fail
    refine (SPL.out X0).mono ?_
    rintro e w1 ⟨vp, rfl, OP, b1⟩
    have SP := StrsAt.of_owns OP
    have P1 := Lib.hid (P0.out.below b1)
    have B1 := Lib.hid (below_up B0.out b1)
    have S1 : Hid (w.heap.size + 1 ≤ w1.heap.size) := by unfold Hid; rw [← s0.out]; exact b1.size
    clear OP b1 hX0
    obtain ⟨ap, cp, rfl, hc⟩ := SP
    rcases hc with hc | ⟨bp, op, rfl, hc⟩
    · cases hc
    have e0 : w1.cell? ⟨bp, op, none⟩ = some (.string p0) := hc 0 (by simp)
    have e1 : w1.cell? ⟨bp, op + 1, none⟩ = some (.string p1) := hc 1 (by simp)
    have hbp : bp < w1.heap.size := World.block_lt_of_cell? w1 _ e0
    have E1 : Hid (∀ W, Below w1.heap.size w1 W → W.cell? ⟨bp, op + 1, none⟩ = some (.string p1)) := fun W h => by rw [h.cell (p := ⟨bp, op + 1, none⟩) hbp]; exact e1
    clear hc e1 hbp
    go_wp2_with fail
    clear e0
    refine (C0.out _ (HT0.out.below B1.out)).mono ?_
    rintro e w2 ⟨v0, one, la, rfl, A0, O0, b2⟩
    have e1 := E1.out _ b2
    have P2 := Lib.hid (P1.out.below b2)
    have B2 := Lib.hid (below_up B1.out b2)
    have S2 : Hid (w1.heap.size ≤ w2.heap.size) := b2.size
    obtain ⟨f1, n1, c1, rfl⟩ := O0.form
    have Q0 := Lib.hid O0
    have I0 := Lib.hid A0
    clear O0 A0 b2
    go_wp2_with fail
    clear e1
    refine (C1.out _ (HT0.out.below B2.out)).mono ?_
    rintro e w3 ⟨v1, two, lb, rfl, A1, O1, b3⟩
    obtain ⟨f2, n2, c2, rfl⟩ := O1.form
    have I1 := Lib.hid A1
    have al := alloc_below w3 (.cells #[.iface 51 (.slice f1 n1 c1), .iface 52 (.slice f2 n2 c2)] 43)
    have P3 := Lib.hid ((P2.out.below b3).below al)
    have B3 := Lib.hid (below_up (below_up B2.out b3) al)
    have Q1 := Lib.hid ((Q0.out.below b3).below al)
    have R1 := Lib.hid (O1.below al)
    have SE : Hid (Sep (.slice f1 n1 c1) (.slice f2 n2 c2)) := fun k h h' => by
      have a1 := (Q0.out.blk k h).2
      have a2 := (O1.blk k h').1
      omega
    have T3 := Lib.hid (TwoAt.new w3 43 (.iface 51 (.slice f1 n1 c1)) (.iface 52 (.slice f2 n2 c2)))
    have S3 : Hid (w2.heap.size ≤ w3.heap.size) := b3.size
    clear A1 O1 b3 al
    generalize hX3 : w3.alloc (.cells #[.iface 51 (.slice f1 n1 c1), .iface 52 (.slice f2 n2 c2)] 43) = X3 at P3 B3 Q1 R1 T3
    go_wp2_with fail
    refine (weighLR w3.heap.size _ f1 f2 n1 c1 n2 c2 _ T3.out.1 T3.out.2.1).mono ?_
    rintro e w4 ⟨rfl, b4⟩
    have al := alloc_below w4 (.cells #[.slice f1 n1 c1, .slice f2 n2 c2] 27)
    have P5 := Lib.hid ((P3.out.below b4).below al)
    have B5 := Lib.hid (below_up (below_up B3.out b4) al)
    have Q5 := Lib.hid ((Q1.out.below b4).below al)
    have R5 := Lib.hid ((R1.out.below b4).below al)
    have T5 := Lib.hid (TwoAt.new w4 27 (.slice f1 n1 c1) (.slice f2 n2 c2))
    clear b4 al hX3 P3 B3 Q1 R1 T3 P2 B2 P1 B1
    generalize hX5 : w4.alloc (.cells #[.slice f1 n1 c1, .slice f2 n2 c2] 27) = X5 at P5 B5 Q5 R5 T5
    have F := Lib.hid (implWeighingOk (.slice f1 n1 c1) (.slice f2 n2 c2) la lb 13 X5 Q5.out.reads R5.out.reads (Nat.le_trans (isL_len I0.out) (Nat.le_trans L0.out (by decide))) (Nat.le_trans (isL_len I1.out) (Nat.le_trans L1.out (by decide))))
    have HD := Lib.hid (isW_valid HP.out I0.out I1.out)
    generalize weighB la lb 13 = t at F HD
    obtain ⟨e2, e3, -⟩ := T5.out
    obtain ⟨⟨z0, z1, z2⟩, g0, g1⟩ := P5.out
    cases one with
    | false =>
      have HE := Lib.hid (HD.out.2 (by simp))
      have q0 : (X5.setCell ⟨w.heap.size, 0, none⟩ (.slice none 0 0)).cell? ⟨w.heap.size, 1, none⟩ = some (.slice none 0 0) := (P5.out.set0 _).1.2.1
      go_wp2
      generalize hU : (X5.setCell ⟨w.heap.size, 0, none⟩ (.slice none 0 0)).setCell ⟨w.heap.size, 1, none⟩ (.slice none 0 0) = U
      have V1 : VarAt U w.heap.size (.slice none 0 0) (.slice none 0 0) := by rw [← hU]; exact (P5.out.set0 _).set1 _
      have BU : Below w.heap.size w U := by rw [← hU]; exact (B5.out.setCell (p := ⟨w.heap.size, 0, none⟩) (Nat.le_refl _) _).setCell (p := ⟨w.heap.size, 1, none⟩) (Nat.le_refl _) _
      obtain ⟨⟨u0, u1, -⟩, -, -⟩ := V1
      refine bodyPost_ret (v := .tuple #[.agg #[.slice none 0 0, .slice none 0 0], .bool false]) (by simp [results, Tryd.results11, go_sem, u0, u1]) rfl ⟨_, _, false, [], [], rfl, HE.out, Own.nil _ _, Own.nil _ _, Sep.nil _, BU⟩
    | true =>
      cases two with
      | false =>
        have HE := Lib.hid (HD.out.2 (by simp))
        have q0 : (X5.setCell ⟨w.heap.size, 0, none⟩ (.slice none 0 0)).cell? ⟨w.heap.size, 1, none⟩ = some (.slice none 0 0) := (P5.out.set0 _).1.2.1
        go_wp2
        generalize hU : (X5.setCell ⟨w.heap.size, 0, none⟩ (.slice none 0 0)).setCell ⟨w.heap.size, 1, none⟩ (.slice none 0 0) = U
        have V1 : VarAt U w.heap.size (.slice none 0 0) (.slice none 0 0) := by rw [← hU]; exact (P5.out.set0 _).set1 _
        have BU : Below w.heap.size w U := by rw [← hU]; exact (B5.out.setCell (p := ⟨w.heap.size, 0, none⟩) (Nat.le_refl _) _).setCell (p := ⟨w.heap.size, 1, none⟩) (Nat.le_refl _) _
        obtain ⟨⟨u0, u1, -⟩, -, -⟩ := V1
        refine bodyPost_ret (v := .tuple #[.agg #[.slice none 0 0, .slice none 0 0], .bool false]) (by simp [results, Tryd.results11, go_sem, u0, u1]) rfl ⟨_, _, false, [], [], rfl, HE.out, Own.nil _ _, Own.nil _ _, Sep.nil _, BU⟩
      | true =>
        cases t with
        | false =>
          have HE := Lib.hid (HD.out.2 (by simp))
          clear HD
          go_wp2_with fail
          clear e2 e3 z0 z1 z2 g0 g1
          refine F.out.mono ?_
          rintro e w6 ⟨rfl, b6⟩
          have P6 := Lib.hid (P5.out.below b6)
          have B6 := Lib.hid (below_up B5.out b6)
          clear b6
          obtain ⟨⟨z0, z1, z2⟩, g0, g1⟩ := P6.out
          have q0 : (w6.setCell ⟨w.heap.size, 0, none⟩ (.slice none 0 0)).cell? ⟨w.heap.size, 1, none⟩ = some (.slice none 0 0) := (P6.out.set0 _).1.2.1
          go_wp2
          generalize hU : (w6.setCell ⟨w.heap.size, 0, none⟩ (.slice none 0 0)).setCell ⟨w.heap.size, 1, none⟩ (.slice none 0 0) = U
          have V1 : VarAt U w.heap.size (.slice none 0 0) (.slice none 0 0) := by rw [← hU]; exact (P6.out.set0 _).set1 _
          have BU : Below w.heap.size w U := by rw [← hU]; exact (B6.out.setCell (p := ⟨w.heap.size, 0, none⟩) (Nat.le_refl _) _).setCell (p := ⟨w.heap.size, 1, none⟩) (Nat.le_refl _) _
          obtain ⟨⟨u0, u1, -⟩, -, -⟩ := V1
          refine bodyPost_ret (v := .tuple #[.agg #[.slice none 0 0, .slice none 0 0], .bool false]) (by simp [results, Tryd.results11, go_sem, u0, u1]) rfl ⟨_, _, false, [], [], rfl, HE.out, Own.nil _ _, Own.nil _ _, Sep.nil _, BU⟩
        | true =>
          have HE := Lib.hid (HD.out.1 ⟨rfl, rfl⟩)
          clear HD
          go_wp2_with fail
          clear e2 e3 z0 z1 z2 g0 g1
          refine F.out.mono ?_
          rintro e w6 ⟨rfl, b6⟩
          have P6 := Lib.hid (P5.out.below b6)
          have B6 := Lib.hid (below_up B5.out b6)
          have T6 := Lib.hid (T5.out.below b6)
          have Q6 := Lib.hid (Q5.out.below b6)
          have R6 := Lib.hid (R5.out.below b6)
          clear b6
          obtain ⟨⟨z0, z1, z2⟩, g0, g1⟩ := P6.out
          obtain ⟨e2, e3, -⟩ := T6.out
          have q0 : (w6.setCell ⟨w.heap.size, 0, none⟩ (.slice f1 n1 c1)).cell? ⟨w.heap.size, 1, none⟩ = some (.slice none 0 0) := (P6.out.set0 _).1.2.1
          go_wp2
          generalize hU : (w6.setCell ⟨w.heap.size, 0, none⟩ (.slice f1 n1 c1)).setCell ⟨w.heap.size, 1, none⟩ (.slice f2 n2 c2) = U
          have V1 : VarAt U w.heap.size (.slice f1 n1 c1) (.slice f2 n2 c2) := by rw [← hU]; exact (P6.out.set0 _).set1 _
          have BU : Below w.heap.size w U := by rw [← hU]; exact (B6.out.setCell (p := ⟨w.heap.size, 0, none⟩) (Nat.le_refl _) _).setCell (p := ⟨w.heap.size, 1, none⟩) (Nat.le_refl _) _
          have HS1 := S1.out
          have HS2 := S2.out
          have QU : Own U w1.heap.size (.slice f1 n1 c1) la := by rw [← hU]; exact (Q6.out.setCell (by omega) _).setCell (by omega) _
          have RU : Own U w2.heap.size (.slice f2 n2 c2) lb := by rw [← hU]; exact (R6.out.setCell (by omega) _).setCell (by omega) _
          obtain ⟨⟨u0, u1, -⟩, -, -⟩ := V1
          refine bodyPost_ret (v := .tuple #[.agg #[.slice f1 n1 c1, .slice f2 n2 c2], .bool true]) (by simp [results, Tryd.results11, go_sem, u0, u1]) rfl ⟨_, _, true, la, lb, rfl, HE.out, QU.lower (by omega), RU.lower (by omega), SE.out, BU⟩
  · have HE := Lib.hid (isW_two hl)
    have hlen := Lib.hid hl
    obtain ⟨m, hm⟩ : ∃ m, (parts s (isBy colon)).length = m := ⟨_, rfl⟩
    have hml := (parts_length s (isBy colon)).2
    rw [hm] at hl hml SPL
    have hne : ((m : Int) != 2) = true := by simp; omega
    clear hl hlen
    go_enter Tryd.func11, Tryd.ntmps11
    go_wp2_with fail
    refine (SPL.out X0).mono ?_
    rintro e w1 ⟨vp, rfl, OP, b1⟩
    have P1 := Lib.hid (P0.out.below b1)
    have B1 := Lib.hid (below_up B0.out b1)
    obtain ⟨ap, cp, rfl⟩ : ∃ a c, vp = .slice a m c := by
      rcases OP.2 with ⟨h, h0⟩ | ⟨g, c, cur, h, _⟩
      · exact ⟨none, 0, by rw [h, h0]⟩
      · exact ⟨_, c, h⟩
    clear OP b1 hX0 hm
    obtain ⟨⟨z0, z1, z2⟩, g0, g1⟩ := P1.out
    have q0 : (w1.setCell ⟨w.heap.size, 0, none⟩ (.slice none 0 0)).cell? ⟨w.heap.size, 1, none⟩ = some (.slice none 0 0) := (P1.out.set0 _).1.2.1
    go_wp2
    generalize hU : (w1.setCell ⟨w.heap.size, 0, none⟩ (.slice none 0 0)).setCell ⟨w.heap.size, 1, none⟩ (.slice none 0 0) = U
    have V1 : VarAt U w.heap.size (.slice none 0 0) (.slice none 0 0) := by rw [← hU]; exact (P1.out.set0 _).set1 _
    have BU : Below w.heap.size w U := by rw [← hU]; exact (B1.out.setCell (p := ⟨w.heap.size, 0, none⟩) (Nat.le_refl _) _).setCell (p := ⟨w.heap.size, 1, none⟩) (Nat.le_refl _) _
    obtain ⟨⟨u0, u1, -⟩, -, -⟩ := V1
    refine bodyPost_ret (v := .tuple #[.agg #[.slice none 0 0, .slice none 0 0], .bool false]) (by simp [results, Tryd.results11, go_sem, u0, u1]) rfl ⟨_, _, false, [], [], rfl, HE.out, Own.nil _ _, Own.nil _ _, Sep.nil _, BU⟩

theorem walkFnExactParseWeighing (a0 : ByteArray) (w0 : a0.size ≤ maxLen) (w : World) (ht : TabOk w) (h1 : SentOk w "strconv.ErrSyntax") (h2 : SentOk w "strconv.ErrRange") :
    Calls Tryd.prog 4 #[.string a0] w fun e w' => e = .returned (.bool true) ∧ Below w.heap.size w w' :=
  lawParseWeighing ParOk (fun _ _ h hb => h.below hb) (fun s W hs h => implParseWeigh s W hs h) a0 w0 w ⟨ht, h1, h2⟩
end Go.Proofs.YtdfcjdepfikboaaDoor
