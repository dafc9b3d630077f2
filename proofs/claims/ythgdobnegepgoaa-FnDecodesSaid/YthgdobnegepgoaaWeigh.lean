/- The contracts of the law's own helpers on weighings: their size, their copy, comparing one with its like, writing marks and finding them. Conditions: the sides read as integers; where they are written they are lists of the call's own, in different blocks. -/
import Derived.Test.YthgdobnegepgoaaIntArgs
namespace Go.Proofs.Ythgdobnegepgoaa
open Go.RowKit

/-- Two cells lie in block b. -/
def TwoAt (w : World) (b : Nat) (x y : Value) : Prop := w.cell? ⟨b, 0, none⟩ = some x ∧ w.cell? ⟨b, 1, none⟩ = some y ∧ b < w.heap.size
theorem TwoAt.belowN {w w' : World} {b B : Nat} {x y : Value} (hp : TwoAt w b x y) (hb : Below B w w') (hlt : b < B) : TwoAt w' b x y := by
  obtain ⟨e0, e1, hlt0⟩ := hp
  refine ⟨?_, ?_, Nat.lt_of_lt_of_le hlt0 hb.size⟩
  · rw [hb.cell (p := ⟨b, 0, none⟩) hlt]; exact e0
  · rw [hb.cell (p := ⟨b, 1, none⟩) hlt]; exact e1
theorem TwoAt.below {w w' : World} {b : Nat} {x y : Value} (hp : TwoAt w b x y) (hb : Below w.heap.size w w') : TwoAt w' b x y := hp.belowN hb hp.2.2
theorem TwoAt.new (w : World) (ty : TypeId) (x y : Value) : TwoAt (w.alloc (.cells #[x, y] ty)) w.heap.size x y := by
  refine ⟨?_, ?_, ?_⟩ <;> simp
theorem TwoAt.only {T : Nat → Prop} {w w' : World} {b : Nat} {x y : Value} (hp : TwoAt w b x y) (ho : Only T w w') (hb : ¬ T b) : TwoAt w' b x y := by
  obtain ⟨e0, e1, hlt⟩ := hp
  refine ⟨?_, ?_, Nat.lt_of_lt_of_le hlt ho.size⟩
  · rw [World.cell?_of_block (w := w) (a := ⟨b, 0, none⟩) (ho.block b hlt hb)]; exact e0
  · rw [World.cell?_of_block (w := w) (a := ⟨b, 1, none⟩) (ho.block b hlt hb)]; exact e1

/-- Two cells that may be written lie in block b. -/
def VarAt (w : World) (b : Nat) (x y : Value) : Prop := TwoAt w b x y ∧ w.frozen? ⟨b, 0, none⟩ = false ∧ w.frozen? ⟨b, 1, none⟩ = false
theorem VarAt.belowN {w w' : World} {b B : Nat} {x y : Value} (hp : VarAt w b x y) (hb : Below B w w') (hlt : b < B) : VarAt w' b x y := by
  refine ⟨hp.1.belowN hb hlt, ?_, ?_⟩
  · rw [hb.frozen (p := ⟨b, 0, none⟩) hlt]; exact hp.2.1
  · rw [hb.frozen (p := ⟨b, 1, none⟩) hlt]; exact hp.2.2
theorem VarAt.below {w w' : World} {b : Nat} {x y : Value} (hp : VarAt w b x y) (hb : Below w.heap.size w w') : VarAt w' b x y := hp.belowN hb hp.1.2.2
theorem VarAt.new (w : World) (ty : TypeId) (x y : Value) : VarAt (w.alloc (.cells #[x, y] ty)) w.heap.size x y := by
  refine ⟨TwoAt.new w ty x y, ?_, ?_⟩ <;> simp
theorem VarAt.set0 {w : World} {b : Nat} {x y : Value} (hp : VarAt w b x y) (u : Value) : VarAt (w.setCell ⟨b, 0, none⟩ u) b u y := by
  obtain ⟨⟨e0, e1, h⟩, f0, f1⟩ := hp
  refine ⟨⟨World.cell?_setCell_same (w := w) (a := ⟨b, 0, none⟩) (v := u) e0, ?_, by simpa [World.setCell] using h⟩, by simpa using f0, by simpa using f1⟩
  rw [World.cell?_setCell_other (w := w) (a := ⟨b, 0, none⟩) (b := ⟨b, 1, none⟩) (v := u) (by simp)]; exact e1
theorem VarAt.set1 {w : World} {b : Nat} {x y : Value} (hp : VarAt w b x y) (u : Value) : VarAt (w.setCell ⟨b, 1, none⟩ u) b x u := by
  obtain ⟨⟨e0, e1, h⟩, f0, f1⟩ := hp
  refine ⟨⟨?_, World.cell?_setCell_same (w := w) (a := ⟨b, 1, none⟩) (v := u) e1, by simpa [World.setCell] using h⟩, by simpa using f0, by simpa using f1⟩
  rw [World.cell?_setCell_other (w := w) (a := ⟨b, 1, none⟩) (b := ⟨b, 0, none⟩) (v := u) (by simp)]; exact e0
theorem VarAt.far {w : World} {b c : Nat} {x y : Value} (hp : VarAt w b x y) (o : Nat) (u : Value) (hc : c ≠ b) : VarAt (w.setCell ⟨c, o, none⟩ u) b x y := by
  obtain ⟨⟨e0, e1, h⟩, f0, f1⟩ := hp
  refine ⟨⟨?_, ?_, by simpa [World.setCell] using h⟩, by simpa using f0, by simpa using f1⟩
  · rw [World.cell?_setCell_other (w := w) (a := ⟨c, o, none⟩) (b := ⟨b, 0, none⟩) (v := u) (fun e => hc (congrArg Addr.block e))]; exact e0
  · rw [World.cell?_setCell_other (w := w) (a := ⟨c, o, none⟩) (b := ⟨b, 1, none⟩) (v := u) (fun e => hc (congrArg Addr.block e))]; exact e1
theorem TwoAt.far {w : World} {b c : Nat} {x y : Value} (hp : TwoAt w b x y) (o : Nat) (u : Value) (hc : c ≠ b) : TwoAt (w.setCell ⟨c, o, none⟩ u) b x y := by
  obtain ⟨e0, e1, h⟩ := hp
  refine ⟨?_, ?_, by simpa [World.setCell] using h⟩
  · rw [World.cell?_setCell_other (w := w) (a := ⟨c, o, none⟩) (b := ⟨b, 0, none⟩) (v := u) (fun e => hc (congrArg Addr.block e))]; exact e0
  · rw [World.cell?_setCell_other (w := w) (a := ⟨c, o, none⟩) (b := ⟨b, 1, none⟩) (v := u) (fun e => hc (congrArg Addr.block e))]; exact e1
theorem setCell_size (w : World) (a : Addr) (u : Value) : (w.setCell a u).heap.size = w.heap.size := by simp [World.setCell]
theorem Own.setCell {w : World} {B : Nat} {v : Value} {l : List Int} (h : Own w B v l) {c o : Nat} (hc : c < B) (u : Value) : Own (w.setCell ⟨c, o, none⟩ u) B v l := ownsRow_setCell_below h hc u

theorem alloc_below (w : World) (o : Obj) : Below w.heap.size w (w.alloc o) := (Below.refl _ _).alloc (Nat.le_refl _) _
theorem below_on {B : Nat} {W X w1 : World} (h : Below B W X) (hB : B ≤ X.heap.size) (hb : Below X.heap.size X w1) : Below B W w1 := h.trans (hb.mono hB)
theorem below_up {W X w1 : World} (h : Below W.heap.size W X) (hb : Below X.heap.size X w1) : Below W.heap.size W w1 := h.trans (hb.mono h.size)

/-- What the size of a weighing says. -/
def SzOk (L R : List Int) (left r : Int) : Prop := r < 0 ∨ 0 ≤ r ∧ r ≤ left ∧ (L.length : Int) + (R.length : Int) ≤ left

/-- What the size of a weighing is, unless it is negative. -/
def SzEq (L R : List Int) (left r : Int) : Prop := r < 0 ∨ 0 ≤ r ∧ r + (L.length : Int) + (R.length : Int) = left

set_option maxHeartbeats 800000 in
theorem szWeighE (vl vr : Value) (L R : List Int) (left : Int) (w : World) (hl : IntsAt w vl L) (hr : IntsAt w vr R) (ml : L.length ≤ maxLen) (mr : R.length ≤ maxLen) (h0 : 0 ≤ left) (h1 : left ≤ 1048576) :
    Calls Try.prog 50 #[.agg #[vl, vr], .int .i64 left] w fun e w' => ∃ r, e = .returned (.int .i64 r) ∧ SzEq L R left r ∧ Below w.heap.size w w' := by
  have C1 := Lib.hid (fun W (h : IntsAt W vl L) => szInts vl L left W h ml h0 h1)
  have HB0 := Lib.hid (alloc_below w (.cells #[vl, vr] 74))
  have HL := Lib.hid (hl.below HB0.out)
  have HR := Lib.hid (hr.below HB0.out)
  by_cases h2 : left - (L.length : Int) < 0
  · have hs : szL L.length left = -1 := by unfold szL; rw [if_pos h2]
    rw [hs] at C1
    clear hl hr hs h2
    go_enter Try.func50, Try.ntmps50
    go_wp2_with fail
    refine (C1.out _ HL.out).mono ?_
    rintro e w1 ⟨rfl, rfl⟩
    go_wp2
    go_ret
    exact ⟨-1, rfl, .inl (by omega), HB0.out⟩
  · have hs : szL L.length left = left - L.length := by unfold szL; rw [if_neg h2]
    rw [hs] at C1
    obtain ⟨m, hm⟩ : ∃ m, left - (L.length : Int) = m := ⟨_, rfl⟩
    have HM := Lib.hid hm
    have m0 : 0 ≤ m := by omega
    have m1 : m ≤ 1048576 := by omega
    rw [hm] at C1
    have C2 := Lib.hid (fun W (h : IntsAt W vr R) => szInts vr R m W h mr m0 m1)
    by_cases h3 : m - (R.length : Int) < 0
    · have hs2 : szL R.length m = -1 := by unfold szL; rw [if_pos h3]
      rw [hs2] at C2
      clear hl hr hs hs2 h2 h3 hm
      go_enter Try.func50, Try.ntmps50
      go_wp2_with fail
      refine (C1.out _ HL.out).mono ?_
      rintro e w1 ⟨rfl, rfl⟩
      go_wp2_with fail
      refine (C2.out _ HR.out).mono ?_
      rintro e w1 ⟨rfl, rfl⟩
      go_wp2
      go_ret
      exact ⟨-1, rfl, .inl (by omega), HB0.out⟩
    · have hs2 : szL R.length m = m - R.length := by unfold szL; rw [if_neg h3]
      rw [hs2] at C2
      obtain ⟨r, hr'⟩ : ∃ r, m - (R.length : Int) = r := ⟨_, rfl⟩
      have HQ : Hid (SzEq L R left r) := .inr ⟨by omega, by omega⟩
      have r0 : 0 ≤ r := by omega
      rw [hr'] at C2
      clear hl hr hs hs2 h2 h3 hm hr'
      go_enter Try.func50, Try.ntmps50
      go_wp2_with fail
      refine (C1.out _ HL.out).mono ?_
      rintro e w1 ⟨rfl, rfl⟩
      go_wp2_with fail
      refine (C2.out _ HR.out).mono ?_
      rintro e w1 ⟨rfl, rfl⟩
      go_wp2
      go_ret
      exact ⟨r, rfl, HQ.out, HB0.out⟩
theorem szWeigh (vl vr : Value) (L R : List Int) (left : Int) (w : World) (hl : IntsAt w vl L) (hr : IntsAt w vr R) (ml : L.length ≤ maxLen) (mr : R.length ≤ maxLen) (h0 : 0 ≤ left) (h1 : left ≤ 1048576) :
    Calls Try.prog 50 #[.agg #[vl, vr], .int .i64 left] w fun e w' => ∃ r, e = .returned (.int .i64 r) ∧ SzOk L R left r ∧ Below w.heap.size w w' :=
  (szWeighE vl vr L R left w hl hr ml mr h0 h1).mono fun _ _ ⟨r, e, hs, b⟩ => ⟨r, e, by rcases hs with h | h; exact .inl h; exact .inr ⟨h.1, by omega, by omega⟩, b⟩

/-- A weighing of the call's own: both sides own their blocks, from block B on; the blocks are different ones. -/
def OwnW (w : World) (B : Nat) (v : Value) (L R : List Int) : Prop := ∃ vl vr, v = .agg #[vl, vr] ∧ Own w B vl L ∧ Own w B vr R ∧ Sep vl vr ∧ Solid vl ∧ Solid vr

set_option maxHeartbeats 1600000 in
theorem toWeigh (vl vr : Value) (L R : List Int) (w : World) (hl : IntsAt w vl L) (hr : IntsAt w vr R) (ml : L.length ≤ 1048576) (mr : R.length ≤ 1048576) :
    Calls Try.prog 53 #[.agg #[vl, vr]] w fun e w' => ∃ v, e = .returned v ∧ OwnW w' w.heap.size v L R ∧ Below w.heap.size w w' := by
  have C1 := Lib.hid (fun W (h : IntsAt W vl L) => toInts vl L W h ml)
  have C2 := Lib.hid (fun W (h : IntsAt W vr R) => toInts vr R W h mr)
  have HL := Lib.hid hl
  have HR := Lib.hid hr
  clear hl hr ml mr
  go_enter Try.func53, Try.ntmps53
  have P1 := Lib.hid (TwoAt.new w 74 vl vr)
  generalize hX1 : w.alloc (.cells #[vl, vr] 74) = X1 at P1
  have s1 : X1.heap.size = w.heap.size + 1 := by rw [← hX1]; simp
  have B1 : Below w.heap.size w X1 := by rw [← hX1]; exact alloc_below _ _
  have P2 : Hid (VarAt (X1.alloc (.cells #[.slice none 0 0, .slice none 0 0] 30)) (w.heap.size + 1) (.slice none 0 0) (.slice none 0 0)) := by rw [← s1]; exact VarAt.new _ _ _ _
  generalize hX2 : X1.alloc (.cells #[.slice none 0 0, .slice none 0 0] 30) = X2 at P2
  have s2 : X2.heap.size = w.heap.size + 2 := by rw [← hX2]; simp [s1]
  have B2 : Below X1.heap.size X1 X2 := by rw [← hX2]; exact alloc_below _ _
  have P3 : Hid (VarAt (X2.alloc (.cells #[.slice none 0 0, .slice none 0 0] 30)) (w.heap.size + 2) (.slice none 0 0) (.slice none 0 0)) := by rw [← s2]; exact VarAt.new _ _ _ _
  generalize hX3 : X2.alloc (.cells #[.slice none 0 0, .slice none 0 0] 30) = X3 at P3
  have s3 : X3.heap.size = w.heap.size + 3 := by rw [← hX3]; simp [s2]
  have B3 : Below X2.heap.size X2 X3 := by rw [← hX3]; exact alloc_below _ _
  have BX := Lib.hid (below_up (below_up B1 B2) B3)
  have T1 := Lib.hid ((P1.out.below B2).below B3)
  have T2 := Lib.hid (P2.out.below B3)
  obtain ⟨e0, e1, -⟩ := T1.out
  go_wp2_with fail
  clear e0 e1
  refine (C1.out _ (HL.out.below BX.out)).mono ?_
  rintro e w1 ⟨v1, rfl, D1, O1, b1⟩
  obtain ⟨a1, n1, c1, rfl⟩ := O1.form
  have S1 : Hid (w.heap.size + 3 ≤ w1.heap.size) := by have := b1.size; unfold Hid; omega
  have Q1 := Lib.hid (T1.out.below b1)
  have Q2 := Lib.hid (T2.out.below b1)
  have Q3 := Lib.hid (P3.out.below b1)
  have O1' : Hid (Own w1 (w.heap.size + 3) (.slice a1 n1 c1) L) := by rw [← s3]; exact O1
  have BY := Lib.hid (below_up BX.out b1)
  clear O1 b1 hX1 hX2 hX3 s1 s2 s3 B1 B2 B3
  obtain ⟨⟨e2, e3, e4⟩, f0, f1⟩ := Q3.out
  obtain ⟨e0, e1, -⟩ := Q1.out
  generalize hY : w1.setCell ⟨w.heap.size + 2, 0, none⟩ (.slice a1 n1 c1) = Y
  have sY : Hid (Y.heap.size = w1.heap.size) := by unfold Hid; rw [← hY]; exact setCell_size _ _ _
  have R1 : Hid (TwoAt Y w.heap.size vl vr) := by unfold Hid; rw [← hY]; exact Q1.out.far _ _ (by omega)
  have R2 : Hid (VarAt Y (w.heap.size + 1) (.slice none 0 0) (.slice none 0 0)) := by unfold Hid; rw [← hY]; exact Q2.out.far _ _ (by omega)
  have R3 : Hid (VarAt Y (w.heap.size + 2) (.slice a1 n1 c1) (.slice none 0 0)) := by unfold Hid; rw [← hY]; exact Q3.out.set0 _
  have O1Y : Hid (Own Y (w.heap.size + 3) (.slice a1 n1 c1) L) := by unfold Hid; rw [← hY]; exact O1'.out.setCell (by omega) _
  have BZ : Hid (Below w.heap.size w Y) := by unfold Hid; rw [← hY]; exact BY.out.setCell (p := ⟨w.heap.size + 2, 0, none⟩) (by simp) _
  obtain ⟨y0, y1, -⟩ := R1.out
  go_wp2_with fail
  clear e0 e1 e2 e3 e4 f0 f1 y0 y1
  refine (C2.out _ (HR.out.below BZ.out)).mono ?_
  rintro e w2 ⟨v2, rfl, D2, O2, b2⟩
  obtain ⟨a2, n2, c2, rfl⟩ := O2.form
  have S2 : Hid (w.heap.size + 3 ≤ Y.heap.size) := by unfold Hid; rw [sY.out]; exact S1.out
  have K1 := Lib.hid (R2.out.below b2)
  have K2 := Lib.hid (R3.out.below b2)
  have O12 := Lib.hid (O1Y.out.below b2)
  have K3 := Lib.hid (O1Y.out.blk)
  have BV := Lib.hid (below_up BZ.out b2)
  have O22 := Lib.hid O2
  clear b2 hY O2
  obtain ⟨⟨e2, e3, e4⟩, f0, f1⟩ := K2.out
  generalize hZ : w2.setCell ⟨w.heap.size + 2, 1, none⟩ (.slice a2 n2 c2) = Z
  have M1 : Hid (VarAt Z (w.heap.size + 1) (.slice none 0 0) (.slice none 0 0)) := by unfold Hid; rw [← hZ]; exact K1.out.far _ _ (by omega)
  have M2 : Hid (VarAt Z (w.heap.size + 2) (.slice a1 n1 c1) (.slice a2 n2 c2)) := by unfold Hid; rw [← hZ]; exact K2.out.set1 _
  have O13 : Hid (Own Z (w.heap.size + 3) (.slice a1 n1 c1) L) := by unfold Hid; rw [← hZ]; exact O12.out.setCell (by omega) _
  have O23 : Hid (Own Z Y.heap.size (.slice a2 n2 c2) R) := by unfold Hid; rw [← hZ]; exact O22.out.setCell (by have := S2.out; omega) _
  have BZ2 : Hid (Below w.heap.size w Z) := by unfold Hid; rw [← hZ]; exact BV.out.setCell (p := ⟨w.heap.size + 2, 1, none⟩) (by simp) _
  obtain ⟨⟨z0, z1, z2⟩, g0, g1⟩ := M1.out
  obtain ⟨⟨z3, z4, z5⟩, g2, g3⟩ := M2.out
  have q0 : (Z.setCell ⟨w.heap.size + 1, 0, none⟩ (.slice a1 n1 c1)).cell? ⟨w.heap.size + 1, 1, none⟩ = some (.slice none 0 0) := (M1.out.set0 _).1.2.1
  go_wp2
  generalize hU : (Z.setCell ⟨w.heap.size + 1, 0, none⟩ (.slice a1 n1 c1)).setCell ⟨w.heap.size + 1, 1, none⟩ (.slice a2 n2 c2) = U
  have V1 : VarAt U (w.heap.size + 1) (.slice a1 n1 c1) (.slice a2 n2 c2) := by rw [← hU]; exact (M1.out.set0 _).set1 _
  have O14 : Own U (w.heap.size + 3) (.slice a1 n1 c1) L := by rw [← hU]; exact (O13.out.setCell (by omega) _).setCell (by omega) _
  have O24 : Own U Y.heap.size (.slice a2 n2 c2) R := by rw [← hU]; exact (O23.out.setCell (by have := S2.out; omega) _).setCell (by have := S2.out; omega) _
  have BU : Below w.heap.size w U := by rw [← hU]; exact (BZ2.out.setCell (p := ⟨w.heap.size + 1, 0, none⟩) (by simp) _).setCell (p := ⟨w.heap.size + 1, 1, none⟩) (by simp) _
  obtain ⟨⟨u0, u1, -⟩, -, -⟩ := V1
  refine bodyPost_ret (v := .agg #[.slice a1 n1 c1, .slice a2 n2 c2]) (by simp [results, Try.results53, go_sem, u0, u1]) rfl ⟨_, rfl, ⟨_, _, rfl, O14.lower (by omega), O24.lower (by have := S2.out; omega), fun b hb hb' => by have := (K3.out b hb).2; have := (O24.blk b hb').1; omega, D1, D2⟩, BU⟩

set_option maxHeartbeats 800000 in
theorem eqWeigh_same (vl vr ul ur : Value) (L R : List Int) (w : World) (h1 : IntsAt w vl L) (h2 : IntsAt w vr R) (h3 : IntsAt w ul L) (h4 : IntsAt w ur R) (ml : L.length ≤ 100000000) (mr : R.length ≤ 100000000) :
    Calls Try.prog 54 #[.agg #[vl, vr], .agg #[ul, ur]] w fun e w' => e = .returned (.bool true) ∧ Below w.heap.size w w' := by
  have C1 := Lib.hid (fun W (h : IntsAt W vl L) h' => eqInts_same vl ul L W h h' ml)
  have C2 := Lib.hid (fun W (h : IntsAt W vr R) h' => eqInts_same vr ur R W h h' mr)
  have P1 := Lib.hid (TwoAt.new w 30 vl vr)
  have B1 := Lib.hid (alloc_below w (.cells #[vl, vr] 30))
  generalize hX1 : w.alloc (.cells #[vl, vr] 30) = X1 at P1 B1
  have s1 : X1.heap.size = w.heap.size + 1 := by rw [← hX1]; simp
  have P2 : Hid (TwoAt (X1.alloc (.cells #[ul, ur] 30)) (w.heap.size + 1) ul ur) := by rw [← s1]; exact TwoAt.new _ _ _ _
  have B2 := Lib.hid (alloc_below X1 (.cells #[ul, ur] 30))
  generalize hX2 : X1.alloc (.cells #[ul, ur] 30) = X2 at P2 B2
  have T1 := Lib.hid (P1.out.below B2.out)
  have BX := Lib.hid (below_up B1.out B2.out)
  have H1 := Lib.hid (h1.below BX.out)
  have H2 := Lib.hid (h2.below BX.out)
  have H3 := Lib.hid (h3.below BX.out)
  have H4 := Lib.hid (h4.below BX.out)
  clear h1 h2 h3 h4
  obtain ⟨e0, e1, -⟩ := T1.out
  obtain ⟨e2, e3, -⟩ := P2.out
  go_enter Try.func54, Try.ntmps54
  go_wp2_with fail
  clear e0 e1 e2 e3
  refine (C1.out _ H1.out H3.out).mono ?_
  rintro e w1 ⟨rfl, b1⟩
  have BY := Lib.hid (below_up BX.out b1)
  have G2 := Lib.hid (H2.out.below b1)
  have G4 := Lib.hid (H4.out.below b1)
  obtain ⟨e0, e1, -⟩ := T1.out.below b1
  obtain ⟨e2, e3, -⟩ := P2.out.below b1
  clear b1
  go_wp2_with fail
  clear e0 e1 e2 e3
  refine (C2.out _ G2.out G4.out).mono ?_
  rintro e w2 ⟨rfl, b2⟩
  have BZ := Lib.hid (below_up BY.out b2)
  clear b2
  go_wp2
  go_ret
  exact ⟨rfl, BZ.out⟩

/-- The blocks of a weighing's two sides. -/
def Sides (vl vr : Value) (k : Nat) : Prop := vl.ownBlock = some k ∨ vr.ownBlock = some k

end Go.Proofs.Ythgdobnegepgoaa
