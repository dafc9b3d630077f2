/- The contracts of the program's TurnWeighing and of its helpers: a copy of a side, an exchanged side, a weighing of two sides. Conditions: the sides read as integers, lie somewhere, and are short enough to be counted. -/
import Derived.Test.YtdfcjdepfikboaaSidesImpl
import Derived.Test.YtdfcjdepfikboaaTurnLaw
namespace Go.Proofs.Ytdfcjdepfikboaa
open Go.RowKit

/-! ### a copy -/
set_option maxHeartbeats 800000 in
theorem implCopy (g c : Nat) (l : List Int) (w : World) (h : IntsAt w (.slice (some ⟨g, 0, none⟩) l.length c) l) (hm : l.length ≤ 100000000) :
    Calls Try.prog 70 #[.slice (some ⟨g, 0, none⟩) l.length c] w fun e w' => ∃ v, e = .returned v ∧ Own w' w.heap.size v l ∧ Below w.heap.size w w' := by
  obtain ⟨i0, hi, hz0, hz1, hz2⟩ := info_parts infoIntA
  have HC := Lib.hid (ints_cells h)
  have HO := Lib.hid (ints_one l)
  clear h
  go_enter Try.func70, Try.ntmps70
  go_wp2_with (at_builtin; refine wpList_append_own_at _ rfl _ _ 24 rfl w.heap.size 3 i0 (.int .i64 0) 1 8 Try.underlying24 hi hz0 hz1 hz2 rfl (by decide) (.slice none 0 0) 0 [] rfl (World.ownsRow_nil _ _ _ _) ⟨g, 0, none⟩ l.length c (l.map (Value.int .i64)) rfl (by simp) HC.out HO.out (by unfold maxLen; omega) (by omega) (Nat.le_refl _) ?_; intro v' w2 hown' hg1 _ _)
  have HW := Lib.hid hown'
  have HB : Hid (Below w.heap.size w w2) := Below.grown (Below.refl _ _) hg1 (Nat.le_refl _) (fun j hj => by simp [Value.ownBlock] at hj)
  clear hown' hg1
  go_wp2
  go_ret
  exact ⟨_, rfl, by unfold Own; simpa using HW.out, HB.out⟩

/-! ### an exchanged side -/
theorem turnedL (g c : Nat) (l : List Int) (w : World) (h : IntsAt w (.slice (some ⟨g, 0, none⟩) l.length c) l) (hm : l.length ≤ 100000000) :
    Calls Try.prog 69 #[.slice (some ⟨g, 0, none⟩) l.length c] w fun e w' => ∃ v, e = .returned (.iface 71 v) ∧ Own w' w.heap.size v l ∧ Below w.heap.size w w' := by
  have C := Lib.hid (implCopy g c l w h hm)
  clear h
  go_enter Try.func69, Try.ntmps69
  go_wp2_with fail
  refine C.out.mono ?_
  rintro e w1 ⟨v, rfl, o, b1⟩
  have HO := Lib.hid o
  have HB := Lib.hid b1
  clear o b1
  go_wp2
  go_ret
  exact ⟨_, rfl, HO.out, HB.out⟩
theorem turnedR (g c : Nat) (l : List Int) (w : World) (h : IntsAt w (.slice (some ⟨g, 0, none⟩) l.length c) l) (hm : l.length ≤ 100000000) :
    Calls Try.prog 72 #[.slice (some ⟨g, 0, none⟩) l.length c] w fun e w' => ∃ v, e = .returned (.iface 70 v) ∧ Own w' w.heap.size v l ∧ Below w.heap.size w w' := by
  have C := Lib.hid (implCopy g c l w h hm)
  clear h
  go_enter Try.func72, Try.ntmps72
  go_wp2_with fail
  refine C.out.mono ?_
  rintro e w1 ⟨v, rfl, o, b1⟩
  have HO := Lib.hid o
  have HB := Lib.hid b1
  clear o b1
  go_wp2
  go_ret
  exact ⟨_, rfl, HO.out, HB.out⟩

/-! ### the exchanged weighing -/
theorem infoSide : (Try.prog.info? 53).map (fun i => (i.zero, i.size, i.bytes)) = some (some .nilIface, 1, 16) := by kernel_rfl
theorem methTL (a : Option Addr) (n c : Nat) (w : World) : (method 191 70 (.slice a n c) "loop.example/g01040/impl.turned").run Try.prog w = .ok (69, .slice a n c) w := by kernel_rfl
theorem methTR (a : Option Addr) (n c : Nat) (w : World) : (method 191 71 (.slice a n c) "loop.example/g01040/impl.turned").run Try.prog w = .ok (72, .slice a n c) w := by kernel_rfl

theorem own_eq {g n c k : Nat} (e : (Value.slice (some ⟨g, 0, none⟩) n c).ownBlock = some k) : g = k := by simpa [Value.ownBlock] using e

set_option maxRecDepth 100000 in
set_option maxHeartbeats 3200000 in
theorem implTurn (gl gr : Nat) (cl cr : Nat) (L R : List Int) (w : World) (h1 : IntsAt w (.slice (some ⟨gl, 0, none⟩) L.length cl) L) (h2 : IntsAt w (.slice (some ⟨gr, 0, none⟩) R.length cr) R) (ml : L.length ≤ 100000000) (mr : R.length ≤ 100000000) :
    Calls Try.prog 11 #[.agg #[.slice (some ⟨gl, 0, none⟩) L.length cl, .slice (some ⟨gr, 0, none⟩) R.length cr]] w fun e w' => ∃ v, e = .returned v ∧ OwnF w' w.heap.size v R L ∧ Below w.heap.size w w' := by
  obtain ⟨i0, hi, hz0, hz1, hz2⟩ := info_parts infoSide
  have CS := Lib.hid (fun W => implSides (.slice (some ⟨gl, 0, none⟩) L.length cl) (.slice (some ⟨gr, 0, none⟩) R.length cr) W)
  have CL := Lib.hid (fun W h => turnedL gl cl L W h ml)
  have CR := Lib.hid (fun W h => turnedR gr cr R W h mr)
  have P1 := Lib.hid (TwoAt.new w 26 (.slice (some ⟨gl, 0, none⟩) L.length cl) (.slice (some ⟨gr, 0, none⟩) R.length cr))
  generalize hX1 : w.alloc (.cells #[.slice (some ⟨gl, 0, none⟩) L.length cl, .slice (some ⟨gr, 0, none⟩) R.length cr] 26) = X1 at P1
  have s1 : X1.heap.size = w.heap.size + 1 := by rw [← hX1]; simp
  have B1 : Below w.heap.size w X1 := by rw [← hX1]; exact alloc_below _ _
  have P2 : Hid (VarAt (X1.alloc (.cells #[.slice none 0 0, .slice none 0 0] 26)) (w.heap.size + 1) (.slice none 0 0) (.slice none 0 0)) := by rw [← s1]; exact VarAt.new _ _ _ _
  generalize hX2 : X1.alloc (.cells #[.slice none 0 0, .slice none 0 0] 26) = X2 at P2
  have s2 : X2.heap.size = w.heap.size + 2 := by rw [← hX2]; simp [s1]
  have B2 : Below X1.heap.size X1 X2 := by rw [← hX2]; exact alloc_below _ _
  have BX := Lib.hid (below_up B1 B2)
  have H1 := Lib.hid (h1.below BX.out)
  have H2 := Lib.hid (h2.below BX.out)
  have P1' := Lib.hid (P1.out.below B2)
  clear h1 h2 B1 B2 P1
  obtain ⟨e0, e1, e2⟩ := P1'.out
  go_enter Try.func11, Try.ntmps11
  go_wp2_with fail
  refine (CS.out _).mono ?_
  rintro e w1 ⟨b, rfl, T, hb, b1⟩
  have BY := Lib.hid (below_up BX.out b1)
  have V1 := Lib.hid (P2.out.below b1)
  have I1 := Lib.hid (H1.out.below b1)
  have I2 := Lib.hid (H2.out.below b1)
  have T1 := Lib.hid T
  have SZ1 := Lib.hid b1.size
  rw [s2] at SZ1
  have HB1 := Lib.hid hb
  clear b1 e0 e1 e2 hX1 hX2 H1 H2 P1' P2 T hb BX s1 s2
  obtain ⟨s0, s1, -⟩ := T1.out
  go_wp2_with fail
  refine wp_loop_rounds 3 ?_
  have ML := methTL
  have MR := methTR
  rw [rounds_succ]
  go_wp2_with fail
  refine (CL.out _ I1.out).mono ?_
  rintro e w2 ⟨xl, rfl, o2, b2⟩
  have BZ2 := Lib.hid (below_up BY.out b2)
  have V2 := Lib.hid (V1.out.below b2)
  have J2 := Lib.hid (I2.out.below b2)
  have T2 := Lib.hid (T1.out.below b2)
  have O2 := Lib.hid (o2.lower SZ1.out)
  have SZ2 := Lib.hid b2.size
  have LX := Lib.hid (fun k hk => (o2.blk k hk).2)
  obtain ⟨ax, nx, cx, rfl⟩ := o2.form
  clear b2 o2 s0 s1 I1 I2 T1 V1 BY
  go_wp2_with (at_builtin; refine wpList_append_own_at _ rfl _ _ 50 rfl (w.heap.size + 2) 53 i0 .nilIface 1 16 Try.underlying50 hi hz0 hz1 hz2 rfl (by decide) (.slice none 0 0) 0 [] rfl (World.ownsRow_nil _ _ _ _) ⟨w2.heap.size, 0, none⟩ 1 1 [.iface 71 (.slice ax nx cx)] rfl rfl (cell_one_new _ _ _) (by simp [Value.oneCell']) (by unfold maxLen; omega) (by omega) (by have := SZ1.out; have := SZ2.out; simp; omega) ?_; intro v3 w3 hown3 hg3 _ hat3)
  have bb : Below w2.heap.size w2 w3 := Below.grown ((Below.refl w2.heap.size w2).alloc (Nat.le_refl _) _) hg3 (by simp) (fun j hj => by simp [Value.ownBlock] at hj)
  have BZ3 := Lib.hid (below_up BZ2.out bb)
  have V3 := Lib.hid (V2.out.below bb)
  have J3 := Lib.hid (J2.out.below bb)
  have T3 := Lib.hid (T2.out.below bb)
  have O3 := Lib.hid (O2.out.below bb)
  have SZ3 := Lib.hid bb.size
  obtain ⟨g, cap, rfl, hg, hgs, hrow⟩ : ∃ g cap, v3 = .slice (some ⟨g, 0, none⟩) 1 cap ∧ g = w2.heap.size + 1 ∧ g < w3.heap.size ∧ w3.ownsRow (w.heap.size + 2) 53 1 v3 1 [.iface 71 (.slice ax nx cx)] := by
    have hrow : w3.ownsRow (w.heap.size + 2) 53 1 v3 1 [.iface 71 (.slice ax nx cx)] := by simpa using hown3
    rcases hrow.2 with ⟨_, h0⟩ | ⟨g, cap, cur, h0, _⟩
    · omega
    · subst h0
      refine ⟨g, cap, rfl, ?_, (hrow.lt g rfl).2, hrow⟩
      rcases hat3 with h | h
      · simp [Value.ownBlock] at h
      · simpa [Value.ownBlock] using h
  have HG := Lib.hid hg
  have HGS := Lib.hid hgs
  have RW3 := Lib.hid hrow
  clear bb hg3 hown3 hat3 BZ2 V2 J2 T2 O2 hg hgs hrow
  obtain ⟨s0, s1, -⟩ := T3.out
  go_wp2_with fail
  rw [rounds_succ]
  go_wp2_with fail
  refine (CR.out _ J3.out).mono ?_
  rintro e w4 ⟨xr, rfl, o4, b4⟩
  have BZ4 := Lib.hid (below_up BZ3.out b4)
  have V4 := Lib.hid (V3.out.below b4)
  have T4 := Lib.hid (T3.out.below b4)
  have O4 := Lib.hid (O3.out.below b4)
  have RW4 := Lib.hid (owns_below RW3.out b4)
  have SZ4 := Lib.hid b4.size
  have Q4 := Lib.hid (o4.lower (show w.heap.size + 2 ≤ w3.heap.size by have := SZ1.out; have := SZ2.out; have := SZ3.out; omega))
  have RX := Lib.hid (fun k hk => o4.blk k hk)
  obtain ⟨ay, ny, cy, rfl⟩ := o4.form
  clear b4 o4 s0 s1 J3 T3 V3 BZ3 O3 RW3
  have hbase : w.heap.size + 2 ≤ w4.heap.size + 1 := by have := SZ1.out; have := SZ2.out; have := SZ3.out; have := SZ4.out; omega
  go_wp2_with (at_builtin; refine wpList_append_own_at _ rfl _ _ 50 rfl (w.heap.size + 2) 53 i0 .nilIface 1 16 Try.underlying50 hi hz0 hz1 hz2 rfl (by decide) (.slice (some ⟨g, 0, none⟩) 1 cap) 1 [.iface 71 (.slice ax nx cx)] rfl (RW4.out.alloc _) ⟨w4.heap.size, 0, none⟩ 1 1 [.iface 70 (.slice ay ny cy)] rfl rfl (cell_one_new _ _ _) (by simp [Value.oneCell']) (by unfold maxLen; omega) (by omega) (by simpa using hbase) ?_; intro v5 w5 hown5 hg5 _ hat5)
  have hgg : Hid (w.heap.size + 2 ≤ g) := by unfold Hid; have := SZ1.out; have := SZ2.out; have := HG.out; omega
  have V5 := Lib.hid ((V4.out.alloc _).grown hg5 (fun e => by have := own_eq e; have := hgg.out; omega))
  have O5 := Lib.hid ((O4.out.alloc _).only (Only.of_grown hg5) (fun k hk e => by have := own_eq e; have := LX.out k hk; have := HG.out; omega))
  have Q5 := Lib.hid ((Q4.out.alloc _).only (Only.of_grown hg5) (fun k hk e => by have := own_eq e; have := (RX.out k hk).1; have := HGS.out; omega))
  have BZ5 : Hid (Below w.heap.size w w5) := Below.grown (BZ4.out.alloc (by omega) _) hg5 (by simp; omega) (fun j hj => by have := own_eq hj; have := hgg.out; omega)
  obtain ⟨g', cap', rfl, c0, c1⟩ : ∃ g' cap', v5 = .slice (some ⟨g', 0, none⟩) 2 cap' ∧ w5.cell? ⟨g', 0, none⟩ = some (.iface 71 (.slice ax nx cx)) ∧ w5.cell? ⟨g', 1, none⟩ = some (.iface 70 (.slice ay ny cy)) := by
    have hrow : w5.ownsRow (w.heap.size + 2) 53 1 v5 2 [.iface 71 (.slice ax nx cx), .iface 70 (.slice ay ny cy)] := by simpa using hown5
    rcases hrow.2 with ⟨_, h0⟩ | ⟨g', cap', cur, h0, _⟩
    · omega
    · subst h0
      exact ⟨g', cap', rfl, by rw [hrow.cellAt 0 (by omega)]; rfl, by rw [hrow.cellAt 1 (by omega)]; rfl⟩
  clear hown5 hg5 hat5 V4 O4 Q4 BZ4 T4 RW4 hbase
  go_wp2_with fail
  rw [rounds_succ]
  go_wp2_with fail
  refine (weighRL g' cap' ax ay nx cx ny cy _ c0 c1).mono ?_
  rintro e w6 ⟨rfl, b6⟩
  have V6 := Lib.hid (V5.out.below b6)
  have O6 := Lib.hid (O5.out.below b6)
  have Q6 := Lib.hid (Q5.out.below b6)
  have BZ6 := Lib.hid (below_up BZ5.out b6)
  clear b6 c0 c1 V5 O5 Q5 BZ5
  obtain ⟨⟨z0, z1, z2⟩, g0, g1⟩ := V6.out
  go_wp2
  generalize hU : (w6.setCell ⟨w.heap.size + 1, 0, none⟩ (.slice ay ny cy)).setCell ⟨w.heap.size + 1, 1, none⟩ (.slice ax nx cx) = U
  have VU : VarAt U (w.heap.size + 1) (.slice ay ny cy) (.slice ax nx cx) := by rw [← hU]; exact (V6.out.set0 _).set1 _
  have OU : Own U (w.heap.size + 2) (.slice ax nx cx) L := by rw [← hU]; exact (O6.out.setCell (by omega) _).setCell (by omega) _
  have QU : Own U (w.heap.size + 2) (.slice ay ny cy) R := by rw [← hU]; exact (Q6.out.setCell (by omega) _).setCell (by omega) _
  have BU : Below w.heap.size w U := by rw [← hU]; exact (BZ6.out.setCell (p := ⟨w.heap.size + 1, 0, none⟩) (by simp) _).setCell (p := ⟨w.heap.size + 1, 1, none⟩) (by simp) _
  have HS : Sep (.slice ay ny cy) (.slice ax nx cx) := fun k hk hk' => by
    have := (RX.out k hk).1
    have := LX.out k hk'
    have := SZ3.out
    omega
  obtain ⟨⟨u0, u1, -⟩, -, -⟩ := VU
  refine bodyPost_ret (v := .agg #[.slice ay ny cy, .slice ax nx cx]) (by simp [results, Try.results11, go_sem, u0, u1]) rfl ⟨_, rfl, ⟨_, _, rfl, QU.lower (by omega), OU.lower (by omega), HS⟩, BU⟩
end Go.Proofs.Ytdfcjdepfikboaa
