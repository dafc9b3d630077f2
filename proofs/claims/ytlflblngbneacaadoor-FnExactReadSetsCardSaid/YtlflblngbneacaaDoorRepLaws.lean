/- The walks of the exact laws of FormatCases, FormatSets, PoolsLine and ReadSets round the contracts of the program's functions (in every world that lies above the one that the law starts in): each returns true for every argument. Conditions: the slices that came in read as integers that fit Go's int; the texts are short enough to be counted. -/
import Derived.Test.YtlflblngbneacaaDoorGRep
import Derived.Test.YtlflblngbneacaaDoorRepState
namespace Go.Proofs.YtlflblngbneacaaDoor
open Go.RowKit

/-- The contracts of the program's functions. -/
def FormatCasesIs (f : FuncId) (l : List Int) (w : World) : Prop := ∀ W, Below w.heap.size w W → ∀ v, IntsAt W v l → Calls Tryd.prog f #[v] W fun e w' => e = .returned (.string (casesT l)) ∧ Below W.heap.size W w'
def FormatSetsIs (f : FuncId) (l : List Int) (w : World) : Prop := ∀ W, Below w.heap.size w W → ∀ v, IntsAt W v l → Calls Tryd.prog f #[v] W fun e w' => e = .returned (.string (setsT l)) ∧ Below W.heap.size W w'
def PoolsLineIs (f : FuncId) (n : Int) (P : List Int) (w : World) : Prop := ∀ W, Below w.heap.size w W → ∀ v, IntsAt W v P → Calls Tryd.prog f #[.int .i64 n, v] W fun e w' => e = .returned (.string (poolsT n P)) ∧ Below W.heap.size W w'
def ReadSetsIs (f : FuncId) (t : ByteArray) (w : World) : Prop := ∀ W, Below w.heap.size w W → Calls Tryd.prog f #[.string t] W (GivesQ (setsL t) (setsB t) W)
theorem setsL_len (t : ByteArray) (h : t.size ≤ 1048576) : (setsL t).length ≤ 1048577 := by
  have := (parts_length t (isBy sepSp)).2
  unfold setsL
  split
  · rw [List.length_map]; omega
  · simp

set_option maxRecDepth 100000 in
set_option maxHeartbeats 3200000 in
theorem lawFormatCases (l : List Int) (w : World) (hw : Fit l) (vl : Value) (cl : IntsAt w vl l) (IM : l.length ≤ 1048576 → FormatCasesIs 14 l w) :
    Calls Tryd.prog 3 #[vl] w fun e w' => e = .returned (.bool true) ∧ Below w.heap.size w w' := by
  have Hl := Lib.hid cl
  have B0 := Lib.hid (Below.refl w.heap.size w)
  obtain ⟨al, kl, rfl, -⟩ := cl
  by_cases Ll : 1048576 < l.length
  · go_enter Tryd.func3, Tryd.ntmps3
    go_wp2
    go_ret
    exact ⟨rfl, B0.out⟩
  have Nl : l.length ≤ 1048576 := by omega
  replace IM := IM Nl
  have SP := Lib.hid (fun W u0 h0 => specFormatCases u0 l W h0 Nl hw)
  unfold FormatCasesIs at IM
  have IP := Lib.hid IM
  generalize casesT l = r at SP IP
  have Tl := Lib.hid (fun W h => toInts (.slice al l.length kl) l W h Nl)
  have El := Lib.hid (fun W a b (h : IntsAt W a l) h' => eqInts_same a b l W h h' (by omega))
  clear IM Nl hw
  generalize hnl : l.length = nl at Hl Tl Ll
  clear hnl
  go_enter Tryd.func3, Tryd.ntmps3
  go_wp2_with fail
  refine (Tl.out _ (Hl.out.below B0.out)).mono ?_
  rintro e w1 ⟨uPl, rfl, -, o, bb⟩
  obtain ⟨gPl, nPl, qPl, rfl⟩ := o.form
  have IPl : Hid (∀ k, Value.ownBlock (.slice gPl nPl qPl) = some k → w.heap.size ≤ k ∧ k < w1.heap.size) := fun k hk => o.blk k hk
  have Pl1 := Lib.hid o
  clear o
  have B1 := Lib.hid (below_up B0.out bb)
  have D1 : Hid (w.heap.size ≤ w1.heap.size) := bb.size
  clear bb B0
  go_wp2_with fail
  refine (SP.out _ _ Pl1.out.reads).mono ?_
  rintro e w2 ⟨rfl, bb⟩
  have B2 := Lib.hid (below_up B1.out bb)
  have D2 : Hid (w1.heap.size ≤ w2.heap.size) := bb.size
  clear bb B1 Pl1
  go_wp2_with fail
  refine (Tl.out _ (Hl.out.below B2.out)).mono ?_
  rintro e w3 ⟨uXl, rfl, -, o, bb⟩
  obtain ⟨gXl, nXl, qXl, rfl⟩ := o.form
  have IXl : Hid (∀ k, Value.ownBlock (.slice gXl nXl qXl) = some k → w2.heap.size ≤ k ∧ k < w3.heap.size) := fun k hk => o.blk k hk
  have Xl3 := Lib.hid o
  clear o
  have B3 := Lib.hid (below_up B2.out bb)
  have D3 : Hid (w2.heap.size ≤ w3.heap.size) := bb.size
  clear bb B2
  go_wp2_with fail
  refine (IP.out _ B3.out _ Xl3.out.reads).mono ?_
  rintro e w4 ⟨rfl, bb⟩
  have B4 := Lib.hid (below_up B3.out bb)
  have D4 : Hid (w3.heap.size ≤ w4.heap.size) := bb.size
  have Xl4 := Lib.hid (Xl3.out.below bb)
  clear bb B3 Xl3
  go_wp2_with fail
  refine (Tl.out _ (Hl.out.below B4.out)).mono ?_
  rintro e w5 ⟨uY, rfl, -, o, bb⟩
  obtain ⟨gY, nY, qY, rfl⟩ := o.form
  have IY : Hid (∀ k, Value.ownBlock (.slice gY nY qY) = some k → w4.heap.size ≤ k ∧ k < w5.heap.size) := fun k hk => o.blk k hk
  have Y5 := Lib.hid o
  clear o
  have B5 := Lib.hid (below_up B4.out bb)
  have D5 : Hid (w4.heap.size ≤ w5.heap.size) := bb.size
  have Xl5 := Lib.hid (Xl4.out.below bb)
  clear bb B4 Xl4
  go_wp2_with fail
  refine (El.out _ _ _ Xl5.out.reads Y5.out.reads).mono ?_
  rintro e w6 ⟨rfl, bb⟩
  have B6 := Lib.hid (below_up B5.out bb)
  have D6 : Hid (w5.heap.size ≤ w6.heap.size) := bb.size
  clear bb B5 Xl5 Y5
  go_wp2
  go_ret
  exact ⟨rfl, B6.out⟩

set_option maxRecDepth 100000 in
set_option maxHeartbeats 3200000 in
theorem lawFormatSets (l : List Int) (w : World) (hw : Fit l) (vl : Value) (cl : IntsAt w vl l) (IM : l.length ≤ 1048576 → FormatSetsIs 37 l w) :
    Calls Tryd.prog 10 #[vl] w fun e w' => e = .returned (.bool true) ∧ Below w.heap.size w w' := by
  have Hl := Lib.hid cl
  have B0 := Lib.hid (Below.refl w.heap.size w)
  obtain ⟨al, kl, rfl, -⟩ := cl
  by_cases Ll : 1048576 < l.length
  · go_enter Tryd.func10, Tryd.ntmps10
    go_wp2
    go_ret
    exact ⟨rfl, B0.out⟩
  have Nl : l.length ≤ 1048576 := by omega
  replace IM := IM Nl
  have SP := Lib.hid (fun W u0 h0 => specFormatSets u0 l W h0 Nl hw)
  unfold FormatSetsIs at IM
  have IP := Lib.hid IM
  generalize setsT l = r at SP IP
  have Tl := Lib.hid (fun W h => toInts (.slice al l.length kl) l W h Nl)
  have El := Lib.hid (fun W a b (h : IntsAt W a l) h' => eqInts_same a b l W h h' (by omega))
  clear IM Nl hw
  generalize hnl : l.length = nl at Hl Tl Ll
  clear hnl
  go_enter Tryd.func10, Tryd.ntmps10
  go_wp2_with fail
  refine (Tl.out _ (Hl.out.below B0.out)).mono ?_
  rintro e w1 ⟨uPl, rfl, -, o, bb⟩
  obtain ⟨gPl, nPl, qPl, rfl⟩ := o.form
  have IPl : Hid (∀ k, Value.ownBlock (.slice gPl nPl qPl) = some k → w.heap.size ≤ k ∧ k < w1.heap.size) := fun k hk => o.blk k hk
  have Pl1 := Lib.hid o
  clear o
  have B1 := Lib.hid (below_up B0.out bb)
  have D1 : Hid (w.heap.size ≤ w1.heap.size) := bb.size
  clear bb B0
  go_wp2_with fail
  refine (SP.out _ _ Pl1.out.reads).mono ?_
  rintro e w2 ⟨rfl, bb⟩
  have B2 := Lib.hid (below_up B1.out bb)
  have D2 : Hid (w1.heap.size ≤ w2.heap.size) := bb.size
  clear bb B1 Pl1
  go_wp2_with fail
  refine (Tl.out _ (Hl.out.below B2.out)).mono ?_
  rintro e w3 ⟨uXl, rfl, -, o, bb⟩
  obtain ⟨gXl, nXl, qXl, rfl⟩ := o.form
  have IXl : Hid (∀ k, Value.ownBlock (.slice gXl nXl qXl) = some k → w2.heap.size ≤ k ∧ k < w3.heap.size) := fun k hk => o.blk k hk
  have Xl3 := Lib.hid o
  clear o
  have B3 := Lib.hid (below_up B2.out bb)
  have D3 : Hid (w2.heap.size ≤ w3.heap.size) := bb.size
  clear bb B2
  go_wp2_with fail
  refine (IP.out _ B3.out _ Xl3.out.reads).mono ?_
  rintro e w4 ⟨rfl, bb⟩
  have B4 := Lib.hid (below_up B3.out bb)
  have D4 : Hid (w3.heap.size ≤ w4.heap.size) := bb.size
  have Xl4 := Lib.hid (Xl3.out.below bb)
  clear bb B3 Xl3
  go_wp2_with fail
  refine (Tl.out _ (Hl.out.below B4.out)).mono ?_
  rintro e w5 ⟨uY, rfl, -, o, bb⟩
  obtain ⟨gY, nY, qY, rfl⟩ := o.form
  have IY : Hid (∀ k, Value.ownBlock (.slice gY nY qY) = some k → w4.heap.size ≤ k ∧ k < w5.heap.size) := fun k hk => o.blk k hk
  have Y5 := Lib.hid o
  clear o
  have B5 := Lib.hid (below_up B4.out bb)
  have D5 : Hid (w4.heap.size ≤ w5.heap.size) := bb.size
  have Xl5 := Lib.hid (Xl4.out.below bb)
  clear bb B4 Xl4
  go_wp2_with fail
  refine (El.out _ _ _ Xl5.out.reads Y5.out.reads).mono ?_
  rintro e w6 ⟨rfl, bb⟩
  have B6 := Lib.hid (below_up B5.out bb)
  have D6 : Hid (w5.heap.size ≤ w6.heap.size) := bb.size
  clear bb B5 Xl5 Y5
  go_wp2
  go_ret
  exact ⟨rfl, B6.out⟩

set_option maxRecDepth 100000 in
set_option maxHeartbeats 3200000 in
theorem lawReadSets (t : ByteArray) (w : World) (IM : t.size ≤ 1048576 → ReadSetsIs 39 t w) :
    Calls Tryd.prog 11 #[.string t] w fun e w' => e = .returned (.bool true) ∧ Below w.heap.size w w' := by
  have B0 := Lib.hid (Below.refl w.heap.size w)
  by_cases Lt : (1048576 : Int) < (t.size : Int)
  · go_enter Tryd.func11, Tryd.ntmps11
    go_wp2
    go_ret
    exact ⟨rfl, B0.out⟩
  have Nt : t.size ≤ 1048576 := by omega
  replace IM := IM Nt
  have SP := Lib.hid (fun W => specReadSets t W Nt)
  unfold ReadSetsIs at IM
  have IP := Lib.hid IM
  unfold GivesQ at SP IP
  have hF0 := setsL_len t Nt
  generalize setsL t = F at SP IP hF0
  generalize setsB t = ok at SP IP
  have E0 := Lib.hid (fun W a b (h : IntsAt W a F) h' => eqInts_same a b F W h h' (by omega))
  have M0 := Lib.hid (fun W B a (h : Own W B a F) => markInts B a 1 F W h (by omega) (by omega) (by omega))
  have H0 := Lib.hid (fun W a h => heldInts a 1 F.length W h (by omega) (by omega) (by omega))
  obtain ⟨kf0, hkf0⟩ : ∃ q, (1 : Int) + (F.length : Int) = q := ⟨_, rfl⟩
  rw [hkf0] at M0 H0
  have kp0 : 1 ≤ kf0 ∧ kf0 ≤ 10000000 := by omega
  have kn0 : ¬ kf0 < 0 := by omega
  have hok0 : (ok != ok) = false := by simp
  clear IM hkf0 hF0 kp0
  go_enter Tryd.func11, Tryd.ntmps11
  go_wp2_with fail
  refine (SP.out _).mono ?_
  rintro e w1 ⟨uW0, rfl, o0, bb⟩
  obtain ⟨gWx0, nWx0, qWx0, rfl⟩ := o0.form
  have IWx0 : Hid (∀ k, Value.ownBlock (.slice gWx0 nWx0 qWx0) = some k → w.heap.size ≤ k ∧ k < w1.heap.size) := fun k hk => o0.blk k hk
  have Wx0_1 := Lib.hid o0
  clear o0
  have B1 := Lib.hid (below_up B0.out bb)
  have D1 : Hid (w.heap.size ≤ w1.heap.size) := bb.size
  clear bb B0
  go_wp2_with fail
  refine (IP.out _ B1.out).mono ?_
  rintro e w2 ⟨uG0, rfl, o0, bb⟩
  obtain ⟨gGx0, nGx0, qGx0, rfl⟩ := o0.form
  have IGx0 : Hid (∀ k, Value.ownBlock (.slice gGx0 nGx0 qGx0) = some k → w1.heap.size ≤ k ∧ k < w2.heap.size) := fun k hk => o0.blk k hk
  have Gx0_2 := Lib.hid o0
  clear o0
  have B2 := Lib.hid (below_up B1.out bb)
  have D2 : Hid (w1.heap.size ≤ w2.heap.size) := bb.size
  have Wx0_2 := Lib.hid (Wx0_1.out.below bb)
  clear bb B1 Wx0_1
  go_wp2_with fail
  refine (E0.out _ _ _ Gx0_2.out.reads Wx0_2.out.reads).mono ?_
  rintro e w3 ⟨rfl, bb⟩
  have B3 := Lib.hid (below_up B2.out bb)
  have D3 : Hid (w2.heap.size ≤ w3.heap.size) := bb.size
  have Wx0_3 := Lib.hid (Wx0_2.out.below bb)
  have Gx0_3 := Lib.hid (Gx0_2.out.below bb)
  clear bb B2 Wx0_2 Gx0_2
  go_wp2_with fail
  refine (M0.out _ _ _ Gx0_3.out).mono ?_
  rintro e w4 ⟨rfl, oI, gI⟩
  have tI := Only.of_grown gI
  have B4 : Hid (Below w.heap.size w w4) := B3.out.trans (tI.below B3.out.size fun k hk => by have := IGx0.out k hk; have := D1.out; have := D2.out; have := D3.out; omega)
  have D4 : Hid (w3.heap.size ≤ w4.heap.size) := tI.size
  have Wx0_4 := Lib.hid (Wx0_3.out.only tI fun k hk e => by have := IWx0.out k hk; have := IGx0.out k e; have := D1.out; have := D2.out; have := D3.out; omega)
  have Gx0_4 : Hid (IntsAt w4 (.slice gGx0 nGx0 qGx0) (imarks 1 F.length)) := IntsAt.of_owns_n oI (imarks_length _ _)
  clear oI gI tI B3 Wx0_3 Gx0_3
  go_wp2_with fail
  refine (H0.out _ _ Gx0_4.out).mono ?_
  rintro e w5 ⟨rfl, rfl⟩
  go_wp2_with fail
  refine (IP.out _ B4.out).mono ?_
  rintro e w5 ⟨uH0, rfl, o0, bb⟩
  obtain ⟨gHx0, nHx0, qHx0, rfl⟩ := o0.form
  have IHx0 : Hid (∀ k, Value.ownBlock (.slice gHx0 nHx0 qHx0) = some k → w4.heap.size ≤ k ∧ k < w5.heap.size) := fun k hk => o0.blk k hk
  have Hx0_5 := Lib.hid o0
  clear o0
  have B5 := Lib.hid (below_up B4.out bb)
  have D5 : Hid (w4.heap.size ≤ w5.heap.size) := bb.size
  have Wx0_5 := Lib.hid (Wx0_4.out.below bb)
  have Gx0_5 := Lib.hid (Gx0_4.out.below bb)
  clear bb B4 Wx0_4 Gx0_4
  go_wp2_with fail
  refine (E0.out _ _ _ Hx0_5.out.reads Wx0_5.out.reads).mono ?_
  rintro e w6 ⟨rfl, bb⟩
  have B6 := Lib.hid (below_up B5.out bb)
  have D6 : Hid (w5.heap.size ≤ w6.heap.size) := bb.size
  have Gx0_6 := Lib.hid (Gx0_5.out.below bb)
  clear bb B5 Wx0_5 Gx0_5 Hx0_5
  go_wp2_with fail
  refine (H0.out _ _ Gx0_6.out).mono ?_
  rintro e w7 ⟨rfl, rfl⟩
  go_wp2
  go_ret
  exact ⟨rfl, B6.out⟩

end Go.Proofs.YtlflblngbneacaaDoor
