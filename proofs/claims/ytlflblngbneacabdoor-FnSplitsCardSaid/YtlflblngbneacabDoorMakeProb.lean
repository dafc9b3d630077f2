/- The contract of the model's making of a problem out of a code: it returns a valid one with 2 to 8 coins. Condition: the code reads as bytes. -/
import Derived.Test.YtlflblngbneacabDoorGWei
import Derived.Test.YtlflblngbneacabDoorDrawW
namespace Go.Proofs.YtlflblngbneacabDoor
open Go.RowKit

theorem once_any (W w : World) (b : Nat) (a : Option Addr) (len cap : Nat) (n : Int) (hB : BytesAt W a len) (hC : CurOk W w b a len cap) (hl : len ≤ 1048576) (h0 : 0 < n) (h1 : n ≤ 256) :
    Calls Tryd.prog 92 #[.pointer (some ⟨b, 0, none⟩), .int .i64 n] w fun e w' => ∃ t : Bool, e = .returned (.bool t) ∧ CurOk W w' b a len cap ∧ w.grownBy w' (some b) := by
  have C := Lib.hid (below_any W w b a len cap n hB hC hl h0 h1)
  clear hB hC
  go_enter Tryd.func92, Tryd.ntmps92
  go_wp2_with fail
  refine C.out.mono ?_
  rintro e w2 ⟨x, rfl, -, -, hc, hg⟩
  have HC := Lib.hid hc
  have HG := Lib.hid hg
  clear hc hg
  go_wp2
  go_ret
  exact ⟨_, rfl, HC.out, HG.out⟩

/-- Four cells of a problem in block b may be written. -/
def ProbVar (w : World) (b : Nat) (n : Int) (h l z : Bool) : Prop :=
  ProbAt w b n h l z ∧ w.frozen? ⟨b, 0, none⟩ = false ∧ w.frozen? ⟨b, 1, none⟩ = false ∧ w.frozen? ⟨b, 2, none⟩ = false ∧ w.frozen? ⟨b, 3, none⟩ = false
theorem ProbVar.new (w : World) (ty : TypeId) (n : Int) (h l z : Bool) : ProbVar (w.alloc (.cells #[.int .i64 n, .bool h, .bool l, .bool z] ty)) w.heap.size n h l z := by
  refine ⟨ProbAt.new w ty n h l z, ?_, ?_, ?_, ?_⟩ <;> simp
theorem ProbVar.only {T : Nat → Prop} {w w' : World} {b : Nat} {n : Int} {h l z : Bool} (hp : ProbVar w b n h l z) (ho : Only T w w') (hb : ¬ T b) : ProbVar w' b n h l z := by
  obtain ⟨⟨e0, e1, e2, e3, hlt⟩, f0, f1, f2, f3⟩ := hp
  have k := ho.block b hlt hb
  refine ⟨⟨?_, ?_, ?_, ?_, Nat.lt_of_lt_of_le hlt ho.size⟩, ?_, ?_, ?_, ?_⟩
  · rw [World.cell?_of_block (w := w) (a := ⟨b, 0, none⟩) k]; exact e0
  · rw [World.cell?_of_block (w := w) (a := ⟨b, 1, none⟩) k]; exact e1
  · rw [World.cell?_of_block (w := w) (a := ⟨b, 2, none⟩) k]; exact e2
  · rw [World.cell?_of_block (w := w) (a := ⟨b, 3, none⟩) k]; exact e3
  · rw [World.frozen?_of_block (w := w) (a := ⟨b, 0, none⟩) k]; exact f0
  · rw [World.frozen?_of_block (w := w) (a := ⟨b, 1, none⟩) k]; exact f1
  · rw [World.frozen?_of_block (w := w) (a := ⟨b, 2, none⟩) k]; exact f2
  · rw [World.frozen?_of_block (w := w) (a := ⟨b, 3, none⟩) k]; exact f3

theorem Only.setNew {T : Nat → Prop} {w w' : World} (h : Only T w w') {c : Nat} (hc : w.heap.size ≤ c) (o : Nat) (u : Value) : Only T w (w'.setCell ⟨c, o, none⟩ u) :=
  ⟨h.os, h.tape, h.output, by rw [setCell_size]; exact h.size, fun k hk hn => by
    rw [← h.block k hk hn]
    exact (Below.setCell (B := c) (p := ⟨c, o, none⟩) (Below.refl c w') (Nat.le_refl _) u).block k (by omega)⟩
/-- Four cells written one behind another. -/
def set4 (w : World) (b : Nat) (n : Int) (h l z : Bool) : World :=
  (((w.setCell ⟨b, 0, none⟩ (.int .i64 n)).setCell ⟨b, 1, none⟩ (.bool h)).setCell ⟨b, 2, none⟩ (.bool l)).setCell ⟨b, 3, none⟩ (.bool z)
theorem only_set4 {T : Nat → Prop} {w w' : World} (h : Only T w w') {c : Nat} (hc : w.heap.size ≤ c) (n : Int) (p l z : Bool) : Only T w (set4 w' c n p l z) :=
  (((h.setNew hc 0 _).setNew hc 1 _).setNew hc 2 _).setNew hc 3 _
theorem ProbVar.cells {w : World} {b : Nat} {n : Int} {h l z : Bool} (hp : ProbVar w b n h l z) : Cells w b 4 (fun o => if o = 0 then .int .i64 n else if o = 1 then .bool h else if o = 2 then .bool l else .bool z) :=
  ⟨hp.1.2.2.2.2, fun o ho => match o, ho with
    | 0, _ => ⟨hp.1.1, hp.2.1⟩
    | 1, _ => ⟨hp.1.2.1, hp.2.2.1⟩
    | 2, _ => ⟨hp.1.2.2.1, hp.2.2.2.1⟩
    | 3, _ => ⟨hp.1.2.2.2.1, hp.2.2.2.2⟩⟩
theorem Cells.set4 {w : World} {b : Nat} {f : Nat → Value} (h : Cells w b 4 f) (n : Int) (p l z : Bool) : ProbAt (Go.Proofs.YtlflblngbneacabDoor.set4 w b n p l z) b n p l z := by
  have k := (((h.set 0 (by omega) (.int .i64 n)).set 1 (by omega) (.bool p)).set 2 (by omega) (.bool l)).set 3 (by omega) (.bool z)
  exact ⟨(k.2 0 (by omega)).1, (k.2 1 (by omega)).1, (k.2 2 (by omega)).1, (k.2 3 (by omega)).1, k.1⟩

set_option maxRecDepth 100000 in
set_option maxHeartbeats 1600000 in
theorem probDraw (W w : World) (b : Nat) (a : Option Addr) (len cap : Nat) (hB : BytesAt W a len) (hC : CurOk W w b a len cap) (hl : len ≤ 1048576) :
    Calls Tryd.prog 65 #[.pointer (some ⟨b, 0, none⟩), .int .i64 8] w fun e w' => ∃ n h l z, e = .returned (probV n h l z) ∧ 1 ≤ n ∧ n ≤ 8 ∧ (h || l) = true ∧ Only (fun k => k = b) w w' := by
  have hbw := hC.lt
  have B1 : Below w.heap.size w (w.alloc (.cells #[.int .i64 0, .bool false, .bool false, .bool false] 30)) := alloc_below _ _
  have V1 := Lib.hid (ProbVar.new w 30 0 false false false)
  have O1 := Lib.hid (Only.fresh (T := fun k => k = b) B1)
  have K1 := Lib.hid (hC.only (Only.fresh (T := fun _ => False) B1) (fun _ h => h.elim))
  generalize hX1 : w.alloc (.cells #[.int .i64 0, .bool false, .bool false, .bool false] 30) = X1 at V1 O1 K1
  have CB := Lib.hid (fun V h => below_any W V b a len cap 8 hB h hl (by omega) (by omega))
  have C4 := Lib.hid (fun V h => once_any W V b a len cap 4 hB h hl (by omega) (by omega))
  have C2 := Lib.hid (fun V h => once_any W V b a len cap 2 hB h hl (by omega) (by omega))
  have hne : ¬ w.heap.size = b := by omega
  have HNE := Lib.hid hne
  clear hC hB B1 hne
  go_enter Tryd.func65, Tryd.ntmps65
  go_wp2_with fail
  refine (CB.out _ K1.out).mono ?_
  rintro e w2 ⟨x, rfl, x0, x1, hc, hg⟩
  have T2 : Only (fun k => k = b) X1 w2 := (Only.of_grown hg).mono fun k e => by simpa using e.symm
  have V2 := Lib.hid (V1.out.only T2 HNE.out)
  have O2 := Lib.hid (O1.out.trans T2)
  have K2 := Lib.hid hc
  clear hc hg T2 hX1
  go_wp2_with fail
  refine (C4.out _ K2.out).mono ?_
  rintro e w3 ⟨t1, rfl, hc, hg⟩
  have T2 : Only (fun k => k = b) w2 w3 := (Only.of_grown hg).mono fun k e => by simpa using e.symm
  have V3 := Lib.hid (V2.out.only T2 HNE.out)
  have O3 := Lib.hid (O2.out.trans T2)
  have K3 := Lib.hid hc
  clear hc hg T2
  go_wp2_with fail
  refine (C2.out _ K3.out).mono ?_
  rintro e w4 ⟨t2, rfl, hc, hg⟩
  have T2 : Only (fun k => k = b) w3 w4 := (Only.of_grown hg).mono fun k e => by simpa using e.symm
  have V4 := Lib.hid (V3.out.only T2 HNE.out)
  have O4 := Lib.hid (O3.out.trans T2)
  have K4 := Lib.hid hc
  clear hc hg T2
  go_wp2_with fail
  refine (C2.out _ K4.out).mono ?_
  rintro e w5 ⟨t3, rfl, hc, hg⟩
  have T2 : Only (fun k => k = b) w4 w5 := (Only.of_grown hg).mono fun k e => by simpa using e.symm
  have V5 := Lib.hid (V4.out.only T2 HNE.out)
  have O5 := Lib.hid (O4.out.trans T2)
  clear hc hg T2 K4 K3 K2 K1
  obtain ⟨⟨z0, z1, z2, z3, z4⟩, y0, y1, y2, y3⟩ := V5.out
  have HC5 := Lib.hid V5.out.cells
  cases t1 with
  | false =>
    have HL : Hid ((true || t2) = true) := rfl
    go_wp2
    obtain ⟨U, hU⟩ : ∃ U, (set4 w5 w.heap.size (1 + x) true t2 t3).alloc (.cells #[.int .i64 (1 + x), .bool true, .bool t2, .bool t3] 30) = U := ⟨_, rfl⟩
    have R : ProbAt U w.heap.size (1 + x) true t2 t3 := by rw [← hU]; exact (HC5.out.set4 _ _ _ _).below (alloc_below _ _)
    have OU : Only (fun k => k = b) w U := by rw [← hU]; exact (only_set4 O5.out (Nat.le_refl _) _ _ _ _).trans (Only.fresh (alloc_below _ _))
    unfold set4 at hU
    rw [hU]
    obtain ⟨u0, u1, u2, u3, -⟩ := R
    refine bodyPost_ret (v := .agg #[.int .i64 (1 + x), .bool true, .bool t2, .bool t3]) (by simp [results, Tryd.results65, go_sem, u0, u1, u2, u3]) rfl ⟨1 + x, true, t2, t3, rfl, by omega, by omega, HL.out, OU⟩
  | true =>
    have HL : Hid ((false || true) = true) := rfl
    go_wp2
    obtain ⟨U, hU⟩ : ∃ U, (set4 w5 w.heap.size (1 + x) false true t3).alloc (.cells #[.int .i64 (1 + x), .bool false, .bool true, .bool t3] 30) = U := ⟨_, rfl⟩
    have R : ProbAt U w.heap.size (1 + x) false true t3 := by rw [← hU]; exact (HC5.out.set4 _ _ _ _).below (alloc_below _ _)
    have OU : Only (fun k => k = b) w U := by rw [← hU]; exact (only_set4 O5.out (Nat.le_refl _) _ _ _ _).trans (Only.fresh (alloc_below _ _))
    unfold set4 at hU
    rw [hU]
    obtain ⟨u0, u1, u2, u3, -⟩ := R
    refine bodyPost_ret (v := .agg #[.int .i64 (1 + x), .bool false, .bool true, .bool t3]) (by simp [results, Tryd.results65, go_sem, u0, u1, u2, u3]) rfl ⟨1 + x, false, true, t3, rfl, by omega, by omega, HL.out, OU⟩

set_option maxRecDepth 100000 in
set_option maxHeartbeats 1600000 in
theorem specMakeProb : MakesProb := by
  intro W w a len cap hB hb hl
  have V1 := Lib.hid (ProbVar.new w 30 0 false false false)
  have B1 := Lib.hid (alloc_below w (.cells #[.int .i64 0, .bool false, .bool false, .bool false] 30))
  generalize hX1 : w.alloc (.cells #[.int .i64 0, .bool false, .bool false, .bool false] 30) = X1 at V1 B1
  have s1 : Hid (X1.heap.size = w.heap.size + 1) := by unfold Hid; rw [← hX1]; simp
  have C1 := Lib.hid (new_any W X1 a len cap hB (hb.trans (B1.out.mono hb.size)) hl)
  have C2 := Lib.hid (fun V b h => probDraw W V b a len cap hB h hl)
  clear hB hb
  go_enter Tryd.func16, Tryd.ntmps16
  go_wp2_with fail
  refine C1.out.mono ?_
  rintro e w2 ⟨b, rfl, hbw, hcur, hbel⟩
  have HB := Lib.hid hbw
  have HC := Lib.hid hcur
  have V2 := Lib.hid (V1.out.only (Only.fresh (T := fun _ => False) hbel) (fun h => h))
  have B2 := Lib.hid (below_up B1.out hbel)
  clear hbw hcur hbel hX1
  go_wp2_with fail
  refine (C2.out _ _ HC.out).mono ?_
  rintro e w3 ⟨n, h, l, z, rfl, n1, n8, hhl, ho⟩
  have HNE : Hid (¬ w.heap.size = b) := by unfold Hid; have := HB.out; have := s1.out; omega
  have V3 := Lib.hid (V2.out.only ho HNE.out)
  have O3 : Hid (Below w.heap.size w w3) := B2.out.trans (ho.below B2.out.size fun k e => by have := HB.out; have := s1.out; omega)
  have HL := Lib.hid hhl
  have HC3 := Lib.hid V3.out.cells
  unfold probV
  clear hhl ho HC
  obtain ⟨⟨z0, z1, z2, z3, z4⟩, y0, y1, y2, y3⟩ := V3.out
  by_cases hn : 2 < n
  · go_wp2
    obtain ⟨U, hU⟩ : ∃ U, (set4 w3 w.heap.size n h l z).alloc (.cells #[.int .i64 n, .bool h, .bool l, .bool z] 30) = U := ⟨_, rfl⟩
    have R : ProbAt U w.heap.size n h l z := by rw [← hU]; exact (HC3.out.set4 _ _ _ _).below (alloc_below _ _)
    have OU : Only (fun _ => False) w U := by
      rw [← hU]; exact (only_set4 (Only.fresh O3.out) (Nat.le_refl _) _ _ _ _).trans (Only.fresh (alloc_below _ _))
    unfold set4 at hU
    rw [hU]
    obtain ⟨u0, u1, u2, u3, -⟩ := R
    have HP : probB n h l = true := by simp [probB, HL.out]; omega
    refine bodyPost_ret (v := .agg #[.int .i64 n, .bool h, .bool l, .bool z]) (by simp [results, Tryd.results16, go_sem, u0, u1, u2, u3]) rfl ⟨n, h, l, z, rfl, HP, by omega, by omega, OU.below (Nat.le_refl _) (fun _ h => h.elim)⟩
  · go_wp2
    obtain ⟨U, hU⟩ : ∃ U, (set4 w3 w.heap.size 2 h l z).alloc (.cells #[.int .i64 2, .bool h, .bool l, .bool z] 30) = U := ⟨_, rfl⟩
    have R : ProbAt U w.heap.size 2 h l z := by rw [← hU]; exact (HC3.out.set4 _ _ _ _).below (alloc_below _ _)
    have OU : Only (fun _ => False) w U := by
      rw [← hU]; exact (only_set4 (Only.fresh O3.out) (Nat.le_refl _) _ _ _ _).trans (Only.fresh (alloc_below _ _))
    unfold set4 at hU
    rw [hU]
    obtain ⟨u0, u1, u2, u3, -⟩ := R
    have HP : probB 2 h l = true := by simp [probB, HL.out]
    refine bodyPost_ret (v := .agg #[.int .i64 2, .bool h, .bool l, .bool z]) (by simp [results, Tryd.results16, go_sem, u0, u1, u2, u3]) rfl ⟨2, h, l, z, rfl, HP, by omega, by omega, OU.below (Nat.le_refl _) (fun _ h => h.elim)⟩
end Go.Proofs.YtlflblngbneacabDoor
