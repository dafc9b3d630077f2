/- Several texts in one file; each says what it proves and under which condition. No condition. -/
import Derived.Test.YtlflblngbneacabGreatDoorGDraw
import Derived.Test.YtlflblngbneacabGreatDoorGPick
import Derived.Deep.LoopGhost
/- The contract of the model's making of a state out of a code: it returns a valid one. Condition: the code reads as bytes. -/
namespace Go.Proofs.YtlflblngbneacabGreatDoor
open Go.RowKit

theorem FourVar.only {T : Nat → Prop} {w w' : World} {b : Nat} {s : SD} (hp : FourVar w b s) (ho : Only T w w') (hb : ¬ T b) : FourVar w' b s := by
  obtain ⟨⟨e0, e1, e2, e3, hlt⟩, f0, f1, f2, f3⟩ := hp
  have k := ho.block b hlt hb
  refine ⟨⟨?_, ?_, ?_, ?_, Nat.lt_of_lt_of_le hlt ho.size⟩, ?_, ?_, ?_, ?_⟩
  · rw [World.cell?_of_block (w := w) (a := ⟨b, 0, none⟩) k]; exact e0
  · rw [World.cell?_of_block (w := w) (a := ⟨b, 1, none⟩) k]; exact e1
  · rw [World.cell?_of_block (w := w) (a := ⟨b, 2, none⟩) k]; exact e2
  · rw [World.cell?_of_block (w := w) (a := ⟨b, 3, none⟩) k]; exact e3
  · rw [World.frozen?_of_block (w := w) (a := ⟨b, 0, none⟩) k]; exact f0
  · rw [World.frozen?_of_block (w := w) (a := ⟨b, 1, none⟩) k]; exact f1
  · rw [World.frozen?_of_block (w := w) (a := ⟨b, 2, none⟩) k]; exact f2
  · rw [World.frozen?_of_block (w := w) (a := ⟨b, 3, none⟩) k]; exact f3
theorem FourVar.farC {w : World} {b c : Nat} {s : SD} (h : FourVar w b s) (hn : c ≠ b) (j : Nat) (v : Value) : FourVar (w.setCell ⟨c, j, none⟩ v) b s := by
  obtain ⟨⟨e0, e1, e2, e3, hlt⟩, f0, f1, f2, f3⟩ := h
  refine ⟨⟨?_, ?_, ?_, ?_, by simp only [setCell_size]; exact hlt⟩, ?_, ?_, ?_, ?_⟩
  all_goals first | (rw [World.cell?_setCell_far _ _ _ _ hn]; assumption) | (simp only [World.frozen?_setCell]; assumption)
theorem FourVar.fill3 {w : World} {b : Nat} {s : SD} (h : FourVar w b s) (x y z : Int) : FourVar (((w.setCell ⟨b, 0, none⟩ (.int .i64 x)).setCell ⟨b, 1, none⟩ (.int .i64 y)).setCell ⟨b, 2, none⟩ (.int .i64 z)) b ⟨x, y, z, s.g⟩ := by
  obtain ⟨⟨e0, e1, e2, e3, hlt⟩, f0, f1, f2, f3⟩ := h
  refine ⟨⟨?_, ?_, ?_, ?_, by simp only [setCell_size]; exact hlt⟩, ?_, ?_, ?_, ?_⟩
  · rw [World.cell?_setCell_other _ _ _ _ (by simp), World.cell?_setCell_other _ _ _ _ (by simp)]; exact World.cell?_setCell_same _ _ _ e0
  · rw [World.cell?_setCell_other _ _ _ _ (by simp)]; exact World.cell?_setCell_same _ _ _ ((World.cell?_setCell_other _ _ _ _ (by simp)).trans e1)
  · exact World.cell?_setCell_same _ _ _ ((World.cell?_setCell_other _ _ _ _ (by simp)).trans ((World.cell?_setCell_other _ _ _ _ (by simp)).trans e2))
  · rw [World.cell?_setCell_other _ _ _ _ (by simp), World.cell?_setCell_other _ _ _ _ (by simp), World.cell?_setCell_other _ _ _ _ (by simp)]; exact e3
  all_goals (simp only [World.frozen?_setCell]; assumption)
theorem FourVar.one {w : World} {b : Nat} {s : SD} (h : FourVar w b s) (x : Int) : FourVar (w.setCell ⟨b, 0, none⟩ (.int .i64 x)) b ⟨x, s.h, s.l, s.g⟩ := by
  obtain ⟨⟨e0, e1, e2, e3, hlt⟩, f0, f1, f2, f3⟩ := h
  refine ⟨⟨?_, ?_, ?_, ?_, by simp only [setCell_size]; exact hlt⟩, ?_, ?_, ?_, ?_⟩
  · exact World.cell?_setCell_same _ _ _ e0
  · rw [World.cell?_setCell_other _ _ _ _ (by simp)]; exact e1
  · rw [World.cell?_setCell_other _ _ _ _ (by simp)]; exact e2
  · rw [World.cell?_setCell_other _ _ _ _ (by simp)]; exact e3
  all_goals (simp only [World.frozen?_setCell]; assumption)
/-- A state on its way to at most eight coins; f rounds are to come at most. -/
def Way (q : SD) (f : Nat) : Prop := 0 ≤ q.b ∧ 0 ≤ q.h ∧ 0 ≤ q.l ∧ 0 ≤ q.g ∧ (q.b + q.h + q.l + q.g ≤ 8 ∨ (1 ≤ f ∧ q.b ≤ 3 ∧ q.h ≤ 3 ∧ q.l ≤ 3 ∧ q.g ≤ 2))
theorem Way.valid {q : SD} {f : Nat} (h : Way q f) (h8 : q.b + q.h + q.l + q.g ≤ 8) (h0 : ¬ q.b + q.h + q.l + q.g = 0) : stateB q = true ∧ sumS q ≤ 8 := by
  unfold Way at h
  rw [stateB_iff]
  unfold SIn sumS
  omega
def set4s (w : World) (b : Nat) (q : SD) : World :=
  (((w.setCell ⟨b, 0, none⟩ (.int .i64 q.b)).setCell ⟨b, 1, none⟩ (.int .i64 q.h)).setCell ⟨b, 2, none⟩ (.int .i64 q.l)).setCell ⟨b, 3, none⟩ (.int .i64 q.g)
theorem FourVar.set4s {w : World} {b : Nat} {s : SD} (h : FourVar w b s) (q : SD) : FourVar (set4s w b q) b q := by
  by_cases hb : 0 < b
  · exact (Fresh4.fill (B := 0) ⟨h, hb⟩ q).1
  · obtain rfl : b = 0 := by omega
    obtain ⟨⟨e0, e1, e2, e3, hlt⟩, f0, f1, f2, f3⟩ := h
    unfold Go.Proofs.YtlflblngbneacabGreatDoor.set4s
    refine ⟨⟨?_, ?_, ?_, ?_, by simp only [setCell_size]; exact hlt⟩, ?_, ?_, ?_, ?_⟩
    · rw [World.cell?_setCell_other _ _ _ _ (by simp), World.cell?_setCell_other _ _ _ _ (by simp), World.cell?_setCell_other _ _ _ _ (by simp)]; exact World.cell?_setCell_same _ _ _ e0
    · rw [World.cell?_setCell_other _ _ _ _ (by simp), World.cell?_setCell_other _ _ _ _ (by simp)]; exact World.cell?_setCell_same _ _ _ ((World.cell?_setCell_other _ _ _ _ (by simp)).trans e1)
    · rw [World.cell?_setCell_other _ _ _ _ (by simp)]; exact World.cell?_setCell_same _ _ _ ((World.cell?_setCell_other _ _ _ _ (by simp)).trans ((World.cell?_setCell_other _ _ _ _ (by simp)).trans e2))
    · exact World.cell?_setCell_same _ _ _ ((World.cell?_setCell_other _ _ _ _ (by simp)).trans ((World.cell?_setCell_other _ _ _ _ (by simp)).trans ((World.cell?_setCell_other _ _ _ _ (by simp)).trans e3)))
    all_goals (simp only [World.frozen?_setCell]; assumption)
theorem only_set4s {T : Nat → Prop} {w w' : World} (h : Only T w w') {c : Nat} (hc : w.heap.size ≤ c) (q : SD) : Only T w (set4s w' c q) :=
  (((h.setNew hc 0 _).setNew hc 1 _).setNew hc 2 _).setNew hc 3 _

set_option maxRecDepth 100000 in
set_option maxHeartbeats 3200000 in
theorem stateDraw (W w : World) (b : Nat) (a : Option Addr) (len cap : Nat) (hB : BytesAt W a len) (hC : CurOk W w b a len cap) (hl : len ≤ 1048576) :
    Calls Tryz.prog 81 #[.pointer (some ⟨b, 0, none⟩), .int .i64 8] w fun e w' => ∃ s, e = .returned (stateV s) ∧ stateB s = true ∧ sumS s ≤ 8 ∧ Only (fun k => k = b) w w' := by
  have hbw := hC.lt
  have B1 : Below w.heap.size w (w.alloc (.cells #[.int .i64 0, .int .i64 0, .int .i64 0, .int .i64 0] 56)) := alloc_below _ _
  have V1 := Lib.hid (FourVar.new w 56 zeroS)
  have O1 := Lib.hid (Only.fresh (T := fun k => k = b) B1)
  have K1 := Lib.hid (hC.only (Only.fresh (T := fun _ => False) B1) (fun _ h => h.elim))
  have S1 : Hid (w.heap.size < (w.alloc (.cells #[.int .i64 0, .int .i64 0, .int .i64 0, .int .i64 0] 56)).heap.size) := by unfold Hid; simp
  change Hid (FourVar (w.alloc (.cells #[.int .i64 0, .int .i64 0, .int .i64 0, .int .i64 0] 56)) _ _) at V1
  generalize hX1 : w.alloc (.cells #[.int .i64 0, .int .i64 0, .int .i64 0, .int .i64 0] 56) = X1 at V1 O1 K1 S1
  have C4 := Lib.hid (fun V h => below_any W V b a len cap 4 hB h hl (by omega) (by omega))
  have C3 := Lib.hid (fun V h => below_any W V b a len cap 3 hB h hl (by omega) (by omega))
  have C8 := Lib.hid (fun V h => below_any W V b a len cap 8 hB h hl (by omega) (by omega))
  have CO := Lib.hid (fun V h => once_any W V b a len cap 4 hB h hl (by omega) (by omega))
  have HNE : Hid (¬ w.heap.size = b) := by unfold Hid; omega
  have HBW := Lib.hid hbw
  clear hC hB B1 hbw
  go_enter Tryz.func81, Tryz.ntmps81
  go_wp2_with fail
  refine (C4.out _ K1.out).mono ?_
  rintro e w2 ⟨x, rfl, x0, x1, hc, hg⟩
  have T2 : Only (fun k => k = b) X1 w2 := (Only.of_grown hg).mono fun k e => by simpa using e.symm
  have V2 := Lib.hid (V1.out.only T2 HNE.out)
  have O2 := Lib.hid (O1.out.trans T2)
  have S2 := Lib.hid (Nat.lt_of_lt_of_le S1.out T2.size)
  have K2 := Lib.hid hc
  clear hc hg T2 hX1
  go_wp2_with fail
  refine (C4.out _ K2.out).mono ?_
  rintro e w3 ⟨y, rfl, y0, y1, hc, hg⟩
  have T2 : Only (fun k => k = b) w2 w3 := (Only.of_grown hg).mono fun k e => by simpa using e.symm
  have V3 := Lib.hid (V2.out.only T2 HNE.out)
  have O3 := Lib.hid (O2.out.trans T2)
  have S3 := Lib.hid (Nat.lt_of_lt_of_le S2.out T2.size)
  have K3 := Lib.hid hc
  clear hc hg T2
  go_wp2_with fail
  refine (C4.out _ K3.out).mono ?_
  rintro e w4 ⟨z, rfl, z0, z1, hc, hg⟩
  have T2 : Only (fun k => k = b) w3 w4 := (Only.of_grown hg).mono fun k e => by simpa using e.symm
  have V4 := Lib.hid (V3.out.only T2 HNE.out)
  have O4 := Lib.hid (O3.out.trans T2)
  have S4 := Lib.hid (Nat.lt_of_lt_of_le S3.out T2.size)
  have K4 := Lib.hid hc
  clear hc hg T2
  go_wp2_with fail
  refine (C3.out _ K4.out).mono ?_
  rintro e w5 ⟨g, rfl, g0, g1, hc, hg⟩
  have T2 : Only (fun k => k = b) w4 w5 := (Only.of_grown hg).mono fun k e => by simpa using e.symm
  have V5 := Lib.hid (V4.out.only T2 HNE.out)
  have O5 := Lib.hid (O4.out.trans T2)
  have S5 := Lib.hid (Nat.lt_of_lt_of_le S4.out T2.size)
  have K5 := Lib.hid hc
  clear hc hg T2 K4 K3 K2 K1 V1 V2 V3 V4 O1 O2 O3 O4 S1 S2 S3 S4
  have B6 : Below w5.heap.size w5 (w5.alloc (.cells #[.int .i64 x, .int .i64 y, .int .i64 z, .int .i64 g] 56)) := alloc_below _ _
  have D6 := Lib.hid (FourVar.new w5 56 ⟨x, y, z, g⟩)
  have V6 := Lib.hid (V5.out.below B6)
  have O6 := Lib.hid (O5.out.trans (Only.fresh (T := fun k => k = b) B6))
  have K6 := Lib.hid (K5.out.only (Only.fresh (T := fun _ => False) B6) (fun _ h => h.elim))
  have HND : Hid (¬ w5.heap.size = b) := by unfold Hid; have := HBW.out; have := S5.out; omega
  change Hid (FourVar (w5.alloc (.cells #[.int .i64 x, .int .i64 y, .int .i64 z, .int .i64 g] 56)) _ _) at D6
  obtain ⟨d, hd⟩ : ∃ d, w5.heap.size = d := ⟨_, rfl⟩
  have HD : Hid (w.heap.size < d) := by rw [← hd]; exact S5
  have HDB : Hid (¬ d = b) := by rw [← hd]; exact HND
  rw [hd] at D6
  have HQ0 : Hid (Way ⟨x, y, z, g⟩ 1) := by unfold Hid Way; dsimp only; omega
  go_wp2_with fail
  generalize hX6 : w5.alloc (.cells #[.int .i64 x, .int .i64 y, .int .i64 z, .int .i64 g] 56) = X6 at D6 V6 O6 K6 ⊢
  clear B6 V5 O5 S5 K5 hX6 hd HND
  refine (CO.out _ K6.out).mono ?_
  rintro e w7 ⟨t, rfl, hc, hg⟩
  have T2 : Only (fun k => k = b) X6 w7 := (Only.of_grown hg).mono fun k e => by simpa using e.symm
  have VR := Lib.hid (V6.out.only T2 HNE.out)
  have VQ := Lib.hid (D6.out.only T2 HDB.out)
  have OX := Lib.hid (O6.out.trans T2)
  have K7 := Lib.hid hc
  clear hc hg T2 V6 D6 O6 K6
  cases t with
  | false =>
    have HQ := HQ0
    clear K7 HQ0
    clear C4 C3 C8 CO
    go_wp2_with fail
    go_loopg [22] 1 (fun f _ wr => ∃ q : SD, Hid (FourVar wr d q) ∧ Hid (FourVar wr w.heap.size zeroS) ∧ Hid (Only (fun k => k = b) w wr) ∧ Hid (Way q f))
    case atStart => exact ⟨_, VQ, VR, OX, HQ⟩
    case round =>
      clear VQ VR OX HQ
      obtain ⟨q, VQ, VR, OX, HQ⟩ := hrel
      obtain ⟨q0, q1, q2, q3, hq⟩ := HQ.out
      obtain ⟨⟨e0, e1, e2, e3, e4⟩, f0, f1, f2, f3⟩ := VQ.out
      obtain ⟨⟨r0, r1, r2, r3, r4⟩, z0, z1, z2, z3⟩ := VR.out
      have u0 : q.b ≤ 8 := by omega
      have u1 : q.h ≤ 8 := by omega
      have u2 : q.l ≤ 8 := by omega
      have u3 : q.g ≤ 8 := by omega
      have v1 : IntKind.i64.wrap (q.b + q.h) = q.b + q.h := by rw [IntKind.wrap_i64]; omega
      have v2 : IntKind.i64.wrap (q.b + q.h + q.l) = q.b + q.h + q.l := by rw [IntKind.wrap_i64]; omega
      have v3 : IntKind.i64.wrap (q.b + q.h + q.l + q.g) = q.b + q.h + q.l + q.g := by rw [IntKind.wrap_i64]; omega
      by_cases hs : 8 < q.b + q.h + q.l + q.g
      · obtain ⟨f, rfl⟩ : ∃ f, gk = f + 1 := ⟨gk - 1, by omega⟩
        have w1 : IntKind.i64.wrap (q.b - 1) = q.b - 1 := by rw [IntKind.wrap_i64]; omega
        have w2 : IntKind.i64.wrap (q.h - 1) = q.h - 1 := by rw [IntKind.wrap_i64]; omega
        have w3 : IntKind.i64.wrap (q.l - 1) = q.l - 1 := by rw [IntKind.wrap_i64]; omega
        have hne := Lib.hid (Nat.ne_of_gt HD.out)
        have hle := Lib.hid (Nat.le_of_lt HD.out)
        clear r0 r1 r2 r3 r4 z0 z1 z2 z3
        go_wp2
        all_goals
          go_roundg f
          case measure => omega
          case rel => exact ⟨⟨_, _, _, q.g⟩, Lib.hid (VQ.out.fill3 _ _ _), Lib.hid (((VR.out.farC hne.out 0 _).farC hne.out 1 _).farC hne.out 2 _), Lib.hid (((OX.out.setNew hle.out 0 _).setNew hle.out 1 _).setNew hle.out 2 _), by unfold Hid Way; dsimp only; omega⟩
      · have HV := Lib.hid (fun h0 => HQ.out.valid (by omega) h0)
        by_cases h0 : q.b + q.h + q.l + q.g = 0
        · have HV1 : Hid (stateB ⟨1, q.h, q.l, q.g⟩ = true ∧ sumS ⟨1, q.h, q.l, q.g⟩ ≤ 8) := by
            unfold Hid
            rw [stateB_iff]
            unfold SIn sumS
            dsimp only
            omega
          have hne := Lib.hid (Nat.ne_of_gt HD.out)
          have hle := Lib.hid (Nat.le_of_lt HD.out)
          have hn1 : ¬ d = w.heap.size := hne.out
          have hn2 : ¬ w.heap.size = d := fun e => hn1 e.symm
          go_wp2
          obtain ⟨U, hU⟩ : ∃ U, set4s (wr.setCell ⟨d, 0, none⟩ (.int .i64 1)) w.heap.size ⟨1, q.h, q.l, q.g⟩ = U := ⟨_, rfl⟩
          have R : FourVar U w.heap.size ⟨1, q.h, q.l, q.g⟩ := by rw [← hU]; exact (VR.out.farC hne.out 0 _).set4s _
          have OU : Only (fun k => k = b) w U := by rw [← hU]; exact only_set4s (OX.out.setNew hle.out 0 _) (Nat.le_refl _) _
          unfold set4s at hU
          dsimp only at hU
          rw [hU]
          obtain ⟨⟨y0, y1, y2, y3, -⟩, -⟩ := R
          refine bodyPost_ret (v := .agg #[.int .i64 1, .int .i64 q.h, .int .i64 q.l, .int .i64 q.g]) (by simp [results, Tryz.results81, go_sem, y0, y1, y2, y3]) rfl ⟨⟨1, q.h, q.l, q.g⟩, rfl, HV1.out.1, HV1.out.2, OU⟩
        · go_wp2
          obtain ⟨U, hU⟩ : ∃ U, set4s wr w.heap.size q = U := ⟨_, rfl⟩
          have R : FourVar U w.heap.size q := by rw [← hU]; exact VR.out.set4s _
          have OU : Only (fun k => k = b) w U := by rw [← hU]; exact only_set4s OX.out (Nat.le_refl _) _
          unfold set4s at hU
          rw [hU]
          obtain ⟨⟨y0, y1, y2, y3, -⟩, -⟩ := R
          refine bodyPost_ret (v := .agg #[.int .i64 q.b, .int .i64 q.h, .int .i64 q.l, .int .i64 q.g]) (by simp [results, Tryz.results81, go_sem, y0, y1, y2, y3]) rfl ⟨q, rfl, (HV.out h0).1, (HV.out h0).2, OU⟩
  | true =>
    obtain ⟨⟨e0, e1, e2, e3, e4⟩, f0, f1, f2, f3⟩ := VQ.out
    go_wp2_with fail
    refine (C8.out _ K7.out).mono ?_
    rintro e w8 ⟨m, rfl, m0, m1, hc, hg⟩
    have T2 : Only (fun k => k = b) w7 w8 := (Only.of_grown hg).mono fun k e => by simpa using e.symm
    have VR1 := Lib.hid (VR.out.only T2 HNE.out)
    have VQ1 := Lib.hid (VQ.out.only T2 HDB.out)
    have OX1 := Lib.hid (OX.out.trans T2)
    clear hc hg T2 VR VQ OX K7 e0 e1 e2 e3 e4 f0 f1 f2 f3 HQ0
    have hne := Lib.hid (Nat.ne_of_gt HD.out)
    have hle := Lib.hid (Nat.le_of_lt HD.out)
    have HQ : Hid (Way ⟨1 + m, 0, 0, 0⟩ 1) := by unfold Hid Way; dsimp only; omega
    have VQ := Lib.hid (VQ1.out.set4s ⟨1 + m, 0, 0, 0⟩)
    have VR : Hid (FourVar (set4s w8 d ⟨1 + m, 0, 0, 0⟩) w.heap.size zeroS) := ((((VR1.out.farC hne.out 0 _).farC hne.out 1 _).farC hne.out 2 _).farC hne.out 3 _)
    have OX := Lib.hid (only_set4s OX1.out hle.out ⟨1 + m, 0, 0, 0⟩)
    obtain ⟨⟨e0, e1, e2, e3, e4⟩, f0, f1, f2, f3⟩ := VQ1.out
    clear VQ1 VR1 OX1 hne hle
    go_wp2_with fail
    unfold set4s at VQ VR OX
    dsimp only at VQ VR OX
    clear e0 e1 e2 e3 e4 f0 f1 f2 f3
    clear C4 C3 C8 CO
    go_wp2_with fail
    go_loopg [22] 1 (fun f _ wr => ∃ q : SD, Hid (FourVar wr d q) ∧ Hid (FourVar wr w.heap.size zeroS) ∧ Hid (Only (fun k => k = b) w wr) ∧ Hid (Way q f))
    case atStart => exact ⟨_, VQ, VR, OX, HQ⟩
    case round =>
      clear VQ VR OX HQ
      obtain ⟨q, VQ, VR, OX, HQ⟩ := hrel
      obtain ⟨q0, q1, q2, q3, hq⟩ := HQ.out
      obtain ⟨⟨e0, e1, e2, e3, e4⟩, f0, f1, f2, f3⟩ := VQ.out
      obtain ⟨⟨r0, r1, r2, r3, r4⟩, z0, z1, z2, z3⟩ := VR.out
      have u0 : q.b ≤ 8 := by omega
      have u1 : q.h ≤ 8 := by omega
      have u2 : q.l ≤ 8 := by omega
      have u3 : q.g ≤ 8 := by omega
      have v1 : IntKind.i64.wrap (q.b + q.h) = q.b + q.h := by rw [IntKind.wrap_i64]; omega
      have v2 : IntKind.i64.wrap (q.b + q.h + q.l) = q.b + q.h + q.l := by rw [IntKind.wrap_i64]; omega
      have v3 : IntKind.i64.wrap (q.b + q.h + q.l + q.g) = q.b + q.h + q.l + q.g := by rw [IntKind.wrap_i64]; omega
      by_cases hs : 8 < q.b + q.h + q.l + q.g
      · obtain ⟨f, rfl⟩ : ∃ f, gk = f + 1 := ⟨gk - 1, by omega⟩
        have w1 : IntKind.i64.wrap (q.b - 1) = q.b - 1 := by rw [IntKind.wrap_i64]; omega
        have w2 : IntKind.i64.wrap (q.h - 1) = q.h - 1 := by rw [IntKind.wrap_i64]; omega
        have w3 : IntKind.i64.wrap (q.l - 1) = q.l - 1 := by rw [IntKind.wrap_i64]; omega
        have hne := Lib.hid (Nat.ne_of_gt HD.out)
        have hle := Lib.hid (Nat.le_of_lt HD.out)
        clear r0 r1 r2 r3 r4 z0 z1 z2 z3
        go_wp2
        all_goals
          go_roundg f
          case measure => omega
          case rel => exact ⟨⟨_, _, _, q.g⟩, Lib.hid (VQ.out.fill3 _ _ _), Lib.hid (((VR.out.farC hne.out 0 _).farC hne.out 1 _).farC hne.out 2 _), Lib.hid (((OX.out.setNew hle.out 0 _).setNew hle.out 1 _).setNew hle.out 2 _), by unfold Hid Way; dsimp only; omega⟩
      · have HV := Lib.hid (fun h0 => HQ.out.valid (by omega) h0)
        by_cases h0 : q.b + q.h + q.l + q.g = 0
        · have HV1 : Hid (stateB ⟨1, q.h, q.l, q.g⟩ = true ∧ sumS ⟨1, q.h, q.l, q.g⟩ ≤ 8) := by
            unfold Hid
            rw [stateB_iff]
            unfold SIn sumS
            dsimp only
            omega
          have hne := Lib.hid (Nat.ne_of_gt HD.out)
          have hle := Lib.hid (Nat.le_of_lt HD.out)
          have hn1 : ¬ d = w.heap.size := hne.out
          have hn2 : ¬ w.heap.size = d := fun e => hn1 e.symm
          go_wp2
          obtain ⟨U, hU⟩ : ∃ U, set4s (wr.setCell ⟨d, 0, none⟩ (.int .i64 1)) w.heap.size ⟨1, q.h, q.l, q.g⟩ = U := ⟨_, rfl⟩
          have R : FourVar U w.heap.size ⟨1, q.h, q.l, q.g⟩ := by rw [← hU]; exact (VR.out.farC hne.out 0 _).set4s _
          have OU : Only (fun k => k = b) w U := by rw [← hU]; exact only_set4s (OX.out.setNew hle.out 0 _) (Nat.le_refl _) _
          unfold set4s at hU
          dsimp only at hU
          rw [hU]
          obtain ⟨⟨y0, y1, y2, y3, -⟩, -⟩ := R
          refine bodyPost_ret (v := .agg #[.int .i64 1, .int .i64 q.h, .int .i64 q.l, .int .i64 q.g]) (by simp [results, Tryz.results81, go_sem, y0, y1, y2, y3]) rfl ⟨⟨1, q.h, q.l, q.g⟩, rfl, HV1.out.1, HV1.out.2, OU⟩
        · go_wp2
          obtain ⟨U, hU⟩ : ∃ U, set4s wr w.heap.size q = U := ⟨_, rfl⟩
          have R : FourVar U w.heap.size q := by rw [← hU]; exact VR.out.set4s _
          have OU : Only (fun k => k = b) w U := by rw [← hU]; exact only_set4s OX.out (Nat.le_refl _) _
          unfold set4s at hU
          rw [hU]
          obtain ⟨⟨y0, y1, y2, y3, -⟩, -⟩ := R
          refine bodyPost_ret (v := .agg #[.int .i64 q.b, .int .i64 q.h, .int .i64 q.l, .int .i64 q.g]) (by simp [results, Tryz.results81, go_sem, y0, y1, y2, y3]) rfl ⟨q, rfl, (HV.out h0).1, (HV.out h0).2, OU⟩
end Go.Proofs.YtlflblngbneacabGreatDoor

/- The contract of the model's MakeState: it returns a valid state for every code. Condition: the code reads as bytes. -/
namespace Go.Proofs.YtlflblngbneacabGreatDoor
open Go.RowKit

/-- What the making of a state keeps. -/
def MakesState : Prop := ∀ (W w : World) (a : Option Addr) (len cap : Nat), BytesAt W a len → Below W.heap.size W w → len ≤ 1048576 →
  Calls Tryz.prog 29 #[.slice a len cap] w fun e w' => ∃ s, e = .returned (stateV s) ∧ stateB s = true ∧ sumS s ≤ 8 ∧ Below w.heap.size w w'

set_option maxRecDepth 100000 in
set_option maxHeartbeats 1600000 in
theorem specMakeState : MakesState := by
  intro W w a len cap hB hb hl
  have V1 := Lib.hid (FourVar.new w 56 zeroS)
  have B1 := Lib.hid (alloc_below w (.cells #[.int .i64 0, .int .i64 0, .int .i64 0, .int .i64 0] 56))
  change Hid (FourVar (w.alloc (.cells #[.int .i64 0, .int .i64 0, .int .i64 0, .int .i64 0] 56)) _ _) at V1
  have s1 : Hid ((w.alloc (.cells #[.int .i64 0, .int .i64 0, .int .i64 0, .int .i64 0] 56)).heap.size = w.heap.size + 1) := by unfold Hid; simp
  generalize hX1 : w.alloc (.cells #[.int .i64 0, .int .i64 0, .int .i64 0, .int .i64 0] 56) = X1 at V1 B1 s1
  have C1 := Lib.hid (new_any W X1 a len cap hB (hb.trans (B1.out.mono hb.size)) hl)
  have C2 := Lib.hid (fun V b h => stateDraw W V b a len cap hB h hl)
  clear hB hb
  go_enter Tryz.func29, Tryz.ntmps29
  go_wp2_with fail
  refine C1.out.mono ?_
  rintro e w2 ⟨b, rfl, hbw, hcur, hbel⟩
  have HB := Lib.hid hbw
  have HC := Lib.hid hcur
  have V2 := Lib.hid (V1.out.only (Only.fresh (T := fun _ => False) hbel) (fun h => h))
  have B2 := Lib.hid (below_up B1.out hbel)
  clear hbw hcur hbel hX1
  go_wp2_with fail
  refine (C2.out _ _ HC.out).mono ?_
  rintro e w3 ⟨q, rfl, hq, h8, ho⟩
  have HNE : Hid (¬ w.heap.size = b) := by unfold Hid; have := HB.out; have := s1.out; omega
  have V3 := Lib.hid (V2.out.only ho HNE.out)
  have O3 : Hid (Below w.heap.size w w3) := B2.out.trans (ho.below B2.out.size fun k e => by have := HB.out; have := s1.out; omega)
  have HQ := Lib.hid (And.intro hq h8)
  clear hq h8 ho HC
  unfold stateV
  obtain ⟨⟨z0, z1, z2, z3, z4⟩, y0, y1, y2, y3⟩ := V3.out
  go_wp2
  obtain ⟨U, hU⟩ : ∃ U, set4s w3 w.heap.size q = U := ⟨_, rfl⟩
  have R : FourVar U w.heap.size q := by rw [← hU]; exact V3.out.set4s _
  have OU : Below w.heap.size w U := by rw [← hU]; exact below_fill4 O3.out (Nat.le_refl _) q
  unfold set4s at hU
  rw [hU]
  obtain ⟨⟨u0, u1, u2, u3, -⟩, -⟩ := R
  refine bodyPost_ret (v := .agg #[.int .i64 q.b, .int .i64 q.h, .int .i64 q.l, .int .i64 q.g]) (by simp [results, Tryz.results29, go_sem, u0, u1, u2, u3]) rfl ⟨q, rfl, HQ.out.1, HQ.out.2, OU⟩
end Go.Proofs.YtlflblngbneacabGreatDoor
