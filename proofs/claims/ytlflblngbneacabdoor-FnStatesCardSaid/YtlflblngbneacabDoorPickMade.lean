/- The contract of the model's MakePick: a valid pick of a valid state, or the empty one. Condition: the code reads as bytes. -/
import Derived.Test.YtlflblngbneacabDoorMakePick
namespace Go.Proofs.YtlflblngbneacabDoor
open Go.RowKit

/-- What the making of a pick keeps. -/
def MakesPick : Prop := ∀ (W w : World) (a : Option Addr) (len cap : Nat) (n : Int) (s : SD), BytesAt W a len → Below W.heap.size W w → len ≤ 1048576 → 0 ≤ n → n ≤ 1000000000 → stateB s = true →
  Calls Tryd.prog 29 #[.slice a len cap, .int .i64 n, stateV s] w fun e w' => ∃ p, e = .returned (pickV p) ∧ (pickB s p = true ∨ p = zeroP) ∧ Below w.heap.size w w'

set_option maxRecDepth 100000 in
set_option maxHeartbeats 3200000 in
theorem specMakePick1 : MakesPick := by
  intro W w a len cap n s hB hb hl n0 n1 hs
  have P0 := StateAt.new w 49 s
  have B0 := alloc_below w (.cells #[.int .i64 s.b, .int .i64 s.h, .int .i64 s.l, .int .i64 s.g] 49)
  have s0 : (w.alloc (.cells #[.int .i64 s.b, .int .i64 s.h, .int .i64 s.l, .int .i64 s.g] 49)).heap.size = w.heap.size + 1 := by simp
  generalize hX0 : w.alloc (.cells #[.int .i64 s.b, .int .i64 s.h, .int .i64 s.l, .int .i64 s.g] 49) = X0 at P0 B0 s0
  have R0 := EightVar.new X0 52 zeroP
  have B1 := alloc_below X0 (.cells #[.int .i64 0, .int .i64 0, .int .i64 0, .int .i64 0, .int .i64 0, .int .i64 0, .int .i64 0, .int .i64 0] 52)
  rw [s0] at R0
  change EightVar (X0.alloc (.cells #[.int .i64 0, .int .i64 0, .int .i64 0, .int .i64 0, .int .i64 0, .int .i64 0, .int .i64 0, .int .i64 0] 52)) _ _ at R0
  have P1 := Lib.hid (P0.below B1)
  have BX := Lib.hid (below_up B0 B1)
  generalize hX1 : X0.alloc (.cells #[.int .i64 0, .int .i64 0, .int .i64 0, .int .i64 0, .int .i64 0, .int .i64 0, .int .i64 0, .int .i64 0] 52) = X1 at R0 B1 P1 BX
  have R1 := Lib.hid R0
  have HW : Hid (W.heap.size ≤ w.heap.size) := hb.size
  have CN := Lib.hid (new17_any W X1 a len cap n hB (hb.trans (BX.out.mono hb.size)) hl n0 n1)
  have CP := Lib.hid (fun V b h hv => pickDraw W V b a len cap s hB h hl (stateB_in hs).1 hv)
  have CK := Lib.hid (specPickOk s)
  clear P0 B0 R0 B1 hB hb hl hs
  unfold stateV at CP CK ⊢
  go_enter Tryd.func29, Tryd.ntmps29
  go_wp2_with fail
  refine CN.out.mono ?_
  rintro e w2 ⟨b, rfl, hbw, hc, bb⟩
  have K2 := Lib.hid hc
  have B2 := Lib.hid (below_up BX.out bb)
  have P2 := Lib.hid (P1.out.below bb)
  have R2 := Lib.hid (R1.out.below bb)
  have HBL : Hid (w.heap.size + 1 < b) := by have := R1.out.1.lt; unfold Hid; omega
  clear hc bb hbw hX0 hX1 s0 P1 R1 BX CN
  go_wp2_with fail
  go_loopw [8] (fun kv wr => ∃ k : Nat, k ≤ 6 ∧ kv = .int .i64 k ∧ Hid (CurOk W wr b a len cap) ∧ Hid (StateAt wr w.heap.size s) ∧ Hid (EightVar wr (w.heap.size + 1) zeroP) ∧ Hid (Below w.heap.size w wr)) (fun kv _ => 6 - (intOf kv).toNat)
  case atStart => exact ⟨0, by omega, rfl, K2, P2, R2, B2⟩
  case round =>
    clear K2 P2 R2 B2
    obtain ⟨k, hk, rfl, K3, P3, R3, B3⟩ := hrel
    by_cases hlt : k < 6
    · have i1 : (k : Int) < 6 := by omega
      have hv : W.heap.size ≤ wr.heap.size := by have := HW.out; have := B3.out.size; omega
      have CP1 := Lib.hid (CP.out _ _ K3.out hv)
      clear hv
      obtain ⟨e0, e1, e2, e3, -⟩ := P3.out
      go_wp2_with fail
      refine CP1.out.mono ?_
      rintro e w4 ⟨p, rfl, hc, ho⟩
      have K4 := hc
      have P4 := P3.out.onlyC ho (by have := HBL.out; omega)
      have R4 := R3.out.only ho (by have := HBL.out; omega)
      have B4 := B3.out.trans (ho.below B3.out.size fun j hj => by have := HBL.out; omega)
      have a5 := alloc_below w4 (.cells #[.int .i64 p.bl, .int .i64 p.br, .int .i64 p.hl, .int .i64 p.hr, .int .i64 p.ll, .int .i64 p.lr, .int .i64 p.gl, .int .i64 p.gr] 52)
      have Q5 := Lib.hid (PickAt.new w4 52 p)
      have K5 := Lib.hid (K4.only (Only.fresh (T := fun _ => False) a5) (fun _ h => h.elim))
      have P5 := Lib.hid (P4.below a5)
      have R5 := Lib.hid (R4.below a5)
      have B5 := Lib.hid (below_up B4 a5)
      have CK1 := Lib.hid (CK.out p)
      unfold pickV at CK1 ⊢
      generalize hX5 : w4.alloc (.cells #[.int .i64 p.bl, .int .i64 p.br, .int .i64 p.hl, .int .i64 p.hr, .int .i64 p.ll, .int .i64 p.lr, .int .i64 p.gl, .int .i64 p.gr] 52) = X5 at Q5 K5 P5 R5 B5
      clear hc ho K4 P4 R4 B4 a5 e0 e1 e2 e3 K3 P3 R3 B3 CP1
      obtain ⟨e0, e1, e2, e3, -⟩ := P5.out
      obtain ⟨q0, q1, q2, q3, q4, q5, q6, q7, -⟩ := Q5.out
      go_wp2_with fail
      refine (CK1.out _).mono ?_
      rintro e w6 ⟨rfl, bb⟩
      have K6 := Lib.hid (K5.out.only (Only.fresh (T := fun _ => False) bb) (fun _ h => h.elim))
      have P6 := Lib.hid (P5.out.below bb)
      have R6 := Lib.hid (R5.out.below bb)
      have Q6 := Lib.hid (Q5.out.below bb)
      have B6 := Lib.hid (below_up B5.out bb)
      clear bb e0 e1 e2 e3 q0 q1 q2 q3 q4 q5 q6 q7 K5 P5 R5 B5 Q5 hX5 CK1
      obtain ⟨pb, hpb⟩ : ∃ pb, pickB s p = pb := ⟨_, rfl⟩
      have HPB := Lib.hid hpb
      rw [hpb]
      clear hpb
      cases pb with
      | false =>
        go_wp2
        go_roundw
        case rel => exact ⟨k + 1, by omega, by go_num, K6, P6, R6, B6⟩
        case measure => simp [intOf]; omega
      | true =>
        obtain ⟨q0, q1, q2, q3, q4, q5, q6, q7, -⟩ := Q6.out
        obtain ⟨⟨r0, r1, r2, r3, r4, r5, r6, r7, -⟩, g0, g1, g2, g3, g4, g5, g6, g7⟩ := R6.out
        go_wp2
        obtain ⟨U, hU⟩ : ∃ U, set8s w6 (w.heap.size + 1) p = U := ⟨_, rfl⟩
        have RU : EightVar U (w.heap.size + 1) p := by rw [← hU]; exact R6.out.set8s _
        have OU : Below w.heap.size w U := by rw [← hU]; exact below_set8s B6.out (Nat.le_add_right _ 1) _
        unfold set8s at hU
        rw [hU]
        obtain ⟨⟨u0, u1, u2, u3, u4, u5, u6, u7, -⟩, -⟩ := RU
        refine bodyPost_ret (v := .agg #[.int .i64 p.bl, .int .i64 p.br, .int .i64 p.hl, .int .i64 p.hr, .int .i64 p.ll, .int .i64 p.lr, .int .i64 p.gl, .int .i64 p.gr]) (by simp [results, Tryd.results29, go_sem, u0, u1, u2, u3, u4, u5, u6, u7]) rfl ⟨p, rfl, .inl HPB.out, OU⟩
    · obtain rfl : k = 6 := by omega
      obtain ⟨⟨r0, r1, r2, r3, r4, r5, r6, r7, -⟩, g0, g1, g2, g3, g4, g5, g6, g7⟩ := R3.out
      go_wp2
      obtain ⟨U, hU⟩ : ∃ U, set8s wr (w.heap.size + 1) zeroP = U := ⟨_, rfl⟩
      have RU : EightVar U (w.heap.size + 1) zeroP := by rw [← hU]; exact R3.out.set8s _
      have OU : Below w.heap.size w U := by rw [← hU]; exact below_set8s B3.out (Nat.le_add_right _ 1) _
      unfold set8s zeroP at hU
      dsimp only at hU
      rw [hU]
      obtain ⟨⟨u0, u1, u2, u3, u4, u5, u6, u7, -⟩, -⟩ := RU
      refine bodyPost_ret (v := .agg #[.int .i64 0, .int .i64 0, .int .i64 0, .int .i64 0, .int .i64 0, .int .i64 0, .int .i64 0, .int .i64 0]) (by simp [results, Tryd.results29, go_sem, u0, u1, u2, u3, u4, u5, u6, u7, zeroP]) rfl ⟨zeroP, rfl, .inr rfl, OU⟩
end Go.Proofs.YtlflblngbneacabDoor
