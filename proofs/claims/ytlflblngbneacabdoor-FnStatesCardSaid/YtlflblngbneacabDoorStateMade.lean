/- The contract of the model's MakeState: it returns a valid state for every code. Condition: the code reads as bytes. -/
import Derived.Test.YtlflblngbneacabDoorMakeState
namespace Go.Proofs.YtlflblngbneacabDoor
open Go.RowKit

/-- What the making of a state keeps. -/
def MakesState : Prop := ∀ (W w : World) (a : Option Addr) (len cap : Nat), BytesAt W a len → Below W.heap.size W w → len ≤ 1048576 →
  Calls Tryd.prog 28 #[.slice a len cap] w fun e w' => ∃ s, e = .returned (stateV s) ∧ stateB s = true ∧ sumS s ≤ 8 ∧ Below w.heap.size w w'

set_option maxRecDepth 100000 in
set_option maxHeartbeats 1600000 in
theorem specMakeState : MakesState := by
  intro W w a len cap hB hb hl
  have V1 := Lib.hid (FourVar.new w 49 zeroS)
  have B1 := Lib.hid (alloc_below w (.cells #[.int .i64 0, .int .i64 0, .int .i64 0, .int .i64 0] 49))
  change Hid (FourVar (w.alloc (.cells #[.int .i64 0, .int .i64 0, .int .i64 0, .int .i64 0] 49)) _ _) at V1
  have s1 : Hid ((w.alloc (.cells #[.int .i64 0, .int .i64 0, .int .i64 0, .int .i64 0] 49)).heap.size = w.heap.size + 1) := by unfold Hid; simp
  generalize hX1 : w.alloc (.cells #[.int .i64 0, .int .i64 0, .int .i64 0, .int .i64 0] 49) = X1 at V1 B1 s1
  have C1 := Lib.hid (new_any W X1 a len cap hB (hb.trans (B1.out.mono hb.size)) hl)
  have C2 := Lib.hid (fun V b h => stateDraw W V b a len cap hB h hl)
  clear hB hb
  go_enter Tryd.func28, Tryd.ntmps28
  go_wp2_with fail
  refine C1.out.mono ?_
  rintro e w2 ⟨b, rfl, hbw, hcur, hbel⟩
  have HB := Lib.hid hbw
  have HC := Lib.hid hcur
  have V2 := Lib.hid (V1.out.only (Only.fresh (T := fun _ => False) hbel) (fun h => h))
  have B2 := Lib.hid (below_up B1.out hbel)
  clear hbw hcur hbel hX1
  go_wp2_with fail
  refine (C2.out _ _ HC.out).mono ?_
  rintro e w3 ⟨q, rfl, hq, h8, ho⟩
  have HNE : Hid (¬ w.heap.size = b) := by unfold Hid; have := HB.out; have := s1.out; omega
  have V3 := Lib.hid (V2.out.only ho HNE.out)
  have O3 : Hid (Below w.heap.size w w3) := B2.out.trans (ho.below B2.out.size fun k e => by have := HB.out; have := s1.out; omega)
  have HQ := Lib.hid (And.intro hq h8)
  clear hq h8 ho HC
  unfold stateV
  obtain ⟨⟨z0, z1, z2, z3, z4⟩, y0, y1, y2, y3⟩ := V3.out
  go_wp2
  obtain ⟨U, hU⟩ : ∃ U, set4s w3 w.heap.size q = U := ⟨_, rfl⟩
  have R : FourVar U w.heap.size q := by rw [← hU]; exact V3.out.set4s _
  have OU : Below w.heap.size w U := by rw [← hU]; exact below_fill4 O3.out (Nat.le_refl _) q
  unfold set4s at hU
  rw [hU]
  obtain ⟨⟨u0, u1, u2, u3, -⟩, -⟩ := R
  refine bodyPost_ret (v := .agg #[.int .i64 q.b, .int .i64 q.h, .int .i64 q.l, .int .i64 q.g]) (by simp [results, Tryd.results28, go_sem, u0, u1, u2, u3]) rfl ⟨q, rfl, HQ.out.1, HQ.out.2, OU⟩
end Go.Proofs.YtlflblngbneacabDoor
