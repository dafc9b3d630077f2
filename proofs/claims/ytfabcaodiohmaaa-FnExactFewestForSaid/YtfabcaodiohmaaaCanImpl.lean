/- The contracts of the program's lookUp, of canFind round the contract of firstPick, and of leadsOn round the contract of canFind. Conditions: valid states, at most three weighings, a map each entry of which is right. -/
import Derived.Test.YtfabcaodiohmaaaSearchImpl
namespace Go.Proofs.Ytfabcaodiohmaaa
open Go.RowKit

/-- Only the map's block may have turned. -/
abbrev JustMap (m : Nat) (w w' : World) : Prop := Only (fun j => j = m) w w'
/-- canFind tells whether the case of a valid state can be found. -/
def CanC (k : Nat) : Prop := ∀ s, SIn s → ∀ m W, NoteAt W m → Calls Try.prog 38 #[searchV m, stateV s, .int .i64 k] W fun e W' => e = .returned (.bool (canS k s)) ∧ NoteAt W' m ∧ JustMap m W W'
/-- The first pick that leads on. -/
def firstK (k : Nat) (s : SD) : Option PD := firstP (canS (k - 1)) (3 ^ (k - 1)) s
def FirstC (k : Nat) : Prop := ∀ s, SIn s → ∀ m W, NoteAt W m → Calls Try.prog 40 #[searchV m, stateV s, .int .i64 k] W fun e W' => e = .returned (.tuple #[pickV ((firstK k s).getD zeroP), .bool (firstK k s).isSome]) ∧ NoteAt W' m ∧ JustMap m W W'

set_option maxRecDepth 100000 in
set_option maxHeartbeats 3200000 in
theorem implLookUp (m : Nat) (s : SD) (k : Nat) (hs : SIn s) (hk : k ≤ 3) (a b c : Value) (W : World) (hN : NoteAt W m)
    (HF : ∀ W1, NoteAt W1 m → Below W.heap.size W W1 → Calls Try.prog 45 #[a, b, c] W1 fun e W2 => e = .returned (.bool (canS k s)) ∧ NoteAt W2 m ∧ JustMap m W1 W2) :
    Calls Try.prog 44 #[.agg #[.map (some m)], goalV s k, .func (.func 45) #[] #[a, b, c]] W fun e W' => e = .returned (.bool (canS k s)) ∧ NoteAt W' m ∧ JustMap m W W' := by
  have HP : Hid (∀ w, NoteAt w m → ∃ w', (Instr.mapUpdate 49 (.map (some m)) (goalV s k) (.bool (canS k s))).run Try.prog w = .ok () w' ∧ NoteAt w' m ∧ JustMap m w w') := fun w h => h.put hs hk
  have hm := hN.lt
  have M0 := MapBox.new W 51 m
  have B0 := alloc_below W (.cells #[.map (some m)] 51)
  have s0 : (W.alloc (.cells #[.map (some m)] 51)).heap.size = W.heap.size + 1 := by simp
  generalize hX0 : W.alloc (.cells #[.map (some m)] 51) = X0 at M0 B0 s0
  have G0 := GoalAt.new X0 56 s k
  have B1 := alloc_below X0 (.cells #[.int .i64 s.b, .int .i64 s.h, .int .i64 s.l, .int .i64 s.g, .int .i64 k] 56)
  rw [s0] at G0
  generalize hX1 : X0.alloc (.cells #[.int .i64 s.b, .int .i64 s.h, .int .i64 s.l, .int .i64 s.g, .int .i64 k] 56) = X1 at G0 B1
  have M1 := Lib.hid (M0.below B1)
  have BX := Lib.hid (below_up B0 B1)
  have N1 := Lib.hid (hN.below BX.out)
  have G1 := Lib.hid G0
  have HC := Lib.hid (HF X1 N1.out BX.out)
  have look := N1.out.look hs hk
  have J1 : Hid (JustMap m W X1) := Only.fresh BX.out
  clear M0 B0 B1 G0 HF hs hk hN
  generalize canS k s = r at HP HC look ⊢
  unfold goalV at HP look ⊢
  obtain ⟨e0, e1, e2, e3, e4, -⟩ := G1.out
  obtain ⟨f0, -⟩ := M1.out
  rcases look with look | look
  · go_enter Try.func44, Try.ntmps44
    go_wp2_with fail
    refine (HC.out).mono ?_
    rintro e w2 ⟨rfl, hN2, hJ2⟩
    obtain ⟨w3, hput, hN3, hJ3⟩ := HP.out w2 hN2
    obtain ⟨g0, g1, g2, g3, g4, -⟩ := G1.out.only hJ2 (by omega)
    obtain ⟨h0, -⟩ := M1.out.only hJ2 (by omega)
    have HN := Lib.hid hN3
    have HJ := Lib.hid ((J1.out.trans hJ2).trans hJ3)
    clear hN2 hJ2 hN3 hJ3 look HC HP e0 e1 e2 e3 e4 f0 hX0 hX1 s0
    go_wp2
    go_ret
    exact ⟨rfl, HN.out, HJ.out⟩
  · clear HC HP
    go_enter Try.func44, Try.ntmps44
    go_wp2
    go_ret
    exact ⟨rfl, N1.out, J1.out⟩

set_option maxRecDepth 100000 in
set_option maxHeartbeats 3200000 in
theorem implFound (k : Nat) (s : SD) (hs : SIn s) (HF : FirstC k) (m b0 b1 b2 : Nat) (W : World) (hM : MapBox W b0 m) (hS : StateAt W b1 s) (hK : NumBox W b2 k) (hN : NoteAt W m) :
    Calls Try.prog 45 #[.pointer (some ⟨b0, 0, none⟩), .pointer (some ⟨b1, 0, none⟩), .pointer (some ⟨b2, 0, none⟩)] W fun e W' => e = .returned (.bool (firstK k s).isSome) ∧ NoteAt W' m ∧ JustMap m W W' := by
  have C := Lib.hid (HF s hs m W hN)
  generalize (firstK k s).isSome = ok at C ⊢
  generalize (firstK k s).getD zeroP = g at C
  unfold searchV stateV pickV at C
  obtain ⟨f0, -⟩ := hM
  obtain ⟨e0, e1, e2, e3, -⟩ := hS
  obtain ⟨g0, -⟩ := hK
  go_enter Try.func45, Try.ntmps45
  go_wp2_with fail
  refine (C.out).mono ?_
  rintro e w1 ⟨rfl, hN1, hJ1⟩
  have B2 := alloc_below w1 (.cells #[.int .i64 g.bl, .int .i64 g.br, .int .i64 g.hl, .int .i64 g.hr, .int .i64 g.ll, .int .i64 g.lr, .int .i64 g.gl, .int .i64 g.gr] 32)
  have HN := Lib.hid (hN1.below B2)
  have HJ : Hid (JustMap m W (w1.alloc (.cells #[.int .i64 g.bl, .int .i64 g.br, .int .i64 g.hl, .int .i64 g.hr, .int .i64 g.ll, .int .i64 g.lr, .int .i64 g.gl, .int .i64 g.gr] 32))) := hJ1.trans (Only.fresh B2)
  clear hN1 hJ1 B2 f0 e0 e1 e2 e3 g0 C hN
  go_wp2
  go_ret
  exact ⟨rfl, HN.out, HJ.out⟩
end Go.Proofs.Ytfabcaodiohmaaa
