/- The contract of the model's search over the light coins of a pick, round the contract of the search with one weighing fewer. Conditions: a valid state, a pick of its other coins. -/
import Derived.Test.YtfabcaodiohmaaaFitsSpec
namespace Go.Proofs.Ytfabcaodiohmaaa
open Go.RowKit

theorem StateAt.far {w : World} {b : Nat} {s : SD} (h : StateAt w b s) (c k : Nat) (v : Value) (hne : c ≠ b) : StateAt (w.setCell ⟨c, k, none⟩ v) b s := by
  obtain ⟨e0, e1, e2, e3, hlt⟩ := h
  refine ⟨?_, ?_, ?_, ?_, by rw [setCell_size]; exact hlt⟩
  all_goals (rw [World.cell?_setCell_far _ _ _ _ hne]; assumption)
theorem EightVar.far {w : World} {b : Nat} {p : PD} (h : EightVar w b p) (c k : Nat) (v : Value) (hne : c ≠ b) : EightVar (w.setCell ⟨c, k, none⟩ v) b p := by
  obtain ⟨⟨e0, e1, e2, e3, e4, e5, e6, e7, hlt⟩, f0, f1, f2, f3, f4, f5, f6, f7⟩ := h
  refine ⟨⟨?_, ?_, ?_, ?_, ?_, ?_, ?_, ?_, by rw [setCell_size]; exact hlt⟩, ?_, ?_, ?_, ?_, ?_, ?_, ?_, ?_⟩
  all_goals first
    | (rw [World.cell?_setCell_far _ _ _ _ hne]; assumption)
    | (rw [World.frozen?_setCell]; assumption)
theorem EightVar.set0 {w : World} {b : Nat} {p : PD} (h : EightVar w b p) (x : Int) : EightVar (w.setCell ⟨b, 0, none⟩ (.int .i64 x)) b { p with bl := x } := by
  obtain ⟨⟨e0, e1, e2, e3, e4, e5, e6, e7, hlt⟩, f0, f1, f2, f3, f4, f5, f6, f7⟩ := h
  exact ⟨⟨World.cell?_setCell_same _ _ _ e0, (World.cell?_setCell_other _ _ _ _ (by simp)).trans e1, (World.cell?_setCell_other _ _ _ _ (by simp)).trans e2, (World.cell?_setCell_other _ _ _ _ (by simp)).trans e3, (World.cell?_setCell_other _ _ _ _ (by simp)).trans e4, (World.cell?_setCell_other _ _ _ _ (by simp)).trans e5, (World.cell?_setCell_other _ _ _ _ (by simp)).trans e6, (World.cell?_setCell_other _ _ _ _ (by simp)).trans e7, by rw [setCell_size]; exact hlt⟩, (by rw [World.frozen?_setCell]; exact f0), (by rw [World.frozen?_setCell]; exact f1), (by rw [World.frozen?_setCell]; exact f2), (by rw [World.frozen?_setCell]; exact f3), (by rw [World.frozen?_setCell]; exact f4), (by rw [World.frozen?_setCell]; exact f5), (by rw [World.frozen?_setCell]; exact f6), (by rw [World.frozen?_setCell]; exact f7)⟩
theorem EightVar.set1 {w : World} {b : Nat} {p : PD} (h : EightVar w b p) (x : Int) : EightVar (w.setCell ⟨b, 1, none⟩ (.int .i64 x)) b { p with br := x } := by
  obtain ⟨⟨e0, e1, e2, e3, e4, e5, e6, e7, hlt⟩, f0, f1, f2, f3, f4, f5, f6, f7⟩ := h
  exact ⟨⟨(World.cell?_setCell_other _ _ _ _ (by simp)).trans e0, World.cell?_setCell_same _ _ _ e1, (World.cell?_setCell_other _ _ _ _ (by simp)).trans e2, (World.cell?_setCell_other _ _ _ _ (by simp)).trans e3, (World.cell?_setCell_other _ _ _ _ (by simp)).trans e4, (World.cell?_setCell_other _ _ _ _ (by simp)).trans e5, (World.cell?_setCell_other _ _ _ _ (by simp)).trans e6, (World.cell?_setCell_other _ _ _ _ (by simp)).trans e7, by rw [setCell_size]; exact hlt⟩, (by rw [World.frozen?_setCell]; exact f0), (by rw [World.frozen?_setCell]; exact f1), (by rw [World.frozen?_setCell]; exact f2), (by rw [World.frozen?_setCell]; exact f3), (by rw [World.frozen?_setCell]; exact f4), (by rw [World.frozen?_setCell]; exact f5), (by rw [World.frozen?_setCell]; exact f6), (by rw [World.frozen?_setCell]; exact f7)⟩
theorem EightVar.set2 {w : World} {b : Nat} {p : PD} (h : EightVar w b p) (x : Int) : EightVar (w.setCell ⟨b, 2, none⟩ (.int .i64 x)) b { p with hl := x } := by
  obtain ⟨⟨e0, e1, e2, e3, e4, e5, e6, e7, hlt⟩, f0, f1, f2, f3, f4, f5, f6, f7⟩ := h
  exact ⟨⟨(World.cell?_setCell_other _ _ _ _ (by simp)).trans e0, (World.cell?_setCell_other _ _ _ _ (by simp)).trans e1, World.cell?_setCell_same _ _ _ e2, (World.cell?_setCell_other _ _ _ _ (by simp)).trans e3, (World.cell?_setCell_other _ _ _ _ (by simp)).trans e4, (World.cell?_setCell_other _ _ _ _ (by simp)).trans e5, (World.cell?_setCell_other _ _ _ _ (by simp)).trans e6, (World.cell?_setCell_other _ _ _ _ (by simp)).trans e7, by rw [setCell_size]; exact hlt⟩, (by rw [World.frozen?_setCell]; exact f0), (by rw [World.frozen?_setCell]; exact f1), (by rw [World.frozen?_setCell]; exact f2), (by rw [World.frozen?_setCell]; exact f3), (by rw [World.frozen?_setCell]; exact f4), (by rw [World.frozen?_setCell]; exact f5), (by rw [World.frozen?_setCell]; exact f6), (by rw [World.frozen?_setCell]; exact f7)⟩
theorem EightVar.set3 {w : World} {b : Nat} {p : PD} (h : EightVar w b p) (x : Int) : EightVar (w.setCell ⟨b, 3, none⟩ (.int .i64 x)) b { p with hr := x } := by
  obtain ⟨⟨e0, e1, e2, e3, e4, e5, e6, e7, hlt⟩, f0, f1, f2, f3, f4, f5, f6, f7⟩ := h
  exact ⟨⟨(World.cell?_setCell_other _ _ _ _ (by simp)).trans e0, (World.cell?_setCell_other _ _ _ _ (by simp)).trans e1, (World.cell?_setCell_other _ _ _ _ (by simp)).trans e2, World.cell?_setCell_same _ _ _ e3, (World.cell?_setCell_other _ _ _ _ (by simp)).trans e4, (World.cell?_setCell_other _ _ _ _ (by simp)).trans e5, (World.cell?_setCell_other _ _ _ _ (by simp)).trans e6, (World.cell?_setCell_other _ _ _ _ (by simp)).trans e7, by rw [setCell_size]; exact hlt⟩, (by rw [World.frozen?_setCell]; exact f0), (by rw [World.frozen?_setCell]; exact f1), (by rw [World.frozen?_setCell]; exact f2), (by rw [World.frozen?_setCell]; exact f3), (by rw [World.frozen?_setCell]; exact f4), (by rw [World.frozen?_setCell]; exact f5), (by rw [World.frozen?_setCell]; exact f6), (by rw [World.frozen?_setCell]; exact f7)⟩
theorem EightVar.set4 {w : World} {b : Nat} {p : PD} (h : EightVar w b p) (x : Int) : EightVar (w.setCell ⟨b, 4, none⟩ (.int .i64 x)) b { p with ll := x } := by
  obtain ⟨⟨e0, e1, e2, e3, e4, e5, e6, e7, hlt⟩, f0, f1, f2, f3, f4, f5, f6, f7⟩ := h
  exact ⟨⟨(World.cell?_setCell_other _ _ _ _ (by simp)).trans e0, (World.cell?_setCell_other _ _ _ _ (by simp)).trans e1, (World.cell?_setCell_other _ _ _ _ (by simp)).trans e2, (World.cell?_setCell_other _ _ _ _ (by simp)).trans e3, World.cell?_setCell_same _ _ _ e4, (World.cell?_setCell_other _ _ _ _ (by simp)).trans e5, (World.cell?_setCell_other _ _ _ _ (by simp)).trans e6, (World.cell?_setCell_other _ _ _ _ (by simp)).trans e7, by rw [setCell_size]; exact hlt⟩, (by rw [World.frozen?_setCell]; exact f0), (by rw [World.frozen?_setCell]; exact f1), (by rw [World.frozen?_setCell]; exact f2), (by rw [World.frozen?_setCell]; exact f3), (by rw [World.frozen?_setCell]; exact f4), (by rw [World.frozen?_setCell]; exact f5), (by rw [World.frozen?_setCell]; exact f6), (by rw [World.frozen?_setCell]; exact f7)⟩
theorem EightVar.set5 {w : World} {b : Nat} {p : PD} (h : EightVar w b p) (x : Int) : EightVar (w.setCell ⟨b, 5, none⟩ (.int .i64 x)) b { p with lr := x } := by
  obtain ⟨⟨e0, e1, e2, e3, e4, e5, e6, e7, hlt⟩, f0, f1, f2, f3, f4, f5, f6, f7⟩ := h
  exact ⟨⟨(World.cell?_setCell_other _ _ _ _ (by simp)).trans e0, (World.cell?_setCell_other _ _ _ _ (by simp)).trans e1, (World.cell?_setCell_other _ _ _ _ (by simp)).trans e2, (World.cell?_setCell_other _ _ _ _ (by simp)).trans e3, (World.cell?_setCell_other _ _ _ _ (by simp)).trans e4, World.cell?_setCell_same _ _ _ e5, (World.cell?_setCell_other _ _ _ _ (by simp)).trans e6, (World.cell?_setCell_other _ _ _ _ (by simp)).trans e7, by rw [setCell_size]; exact hlt⟩, (by rw [World.frozen?_setCell]; exact f0), (by rw [World.frozen?_setCell]; exact f1), (by rw [World.frozen?_setCell]; exact f2), (by rw [World.frozen?_setCell]; exact f3), (by rw [World.frozen?_setCell]; exact f4), (by rw [World.frozen?_setCell]; exact f5), (by rw [World.frozen?_setCell]; exact f6), (by rw [World.frozen?_setCell]; exact f7)⟩
theorem EightVar.set6 {w : World} {b : Nat} {p : PD} (h : EightVar w b p) (x : Int) : EightVar (w.setCell ⟨b, 6, none⟩ (.int .i64 x)) b { p with gl := x } := by
  obtain ⟨⟨e0, e1, e2, e3, e4, e5, e6, e7, hlt⟩, f0, f1, f2, f3, f4, f5, f6, f7⟩ := h
  exact ⟨⟨(World.cell?_setCell_other _ _ _ _ (by simp)).trans e0, (World.cell?_setCell_other _ _ _ _ (by simp)).trans e1, (World.cell?_setCell_other _ _ _ _ (by simp)).trans e2, (World.cell?_setCell_other _ _ _ _ (by simp)).trans e3, (World.cell?_setCell_other _ _ _ _ (by simp)).trans e4, (World.cell?_setCell_other _ _ _ _ (by simp)).trans e5, World.cell?_setCell_same _ _ _ e6, (World.cell?_setCell_other _ _ _ _ (by simp)).trans e7, by rw [setCell_size]; exact hlt⟩, (by rw [World.frozen?_setCell]; exact f0), (by rw [World.frozen?_setCell]; exact f1), (by rw [World.frozen?_setCell]; exact f2), (by rw [World.frozen?_setCell]; exact f3), (by rw [World.frozen?_setCell]; exact f4), (by rw [World.frozen?_setCell]; exact f5), (by rw [World.frozen?_setCell]; exact f6), (by rw [World.frozen?_setCell]; exact f7)⟩
theorem EightVar.set7 {w : World} {b : Nat} {p : PD} (h : EightVar w b p) (x : Int) : EightVar (w.setCell ⟨b, 7, none⟩ (.int .i64 x)) b { p with gr := x } := by
  obtain ⟨⟨e0, e1, e2, e3, e4, e5, e6, e7, hlt⟩, f0, f1, f2, f3, f4, f5, f6, f7⟩ := h
  exact ⟨⟨(World.cell?_setCell_other _ _ _ _ (by simp)).trans e0, (World.cell?_setCell_other _ _ _ _ (by simp)).trans e1, (World.cell?_setCell_other _ _ _ _ (by simp)).trans e2, (World.cell?_setCell_other _ _ _ _ (by simp)).trans e3, (World.cell?_setCell_other _ _ _ _ (by simp)).trans e4, (World.cell?_setCell_other _ _ _ _ (by simp)).trans e5, (World.cell?_setCell_other _ _ _ _ (by simp)).trans e6, World.cell?_setCell_same _ _ _ e7, by rw [setCell_size]; exact hlt⟩, (by rw [World.frozen?_setCell]; exact f0), (by rw [World.frozen?_setCell]; exact f1), (by rw [World.frozen?_setCell]; exact f2), (by rw [World.frozen?_setCell]; exact f3), (by rw [World.frozen?_setCell]; exact f4), (by rw [World.frozen?_setCell]; exact f5), (by rw [World.frozen?_setCell]; exact f6), (by rw [World.frozen?_setCell]; exact f7)⟩
theorem EightVar.fill {w : World} {b : Nat} {p : PD} (h : EightVar w b p) (q : PD) : EightVar ((((((((w.setCell ⟨b, 0, none⟩ (.int .i64 q.bl)).setCell ⟨b, 1, none⟩ (.int .i64 q.br)).setCell ⟨b, 2, none⟩ (.int .i64 q.hl)).setCell ⟨b, 3, none⟩ (.int .i64 q.hr)).setCell ⟨b, 4, none⟩ (.int .i64 q.ll)).setCell ⟨b, 5, none⟩ (.int .i64 q.lr)).setCell ⟨b, 6, none⟩ (.int .i64 q.gl)).setCell ⟨b, 7, none⟩ (.int .i64 q.gr)) b q := by
  exact ((((((((h.set0 q.bl).set1 q.br).set2 q.hl).set3 q.hr).set4 q.ll).set5 q.lr).set6 q.gl).set7 q.gr)
theorem EightVar.fillFar {w : World} {b c : Nat} {p : PD} (h : EightVar w b p) (hne : c ≠ b) (q : PD) : EightVar ((((((((w.setCell ⟨c, 0, none⟩ (.int .i64 q.bl)).setCell ⟨c, 1, none⟩ (.int .i64 q.br)).setCell ⟨c, 2, none⟩ (.int .i64 q.hl)).setCell ⟨c, 3, none⟩ (.int .i64 q.hr)).setCell ⟨c, 4, none⟩ (.int .i64 q.ll)).setCell ⟨c, 5, none⟩ (.int .i64 q.lr)).setCell ⟨c, 6, none⟩ (.int .i64 q.gl)).setCell ⟨c, 7, none⟩ (.int .i64 q.gr)) b p := by
  exact ((((((((h.far c 0 _ hne).far c 1 _ hne).far c 2 _ hne).far c 3 _ hne).far c 4 _ hne).far c 5 _ hne).far c 6 _ hne).far c 7 _ hne)
theorem StateAt.fillFar {w : World} {b c : Nat} {s : SD} (h : StateAt w b s) (hne : c ≠ b) (q : PD) : StateAt ((((((((w.setCell ⟨c, 0, none⟩ (.int .i64 q.bl)).setCell ⟨c, 1, none⟩ (.int .i64 q.br)).setCell ⟨c, 2, none⟩ (.int .i64 q.hl)).setCell ⟨c, 3, none⟩ (.int .i64 q.hr)).setCell ⟨c, 4, none⟩ (.int .i64 q.ll)).setCell ⟨c, 5, none⟩ (.int .i64 q.lr)).setCell ⟨c, 6, none⟩ (.int .i64 q.gl)).setCell ⟨c, 7, none⟩ (.int .i64 q.gr)) b s := by
  exact ((((((((h.far c 0 _ hne).far c 1 _ hne).far c 2 _ hne).far c 3 _ hne).far c 4 _ hne).far c 5 _ hne).far c 6 _ hne).far c 7 _ hne)
theorem below_fill {B : Nat} {a w : World} (h : Below B a w) {b : Nat} (hb : B ≤ b) (q : PD) : Below B a ((((((((w.setCell ⟨b, 0, none⟩ (.int .i64 q.bl)).setCell ⟨b, 1, none⟩ (.int .i64 q.br)).setCell ⟨b, 2, none⟩ (.int .i64 q.hl)).setCell ⟨b, 3, none⟩ (.int .i64 q.hr)).setCell ⟨b, 4, none⟩ (.int .i64 q.ll)).setCell ⟨b, 5, none⟩ (.int .i64 q.lr)).setCell ⟨b, 6, none⟩ (.int .i64 q.gl)).setCell ⟨b, 7, none⟩ (.int .i64 q.gr)) := by
  exact ((((((((h.setCell hb _).setCell hb _).setCell hb _).setCell hb _).setCell hb _).setCell hb _).setCell hb _).setCell hb _)

set_option maxRecDepth 100000 in
set_option maxHeartbeats 6400000 in
theorem specLights (j : Nat) (hj : j ≤ 2) (K : Int) (hK : K = (j : Int) + 1) (can : SD → Bool) (HCAN : CanIs j can) (s : SD) (p : PD) (hs : SIn s)
    (hp : 0 ≤ p.bl ∧ 0 ≤ p.br ∧ 0 ≤ p.hl ∧ 0 ≤ p.hr ∧ p.bl + p.br ≤ s.b ∧ p.hl + p.hr ≤ s.h) (h0 : p.gl = 0) (h1 : p.gr = 0) (w : World) :
    Calls Try.prog 46 #[stateV s, pickV p, .int .i64 K] w fun e w' => e = .returned (.tuple #[pickV ((lightsP can (3 ^ j) s p).getD zeroP), .bool (lightsP can (3 ^ j) s p).isSome]) ∧ Below w.heap.size w w' := by
  have hl0 : 0 ≤ s.l ∧ s.l ≤ 13 := by have := hs; unfold SIn sumS at this; omega
  obtain ⟨N, hN⟩ : ∃ N, N = s.l.toNat + 1 := ⟨_, rfl⟩
  have hNl : s.l = (N : Int) - 1 := by omega
  have CP : ∀ a b : Nat, a + b < N → PIn s { p with ll := (a : Int), lr := (b : Int) } := fun a b hab => by
    obtain ⟨p0, p1, p2, p3, p4, p5⟩ := hp
    exact ⟨p0, p1, p2, p3, by show (0 : Int) ≤ (a : Int); omega, by show (0 : Int) ≤ (b : Int); omega, p4, p5, by show (a : Int) + (b : Int) ≤ s.l; omega⟩
  have CG := Lib.hid (fun (a b : Nat) (hab : a + b < N) W => specGoods s { p with ll := (a : Int), lr := (b : Int) } hs (CP a b hab) h0 h1 W)
  have CF := Lib.hid (fun (a b : Nat) (hab : a + b < N) W => specFits j hj K hK can HCAN s (goodsP { p with ll := (a : Int), lr := (b : Int) }) hs
    (by have := CP a b hab; revert this; generalize ({ p with ll := (a : Int), lr := (b : Int) } : PD) = q; unfold goodsP PIn; split <;> exact fun h => h) W)
  have HR0 : Hid (lightsP can (3 ^ j) s p = firstFrom (fun a => firstFrom (fun b => tryP can (3 ^ j) s { p with ll := (a : Int), lr := (b : Int) }) (N - a) 0) (N - 0) 0) := by
    rw [hN]; rfl
  have HT : Hid (∀ a b : Nat, tryP can (3 ^ j) s { p with ll := (a : Int), lr := (b : Int) } = if (goodsB s { p with ll := (a : Int), lr := (b : Int) } && fitB can (3 ^ j) s (goodsP { p with ll := (a : Int), lr := (b : Int) })) = true then some (goodsP { p with ll := (a : Int), lr := (b : Int) }) else none) := fun a b => rfl
  generalize lightsP can (3 ^ j) s p = r at HR0 ⊢
  have HN := Lib.hid hNl
  have hN13 : N ≤ 14 := by omega
  clear hs hp h0 h1 CP HCAN hN hNl hl0 hK
  have P0 := StateAt.new w 25 s
  have B0 := alloc_below w (.cells #[.int .i64 s.b, .int .i64 s.h, .int .i64 s.l, .int .i64 s.g] 25)
  have s0 : (w.alloc (.cells #[.int .i64 s.b, .int .i64 s.h, .int .i64 s.l, .int .i64 s.g] 25)).heap.size = w.heap.size + 1 := by simp
  generalize hX0 : w.alloc (.cells #[.int .i64 s.b, .int .i64 s.h, .int .i64 s.l, .int .i64 s.g] 25) = X0 at P0 B0 s0
  have Q0 := EightVar.new X0 32 p
  have B1 := alloc_below X0 (.cells #[.int .i64 p.bl, .int .i64 p.br, .int .i64 p.hl, .int .i64 p.hr, .int .i64 p.ll, .int .i64 p.lr, .int .i64 p.gl, .int .i64 p.gr] 32)
  have s1 : (X0.alloc (.cells #[.int .i64 p.bl, .int .i64 p.br, .int .i64 p.hl, .int .i64 p.hr, .int .i64 p.ll, .int .i64 p.lr, .int .i64 p.gl, .int .i64 p.gr] 32)).heap.size = w.heap.size + 2 := by simp [s0]
  generalize hX1 : X0.alloc (.cells #[.int .i64 p.bl, .int .i64 p.br, .int .i64 p.hl, .int .i64 p.hr, .int .i64 p.ll, .int .i64 p.lr, .int .i64 p.gl, .int .i64 p.gr] 32) = X1 at Q0 B1 s1
  rw [s0] at Q0
  have Q2 := EightVar.new X1 32 zeroP
  have B2 := alloc_below X1 (.cells #[.int .i64 0, .int .i64 0, .int .i64 0, .int .i64 0, .int .i64 0, .int .i64 0, .int .i64 0, .int .i64 0] 32)
  have Q1 := Q0.below B2
  rw [s1] at Q2
  have BX := Lib.hid (below_up (below_up B0 B1) B2)
  have P1 := Lib.hid ((P0.below B1).below B2)
  change EightVar (X1.alloc (.cells #[.int .i64 0, .int .i64 0, .int .i64 0, .int .i64 0, .int .i64 0, .int .i64 0, .int .i64 0, .int .i64 0] 32)) _ _ at Q2
  generalize hX2 : X1.alloc (.cells #[.int .i64 0, .int .i64 0, .int .i64 0, .int .i64 0, .int .i64 0, .int .i64 0, .int .i64 0, .int .i64 0] 32) = X2 at Q1 Q2 P1 BX
  have HI : Hid (∃ la lb, EightVar X2 (w.heap.size + 1) { p with ll := la, lr := lb }) := ⟨p.ll, p.lr, Q1⟩
  have H2 := Lib.hid Q2
  clear P0 B0 B1 B2 Q0 Q1 Q2
  unfold stateV at CG CF ⊢
  unfold pickV at CG CF ⊢
  go_enter Try.func46, Try.ntmps46
  go_wp2
  go_loopw [8] (fun iv wr => ∃ a : Nat, a ≤ N ∧ iv = .int .i64 a ∧ Hid (r = firstFrom (fun a => firstFrom (fun b => tryP can (3 ^ j) s { p with ll := (a : Int), lr := (b : Int) }) (N - a) 0) (N - a) a) ∧
      Hid (Below w.heap.size w wr) ∧ Hid (StateAt wr w.heap.size s) ∧ Hid (∃ la lb, EightVar wr (w.heap.size + 1) { p with ll := la, lr := lb }) ∧ Hid (EightVar wr (w.heap.size + 2) zeroP)) (fun iv _ => N - (intOf iv).toNat)
  case atStart => exact ⟨0, by omega, rfl, HR0, BX, P1, HI, H2⟩
  case round =>
    clear HR0 BX P1 HI H2
    obtain ⟨a, haN, rfl, HR, BW, PW, IW, RW⟩ := hrel
    by_cases hlt : a < N
    · have HR1 : Hid (r = (firstFrom (fun b => tryP can (3 ^ j) s { p with ll := (a : Int), lr := (b : Int) }) (N - a - 0) 0).or (firstFrom (fun a => firstFrom (fun b => tryP can (3 ^ j) s { p with ll := (a : Int), lr := (b : Int) }) (N - a) 0) (N - (a + 1)) (a + 1))) := by
        unfold Hid; rw [HR.out, firstFrom_step _ hlt]; rfl
      clear HR
      have hle : ((a : Int) ≤ s.l) := by rw [HN.out]; omega
      obtain ⟨e0, e1, e2, e3, -⟩ := PW.out
      go_wp2
      clear e0 e1 e2 e3 hle
      go_loopw [9] (fun iv ws => ∃ b : Nat, a + b ≤ N ∧ iv = .int .i64 b ∧ Hid (r = (firstFrom (fun b => tryP can (3 ^ j) s { p with ll := (a : Int), lr := (b : Int) }) (N - a - b) b).or (firstFrom (fun a => firstFrom (fun b => tryP can (3 ^ j) s { p with ll := (a : Int), lr := (b : Int) }) (N - a) 0) (N - (a + 1)) (a + 1))) ∧
          Hid (Below w.heap.size w ws) ∧ Hid (StateAt ws w.heap.size s) ∧ Hid (∃ la lb, EightVar ws (w.heap.size + 1) { p with ll := la, lr := lb }) ∧ Hid (EightVar ws (w.heap.size + 2) zeroP)) (fun iv _ => N - (intOf iv).toNat)
      case atStart => exact ⟨0, by omega, rfl, HR1, BW, PW, IW, RW⟩
      case round =>
        clear HR1 BW PW IW RW
        obtain ⟨b, hbN, rfl, HR, BW, PW, IW, RW⟩ := hrel
        have hwab : IntKind.i64.wrap ((a : Int) + (b : Int)) = (a : Int) + (b : Int) := by rw [IntKind.wrap_i64]; omega
        by_cases hlt2 : a + b < N
        · have HT1 := Lib.hid (HT.out a b)
          have HR1 : Hid (r = ((tryP can (3 ^ j) s { p with ll := (a : Int), lr := (b : Int) }).or (firstFrom (fun b => tryP can (3 ^ j) s { p with ll := (a : Int), lr := (b : Int) }) (N - a - (b + 1)) (b + 1))).or (firstFrom (fun a => firstFrom (fun b => tryP can (3 ^ j) s { p with ll := (a : Int), lr := (b : Int) }) (N - a) 0) (N - (a + 1)) (a + 1))) := by
            unfold Hid; rw [HR.out, firstFrom_step _ (by omega)]
          clear HR
          have CGx := Lib.hid (CG.out a b hlt2)
          have CFx := Lib.hid (CF.out a b hlt2)
          have hle : ((a : Int) + (b : Int) ≤ s.l) := by rw [HN.out]; omega
          obtain ⟨e0, e1, e2, e3, elt⟩ := PW.out
          obtain ⟨la, lb, EW⟩ := IW.out
          have E2 := Lib.hid ((EW.set4 (a : Int)).set5 (b : Int))
          have P2 := Lib.hid ((PW.out.far (w.heap.size + 1) 4 (.int .i64 a) (by omega)).far (w.heap.size + 1) 5 (.int .i64 b) (by omega))
          have R2 := Lib.hid ((RW.out.far (w.heap.size + 1) 4 (.int .i64 a) (by omega)).far (w.heap.size + 1) 5 (.int .i64 b) (by omega))
          have B2 := Lib.hid ((BW.out.setCell (p := ⟨w.heap.size + 1, 4, none⟩) (by simp) (.int .i64 a)).setCell (p := ⟨w.heap.size + 1, 5, none⟩) (by simp) (.int .i64 b))
          obtain ⟨⟨q0, q1, q2, q3, q4, q5, q6, q7, ql⟩, f0, f1, f2, f3, f4, f5, f6, f7⟩ := EW
          clear BW PW IW RW
          obtain ⟨g, hg⟩ : ∃ g, goodsP { p with ll := (a : Int), lr := (b : Int) } = g := ⟨_, rfl⟩
          obtain ⟨gb, hgb⟩ : ∃ gb, goodsB s { p with ll := (a : Int), lr := (b : Int) } = gb := ⟨_, rfl⟩
          rw [hg, hgb] at HT1
          rw [hg, hgb] at CGx
          rw [hg] at CFx
          clear hg hgb
          generalize tryP can (3 ^ j) s { p with ll := (a : Int), lr := (b : Int) } = t at HT1 HR1
          obtain ⟨fb, hfb⟩ : ∃ fb, fitB can (3 ^ j) s g = fb := ⟨_, rfl⟩
          rw [hfb] at HT1 CFx
          clear hfb
          go_wp2_with fail
          refine (CGx.out _).mono ?_
          rintro e w3 ⟨rfl, b3⟩
          clear e0 e1 e2 e3 elt q0 q1 q2 q3 q4 q5 q6 q7 ql f0 f1 f2 f3 f4 f5 f6 f7 hle hwab
          have E3 : Hid (EightVar w3 (w.heap.size + 1) { p with ll := (a : Int), lr := (b : Int) }) := E2.out.below b3
          have P3 := Lib.hid (P2.out.below b3)
          have R3 := Lib.hid (R2.out.below b3)
          have B3 := Lib.hid (below_up B2.out b3)
          have hw3 : w.heap.size + 2 < w3.heap.size := R3.out.1.2.2.2.2.2.2.2.2
          clear b3 E2 P2 R2 B2
          have b4 := alloc_below w3 (.cells #[.int .i64 0, .int .i64 0, .int .i64 0, .int .i64 0, .int .i64 0, .int .i64 0, .int .i64 0, .int .i64 0] 32)
          have q4 := EightVar.new w3 32 zeroP
          have E4 : Hid (EightVar _ (w.heap.size + 1) { p with ll := (a : Int), lr := (b : Int) }) := E3.out.below b4
          have P4 := Lib.hid (P3.out.below b4)
          have R4 := Lib.hid (R3.out.below b4)
          have B4 := Lib.hid (below_up B3.out b4)
          change EightVar (w3.alloc (.cells #[.int .i64 0, .int .i64 0, .int .i64 0, .int .i64 0, .int .i64 0, .int .i64 0, .int .i64 0, .int .i64 0] 32)) _ _ at q4
          generalize hX4 : w3.alloc (.cells #[.int .i64 0, .int .i64 0, .int .i64 0, .int .i64 0, .int .i64 0, .int .i64 0, .int .i64 0, .int .i64 0] 32) = X4 at b4 q4 E4 P4 R4 B4
          have hne1 : ¬ (w.heap.size = w3.heap.size) := by omega
          have hne2 : ¬ (w3.heap.size = w.heap.size) := by omega
          have E5 := Lib.hid (E4.out.fillFar (c := w3.heap.size) (by omega) g)
          have P5 := Lib.hid (P4.out.fillFar (c := w3.heap.size) (by omega) g)
          have R5 := Lib.hid (R4.out.fillFar (c := w3.heap.size) (by omega) g)
          have B5 := Lib.hid (below_fill B4.out (b := w3.heap.size) (by omega) g)
          have Q5 := Lib.hid (q4.fill g)
          obtain ⟨e0, e1, e2, e3, elt⟩ := P4.out
          obtain ⟨⟨q0, q1, q2, q3, q4, q5, q6, q7, ql⟩, f0, f1, f2, f3, f4, f5, f6, f7⟩ := q4
          clear E3 P3 R3 B3 b4 E4 P4 R4 B4
          have HW3 := Lib.hid hw3
          clear hw3
          cases gb with
          | true =>
            go_wp2_with fail
            refine (CFx.out _).mono ?_
            rintro e w6 ⟨rfl, b6⟩
            clear e0 e1 e2 e3 elt q0 q1 q2 q3 q4 q5 q6 q7 ql f0 f1 f2 f3 f4 f5 f6 f7
            have E6 := Lib.hid (E5.out.below b6)
            have P6 := Lib.hid (P5.out.below b6)
            have R6 := Lib.hid (R5.out.below b6)
            have Q6 := Lib.hid (Q5.out.below b6)
            have B6 := Lib.hid (below_up B5.out b6)
            clear b6 E5 P5 R5 Q5 B5
            cases fb with
            | true =>
              have HF : Hid (r = some g) := by unfold Hid; rw [HR1.out, HT1.out]; rfl
              clear HR1 HT1
              obtain ⟨⟨q0, q1, q2, q3, q4, q5, q6, q7, ql⟩, f0, f1, f2, f3, f4, f5, f6, f7⟩ := Q6.out
              obtain ⟨⟨r0, r1, r2, r3, r4, r5, r6, r7, rl⟩, g0, g1, g2, g3, g4, g5, g6, g7⟩ := R6.out
              go_wp2
              refine bodyPost_ret (v := .tuple #[.agg #[.int .i64 g.bl, .int .i64 g.br, .int .i64 g.hl, .int .i64 g.hr, .int .i64 g.ll, .int .i64 g.lr, .int .i64 g.gl, .int .i64 g.gr], .bool true]) (by simp [results, Try.results46, go_sem, r0, r1, r2, r3, r4, r5, r6, r7]) rfl ⟨?_, ?_⟩
              · rw [HF.out]; rfl
              · exact below_fill B6.out (b := w.heap.size + 2) (by omega) g
            | false =>
              have HF : Hid (r = (firstFrom (fun b => tryP can (3 ^ j) s { p with ll := (a : Int), lr := (b : Int) }) (N - a - (b + 1)) (b + 1)).or (firstFrom (fun a => firstFrom (fun b => tryP can (3 ^ j) s { p with ll := (a : Int), lr := (b : Int) }) (N - a) 0) (N - (a + 1)) (a + 1))) := by
                unfold Hid; rw [HR1.out, HT1.out]; rfl
              clear HR1 HT1
              go_wp2
              go_roundw
              case rel => exact ⟨b + 1, by omega, by go_num, HF, B6, P6, ⟨_, _, E6.out⟩, R6⟩
              case measure => simp [intOf]; omega
          | false =>
            have HF : Hid (r = (firstFrom (fun b => tryP can (3 ^ j) s { p with ll := (a : Int), lr := (b : Int) }) (N - a - (b + 1)) (b + 1)).or (firstFrom (fun a => firstFrom (fun b => tryP can (3 ^ j) s { p with ll := (a : Int), lr := (b : Int) }) (N - a) 0) (N - (a + 1)) (a + 1))) := by
              unfold Hid; rw [HR1.out, HT1.out]; rfl
            clear HR1 HT1
            go_wp2
            go_roundw
            case rel => exact ⟨b + 1, by omega, by go_num, HF, B5, P5, ⟨_, _, E5.out⟩, R5⟩
            case measure => simp [intOf]; omega
        · have HF : Hid (r = firstFrom (fun a => firstFrom (fun b => tryP can (3 ^ j) s { p with ll := (a : Int), lr := (b : Int) }) (N - a) 0) (N - (a + 1)) (a + 1)) := by
            unfold Hid; rw [HR.out, firstFrom_end _ (by omega)]; rfl
          clear HR
          have hle : ¬ ((a : Int) + (b : Int) ≤ s.l) := by rw [HN.out]; omega
          obtain ⟨e0, e1, e2, e3, -⟩ := PW.out
          go_wp2
          clear e0 e1 e2 e3 hle
          go_roundw
          case rel => exact ⟨a + 1, by omega, by go_num, HF, BW, PW, IW, RW⟩
          case measure => simp [intOf]; omega
    · have HF : Hid (r = none) := by unfold Hid; rw [HR.out, firstFrom_end _ (by omega)]
      clear HR
      have hle : ¬ ((a : Int) ≤ s.l) := by rw [HN.out]; omega
      obtain ⟨e0, e1, e2, e3, -⟩ := PW.out
      obtain ⟨⟨r0, r1, r2, r3, r4, r5, r6, r7, rl⟩, g0, g1, g2, g3, g4, g5, g6, g7⟩ := RW.out
      go_wp2
      refine bodyPost_ret (v := .tuple #[.agg #[.int .i64 0, .int .i64 0, .int .i64 0, .int .i64 0, .int .i64 0, .int .i64 0, .int .i64 0, .int .i64 0], .bool false]) (by simp [results, Try.results46, go_sem, r0, r1, r2, r3, r4, r5, r6, r7]) rfl ⟨?_, ?_⟩
      · rw [HF.out]; rfl
      · exact below_fill BW.out (b := w.heap.size + 2) (by omega) zeroP
end Go.Proofs.Ytfabcaodiohmaaa
