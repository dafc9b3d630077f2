/- Several texts in one file; each says what it proves and under which condition. No condition. -/
import Derived.Test.YtlflblngbneacabGreatDoorGPick
import Derived.Test.YtlflblngbneacabGreatDoorGSearch
import Derived.Test.YtlflblngbneacabGreatDoorGSet
import Derived.Test.YtlflblngbneacabGreatDoorGFinds
/- The contract of the program's firstPick round the contract of leadsOn. Conditions: a valid state, at most three weighings, a map each entry of which is right. -/
namespace Go.Proofs.YtlflblngbneacabGreatDoor
open Go.RowKit Go.Shelf
attribute [local go_sem] Oper.semAt_some

/-- Whether a pick is taken: it leaves another state after equal sides, and one weighing fewer is enough after each outcome. -/
def sameS (a b : SD) : Bool := decide (a.b = b.b ∧ a.h = b.h ∧ a.l = b.l ∧ a.g = b.g)
def takeB (j : Nat) (s : SD) (p : PD) : Bool := !(sameS (afterS s p 0) s) && leadsB j s p
theorem ownFrom_only {β : Type} {T : Nat → Prop} {X0 : World} {B : Nat} (hB : X0.heap.size ≤ B) : OwnFrom B (fun (_ : β) V => Only T X0 V) := fun _ X Y row hs hg hr =>
  ⟨hg.os.trans hs.os, hg.tape.trans hs.tape, hg.output.trans hs.output, Nat.le_trans hs.size hg.size, fun k hk hn => (hg.block k (Nat.lt_of_lt_of_le hk hs.size) (fun e => by have := (hr k e.symm).1; omega)).trans (hs.block k hk hn)⟩
theorem ownFrom_note {β : Type} {m B : Nat} (hm : m < B) : OwnFrom B (fun (_ : β) V => NoteAt V m) := fun _ X Y row hs hg hr =>
  hs.same (hg.block m hs.lt (fun e => by have := (hr m e.symm).1; omega))
/-- Block b holds just these cells. -/
def CellsBox (V : World) (b : Nat) (cs : Array Value) (t : TypeId) : Prop := V.heap[b]? = some (.cells cs t (0, 0))
theorem cellsBox_own {B b : Nat} {cs : Array Value} {t : TypeId} : OwnFrom B (fun (_ : Unit) V => CellsBox V b cs t) := fun _ X Y row hs hg hr =>
  (hg.block b (Array.getElem?_eq_some_iff.1 hs).1 (fun e => by obtain ⟨_, o, ho, hc⟩ := hr b e.symm; rw [show X.heap[b]? = _ from hs] at ho; cases ho; cases hc)).trans hs
theorem CellsBox.pick {V : World} {b : Nat} {p : PD} {t : TypeId} (h : CellsBox V b #[.int .i64 p.bl, .int .i64 p.br, .int .i64 p.hl, .int .i64 p.hr, .int .i64 p.ll, .int .i64 p.lr, .int .i64 p.gl, .int .i64 p.gr] t) : PickAt V b p := by
  have hlt := (Array.getElem?_eq_some_iff.1 h).1
  unfold CellsBox at h
  refine ⟨?_, ?_, ?_, ?_, ?_, ?_, ?_, ?_, hlt⟩ <;> simp [World.cell?, h]
theorem EightVar.only {T : Nat → Prop} {w w' : World} {b : Nat} {p : PD} (h : EightVar w b p) (ho : Only T w w') (hb : ¬ T b) : EightVar w' b p := by
  have e := ho.block b h.1.lt hb
  obtain ⟨hp, f0, f1, f2, f3, f4, f5, f6, f7⟩ := h
  refine ⟨hp.only ho hb, ?_, ?_, ?_, ?_, ?_, ?_, ?_, ?_⟩
  · exact (World.frozen?_of_block (a := ⟨b, 0, none⟩) e).trans f0
  · exact (World.frozen?_of_block (a := ⟨b, 1, none⟩) e).trans f1
  · exact (World.frozen?_of_block (a := ⟨b, 2, none⟩) e).trans f2
  · exact (World.frozen?_of_block (a := ⟨b, 3, none⟩) e).trans f3
  · exact (World.frozen?_of_block (a := ⟨b, 4, none⟩) e).trans f4
  · exact (World.frozen?_of_block (a := ⟨b, 5, none⟩) e).trans f5
  · exact (World.frozen?_of_block (a := ⟨b, 6, none⟩) e).trans f6
  · exact (World.frozen?_of_block (a := ⟨b, 7, none⟩) e).trans f7
/-- A variable of the call's own for a bool. -/
def BoolVar (w : World) (b : Nat) (x : Bool) : Prop := w.cell? ⟨b, 0, none⟩ = some (.bool x) ∧ w.frozen? ⟨b, 0, none⟩ = false ∧ b < w.heap.size
theorem BoolVar.below {w w' : World} {b : Nat} {x : Bool} (h : BoolVar w b x) (hb : Below w.heap.size w w') : BoolVar w' b x :=
  ⟨by rw [hb.cell (p := ⟨b, 0, none⟩) h.2.2]; exact h.1, by rw [hb.frozen (p := ⟨b, 0, none⟩) h.2.2]; exact h.2.1, Nat.lt_of_lt_of_le h.2.2 hb.size⟩
theorem BoolVar.only {T : Nat → Prop} {w w' : World} {b : Nat} {x : Bool} (h : BoolVar w b x) (ho : Only T w w') (hb : ¬ T b) : BoolVar w' b x :=
  ⟨(World.cell?_of_block (a := ⟨b, 0, none⟩) (ho.block b h.2.2 hb)).trans h.1, (World.frozen?_of_block (a := ⟨b, 0, none⟩) (ho.block b h.2.2 hb)).trans h.2.1, Nat.lt_of_lt_of_le h.2.2 ho.size⟩
theorem KeepUp.of_only {B bs : Nat} {T : Nat → Prop} {V V' : World} (h : Only T V V') (hT : ∀ k, T k → k < B ∧ k ≠ bs) (hb : bs < V.heap.size) : KeepUp B bs V V' :=
  ⟨h.size, fun k hk hl => h.block k hl (fun ht => by have := (hT k ht).1; omega), h.block bs hb (fun ht => (hT bs ht).2 rfl)⟩

theorem fill_only (w : World) (b : Nat) (q : PD) : Only (fun k => k = b) w ((((((((w.setCell ⟨b, 0, none⟩ (.int .i64 q.bl)).setCell ⟨b, 1, none⟩ (.int .i64 q.br)).setCell ⟨b, 2, none⟩ (.int .i64 q.hl)).setCell ⟨b, 3, none⟩ (.int .i64 q.hr)).setCell ⟨b, 4, none⟩ (.int .i64 q.ll)).setCell ⟨b, 5, none⟩ (.int .i64 q.lr)).setCell ⟨b, 6, none⟩ (.int .i64 q.gl)).setCell ⟨b, 7, none⟩ (.int .i64 q.gr)) :=
  (((((((Only.of_set _ _ _ _).trans (Only.of_set _ _ _ _)).trans (Only.of_set _ _ _ _)).trans (Only.of_set _ _ _ _)).trans (Only.of_set _ _ _ _)).trans (Only.of_set _ _ _ _)).trans (Only.of_set _ _ _ _)).trans (Only.of_set _ _ _ _)
theorem BoolVar.set {w : World} {b : Nat} {x : Bool} (h : BoolVar w b x) (y : Bool) : BoolVar (w.setCell ⟨b, 0, none⟩ (.bool y)) b y :=
  ⟨World.cell?_setCell_same _ _ _ h.1, by rw [World.frozen?_setCell]; exact h.2.1, by simp only [setCell_size]; exact h.2.2⟩
/-- The two results are written. -/
theorem fill9 {w : World} {b c : Nat} {p : PD} {x : Bool} (h : EightVar w b p) (v : BoolVar w c x) (hne : c ≠ b) (q : PD) (y : Bool) :
    EightVar (((((((((w.setCell ⟨b, 0, none⟩ (.int .i64 q.bl)).setCell ⟨b, 1, none⟩ (.int .i64 q.br)).setCell ⟨b, 2, none⟩ (.int .i64 q.hl)).setCell ⟨b, 3, none⟩ (.int .i64 q.hr)).setCell ⟨b, 4, none⟩ (.int .i64 q.ll)).setCell ⟨b, 5, none⟩ (.int .i64 q.lr)).setCell ⟨b, 6, none⟩ (.int .i64 q.gl)).setCell ⟨b, 7, none⟩ (.int .i64 q.gr)).setCell ⟨c, 0, none⟩ (.bool y)) b q ∧
    BoolVar (((((((((w.setCell ⟨b, 0, none⟩ (.int .i64 q.bl)).setCell ⟨b, 1, none⟩ (.int .i64 q.br)).setCell ⟨b, 2, none⟩ (.int .i64 q.hl)).setCell ⟨b, 3, none⟩ (.int .i64 q.hr)).setCell ⟨b, 4, none⟩ (.int .i64 q.ll)).setCell ⟨b, 5, none⟩ (.int .i64 q.lr)).setCell ⟨b, 6, none⟩ (.int .i64 q.gl)).setCell ⟨b, 7, none⟩ (.int .i64 q.gr)).setCell ⟨c, 0, none⟩ (.bool y)) c y ∧
    Only (fun k => k = b ∨ k = c) w (((((((((w.setCell ⟨b, 0, none⟩ (.int .i64 q.bl)).setCell ⟨b, 1, none⟩ (.int .i64 q.br)).setCell ⟨b, 2, none⟩ (.int .i64 q.hl)).setCell ⟨b, 3, none⟩ (.int .i64 q.hr)).setCell ⟨b, 4, none⟩ (.int .i64 q.ll)).setCell ⟨b, 5, none⟩ (.int .i64 q.lr)).setCell ⟨b, 6, none⟩ (.int .i64 q.gl)).setCell ⟨b, 7, none⟩ (.int .i64 q.gr)).setCell ⟨c, 0, none⟩ (.bool y)) := by
  have o := fill_only w b q
  exact ⟨(h.fill q).far c 0 _ hne, (v.only o hne).set y, (o.mono fun k e => .inl e).trans ((Only.of_set _ _ _ _).mono fun k e => .inr e)⟩
theorem justMap_of {W X V : World} {B m : Nat} (hX : Below B W X) (hB : W.heap.size = B) (hO : Only (fun k => k = m ∨ B ≤ k) X V) : JustMap m W V :=
  ⟨hO.os.trans hX.os, hO.tape.trans hX.tape, hO.output.trans hX.output, Nat.le_trans hX.size hO.size, fun k hk hn => (hO.block k (Nat.lt_of_lt_of_le hk hX.size) (fun h => by rcases h with h | h; exact hn h; omega)).trans (hX.block k (by omega))⟩
theorem putObj_only (w : World) (D : Nat) (o : Obj) : Only (fun k => k = D) w (w.putObj D o) := ⟨rfl, rfl, rfl, by simp, fun k _ hk => World.putObj_heap_other hk⟩

/-- The search for a pick, in the program's order. -/
def findP (j : Nat) (s : SD) (nb nh nl ng : Nat) : Option PD := (picksN s nb nh nl ng).find? (takeB j s)

set_option maxRecDepth 100000 in
set_option maxHeartbeats 8000000 in
theorem firstN (j : Nat) (hj : j ≤ 2) (HC : CanC j) (K : Int) (hK : K = (j : Int) + 1) (nb nh nl ng : Nat) (hs : SIn ⟨nb, nh, nl, ng⟩) (n : Nat) (hn : 30 ≤ n) (m : Nat) (W : World) (hN : NoteAt W m) :
    CallsIn Fence.wide n Tryz.prog 158 #[.agg #[.map (some m)], .agg #[.int .i64 nb, .int .i64 nh, .int .i64 nl, .int .i64 ng], .int .i64 K] W fun e W' => e = .returned (.tuple #[pickV ((findP j ⟨nb, nh, nl, ng⟩ nb nh nl ng).getD zeroP), .bool (findP j ⟨nb, nh, nl, ng⟩ nb nh nl ng).isSome]) ∧ NoteAt W' m ∧ JustMap m W W' := by
  have hm := hN.lt
  have HSA : Hid (∀ p V, pickB ⟨nb, nh, nl, ng⟩ p = true → Calls Tryz.prog 194 #[.agg #[.int .i64 nb, .int .i64 nh, .int .i64 nl, .int .i64 ng], pickV p, .int .i64 0] V fun e w' => e = .returned (stateV (afterS ⟨nb, nh, nl, ng⟩ p 0)) ∧ Below V.heap.size V w') := fun p V hp => implStateAfter ⟨nb, nh, nl, ng⟩ p 0 (by omega) (pick_in hp).1 (pick_in hp).2 V
  have HLE : Hid (∀ p V, pickB ⟨nb, nh, nl, ng⟩ p = true → NoteAt V m → Calls Tryz.prog 195 #[.agg #[.map (some m)], .agg #[.int .i64 nb, .int .i64 nh, .int .i64 nl, .int .i64 ng], pickV p, .int .i64 K] V fun e W' => e = .returned (.bool (leadsB j ⟨nb, nh, nl, ng⟩ p)) ∧ NoteAt W' m ∧ JustMap m V W') := fun p V hp h => implLeads j hj HC K hK ⟨nb, nh, nl, ng⟩ p (pick_in hp).1 (pick_in hp).2 m V h
  have HFP : Hid (findP j ⟨nb, nh, nl, ng⟩ nb nh nl ng = (picksN ⟨nb, nh, nl, ng⟩ nb nh nl ng).find? (takeB j ⟨nb, nh, nl, ng⟩)) := rfl
  have HTB : Hid (∀ p, takeB j ⟨nb, nh, nl, ng⟩ p = (!(sameS (afterS ⟨nb, nh, nl, ng⟩ p 0) ⟨nb, nh, nl, ng⟩) && leadsB j ⟨nb, nh, nl, ng⟩ p)) := fun _ => rfl
  clear HC hK hj
  generalize findP j ⟨nb, nh, nl, ng⟩ nb nh nl ng = res at HFP ⊢
  obtain ⟨B, hB⟩ : ∃ B, W.heap.size = B := ⟨_, rfl⟩
  have M0 := MapBox.new W 166 m
  have B0 := alloc_below W (.cells #[.map (some m)] 166)
  have s0 : (W.alloc (.cells #[.map (some m)] 166)).heap.size = B + 1 := by simp [hB]
  rw [hB] at M0
  generalize hX0 : W.alloc (.cells #[.map (some m)] 166) = X0 at M0 B0 s0
  have P0 := StateAt.new X0 56 ⟨nb, nh, nl, ng⟩
  have B1 := alloc_below X0 (.cells #[.int .i64 nb, .int .i64 nh, .int .i64 nl, .int .i64 ng] 56)
  have s1 : (X0.alloc (.cells #[.int .i64 nb, .int .i64 nh, .int .i64 nl, .int .i64 ng] 56)).heap.size = B + 2 := by simp [s0]
  rw [s0] at P0
  change StateAt (X0.alloc (.cells #[.int .i64 nb, .int .i64 nh, .int .i64 nl, .int .i64 ng] 56)) _ _ at P0
  generalize hX1 : X0.alloc (.cells #[.int .i64 nb, .int .i64 nh, .int .i64 nl, .int .i64 ng] 56) = X1 at P0 B1 s1
  have K0 := NumBox.new X1 3 K
  have B2 := alloc_below X1 (.cells #[.int .i64 K] 3)
  have s2 : (X1.alloc (.cells #[.int .i64 K] 3)).heap.size = B + 3 := by simp [s1]
  rw [s1] at K0
  generalize hX2 : X1.alloc (.cells #[.int .i64 K] 3) = X2 at K0 B2 s2
  have E0 := EightVar.new X2 64 zeroP
  have B3 := alloc_below X2 (.cells #[.int .i64 0, .int .i64 0, .int .i64 0, .int .i64 0, .int .i64 0, .int .i64 0, .int .i64 0, .int .i64 0] 64)
  have s3 : (X2.alloc (.cells #[.int .i64 0, .int .i64 0, .int .i64 0, .int .i64 0, .int .i64 0, .int .i64 0, .int .i64 0, .int .i64 0] 64)).heap.size = B + 4 := by simp [s2]
  rw [s2] at E0
  change EightVar (X2.alloc (.cells #[.int .i64 0, .int .i64 0, .int .i64 0, .int .i64 0, .int .i64 0, .int .i64 0, .int .i64 0, .int .i64 0] 64)) _ _ at E0
  generalize hX3 : X2.alloc (.cells #[.int .i64 0, .int .i64 0, .int .i64 0, .int .i64 0, .int .i64 0, .int .i64 0, .int .i64 0, .int .i64 0] 64) = X3 at E0 B3 s3
  have V0 : BoolVar (X3.alloc (.cells #[.bool false] 4)) X3.heap.size false := by refine ⟨?_, ?_, ?_⟩ <;> simp
  have B4 := alloc_below X3 (.cells #[.bool false] 4)
  have s4 : (X3.alloc (.cells #[.bool false] 4)).heap.size = B + 5 := by simp [s3]
  rw [s3] at V0
  generalize hX4 : X3.alloc (.cells #[.bool false] 4) = X4 at V0 B4 s4
  have C0 := StateAt.new X4 56 ⟨nb, nh, nl, ng⟩
  have B5 := alloc_below X4 (.cells #[.int .i64 nb, .int .i64 nh, .int .i64 nl, .int .i64 ng] 56)
  have s5 : (X4.alloc (.cells #[.int .i64 nb, .int .i64 nh, .int .i64 nl, .int .i64 ng] 56)).heap.size = B + 6 := by simp [s4]
  rw [s4] at C0
  change StateAt (X4.alloc (.cells #[.int .i64 nb, .int .i64 nh, .int .i64 nl, .int .i64 ng] 56)) _ _ at C0
  have P4 : StateAt X4 (B + 1) ⟨nb, nh, nl, ng⟩ := ((P0.below B2).below B3).below B4
  have M5 := Lib.hid (((((M0.below B1).below B2).below B3).below B4).below B5)
  have P5 := Lib.hid (P4.below B5)
  have K5 := Lib.hid (((K0.below B3).below B4).below B5)
  have E5 := Lib.hid ((E0.below B4).below B5)
  have V5 := Lib.hid (V0.below B5)
  have BX : Hid (Below B W (X4.alloc (.cells #[.int .i64 nb, .int .i64 nh, .int .i64 nl, .int .i64 ng] 56))) := by
    have := below_up (below_up (below_up (below_up (below_up B0 B1) B2) B3) B4) B5
    rw [hB] at this; exact this
  obtain ⟨e0, e1, e2, e3, -⟩ := P4
  simp only [] at e0 e1 e2 e3
  have hn0 : 1 ≤ n := by omega
  clear M0 P0 K0 E0 V0 B0 B1 B2 B3 B4 B5
  refine callsIn_of_wp_marks Tryz.func158 rfl trivial ?_ rfl
  simp only [Tryz.ntmps158, List.size_toArray, List.length_cons, List.length_nil, Nat.reduceAdd, Nat.reduceSub, Array.replicate_succ, Array.replicate_zero, List.push_toArray, List.append_toArray, List.nil_append, List.cons_append]
  gi_wp2_with (refine ⟨trivial, ?_⟩; gi_at_call 193; refine (picksOf_in Fence.wide (n - 1) trivial rfl ⟨nb, nh, nl, ng⟩ _).mono ?_; rintro e w' ⟨rfl, rfl⟩)
  generalize X4.alloc (.cells #[.int .i64 nb, .int .i64 nh, .int .i64 nl, .int .i64 ng] 56) = X5 at C0 M5 P5 K5 E5 V5 BX s5 ⊢
  have hmB : m < B := by omega
  refine picksLoop (n := n) (bs := B + 5) hs (by omega) C0 (by rfl) (by rfl)
    (fun pre V => ((∀ q ∈ pre, takeB j ⟨nb, nh, nl, ng⟩ q = false) ∧ NoteAt V m) ∧ JustMap m X5 V)
    (fun pre V => (∃ p pre0, pre = pre0 ++ [p] ∧ (∀ q ∈ pre0, takeB j ⟨nb, nh, nl, ng⟩ q = false) ∧ takeB j ⟨nb, nh, nl, ng⟩ p = true ∧ EightVar V (B + 3) p ∧ BoolVar V (B + 4) true) ∧ (NoteAt V m ∧ Only (fun k => k = m ∨ B ≤ k) X5 V))
    (OwnFrom.and (OwnFrom.and (ownFrom_pure _ _) (ownFrom_note (by omega))) (ownFrom_only (Nat.le_refl _)))
    (OwnFrom.and (fun pre Y Z row ⟨p, pre0, h1, h2, h3, h4, h5⟩ hg hr => ⟨p, pre0, h1, h2, h3, h4.only (Only.of_grown hg) (fun e => by have := (hr _ e).1; omega), h5.only (Only.of_grown hg) (fun e => by have := (hr _ e).1; omega)⟩) (OwnFrom.and (ownFrom_note (by omega)) (ownFrom_only (Nat.le_refl _))))
    ⟨⟨by simp, hN.below (by rw [hB]; exact BX.out)⟩, Only.refl _ _⟩
    (fun p a' V => ∃ b, B + 6 ≤ b ∧ CellsBox V b #[.int .i64 p.bl, .int .i64 p.br, .int .i64 p.hl, .int .i64 p.hr, .int .i64 p.ll, .int .i64 p.lr, .int .i64 p.gl, .int .i64 p.gr] 64 ∧ a' = { tmps := #[.agg #[.map (some m)], .agg #[.int .i64 nb, .int .i64 nh, .int .i64 nl, .int .i64 ng], .int .i64 K, .pointer (some ⟨B, 0, none⟩), .pointer (some ⟨B + 1, 0, none⟩), .pointer (some ⟨B + 2, 0, none⟩), .pointer (some ⟨B + 3, 0, none⟩), .pointer (some ⟨B + 4, 0, none⟩), .pointer (some ⟨b, 0, none⟩), .agg #[.int .i64 nb, .int .i64 nh, .int .i64 nl, .int .i64 ng], .func (.func 222) #[] #[.pointer (some ⟨B + 5, 0, none⟩)], .agg #[.int .i64 p.bl, .int .i64 p.br, .int .i64 p.hl, .int .i64 p.hr, .int .i64 p.ll, .int .i64 p.lr, .int .i64 p.gl, .int .i64 p.gr], undef, undef, undef, undef, undef, undef, undef, undef, undef, undef, undef, undef, undef, undef], defers := [] })
    (fun p a' _ Y Z row hs hg hr => by obtain ⟨b, h1, h2, h3⟩ := hs; exact ⟨b, h1, cellsBox_own () Y Z row h2 hg hr, h3⟩)
    ?assign ?body ?done ?stop
  case assign =>
    rintro l pre p V K hV ⟨⟨hall, hN⟩, hJ⟩ hK
    have hkA : KeepUp X5.heap.size (B + 5) V (V.alloc (.cells #[.int .i64 p.bl, .int .i64 p.br, .int .i64 p.hl, .int .i64 p.hr, .int .i64 p.ll, .int .i64 p.lr, .int .i64 p.gl, .int .i64 p.gr] 64)) := .alloc _ (by omega)
    have hNA := hN.below (alloc_below V (.cells #[.int .i64 p.bl, .int .i64 p.br, .int .i64 p.hl, .int .i64 p.hr, .int .i64 p.ll, .int .i64 p.lr, .int .i64 p.gl, .int .i64 p.gr] 64))
    have hJA : JustMap m X5 (V.alloc (.cells #[.int .i64 p.bl, .int .i64 p.br, .int .i64 p.hl, .int .i64 p.hr, .int .i64 p.ll, .int .i64 p.lr, .int .i64 p.gl, .int .i64 p.gr] 64)) := hJ.trans (Only.fresh (alloc_below V _))
    have hnA := World.alloc_heap_new V (.cells #[.int .i64 p.bl, .int .i64 p.br, .int .i64 p.hl, .int .i64 p.hr, .int .i64 p.ll, .int .i64 p.lr, .int .i64 p.gl, .int .i64 p.gr] 64)
    unfold pickV
    gi_wp2
    exact hK _ _ hkA ⟨⟨hall, hNA⟩, hJA⟩ ⟨V.heap.size, by omega, hnA, rfl⟩
  case body =>
    rintro l pre p a' V hV ⟨⟨hall, hN⟩, hJ⟩ ⟨b, hb, hbox, rfl⟩ hp
    have M6 := Lib.hid (M5.out.only hJ (by omega))
    have P6 := Lib.hid (P5.out.only hJ (by omega))
    have K6 := Lib.hid (K5.out.only hJ (by omega))
    have E6 := Lib.hid (E5.out.only hJ (by omega))
    have V6 := Lib.hid (V5.out.only hJ (by omega))
    have Q6 := Lib.hid hbox.pick
    have N6 := Lib.hid hN
    have J6 := Lib.hid hJ
    have CS := Lib.hid (fun V => HSA.out p V hp)
    have CL := Lib.hid (fun V h => HLE.out p V hp h)
    have HT := Lib.hid (HTB.out p)
    clear hN hJ HSA HLE HTB hp
    generalize afterS ⟨nb, nh, nl, ng⟩ p 0 = q at CS HT
    unfold stateV pickV at CS
    unfold pickV at CL
    have D6 : Hid (Below V.heap.size V V.drew) := (Below.refl _ _).drew
    gi_wp2
    refine roundHeld (S := fun w' => (w'.cell? ⟨B, 0, none⟩ = some (.map (some m)) ∧ B < w'.heap.size) ∧ (w'.cell? ⟨B + 1, 0, none⟩ = some (.int .i64 nb) ∧ w'.cell? ⟨B + 1, 1, none⟩ = some (.int .i64 nh) ∧ w'.cell? ⟨B + 1, 2, none⟩ = some (.int .i64 nl) ∧ w'.cell? ⟨B + 1, 3, none⟩ = some (.int .i64 ng) ∧ B + 1 < w'.heap.size) ∧ (w'.cell? ⟨b, 0, none⟩ = some (.int .i64 p.bl) ∧ w'.cell? ⟨b, 1, none⟩ = some (.int .i64 p.br) ∧ w'.cell? ⟨b, 2, none⟩ = some (.int .i64 p.hl) ∧ w'.cell? ⟨b, 3, none⟩ = some (.int .i64 p.hr) ∧ w'.cell? ⟨b, 4, none⟩ = some (.int .i64 p.ll) ∧ w'.cell? ⟨b, 5, none⟩ = some (.int .i64 p.lr) ∧ w'.cell? ⟨b, 6, none⟩ = some (.int .i64 p.gl) ∧ w'.cell? ⟨b, 7, none⟩ = some (.int .i64 p.gr) ∧ b < w'.heap.size) ∧ (w'.cell? ⟨B + 2, 0, none⟩ = some (.int .i64 K) ∧ B + 2 < w'.heap.size)) (by kernel_rfl) (by kernel_rfl) (fun ⟨_, _, h⟩ => h)
      ⟨M6.out.below D6.out, P6.out.below D6.out, Q6.out.below D6.out, K6.out.below D6.out⟩ (fun hHeld => ?_)
    refine wpAnyH_take (i := 0) (oi := { dst := some 12, op := Op.load 56 (Operand.tmp 4), type := 56, pos := "l06_classes.go:185", after := #[], guard := none }) (v := .agg #[.int .i64 nb, .int .i64 nh, .int .i64 nl, .int .i64 ng]) rfl (by kernel_rfl) (by kernel_rfl) (by kernel_rfl) (fun _ _ _ h => h) (Or.inl ⟨by rfl, ?_⟩) hHeld ?_
    · intro w' hSw
      try dsimp only at hSw
      go_simp
    simp only [Act.put, List.setIfInBounds_toArray, List.set_cons_zero, List.set_cons_succ]
    refine wpAnyH_take (i := 1) (oi := { dst := some 13, op := Op.load 64 (Operand.tmp 8), type := 64, pos := "l06_classes.go:185", after := #[], guard := none }) (v := .agg #[.int .i64 p.bl, .int .i64 p.br, .int .i64 p.hl, .int .i64 p.hr, .int .i64 p.ll, .int .i64 p.lr, .int .i64 p.gl, .int .i64 p.gr]) rfl (by kernel_rfl) (by kernel_rfl) (by kernel_rfl) (fun _ _ _ h => h) (Or.inl ⟨by rfl, ?_⟩) hHeld ?_
    · intro w' hSw
      try dsimp only at hSw
      go_simp
    simp only [Act.put, List.setIfInBounds_toArray, List.set_cons_zero, List.set_cons_succ]
    refine wpAnyH_take (i := 3) (oi := { dst := some 15, op := Op.load 56 (Operand.tmp 4), type := 56, pos := "l06_classes.go:185", after := #[], guard := none }) (v := .agg #[.int .i64 nb, .int .i64 nh, .int .i64 nl, .int .i64 ng]) rfl (by kernel_rfl) (by kernel_rfl) (by kernel_rfl) (fun _ _ _ h => h) (Or.inl ⟨by rfl, ?_⟩) hHeld ?_
    · intro w' hSw
      try dsimp only at hSw
      go_simp
    simp only [Act.put, List.setIfInBounds_toArray, List.set_cons_zero, List.set_cons_succ]
    refine wpAnyH_ready (rs := [2]) (by kernel_rfl) (by simp) ?_
    refine AllReadyH.cons (o := { dst := some 14, op := Op.call { callee := Callee.value (Operand.func 194), args := #[Operand.tmp 12, Operand.tmp 13, Operand.const (Value.int IntKind.i64 0)], argTypes := #[56, 64, 3] }, type := 56, pos := "l06_classes.go:185", after := #[{ on := 0, ground := Ground.data }, { on := 1, ground := Ground.data }], guard := none }) rfl (fun K' hK' => ?_) AllReadyH.nil
    go_simp
    refine (CS.out _).mono ?_
    rintro e w4 ⟨rfl, b4⟩
    have D4 := Lib.hid (D6.out.trans b4)
    clear b4
    have M7 := Lib.hid (M6.out.below D4.out)
    have P7 := Lib.hid (P6.out.below D4.out)
    have Q7 := Lib.hid (Q6.out.below D4.out)
    have K7 := Lib.hid (K6.out.below D4.out)
    have N7 := Lib.hid (N6.out.below D4.out)
    have J7 := Lib.hid (J6.out.trans (Only.fresh D4.out))
    refine hK'.out _ _ ⟨M7.out, P7.out, Q7.out, K7.out⟩ (fun hHeld => ?_)
    clear hK' K'
    cases hsm : sameS q ⟨nb, nh, nl, ng⟩ with
    | true =>
      have HF : Hid (takeB j ⟨nb, nh, nl, ng⟩ p = false) := by unfold Hid; rw [HT.out, hsm]; rfl
      simp only [sameS, decide_eq_true_eq] at hsm
      obtain ⟨h1, h2, h3, h4⟩ := hsm
      clear HT CL CS

      refine wpAnyH_take (i := 4) (oi := { dst := some 16, op := Op.binOp BinOp.neq 56 (Operand.tmp 14) (Operand.tmp 15) 56, type := 4, pos := "l06_classes.go:185", after := #[{ on := 2, ground := Ground.data }, { on := 3, ground := Ground.data }], guard := none }) (v := .bool false) rfl (by kernel_rfl) (by kernel_rfl) (by kernel_rfl) (fun _ _ _ h => h) (Or.inl ⟨by rfl, ?_⟩) hHeld ?_
      · intro w' hSw
        try dsimp only at hSw
        go_simp
      simp only [Act.put, List.setIfInBounds_toArray, List.set_cons_zero, List.set_cons_succ]
      refine wpAnyH_take (i := 5) (oi := { dst := some 17, op := Op.move (Operand.tmp 16), type := 4, pos := "l06_classes.go:185", after := #[{ on := 4, ground := Ground.data }, { on := 2, ground := Ground.chain }], guard := none }) (v := .bool false) rfl (by kernel_rfl) (by kernel_rfl) (by kernel_rfl) (fun _ _ _ h => h) (Or.inl ⟨by rfl, ?_⟩) hHeld ?_
      · intro w' hSw
        try dsimp only at hSw
        go_simp
      simp only [Act.put, List.setIfInBounds_toArray, List.set_cons_zero, List.set_cons_succ]
      refine wpAnyH_take (i := 6) (oi := { dst := some 18, op := Op.load 166 (Operand.tmp 3), type := 166, pos := "l06_classes.go:185", after := #[{ on := 5, ground := Ground.guard }], guard := some (5, true) }) (v := undef) rfl (by kernel_rfl) (by kernel_rfl) (by kernel_rfl) (fun _ _ _ h => h) (Or.inr ⟨by go_simp, rfl⟩) hHeld ?_
      simp only [Act.put, List.setIfInBounds_toArray, List.set_cons_zero, List.set_cons_succ]
      refine wpAnyH_take (i := 7) (oi := { dst := some 19, op := Op.load 56 (Operand.tmp 4), type := 56, pos := "l06_classes.go:185", after := #[{ on := 5, ground := Ground.guard }], guard := some (5, true) }) (v := undef) rfl (by kernel_rfl) (by kernel_rfl) (by kernel_rfl) (fun _ _ _ h => h) (Or.inr ⟨by go_simp, rfl⟩) hHeld ?_
      simp only [Act.put, List.setIfInBounds_toArray, List.set_cons_zero, List.set_cons_succ]
      refine wpAnyH_take (i := 8) (oi := { dst := some 20, op := Op.load 64 (Operand.tmp 8), type := 64, pos := "l06_classes.go:185", after := #[{ on := 5, ground := Ground.guard }], guard := some (5, true) }) (v := undef) rfl (by kernel_rfl) (by kernel_rfl) (by kernel_rfl) (fun _ _ _ h => h) (Or.inr ⟨by go_simp, rfl⟩) hHeld ?_
      simp only [Act.put, List.setIfInBounds_toArray, List.set_cons_zero, List.set_cons_succ]
      refine wpAnyH_take (i := 9) (oi := { dst := some 21, op := Op.load 3 (Operand.tmp 5), type := 3, pos := "l06_classes.go:185", after := #[{ on := 5, ground := Ground.guard }], guard := some (5, true) }) (v := undef) rfl (by kernel_rfl) (by kernel_rfl) (by kernel_rfl) (fun _ _ _ h => h) (Or.inr ⟨by go_simp, rfl⟩) hHeld ?_
      simp only [Act.put, List.setIfInBounds_toArray, List.set_cons_zero, List.set_cons_succ]
      refine wpAnyH_take (i := 10) (oi := { dst := some 22, op := Op.call { callee := Callee.value (Operand.func 195), args := #[Operand.tmp 18, Operand.tmp 19, Operand.tmp 20, Operand.tmp 21], argTypes := #[166, 56, 64, 3] }, type := 4, pos := "l06_classes.go:185", after := #[{ on := 6, ground := Ground.data }, { on := 7, ground := Ground.data }, { on := 8, ground := Ground.data }, { on := 9, ground := Ground.data }, { on := 5, ground := Ground.chain }, { on := 5, ground := Ground.guard }], guard := some (5, true) }) (v := undef) rfl (by kernel_rfl) (by kernel_rfl) (by kernel_rfl) (fun _ _ _ h => h) (Or.inr ⟨by go_simp, rfl⟩) hHeld ?_
      simp only [Act.put, List.setIfInBounds_toArray, List.set_cons_zero, List.set_cons_succ]
      refine wpAnyH_take (i := 11) (oi := { dst := some 23, op := Op.pick (Operand.tmp 17) (Operand.tmp 22) (Operand.const (Value.bool false)), type := 4, pos := "l06_classes.go:185", after := #[{ on := 5, ground := Ground.data }, { on := 10, ground := Ground.data }], guard := none }) (v := .bool false) rfl (by kernel_rfl) (by kernel_rfl) (by kernel_rfl) (fun _ _ _ h => h) (Or.inl ⟨by rfl, ?_⟩) hHeld ?_
      · intro w' hSw
        try dsimp only at hSw
        go_simp
      simp only [Act.put, List.setIfInBounds_toArray, List.set_cons_zero, List.set_cons_succ]
      refine wpAnyH_done (by kernel_rfl) ?_ _
      clear h1 h2 h3 h4 hHeld
      gi_wp2
      exact ⟨.of_below D4.out (by omega), ⟨by simpa [or_imp, forall_and] using ⟨hall, HF.out⟩, N7.out⟩, J7.out⟩
    | false =>
      have HL : Hid (takeB j ⟨nb, nh, nl, ng⟩ p = leadsB j ⟨nb, nh, nl, ng⟩ p) := by unfold Hid; rw [HT.out, hsm]; rfl
      simp only [sameS, decide_eq_false_iff_not] at hsm
      have hsm2 : q.b = nb → q.h = nh → q.l = nl → ¬ q.g = ng := fun a1 a2 a3 a4 => hsm ⟨a1, a2, a3, a4⟩
      clear HT CS hsm
      refine wpAnyH_take (i := 4) (oi := { dst := some 16, op := Op.binOp BinOp.neq 56 (Operand.tmp 14) (Operand.tmp 15) 56, type := 4, pos := "l06_classes.go:185", after := #[{ on := 2, ground := Ground.data }, { on := 3, ground := Ground.data }], guard := none }) (v := .bool true) rfl (by kernel_rfl) (by kernel_rfl) (by kernel_rfl) (fun _ _ _ h => h) (Or.inl ⟨by rfl, ?_⟩) hHeld ?_
      · intro w' hSw
        try dsimp only at hSw
        have hsm3 := Lib.hid hsm2
        clear hsm2
        go_simp
        exact hsm3.out
      simp only [Act.put, List.setIfInBounds_toArray, List.set_cons_zero, List.set_cons_succ]
      clear hsm2

      refine wpAnyH_take (i := 5) (oi := { dst := some 17, op := Op.move (Operand.tmp 16), type := 4, pos := "l06_classes.go:185", after := #[{ on := 4, ground := Ground.data }, { on := 2, ground := Ground.chain }], guard := none }) (v := .bool true) rfl (by kernel_rfl) (by kernel_rfl) (by kernel_rfl) (fun _ _ _ h => h) (Or.inl ⟨by rfl, ?_⟩) hHeld ?_
      · intro w' hSw
        try dsimp only at hSw
        go_simp
      simp only [Act.put, List.setIfInBounds_toArray, List.set_cons_zero, List.set_cons_succ]
      refine wpAnyH_take (i := 6) (oi := { dst := some 18, op := Op.load 166 (Operand.tmp 3), type := 166, pos := "l06_classes.go:185", after := #[{ on := 5, ground := Ground.guard }], guard := some (5, true) }) (v := .agg #[.map (some m)]) rfl (by kernel_rfl) (by kernel_rfl) (by kernel_rfl) (fun _ _ _ h => h) (Or.inl ⟨by rfl, ?_⟩) hHeld ?_
      · intro w' hSw
        try dsimp only at hSw
        go_simp
      simp only [Act.put, List.setIfInBounds_toArray, List.set_cons_zero, List.set_cons_succ]
      refine wpAnyH_take (i := 7) (oi := { dst := some 19, op := Op.load 56 (Operand.tmp 4), type := 56, pos := "l06_classes.go:185", after := #[{ on := 5, ground := Ground.guard }], guard := some (5, true) }) (v := .agg #[.int .i64 nb, .int .i64 nh, .int .i64 nl, .int .i64 ng]) rfl (by kernel_rfl) (by kernel_rfl) (by kernel_rfl) (fun _ _ _ h => h) (Or.inl ⟨by rfl, ?_⟩) hHeld ?_
      · intro w' hSw
        try dsimp only at hSw
        go_simp
      simp only [Act.put, List.setIfInBounds_toArray, List.set_cons_zero, List.set_cons_succ]
      refine wpAnyH_take (i := 8) (oi := { dst := some 20, op := Op.load 64 (Operand.tmp 8), type := 64, pos := "l06_classes.go:185", after := #[{ on := 5, ground := Ground.guard }], guard := some (5, true) }) (v := .agg #[.int .i64 p.bl, .int .i64 p.br, .int .i64 p.hl, .int .i64 p.hr, .int .i64 p.ll, .int .i64 p.lr, .int .i64 p.gl, .int .i64 p.gr]) rfl (by kernel_rfl) (by kernel_rfl) (by kernel_rfl) (fun _ _ _ h => h) (Or.inl ⟨by rfl, ?_⟩) hHeld ?_
      · intro w' hSw
        try dsimp only at hSw
        go_simp
      simp only [Act.put, List.setIfInBounds_toArray, List.set_cons_zero, List.set_cons_succ]
      refine wpAnyH_take (i := 9) (oi := { dst := some 21, op := Op.load 3 (Operand.tmp 5), type := 3, pos := "l06_classes.go:185", after := #[{ on := 5, ground := Ground.guard }], guard := some (5, true) }) (v := .int .i64 K) rfl (by kernel_rfl) (by kernel_rfl) (by kernel_rfl) (fun _ _ _ h => h) (Or.inl ⟨by rfl, ?_⟩) hHeld ?_
      · intro w' hSw
        try dsimp only at hSw
        go_simp
      simp only [Act.put, List.setIfInBounds_toArray, List.set_cons_zero, List.set_cons_succ]
      refine wpAnyH_ready (rs := [10]) (by kernel_rfl) (by simp) ?_
      refine AllReadyH.cons (o := { dst := some 22, op := Op.call { callee := Callee.value (Operand.func 195), args := #[Operand.tmp 18, Operand.tmp 19, Operand.tmp 20, Operand.tmp 21], argTypes := #[166, 56, 64, 3] }, type := 4, pos := "l06_classes.go:185", after := #[{ on := 6, ground := Ground.data }, { on := 7, ground := Ground.data }, { on := 8, ground := Ground.data }, { on := 9, ground := Ground.data }, { on := 5, ground := Ground.chain }, { on := 5, ground := Ground.guard }], guard := some (5, true) }) rfl (fun K' hK' => ?_) AllReadyH.nil
      go_simp
      refine (CL.out _ N7.out).mono ?_
      rintro e w5 ⟨rfl, hN8, hJ8⟩
      have hBm : ¬ B = m := by omega
      have hB1 : ¬ B + 1 = m := by omega
      have hB2 : ¬ B + 2 = m := by omega
      have hB3 : ¬ B + 3 = m := by omega
      have hB4 : ¬ B + 4 = m := by omega
      have hbm : ¬ b = m := by omega
      have M8 := Lib.hid (M7.out.only hJ8 hBm)
      have P8 := Lib.hid (P7.out.only hJ8 hB1)
      have K8 := Lib.hid (K7.out.only hJ8 hB2)
      have Q8 := Lib.hid (Q7.out.only hJ8 hbm)
      have O8 : Hid (JustMap m V w5) := (Only.fresh D4.out).trans hJ8
      have N8 := Lib.hid hN8
      have J8 : Hid (JustMap m X5 w5) := J6.out.trans O8.out
      refine hK'.out _ _ ⟨M8.out, P8.out, Q8.out, K8.out⟩ (fun hHeld => ?_)
      clear hK' K' hN8 hJ8 CL

      refine wpAnyH_take (i := 11) (oi := { dst := some 23, op := Op.pick (Operand.tmp 17) (Operand.tmp 22) (Operand.const (Value.bool false)), type := 4, pos := "l06_classes.go:185", after := #[{ on := 5, ground := Ground.data }, { on := 10, ground := Ground.data }], guard := none }) (v := .bool (leadsB j ⟨nb, nh, nl, ng⟩ p)) rfl (by kernel_rfl) (by kernel_rfl) (by kernel_rfl) (fun _ _ _ h => h) (Or.inl ⟨by rfl, ?_⟩) hHeld ?_
      · intro w' hSw
        try dsimp only at hSw
        go_simp
      simp only [Act.put, List.setIfInBounds_toArray, List.set_cons_zero, List.set_cons_succ]
      refine wpAnyH_done (by kernel_rfl) ?_ _
      cases hle : leadsB j ⟨nb, nh, nl, ng⟩ p with
      | false =>
        rw [hle] at HL
        clear hle hHeld
        gi_wp2
        exact ⟨.of_only O8.out (fun k hk => by omega) (by omega), ⟨by simpa [or_imp, forall_and] using ⟨hall, HL.out⟩, N8.out⟩, J8.out⟩
      | true =>
        rw [hle] at HL
        clear hle hHeld
        have E8 := E6.out.only O8.out hB3
        have V8 := V6.out.only O8.out hB4
        obtain ⟨E9, V9, O9⟩ := fill9 E8 V8 (by omega) p true
        have HE9 := Lib.hid E9
        have HV9 := Lib.hid V9
        have HO9 := Lib.hid O9
        obtain ⟨⟨u0, u1, u2, u3, u4, u5, u6, u7, -⟩, g0, g1, g2, g3, g4, g5, g6, g7⟩ := E8
        obtain ⟨v0, v1, -⟩ := V8
        obtain ⟨q0, q1, q2, q3, q4, q5, q6, q7, -⟩ := Q8.out
        clear E9 V9 O9
        gi_wp2
        have hV9 : Only (fun k => k = m ∨ (k = B + 3 ∨ k = B + 4)) V _ := (O8.out.mono fun k e => .inl e).trans (HO9.out.mono fun k e => .inr e)
        exact ⟨.of_only hV9 (fun k hk => by omega) (by omega), ⟨p, pre, rfl, hall, HL.out, HE9.out, HV9.out⟩, N8.out.same (HO9.out.block m N8.out.lt (by omega)), (J6.out.mono fun k e => .inl e).trans (hV9.mono fun k e => by omega)⟩

  case done =>
    rintro D V hD ⟨⟨hall, hN⟩, hJ⟩ hK
    have hB3 : ¬ B + 3 = m := by omega
    have hB4 : ¬ B + 4 = m := by omega
    have HR : Hid (res = none) := by
      unfold Hid
      rw [HFP.out, List.find?_eq_none]
      intro q hq
      rw [hall q hq]; simp
    have E8 := E5.out.only hJ hB3
    have V8 := V5.out.only hJ hB4
    obtain ⟨E9, V9, O9⟩ := fill9 E8 V8 (by omega) zeroP false
    have hD9 := (O9.block D (Array.getElem?_eq_some_iff.1 hK).1 (by omega)).trans hK
    have HE9 := Lib.hid E9
    have HV9 := Lib.hid V9
    have HO9 := Lib.hid O9
    have HN9 := Lib.hid (hN.same (O9.block m hN.lt (by omega)))
    have HJ := Lib.hid hJ
    have HD9 := Lib.hid hD9
    obtain ⟨⟨u0, u1, u2, u3, u4, u5, u6, u7, -⟩, g0, g1, g2, g3, g4, g5, g6, g7⟩ := E8
    obtain ⟨v0, v1, -⟩ := V8
    clear E9 V9 O9 hall hN hJ hK hD9
    gi_wp2
    refine ⟨by simp, .inl ⟨_, _, rfl, run_takeDeferred HD9.out, ?_⟩⟩
    have oD := putObj_only ((((((((((V.setCell ⟨B + 3, 0, none⟩ (.int .i64 0)).setCell ⟨B + 3, 1, none⟩ (.int .i64 0)).setCell ⟨B + 3, 2, none⟩ (.int .i64 0)).setCell ⟨B + 3, 3, none⟩ (.int .i64 0)).setCell ⟨B + 3, 4, none⟩ (.int .i64 0)).setCell ⟨B + 3, 5, none⟩ (.int .i64 0)).setCell ⟨B + 3, 6, none⟩ (.int .i64 0)).setCell ⟨B + 3, 7, none⟩ (.int .i64 0)).setCell ⟨B + 4, 0, none⟩ (.bool false))) D (.deferred none)
    obtain ⟨⟨c0, c1, c2, c3, c4, c5, c6, c7, -⟩, -⟩ := HE9.out.only oD (by omega)
    obtain ⟨d0, -⟩ := HV9.out.only oD (by omega)
    refine ⟨.tuple #[.agg #[.int .i64 0, .int .i64 0, .int .i64 0, .int .i64 0, .int .i64 0, .int .i64 0, .int .i64 0, .int .i64 0], .bool false], ?_, ?_, ?_, ?_⟩
    · simp [results, Tryz.f158, go_sem, c0, c1, c2, c3, c4, c5, c6, c7, d0, zeroP]
    · rw [HR.out]; rfl
    · exact HN9.out.same (oD.block m HN9.out.lt (by omega))
    · exact justMap_of BX.out hB (((HJ.out.mono fun k e => .inl e).trans (HO9.out.mono fun k e => by omega)).trans (oD.mono fun k e => by omega))
  case stop =>
    rintro D pre V hD hpre ⟨⟨p, pre0, rfl, hall, htk, hE, hV⟩, hN, hO⟩ hK
    have HR : Hid (res = some p) := by
      unfold Hid
      obtain ⟨t, ht⟩ := hpre
      rw [HFP.out, ← ht, List.append_assoc, List.find?_append, List.find?_eq_none.2 (fun q hq => by rw [hall q hq]; simp)]
      simp [htk]
    have HE9 := Lib.hid hE
    have HV9 := Lib.hid hV
    have HN9 := Lib.hid hN
    have HO9 := Lib.hid hO
    have HD9 := Lib.hid hK
    clear hall hN hO hE hV hK
    gi_wp2
    refine ⟨by simp, .inl ⟨_, _, rfl, run_takeDeferred HD9.out, ?_⟩⟩
    have oD := putObj_only V D (.deferred none)
    obtain ⟨⟨c0, c1, c2, c3, c4, c5, c6, c7, -⟩, -⟩ := HE9.out.only oD (by omega)
    obtain ⟨d0, -⟩ := HV9.out.only oD (by omega)
    refine ⟨.tuple #[.agg #[.int .i64 p.bl, .int .i64 p.br, .int .i64 p.hl, .int .i64 p.hr, .int .i64 p.ll, .int .i64 p.lr, .int .i64 p.gl, .int .i64 p.gr], .bool true], ?_, ?_, ?_, ?_⟩
    · simp [results, Tryz.f158, go_sem, c0, c1, c2, c3, c4, c5, c6, c7, d0]
    · rw [HR.out]; rfl
    · exact HN9.out.same (oD.block m HN9.out.lt (by omega))
    · exact justMap_of BX.out hB (HO9.out.trans (oD.mono fun k e => by omega))
end Go.Proofs.YtlflblngbneacabGreatDoor

/- The program's search for a pick finds what the model's finds, plainly. Condition: a valid state. -/
namespace Go.Proofs.YtlflblngbneacabGreatDoor

theorem findSome_flatMap {α β γ : Type} (f : α → List β) (g : β → Option γ) : ∀ l : List α, (l.flatMap f).findSome? g = l.findSome? (fun a => (f a).findSome? g)
  | [] => rfl
  | a :: l => by rw [List.flatMap_cons, List.findSome?_append, findSome_flatMap f g l, List.findSome?_cons]; cases (f a).findSome? g <;> rfl
theorem find_flatMap {α β : Type} (f : α → List β) (p : β → Bool) : ∀ l : List α, (l.flatMap f).find? p = l.findSome? (fun a => (f a).find? p)
  | [] => rfl
  | a :: l => by rw [List.flatMap_cons, List.find?_append, find_flatMap f p l, List.findSome?_cons]; cases (f a).find? p <;> rfl
theorem findSome_map {α β γ : Type} (f : α → β) (g : β → Option γ) : ∀ l : List α, (l.map f).findSome? g = l.findSome? (fun a => g (f a))
  | [] => rfl
  | a :: l => by rw [List.map_cons, List.findSome?_cons, findSome_map f g l, List.findSome?_cons]
theorem findSome_congr {α β : Type} {f g : α → Option β} : ∀ {l : List α}, (∀ a ∈ l, f a = g a) → l.findSome? f = l.findSome? g
  | [], _ => rfl
  | a :: l, h => by rw [List.findSome?_cons, List.findSome?_cons, h a (by simp), findSome_congr (l := l) fun b hb => h b (by simp [hb])]
theorem findSome_none {α β : Type} {f : α → Option β} : ∀ {l : List α}, (∀ a ∈ l, f a = none) → l.findSome? f = none
  | [], _ => rfl
  | a :: l, h => by rw [List.findSome?_cons, h a (by simp)]; exact findSome_none fun b hb => h b (by simp [hb])
theorem findSome_range {β : Type} {f : Nat → Option β} {k : Nat} {v : β} (hk : f k = some v) (hlt : ∀ i, i < k → f i = none) : ∀ n, k < n → (List.range n).findSome? f = some v
  | 0, h => absurd h (by omega)
  | n + 1, h => by
    rw [List.range_succ, List.findSome?_append]
    by_cases e : k = n
    · subst e
      rw [findSome_none (l := List.range k) fun a ha => hlt a (List.mem_range.1 ha)]
      simp [hk]
    · rw [findSome_range hk hlt n (by omega)]; rfl
theorem firstFrom_range {α : Type} (f : Nat → Option α) : ∀ n i, firstFrom f n i = (List.range' i n).findSome? f
  | 0, _ => rfl
  | n + 1, i => by
    unfold firstFrom
    rw [firstFrom_range f n (i + 1), List.range'_succ, List.findSome?_cons]
    cases f i <;> rfl
theorem firstFrom_zero {α : Type} (f : Nat → Option α) (n : Nat) : firstFrom f n 0 = (List.range n).findSome? f := by rw [firstFrom_range, List.range_eq_range']
theorem pairs_find {α : Type} (c : Nat) (F : Nat × Nat → Option α) : (pairsL c).findSome? F = (List.range (c + 1)).findSome? fun a => (List.range (c - a + 1)).findSome? fun b => F (a, b) := by
  unfold pairsL rowsL
  rw [findSome_flatMap]
  exact findSome_congr fun a _ => by rw [rowL, findSome_map]
theorem first_pairs {α : Type} (c : Nat) (F : Nat → Nat → Option α) : firstFrom (fun a => firstFrom (fun b => F a b) (c + 1 - a) 0) (c + 1) 0 = (pairsL c).findSome? fun x => F x.1 x.2 := by
  rw [firstFrom_zero, pairs_find]
  refine findSome_congr fun a ha => ?_
  rw [firstFrom_zero, show c + 1 - a = c - a + 1 by have := List.mem_range.1 ha; omega]

/-- The first pair that makes both sides equal is the least. -/
theorem pairs_even {α : Type} (c L R : Nat) (G : Nat × Nat → α) : (pairsL c).findSome? (fun x => if L + x.1 = R + x.2 then some (G x) else none) =
    if L < R then (if R - L ≤ c then some (G (R - L, 0)) else none) else (if L - R ≤ c then some (G (0, L - R)) else none) := by
  rw [pairs_find]
  by_cases h : L < R
  · rw [if_pos h]
    by_cases hc : R - L ≤ c
    · rw [if_pos hc]
      refine findSome_range (k := R - L) ?_ ?_ _ (by omega)
      · refine findSome_range (k := 0) ?_ (fun i hi => by omega) _ (by omega)
        rw [if_pos (by simp only []; omega)]
      · intro a ha
        refine findSome_none fun b hb => ?_
        rw [if_neg (by simp only []; omega)]
    · rw [if_neg hc]
      refine findSome_none fun a ha => findSome_none fun b hb => ?_
      have := List.mem_range.1 ha
      rw [if_neg (by simp only []; omega)]
  · rw [if_neg h]
    by_cases hc : L - R ≤ c
    · rw [if_pos hc]
      refine findSome_range (k := 0) ?_ (fun i hi => by omega) _ (by omega)
      refine findSome_range (k := L - R) ?_ ?_ _ (by omega)
      · rw [if_pos (by simp only []; omega)]
      · intro b hb
        rw [if_neg (by simp only []; omega)]
    · rw [if_neg hc]
      refine findSome_none fun a ha => findSome_none fun b hb => ?_
      have := List.mem_range.1 ha
      have := List.mem_range.1 hb
      rw [if_neg (by simp only []; omega)]

section
variable {nb nh nl ng : Nat}

theorem pickB_mk (hs : SIn ⟨nb, nh, nl, ng⟩) {x1 x2 x3 : Nat × Nat} (h1 : x1.1 + x1.2 ≤ nb) (h2 : x2.1 + x2.2 ≤ nh) (h3 : x3.1 + x3.2 ≤ nl) (x4 : Nat × Nat) (h4 : x4.1 + x4.2 ≤ ng) :
    pickB ⟨nb, nh, nl, ng⟩ (mkP x1 x2 x3 x4) = (decide (x1.1 + x2.1 + x3.1 + x4.1 = x1.2 + x2.2 + x3.2 + x4.2) && decide (1 ≤ x1.1 + x2.1 + x3.1 + x4.1)) := by
  have hb := stateB_iff.2 hs
  unfold SIn sumS at hs
  simp only [] at hs
  rw [pickB_fits, hb]
  unfold mkP leftP rightP
  simp only [cl_of (show x1.1 ≤ 13 by omega), cl_of (show x1.2 ≤ 13 by omega), cl_of (show x2.1 ≤ 13 by omega), cl_of (show x2.2 ≤ 13 by omega), cl_of (show x3.1 ≤ 13 by omega), cl_of (show x3.2 ≤ 13 by omega), cl_of (show x4.1 ≤ 13 by omega), cl_of (show x4.2 ≤ 13 by omega)]
  rw [fitsB_iff.2 ⟨by omega, by omega, by omega⟩, fitsB_iff.2 ⟨by omega, by omega, by omega⟩, fitsB_iff.2 ⟨by omega, by omega, by omega⟩, fitsB_iff.2 ⟨by omega, by omega, by omega⟩]
  simp only [Bool.true_and]
  congr 1
  · rw [decide_eq_decide]; omega
  · rw [decide_eq_decide]; omega

/-- The pick without good coins. -/
def bare (x1 x2 x3 : Nat × Nat) : PD := ⟨x1.1, x1.2, x2.1, x2.2, x3.1, x3.2, 0, 0⟩
theorem after_mk (hs : SIn ⟨nb, nh, nl, ng⟩) {x1 x2 x3 : Nat × Nat} (h1 : x1.1 + x1.2 ≤ nb) (h2 : x2.1 + x2.2 ≤ nh) (h3 : x3.1 + x3.2 ≤ nl) (x4 : Nat × Nat) (x : Int) : afterS ⟨nb, nh, nl, ng⟩ (mkP x1 x2 x3 x4) x = afterS ⟨nb, nh, nl, ng⟩ (bare x1 x2 x3) x := by
  unfold SIn sumS at hs
  simp only [] at hs
  unfold mkP bare afterS goodS
  simp only [cl_of (show x1.1 ≤ 13 by omega), cl_of (show x1.2 ≤ 13 by omega), cl_of (show x2.1 ≤ 13 by omega), cl_of (show x2.2 ≤ 13 by omega), cl_of (show x3.1 ≤ 13 by omega), cl_of (show x3.2 ≤ 13 by omega)]
theorem leads_fit (j : Nat) (p : PD) : leadsB j ⟨nb, nh, nl, ng⟩ p = fitB (canS j) (3 ^ j) ⟨nb, nh, nl, ng⟩ (goodsP p) := by
  have hc : ∀ t : SD, canS j t = true → decide (countS t ≤ 3 ^ j) = true := fun t ht => by
    refine decide_eq_true ?_
    rcases Int.lt_or_le (3 ^ j) (countS t) with h | h
    · have h1 : (1 : Int) ≤ 3 ^ j := Int.le_of_lt_add_one (by have := Int.pow_pos (n := 3) (m := j) (by omega); omega)
      rw [(canS_ways j t).2.1 (by omega) h] at ht
      cases ht
    · exact h
  unfold leadsB fitB
  simp only [after_goods, List.all_cons, List.all_nil, Bool.and_true]
  cases ha : canS j (afterS ⟨nb, nh, nl, ng⟩ p (-1)) <;> cases hb : canS j (afterS ⟨nb, nh, nl, ng⟩ p 0) <;> cases hd : canS j (afterS ⟨nb, nh, nl, ng⟩ p 1) <;> simp
  exact ⟨by simpa using hc _ hb, by simpa using hc _ hd, by simpa using hc _ ha⟩
theorem same_bare {x1 x2 x3 : Nat × Nat} : sameS (afterS ⟨nb, nh, nl, ng⟩ (bare x1 x2 x3) 0) ⟨nb, nh, nl, ng⟩ = decide (x1.1 + x1.2 + x2.1 + x2.2 + x3.1 + x3.2 = 0) := by
  unfold sameS afterS goodS bare
  rw [decide_eq_decide]
  simp only [show ¬ ((0 : Int) = 1) by decide, show ¬ ((0 : Int) = -1) by decide, if_false]
  constructor
  · rintro ⟨a, b, c, d⟩; omega
  · intro h; refine ⟨?_, ?_, ?_, ?_⟩ <;> omega

/-- The innermost loop of the program finds what the model's completed pick is. -/
theorem find_goods (hs : SIn ⟨nb, nh, nl, ng⟩) {x1 x2 x3 : Nat × Nat} (h1 : x1.1 + x1.2 ≤ nb) (h2 : x2.1 + x2.2 ≤ nh) (h3 : x3.1 + x3.2 ≤ nl) (j : Nat) : (pairsL ng).findSome? (fun x4 => (pk4 ⟨nb, nh, nl, ng⟩ x1 x2 x3 x4).find? (takeB j ⟨nb, nh, nl, ng⟩)) = tryP (canS j) (3 ^ j) ⟨nb, nh, nl, ng⟩ (bare x1 x2 x3) := by
  have htk : ∀ x4, takeB j ⟨nb, nh, nl, ng⟩ (mkP x1 x2 x3 x4) = (!(decide (x1.1 + x1.2 + x2.1 + x2.2 + x3.1 + x3.2 = 0)) && leadsB j ⟨nb, nh, nl, ng⟩ (bare x1 x2 x3)) := fun x4 => by
    unfold takeB
    rw [after_mk hs h1 h2 h3, same_bare]
    unfold leadsB
    simp only [after_mk hs h1 h2 h3]
  have hF : ∀ x4 ∈ pairsL ng, (pk4 ⟨nb, nh, nl, ng⟩ x1 x2 x3 x4).find? (takeB j ⟨nb, nh, nl, ng⟩) =
      if (decide (x1.1 + x2.1 + x3.1 + x4.1 = x1.2 + x2.2 + x3.2 + x4.2) && decide (1 ≤ x1.1 + x2.1 + x3.1 + x4.1)) = true then (if (!(decide (x1.1 + x1.2 + x2.1 + x2.2 + x3.1 + x3.2 = 0)) && leadsB j ⟨nb, nh, nl, ng⟩ (bare x1 x2 x3)) = true then some (mkP x1 x2 x3 x4) else none) else none := fun x4 hx => by
    unfold pk4
    rw [pickB_mk hs h1 h2 h3 x4 (mem_pairs.1 hx)]
    split
    · rw [List.find?_cons, htk]
      cases (!(decide (x1.1 + x1.2 + x2.1 + x2.2 + x3.1 + x3.2 = 0)) && leadsB j ⟨nb, nh, nl, ng⟩ (bare x1 x2 x3)) <;> rfl
    · rfl
  rw [findSome_congr hF]
  unfold tryP
  rw [← leads_fit]
  cases hl : leadsB j ⟨nb, nh, nl, ng⟩ (bare x1 x2 x3) with
  | false =>
    simp only [Bool.and_false, Bool.false_eq_true, if_false]
    exact findSome_none fun x4 _ => by split <;> rfl
  | true =>
    simp only [Bool.and_true]
    by_cases hz : x1.1 + x1.2 + x2.1 + x2.2 + x3.1 + x3.2 = 0
    · have hg : goodsB ⟨nb, nh, nl, ng⟩ (bare x1 x2 x3) = false := by
        unfold goodsB
        rw [decide_eq_false (p := 0 < leftP (bare x1 x2 x3) + rightP (bare x1 x2 x3)) (by unfold leftP rightP bare; simp only []; omega), Bool.and_false]
      rw [hg]
      simp only [hz, decide_true, Bool.not_true, Bool.false_eq_true, if_false]
      exact findSome_none fun x4 _ => by split <;> rfl
    · have hE : ∀ x4 ∈ pairsL ng, (if (decide (x1.1 + x2.1 + x3.1 + x4.1 = x1.2 + x2.2 + x3.2 + x4.2) && decide (1 ≤ x1.1 + x2.1 + x3.1 + x4.1)) = true then (if (!(decide (x1.1 + x1.2 + x2.1 + x2.2 + x3.1 + x3.2 = 0))) = true then some (mkP x1 x2 x3 x4) else none) else none) =
          if (x1.1 + x2.1 + x3.1) + x4.1 = (x1.2 + x2.2 + x3.2) + x4.2 then some (mkP x1 x2 x3 x4) else none := fun x4 _ => by
        rw [decide_eq_false hz]
        by_cases he : x1.1 + x2.1 + x3.1 + x4.1 = x1.2 + x2.2 + x3.2 + x4.2
        · rw [decide_eq_true he, decide_eq_true (p := 1 ≤ x1.1 + x2.1 + x3.1 + x4.1) (by omega), if_pos he]; rfl
        · rw [decide_eq_false he, if_neg he]; rfl
      rw [findSome_congr hE, pairs_even]
      unfold SIn sumS at hs
      simp only [] at hs
      have hgd : ∀ g : Int × Int, (bare x1 x2 x3).gl = 0 := fun _ => rfl
      by_cases hlr : x1.1 + x2.1 + x3.1 < x1.2 + x2.2 + x3.2
      · have hlp : leftP (bare x1 x2 x3) < rightP (bare x1 x2 x3) := by unfold leftP rightP bare; simp only []; omega
        rw [if_pos hlr]
        by_cases hc : x1.2 + x2.2 + x3.2 - (x1.1 + x2.1 + x3.1) ≤ ng
        · have hgb : goodsB ⟨nb, nh, nl, ng⟩ (bare x1 x2 x3) = true := by
            unfold goodsB goodsP
            rw [if_pos hlp]
            unfold leftP rightP bare
            simp only [Bool.and_eq_true, decide_eq_true_eq]
            omega
          rw [if_pos hc, hgb, if_pos rfl]
          unfold goodsP
          rw [if_pos hlp]
          unfold mkP leftP rightP bare
          simp only [cl_of (show x1.1 ≤ 13 by omega), cl_of (show x1.2 ≤ 13 by omega), cl_of (show x2.1 ≤ 13 by omega), cl_of (show x2.2 ≤ 13 by omega), cl_of (show x3.1 ≤ 13 by omega), cl_of (show x3.2 ≤ 13 by omega), cl_of (show x1.2 + x2.2 + x3.2 - (x1.1 + x2.1 + x3.1) ≤ 13 by omega), cl_of (show 0 ≤ 13 by omega)]
          congr 2
          omega
        · have hgb : goodsB ⟨nb, nh, nl, ng⟩ (bare x1 x2 x3) = false := by
            unfold goodsB goodsP
            rw [if_pos hlp]
            unfold leftP rightP bare
            rw [decide_eq_false (by simp only []; omega)]; rfl
          rw [if_neg hc, hgb]; rfl
      · have hlp : ¬ leftP (bare x1 x2 x3) < rightP (bare x1 x2 x3) := by unfold leftP rightP bare; simp only []; omega
        rw [if_neg hlr]
        by_cases hc : x1.1 + x2.1 + x3.1 - (x1.2 + x2.2 + x3.2) ≤ ng
        · have hgb : goodsB ⟨nb, nh, nl, ng⟩ (bare x1 x2 x3) = true := by
            unfold goodsB goodsP
            rw [if_neg hlp]
            unfold leftP rightP bare
            simp only [Bool.and_eq_true, decide_eq_true_eq]
            omega
          rw [if_pos hc, hgb, if_pos rfl]
          unfold goodsP
          rw [if_neg hlp]
          unfold mkP leftP rightP bare
          simp only [cl_of (show x1.1 ≤ 13 by omega), cl_of (show x1.2 ≤ 13 by omega), cl_of (show x2.1 ≤ 13 by omega), cl_of (show x2.2 ≤ 13 by omega), cl_of (show x3.1 ≤ 13 by omega), cl_of (show x3.2 ≤ 13 by omega), cl_of (show x1.1 + x2.1 + x3.1 - (x1.2 + x2.2 + x3.2) ≤ 13 by omega), cl_of (show 0 ≤ 13 by omega)]
          congr 2
          omega
        · have hgb : goodsB ⟨nb, nh, nl, ng⟩ (bare x1 x2 x3) = false := by
            unfold goodsB goodsP
            rw [if_neg hlp]
            unfold leftP rightP bare
            rw [decide_eq_false (by simp only []; omega)]; rfl
          rw [if_neg hc, hgb]; rfl

/-- The two searches find the same pick. -/
theorem find_first (hs : SIn ⟨nb, nh, nl, ng⟩) (j : Nat) : findP j ⟨nb, nh, nl, ng⟩ nb nh nl ng = firstP (canS j) (3 ^ j) ⟨nb, nh, nl, ng⟩ := by
  have e : firstP (canS j) (3 ^ j) ⟨nb, nh, nl, ng⟩ = (pairsL nb).findSome? fun x1 => (pairsL nh).findSome? fun x2 => (pairsL nl).findSome? fun x3 => tryP (canS j) (3 ^ j) ⟨nb, nh, nl, ng⟩ (bare x1 x2 x3) := by
    unfold firstP lightsP
    simp only [Int.toNat_natCast]
    rw [first_pairs nb (fun a b => firstFrom (fun c => firstFrom (fun d => firstFrom (fun a_1 => firstFrom (fun b_1 => tryP (canS j) (3 ^ j) ⟨nb, nh, nl, ng⟩ ⟨a, b, c, d, a_1, b_1, 0, 0⟩) (nl + 1 - a_1) 0) (nl + 1) 0) (nh + 1 - c) 0) (nh + 1) 0)]
    refine findSome_congr fun x1 _ => ?_
    rw [first_pairs nh (fun c d => firstFrom (fun a_1 => firstFrom (fun b_1 => tryP (canS j) (3 ^ j) ⟨nb, nh, nl, ng⟩ ⟨x1.1, x1.2, c, d, a_1, b_1, 0, 0⟩) (nl + 1 - a_1) 0) (nl + 1) 0)]
    refine findSome_congr fun x2 _ => ?_
    rw [first_pairs nl (fun a_1 b_1 => tryP (canS j) (3 ^ j) ⟨nb, nh, nl, ng⟩ ⟨x1.1, x1.2, x2.1, x2.2, a_1, b_1, 0, 0⟩)]
    rfl
  rw [e]
  unfold findP picksN
  rw [find_flatMap]
  refine findSome_congr fun x1 hx1 => ?_
  unfold pk1
  rw [find_flatMap]
  refine findSome_congr fun x2 hx2 => ?_
  unfold pk2
  rw [find_flatMap]
  refine findSome_congr fun x3 hx3 => ?_
  unfold pk3
  rw [find_flatMap]
  exact find_goods hs (mem_pairs.1 hx1) (mem_pairs.1 hx2) (mem_pairs.1 hx3) j
end
end Go.Proofs.YtlflblngbneacabGreatDoor
