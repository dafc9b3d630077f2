/- The contract of the program's picksOf, and of the iterator that it returns: all valid picks of a state in lexicographic order. Conditions: a valid state; the loop's body keeps what the iterator lays. -/
import Derived.Test.YtlflblngbneacabDoorSharesLoop
import Derived.Test.YtlflblngbneacabDoorAfterImpl
namespace Go.Proofs.YtlflblngbneacabDoor
open Go.RowKit Go.Shelf
attribute [local go_sem] Oper.semAt_some

def mkP (x1 x2 x3 x4 : Nat × Nat) : PD := ⟨cl x1.1, cl x1.2, cl x2.1, cl x2.2, cl x3.1, cl x3.2, cl x4.1, cl x4.2⟩
def pk4 (s : SD) (x1 x2 x3 x4 : Nat × Nat) : List PD := if pickB s (mkP x1 x2 x3 x4) = true then [mkP x1 x2 x3 x4] else []
def pk3 (s : SD) (ng : Nat) (x1 x2 x3 : Nat × Nat) : List PD := (pairsL ng).flatMap (pk4 s x1 x2 x3)
def pk2 (s : SD) (nl ng : Nat) (x1 x2 : Nat × Nat) : List PD := (pairsL nl).flatMap (pk3 s ng x1 x2)
def pk1 (s : SD) (nh nl ng : Nat) (x1 : Nat × Nat) : List PD := (pairsL nh).flatMap (pk2 s nl ng x1)
/-- All valid picks of a state, in the program's order. -/
def picksN (s : SD) (nb nh nl ng : Nat) : List PD := (pairsL nb).flatMap (pk1 s nh nl ng)
theorem mkP_i64 (x1 x2 x3 x4 : Nat × Nat) : ∀ y ∈ (mkP x1 x2 x3 x4).list, I64 y := by
  intro y hy
  simp only [mkP, PD.list, List.mem_cons, List.not_mem_nil, or_false] at hy
  have c : ∀ n, I64 (cl n) := fun n => by have := cl_in n; unfold I64; omega
  rcases hy with rfl | rfl | rfl | rfl | rfl | rfl | rfl | rfl <;> exact c _
theorem StateAt.same {V V' : World} {b : Nat} {s : SD} (h : StateAt V b s) (e : V'.heap[b]? = V.heap[b]?) : StateAt V' b s := by
  obtain ⟨e0, e1, e2, e3, hlt⟩ := h
  refine ⟨?_, ?_, ?_, ?_, ?_⟩
  · exact (World.cell?_of_block (a := ⟨b, 0, none⟩) e).trans e0
  · exact (World.cell?_of_block (a := ⟨b, 1, none⟩) e).trans e1
  · exact (World.cell?_of_block (a := ⟨b, 2, none⟩) e).trans e2
  · exact (World.cell?_of_block (a := ⟨b, 3, none⟩) e).trans e3
  · rw [Array.getElem?_eq_getElem hlt] at e
    exact (Array.getElem?_eq_some_iff.1 e).1
theorem yieldAny {P : Program} {l m m' : Nat} {args : Array Value} {W : World} {R : Ending → World → Prop} (h : YieldAt Fence.wide m P l args W R) : YieldAt Fence.wide m' P l args W R := by
  obtain ⟨fn, tmps, assign, body, hy, hF, hr⟩ := h
  exact ⟨fn, tmps, assign, body, hy, hF, fun c cs _ => hr c cs (room_wide _)⟩
theorem ownFrom_comp {α β : Type} {B : Nat} {J : β → World → Prop} (h : OwnFrom B J) (f : α → β) : OwnFrom B (fun x V => J (f x) V) := fun s X Y row hs hg hr => h (f s) X Y row hs hg hr
theorem ownFrom_ex {α β : Type} {B : Nat} {J : β → World → Prop} (h : OwnFrom B J) (p : α → β → Prop) : OwnFrom B (fun (a : α) V => ∃ q, p a q ∧ J q V) := fun _ X Y row ⟨q, hq, hs⟩ hg hr => ⟨q, hq, h q X Y row hs hg hr⟩
theorem flat_snoc {α β : Type} (D : List β) (pre : List α) (x : α) (f : α → List β) : D ++ (pre ++ [x]).flatMap f = D ++ pre.flatMap f ++ f x := by simp

set_option maxHeartbeats 1000000 in
theorem picksOf_in (F : Fence) (n : Nat) (hf : F.fn 162) (hro : F.round = none) (s : SD) (w : World) :
    CallsIn F n Tryd.prog 162 #[stateV s] w fun e w' => e = .returned (.func (.func 168) #[] #[.pointer (some ⟨w.heap.size, 0, none⟩)]) ∧ w' = w.alloc (.cells #[.int .i64 s.b, .int .i64 s.h, .int .i64 s.l, .int .i64 s.g] 49) := by
  unfold stateV
  refine callsIn_of_wp Tryd.func162 rfl hf ?_ hro
  simp only [Tryd.ntmps162, List.size_toArray, List.length_cons, List.length_nil, Nat.reduceAdd, Nat.reduceSub, Array.replicate_succ, Array.replicate_zero, List.push_toArray, List.append_toArray, List.nil_append, List.cons_append]
  gi_wp2
  go_ret
  exact ⟨rfl, rfl⟩

set_option maxRecDepth 100000 in
set_option maxHeartbeats 8000000 in
theorem picks1_in (nb nh nl ng : Nat) (hs : SIn ⟨nb, nh, nl, ng⟩) (n : Nat) (hn : 20 ≤ n) (l bs : Nat) (W : World) (hS : StateAt W bs ⟨nb, nh, nl, ng⟩) (J Jx : List PD → World → Prop) (hJ : OwnFrom W.heap.size J) (hJx : OwnFrom W.heap.size Jx)
    (hY : ∀ m pre p V, J pre V → pickB ⟨nb, nh, nl, ng⟩ p = true → YieldAt Fence.wide m Tryd.prog l #[pickV p] V fun e V' => KeepUp W.heap.size bs V V' ∧ ((e = .returned (.bool true) ∧ J (pre ++ [p]) V') ∨ (e = .returned (.bool false) ∧ Jx (pre ++ [p]) V')))
    (h0 : J [] W) :
    CallsIn Fence.wide n Tryd.prog 168 #[.func (.yield l) #[] #[], .pointer (some ⟨bs, 0, none⟩)] W fun e W' => (∃ v, e = .returned v) ∧
      (J (picksN ⟨nb, nh, nl, ng⟩ nb nh nl ng) W' ∨ (∃ q, q <+: picksN ⟨nb, nh, nl, ng⟩ nb nh nl ng ∧ Jx q W')) := by
  obtain ⟨s, hse⟩ : ∃ s : SD, s = ⟨nb, nh, nl, ng⟩ := ⟨_, rfl⟩
  have hnb : nb ≤ 13 := by unfold SIn sumS at hs; simp only [] at hs; omega
  have hnh : nh ≤ 13 := by unfold SIn sumS at hs; simp only [] at hs; omega
  have hnl : nl ≤ 13 := by unfold SIn sumS at hs; simp only [] at hs; omega
  have hng : ng ≤ 13 := by unfold SIn sumS at hs; simp only [] at hs; omega
  obtain ⟨B, hB⟩ : ∃ B, W.heap.size = B := ⟨_, rfl⟩
  have hbs : bs < B := by rw [← hB]; exact hS.2.2.2.2
  rw [hB] at hJ hJx hY
  rw [← hse] at hY hS ⊢
  obtain ⟨all, hall⟩ : ∃ all, all = picksN s nb nh nl ng := ⟨_, rfl⟩
  rw [← hall]
  have f0 : s.b = nb := by rw [hse]
  have f1 : s.h = nh := by rw [hse]
  have f2 : s.l = nl := by rw [hse]
  have f3 : s.g = ng := by rw [hse]
  -- the world of the first loop
  have bY := Boxed.new W 219 (.func (.yield l) #[] #[])
  rw [hB] at bY
  have K0 : KeepUp B bs W (W.alloc (.cells #[.func (.yield l) #[] #[]] 219)) := .alloc _ (by omega)
  have sV : (W.alloc (.cells #[.func (.yield l) #[] #[]] 219)).heap.size = B + 1 := by simp [hB]
  have hS0 := hS.same K0.at_
  have hJ0 : J [] (W.alloc (.cells #[.func (.yield l) #[] #[]] 219)) := hJ.alloc _ h0
  refine callsIn_of_wp_marks Tryd.func168 rfl trivial ?_ rfl
  simp only [Tryd.ntmps168, List.size_toArray, List.length_cons, List.length_nil, Nat.reduceAdd, Nat.reduceSub, Array.replicate_succ, Array.replicate_zero, List.push_toArray, List.append_toArray, List.nil_append, List.cons_append]
  have e0 : (W.alloc (.cells #[.func (.yield l) #[] #[]] 219)).cell? ⟨bs, 0, none⟩ = some (.int .i64 nb) := by rw [← f0]; exact hS0.1
  have hn0 : 1 ≤ n := by omega
  have CP : Hid (∀ x1 x2 x3 x4 V, Calls Tryd.prog 31 #[.agg #[.int .i64 nb, .int .i64 nh, .int .i64 nl, .int .i64 ng], .agg #[.int .i64 (cl x1.1), .int .i64 (cl x1.2), .int .i64 (cl x2.1), .int .i64 (cl x2.2), .int .i64 (cl x3.1), .int .i64 (cl x3.2), .int .i64 (cl x4.1), .int .i64 (cl x4.2)]] V fun e w' => e = .returned (.bool (pickB s (mkP x1 x2 x3 x4))) ∧ Below V.heap.size V w') := by
    intro x1 x2 x3 x4 V
    rw [hse]
    exact implPickOk _ _ (mkP_i64 x1 x2 x3 x4) V
  clear hse hs
  gi_wp2_with (refine ⟨trivial, ?_⟩; gi_at_call 169; refine (shares_in Fence.wide (n - 1) trivial rfl _ _).mono ?_; rintro e w' ⟨rfl, rfl⟩)
  have bN0 := Boxed.new (W.alloc (.cells #[.func (.yield l) #[] #[]] 219)) 3 (.int .i64 nb)
  rw [sV] at bN0
  have bY0 := bY.alloc (.cells #[.int .i64 nb] 3)
  have K00 := K0.trans (KeepUp.alloc (B := B) (bs := bs) (V := W.alloc (.cells #[.func (.yield l) #[] #[]] 219)) (.cells #[.int .i64 nb] 3) (by omega))
  have hJ00 := hJ.alloc (.cells #[.int .i64 nb] 3) hJ0
  have sz0 : ((W.alloc (.cells #[.func (.yield l) #[] #[]] 219)).alloc (.cells #[.int .i64 nb] 3)).heap.size = B + 2 := by simp [hB]
  generalize (W.alloc (.cells #[.func (.yield l) #[] #[]] 219)).alloc (.cells #[.int .i64 nb] 3) = W0 at bN0 bY0 K00 hJ00 sz0 ⊢
  have S0 := hS.same K00.at_
  clear bY K0 sV hS0 hJ0 e0
  refine sharesLoopH (n := n) (c := nb) (b := B + 1) (B := B) (bs := bs) (by omega) hnb bN0 (by omega) (by rfl) (by rfl) hbs (fun pre V => J (pre.flatMap (pk1 s nh nl ng)) V) (fun pre V => ∃ q, q <+: (pre.flatMap (pk1 s nh nl ng)) ∧ Jx q V) (ownFrom_comp hJ _) (ownFrom_ex hJx _)
    hJ00 (fun x1 a' V => ∃ a1 b1, (B ≤ a1 ∧ B ≤ b1) ∧ Boxed V a1 3 (.int .i64 (cl x1.1)) ∧ Boxed V b1 3 (.int .i64 (cl x1.2)) ∧ a' = { tmps := #[.func (.yield l) #[] #[], .pointer (some ⟨bs, 0, none⟩), .pointer (some ⟨B, 0, none⟩), .pointer (some ⟨a1, 0, none⟩), .pointer (some ⟨b1, 0, none⟩), undef, undef, undef, undef, undef, undef, undef, .pointer (some ⟨bs, 0, none⟩), .int .i64 (nb : Nat), .func (.func 176) #[] #[.pointer (some ⟨B + 1, 0, none⟩)], .int .i64 (cl x1.1), .int .i64 (cl x1.2), undef, undef, undef, undef, undef, undef, undef, undef, undef, undef, undef, undef, undef, undef, undef, undef, undef, undef, undef, undef, undef, undef, undef, undef, undef, undef, undef, undef, undef, undef, undef, undef, undef], defers := [] }) (fun x a' _ X Y row hs hg hr => by obtain ⟨a1, b1, h0, h1, h2, h3⟩ := hs; exact ⟨a1, b1, h0, boxed_own a1 3 (fun (_ : Unit) => Value.int .i64 (cl x.1)) () X Y row h1 hg (fun r e => (hr r e).2), boxed_own b1 3 (fun (_ : Unit) => Value.int .i64 (cl x.2)) () X Y row h2 hg (fun r e => (hr r e).2), h3⟩) ?assign1 ?body1 ?done1 ?stop1
  case assign1 =>
    rintro l1 pre1 x1 V K hk hj hK
    have hsV := hk.size
    have kA : KeepUp B bs V (V.alloc (.cells #[.int .i64 (cl x1.1)] 3)) := .alloc _ (by omega)
    have kB : KeepUp B bs (V.alloc (.cells #[.int .i64 (cl x1.1)] 3)) ((V.alloc (.cells #[.int .i64 (cl x1.1)] 3)).alloc (.cells #[.int .i64 (cl x1.2)] 3)) := .alloc _ (by simp; omega)
    have nA := (Boxed.new V 3 (.int .i64 (cl x1.1))).alloc (.cells #[.int .i64 (cl x1.2)] 3)
    have nB := Boxed.new (V.alloc (.cells #[.int .i64 (cl x1.1)] 3)) 3 (.int .i64 (cl x1.2))
    rw [World.size_alloc] at nB
    have hJ2 := hJ.alloc (.cells #[.int .i64 (cl x1.2)] 3) (hJ.alloc (.cells #[.int .i64 (cl x1.1)] 3) hj)
    clear hk hj
    gi_wp2
    exact hK _ _ (kA.trans kB) hJ2 ⟨V.heap.size, V.heap.size + 1, ⟨by omega, by omega⟩, nA, nB, rfl⟩
  case body1 =>
    rintro l1 pre1 x1 a' W1 ⟨r1, hr1⟩ hk1 hj1 ⟨a1, b1, ⟨ha1, hb1⟩, bA1, bB1, rfl⟩
    have hs1 := hk1.size
    have S1 := S0.same hk1.at_
    have q1 : W1.cell? ⟨bs, 1, none⟩ = some (.int .i64 nh) := by rw [← f1]; exact S1.2.1
    have hn1 : 1 ≤ n - 1 - 1 := by omega
    gi_wp2_with (refine ⟨trivial, ?_⟩; gi_at_call 169; refine (CallsIn.inRound l1 (shares_in Fence.wide (n - 1 - 1 - 1) trivial rfl _ _)).mono ?_; rintro e w' ⟨rfl, rfl⟩)
    clear q1
    have K1 : KeepUp B bs W1 (W1.alloc (.cells #[.int .i64 nh] 3)) := .alloc _ (by omega)
    have bN1 := Boxed.new W1 3 (.int .i64 nh)
    have hr1' : (W1.alloc (.cells #[.int .i64 nh] 3)).heap[l1]? = some (.loop r1) := (Below.heap_alloc W1 _ l1 (Array.getElem?_eq_some_iff.1 hr1).1).trans hr1
    have szb1 : W1.heap.size < (W1.alloc (.cells #[.int .i64 nh] 3)).heap.size := by simp
    refine sharesLoopN (n := n - 1 - 1) (l₀ := l1) (r₀ := r1) (c := nh) (b := W1.heap.size) (B := B) (bs := bs) (by omega) hr1' hnh bN1 (by omega) (by rfl) (by rfl) hbs (fun pre V => J (pre1.flatMap (pk1 s nh nl ng) ++ pre.flatMap (pk2 s nl ng x1)) V) (fun pre V => ∃ q, q <+: (pre1.flatMap (pk1 s nh nl ng) ++ pre.flatMap (pk2 s nl ng x1)) ∧ Jx q V) (ownFrom_comp hJ _) (ownFrom_ex hJx _)
      (by simpa using hJ.alloc _ hj1) (fun x2 a' V => ∃ a2 b2, (B ≤ a2 ∧ B ≤ b2) ∧ Boxed V a2 3 (.int .i64 (cl x2.1)) ∧ Boxed V b2 3 (.int .i64 (cl x2.2)) ∧ a' = { tmps := #[.func (.yield l) #[] #[], .pointer (some ⟨bs, 0, none⟩), .pointer (some ⟨B, 0, none⟩), .pointer (some ⟨a1, 0, none⟩), .pointer (some ⟨b1, 0, none⟩), .pointer (some ⟨a2, 0, none⟩), .pointer (some ⟨b2, 0, none⟩), undef, undef, undef, undef, undef, .pointer (some ⟨bs, 0, none⟩), .int .i64 (nb : Nat), .func (.func 176) #[] #[.pointer (some ⟨B + 1, 0, none⟩)], .int .i64 (cl x1.1), .int .i64 (cl x1.2), .pointer (some ⟨bs, 1, none⟩), .int .i64 (nh : Nat), .func (.func 176) #[] #[.pointer (some ⟨W1.heap.size, 0, none⟩)], .int .i64 (cl x2.1), .int .i64 (cl x2.2), undef, undef, undef, undef, undef, undef, undef, undef, undef, undef, undef, undef, undef, undef, undef, undef, undef, undef, undef, undef, undef, undef, undef, undef, undef, undef, undef, undef], defers := [] }) (fun x a' _ X Y row hs hg hr => by obtain ⟨a2, b2, h0, h1, h2, h3⟩ := hs; exact ⟨a2, b2, h0, boxed_own a2 3 (fun (_ : Unit) => Value.int .i64 (cl x.1)) () X Y row h1 hg (fun r e => (hr r e).2), boxed_own b2 3 (fun (_ : Unit) => Value.int .i64 (cl x.2)) () X Y row h2 hg (fun r e => (hr r e).2), h3⟩) ?assign2 ?body2 ?done2 ?stop2
    case assign2 =>
      rintro l2 pre2 x2 V K hk hj hK
      have hsV := hk.size
      have kA : KeepUp B bs V (V.alloc (.cells #[.int .i64 (cl x2.1)] 3)) := .alloc _ (by omega)
      have kB : KeepUp B bs (V.alloc (.cells #[.int .i64 (cl x2.1)] 3)) ((V.alloc (.cells #[.int .i64 (cl x2.1)] 3)).alloc (.cells #[.int .i64 (cl x2.2)] 3)) := .alloc _ (by simp; omega)
      have nA := (Boxed.new V 3 (.int .i64 (cl x2.1))).alloc (.cells #[.int .i64 (cl x2.2)] 3)
      have nB := Boxed.new (V.alloc (.cells #[.int .i64 (cl x2.1)] 3)) 3 (.int .i64 (cl x2.2))
      rw [World.size_alloc] at nB
      have hJ2 := hJ.alloc (.cells #[.int .i64 (cl x2.2)] 3) (hJ.alloc (.cells #[.int .i64 (cl x2.1)] 3) hj)
      clear hk hj
      gi_wp2
      exact hK _ _ (kA.trans kB) hJ2 ⟨V.heap.size, V.heap.size + 1, ⟨by omega, by omega⟩, nA, nB, rfl⟩
    case body2 =>
      rintro l2 pre2 x2 a' W2 ⟨r2, hr2⟩ hk2 hj2 ⟨a2, b2, ⟨ha2, hb2⟩, bA2, bB2, rfl⟩
      have hs2 := hk2.size
      have S2 := S1.same (K1.trans hk2).at_
      have q2 : W2.cell? ⟨bs, 2, none⟩ = some (.int .i64 nl) := by rw [← f2]; exact S2.2.2.1
      have hn2 : 1 ≤ n - 1 - 1 - 1 - 1 := by omega
      gi_wp2_with (refine ⟨trivial, ?_⟩; gi_at_call 169; refine (CallsIn.inRound l2 (shares_in Fence.wide (n - 1 - 1 - 1 - 1 - 1) trivial rfl _ _)).mono ?_; rintro e w' ⟨rfl, rfl⟩)
      clear q2
      have K2 : KeepUp B bs W2 (W2.alloc (.cells #[.int .i64 nl] 3)) := .alloc _ (by omega)
      have bN2 := Boxed.new W2 3 (.int .i64 nl)
      have hr2' : (W2.alloc (.cells #[.int .i64 nl] 3)).heap[l2]? = some (.loop r2) := (Below.heap_alloc W2 _ l2 (Array.getElem?_eq_some_iff.1 hr2).1).trans hr2
      have szb2 : W2.heap.size < (W2.alloc (.cells #[.int .i64 nl] 3)).heap.size := by simp
      refine sharesLoopN (n := n - 1 - 1 - 1 - 1) (l₀ := l2) (r₀ := r2) (c := nl) (b := W2.heap.size) (B := B) (bs := bs) (by omega) hr2' hnl bN2 (by omega) (by rfl) (by rfl) hbs (fun pre V => J (pre1.flatMap (pk1 s nh nl ng) ++ pre2.flatMap (pk2 s nl ng x1) ++ pre.flatMap (pk3 s ng x1 x2)) V) (fun pre V => ∃ q, q <+: (pre1.flatMap (pk1 s nh nl ng) ++ pre2.flatMap (pk2 s nl ng x1) ++ pre.flatMap (pk3 s ng x1 x2)) ∧ Jx q V) (ownFrom_comp hJ _) (ownFrom_ex hJx _)
        (by simpa using hJ.alloc _ hj2) (fun x3 a' V => ∃ a3 b3, (B ≤ a3 ∧ B ≤ b3) ∧ Boxed V a3 3 (.int .i64 (cl x3.1)) ∧ Boxed V b3 3 (.int .i64 (cl x3.2)) ∧ a' = { tmps := #[.func (.yield l) #[] #[], .pointer (some ⟨bs, 0, none⟩), .pointer (some ⟨B, 0, none⟩), .pointer (some ⟨a1, 0, none⟩), .pointer (some ⟨b1, 0, none⟩), .pointer (some ⟨a2, 0, none⟩), .pointer (some ⟨b2, 0, none⟩), .pointer (some ⟨a3, 0, none⟩), .pointer (some ⟨b3, 0, none⟩), undef, undef, undef, .pointer (some ⟨bs, 0, none⟩), .int .i64 (nb : Nat), .func (.func 176) #[] #[.pointer (some ⟨B + 1, 0, none⟩)], .int .i64 (cl x1.1), .int .i64 (cl x1.2), .pointer (some ⟨bs, 1, none⟩), .int .i64 (nh : Nat), .func (.func 176) #[] #[.pointer (some ⟨W1.heap.size, 0, none⟩)], .int .i64 (cl x2.1), .int .i64 (cl x2.2), .pointer (some ⟨bs, 2, none⟩), .int .i64 (nl : Nat), .func (.func 176) #[] #[.pointer (some ⟨W2.heap.size, 0, none⟩)], .int .i64 (cl x3.1), .int .i64 (cl x3.2), undef, undef, undef, undef, undef, undef, undef, undef, undef, undef, undef, undef, undef, undef, undef, undef, undef, undef, undef, undef, undef, undef, undef], defers := [] }) (fun x a' _ X Y row hs hg hr => by obtain ⟨a3, b3, h0, h1, h2, h3⟩ := hs; exact ⟨a3, b3, h0, boxed_own a3 3 (fun (_ : Unit) => Value.int .i64 (cl x.1)) () X Y row h1 hg (fun r e => (hr r e).2), boxed_own b3 3 (fun (_ : Unit) => Value.int .i64 (cl x.2)) () X Y row h2 hg (fun r e => (hr r e).2), h3⟩) ?assign3 ?body3 ?done3 ?stop3
      case assign3 =>
        rintro l3 pre3 x3 V K hk hj hK
        have hsV := hk.size
        have kA : KeepUp B bs V (V.alloc (.cells #[.int .i64 (cl x3.1)] 3)) := .alloc _ (by omega)
        have kB : KeepUp B bs (V.alloc (.cells #[.int .i64 (cl x3.1)] 3)) ((V.alloc (.cells #[.int .i64 (cl x3.1)] 3)).alloc (.cells #[.int .i64 (cl x3.2)] 3)) := .alloc _ (by simp; omega)
        have nA := (Boxed.new V 3 (.int .i64 (cl x3.1))).alloc (.cells #[.int .i64 (cl x3.2)] 3)
        have nB := Boxed.new (V.alloc (.cells #[.int .i64 (cl x3.1)] 3)) 3 (.int .i64 (cl x3.2))
        rw [World.size_alloc] at nB
        have hJ2 := hJ.alloc (.cells #[.int .i64 (cl x3.2)] 3) (hJ.alloc (.cells #[.int .i64 (cl x3.1)] 3) hj)
        clear hk hj
        gi_wp2
        exact hK _ _ (kA.trans kB) hJ2 ⟨V.heap.size, V.heap.size + 1, ⟨by omega, by omega⟩, nA, nB, rfl⟩
      case body3 =>
        rintro l3 pre3 x3 a' W3 ⟨r3, hr3⟩ hk3 hj3 ⟨a3, b3, ⟨ha3, hb3⟩, bA3, bB3, rfl⟩
        have hs3 := hk3.size
        have S3 := S2.same (K2.trans hk3).at_
        have q3 : W3.cell? ⟨bs, 3, none⟩ = some (.int .i64 ng) := by rw [← f3]; exact S3.2.2.2.1
        have hn3 : 1 ≤ n - 1 - 1 - 1 - 1 - 1 - 1 := by omega
        gi_wp2_with (refine ⟨trivial, ?_⟩; gi_at_call 169; refine (CallsIn.inRound l3 (shares_in Fence.wide (n - 1 - 1 - 1 - 1 - 1 - 1 - 1) trivial rfl _ _)).mono ?_; rintro e w' ⟨rfl, rfl⟩)
        clear q3
        have K3 : KeepUp B bs W3 (W3.alloc (.cells #[.int .i64 ng] 3)) := .alloc _ (by omega)
        have bN3 := Boxed.new W3 3 (.int .i64 ng)
        have hr3' : (W3.alloc (.cells #[.int .i64 ng] 3)).heap[l3]? = some (.loop r3) := (Below.heap_alloc W3 _ l3 (Array.getElem?_eq_some_iff.1 hr3).1).trans hr3
        have szb3 : W3.heap.size < (W3.alloc (.cells #[.int .i64 ng] 3)).heap.size := by simp
        refine sharesLoopN (n := n - 1 - 1 - 1 - 1 - 1 - 1) (l₀ := l3) (r₀ := r3) (c := ng) (b := W3.heap.size) (B := B) (bs := bs) (by omega) hr3' hng bN3 (by omega) (by rfl) (by rfl) hbs (fun pre V => J (pre1.flatMap (pk1 s nh nl ng) ++ pre2.flatMap (pk2 s nl ng x1) ++ pre3.flatMap (pk3 s ng x1 x2) ++ pre.flatMap (pk4 s x1 x2 x3)) V) (fun pre V => ∃ q, q <+: (pre1.flatMap (pk1 s nh nl ng) ++ pre2.flatMap (pk2 s nl ng x1) ++ pre3.flatMap (pk3 s ng x1 x2) ++ pre.flatMap (pk4 s x1 x2 x3)) ∧ Jx q V) (ownFrom_comp hJ _) (ownFrom_ex hJx _)
          (by simpa using hJ.alloc _ hj3) (fun x4 a' _ => a' = { tmps := #[.func (.yield l) #[] #[], .pointer (some ⟨bs, 0, none⟩), .pointer (some ⟨B, 0, none⟩), .pointer (some ⟨a1, 0, none⟩), .pointer (some ⟨b1, 0, none⟩), .pointer (some ⟨a2, 0, none⟩), .pointer (some ⟨b2, 0, none⟩), .pointer (some ⟨a3, 0, none⟩), .pointer (some ⟨b3, 0, none⟩), .int .i64 (cl x4.1), .int .i64 (cl x4.2), undef, .pointer (some ⟨bs, 0, none⟩), .int .i64 (nb : Nat), .func (.func 176) #[] #[.pointer (some ⟨B + 1, 0, none⟩)], .int .i64 (cl x1.1), .int .i64 (cl x1.2), .pointer (some ⟨bs, 1, none⟩), .int .i64 (nh : Nat), .func (.func 176) #[] #[.pointer (some ⟨W1.heap.size, 0, none⟩)], .int .i64 (cl x2.1), .int .i64 (cl x2.2), .pointer (some ⟨bs, 2, none⟩), .int .i64 (nl : Nat), .func (.func 176) #[] #[.pointer (some ⟨W2.heap.size, 0, none⟩)], .int .i64 (cl x3.1), .int .i64 (cl x3.2), .pointer (some ⟨bs, 3, none⟩), .int .i64 (ng : Nat), .func (.func 176) #[] #[.pointer (some ⟨W3.heap.size, 0, none⟩)], .int .i64 (cl x4.1), .int .i64 (cl x4.2), undef, undef, undef, undef, undef, undef, undef, undef, undef, undef, undef, undef, undef, undef, undef, undef, undef, undef], defers := [] }) (fun _ _ _ _ _ _ hs _ _ => hs) ?assign4 ?body4 ?done4 ?stop4
        case assign4 =>
          rintro l4 pre4 x4 V K hk hj hK
          have hsV := hk.size
          gi_wp2
          exact hK _ _ (.refl _ _ _) hj rfl
        case body4 =>
          rintro l4 pre4 x4 a' W4 - hk4 hj4 rfl
          have hs4 := hk4.size
          have T3 := K3.trans hk4
          have T2 := (K2.trans hk3).trans T3
          have T1 := (K1.trans hk2).trans T2
          have T0 := hk1.trans T1
          have y0 := (T0.box bY0 (Nat.le_refl _)).cell
          have ca1 := (T1.box bA1 ha1).cell
          have cb1 := (T1.box bB1 hb1).cell
          have ca2 := (T2.box bA2 ha2).cell
          have cb2 := (T2.box bB2 hb2).cell
          have ca3 := (T3.box bA3 ha3).cell
          have cb3 := (T3.box bB3 hb3).cell
          have k5 : KeepUp B bs W4 (W4.alloc (.cells #[.int .i64 (cl x1.1), .int .i64 (cl x1.2), .int .i64 (cl x2.1), .int .i64 (cl x2.2), .int .i64 (cl x3.1), .int .i64 (cl x3.2), .int .i64 (cl x4.1), .int .i64 (cl x4.2)] 52)) := .alloc _ (by omega)
          have p5 := PickAt.new W4 52 (mkP x1 x2 x3 x4)
          change PickAt (W4.alloc (.cells #[.int .i64 (cl x1.1), .int .i64 (cl x1.2), .int .i64 (cl x2.1), .int .i64 (cl x2.2), .int .i64 (cl x3.1), .int .i64 (cl x3.2), .int .i64 (cl x4.1), .int .i64 (cl x4.2)] 52)) W4.heap.size (mkP x1 x2 x3 x4) at p5
          have j5 := hJ.alloc (.cells #[.int .i64 (cl x1.1), .int .i64 (cl x1.2), .int .i64 (cl x2.1), .int .i64 (cl x2.2), .int .i64 (cl x3.1), .int .i64 (cl x3.2), .int .i64 (cl x4.1), .int .i64 (cl x4.2)] 52) hj4
          have hl5 : bs < (W4.alloc (.cells #[.int .i64 (cl x1.1), .int .i64 (cl x1.2), .int .i64 (cl x2.1), .int .i64 (cl x2.2), .int .i64 (cl x3.1), .int .i64 (cl x3.2), .int .i64 (cl x4.1), .int .i64 (cl x4.2)] 52)).heap.size := by simp; omega
          obtain ⟨g0, g1, g2, g3, -⟩ := S0.same (T0.trans k5).at_
          rw [f0] at g0; rw [f1] at g1; rw [f2] at g2; rw [f3] at g3
          generalize hX5 : W4.alloc (.cells #[.int .i64 (cl x1.1), .int .i64 (cl x1.2), .int .i64 (cl x2.1), .int .i64 (cl x2.2), .int .i64 (cl x3.1), .int .i64 (cl x3.2), .int .i64 (cl x4.1), .int .i64 (cl x4.2)] 52) = W5 at k5 p5 j5 hl5 g0 g1 g2 g3
          have p6 := Lib.hid p5
          obtain ⟨v0, v1, v2, v3, v4, v5, v6, v7, -⟩ := p5
          simp only [mkP] at v0 v1 v2 v3 v4 v5 v6 v7
          have hn4 : 1 ≤ n - 1 - 1 - 1 - 1 - 1 - 1 - 1 - 1 := by omega
          gi_wp2_with fail
          refine ⟨trivial, ?_⟩
          refine (CallsIn.inRound l4 (callsIn_wide.2 (CP.out x1 x2 x3 x4 _))).mono ?_
          rintro e w5 ⟨rfl, b5⟩
          have k6 := k5.trans (.of_below b5 hl5)
          have j6 := hJ _ _ _ none j5 ⟨b5.os, b5.tape, b5.output, b5.size, fun k hk _ => b5.block k hk⟩ (fun r e => by cases e)
          have y6 := ((T0.trans k6).box bY0 (Nat.le_refl _)).cell
          obtain ⟨u0, u1, u2, u3, u4, u5, u6, u7, -⟩ := p6.out.below b5
          simp only [mkP] at u0 u1 u2 u3 u4 u5 u6 u7
          clear k5 p6 j5 hl5 b5 y0 ca1 ca2 ca3 cb1 cb2 cb3 g0 g1 g2 g3 CP v0 v1 v2 v3 v4 v5 v6 v7 hX5
          cases ht : pickB s (mkP x1 x2 x3 x4) with
          | false =>
            gi_wp2
            refine ⟨fun _ h => (by cases h), ?_⟩
            gi_wp2
            exact ⟨k6, by simpa [pk4, ht] using j6⟩
          | true =>
            obtain ⟨fn, tmps, assign, body, hy, hR⟩ := hY (n - 1 - 1 - 1 - 1 - 1 - 1 - 1 - 1 - 1) _ (mkP x1 x2 x3 x4) w5 j6 ht
            simp only [pickV, mkP] at hy
            gi_wp2
            refine RoundIn.mono (show RoundIn ((Fence.wide.inRound l3).inRound l4) _ _ _ _ _ _ _ _ _ from hR) ?_
            rintro e W6 ⟨hk6, (⟨rfl, hJ6⟩ | ⟨rfl, hx6⟩)⟩
            · gi_wp2
              exact ⟨k6.trans hk6, by simpa [pk4, ht] using hJ6⟩
            · gi_wp2
              exact ⟨k6.trans hk6, _, (by simp [pk4, ht]), hx6⟩
        case done4 =>
          rintro V hk hj
          gi_wp2
          exact ⟨K3.trans hk, by simpa [pk3] using hj⟩
        case stop4 =>
          rintro pre V hp hk ⟨q, hq, hx⟩
          gi_wp2
          refine ⟨K3.trans hk, q, hq.trans ?_, hx⟩
          have h := (List.prefix_append_right_inj (pre1.flatMap (pk1 s nh nl ng) ++ pre2.flatMap (pk2 s nl ng x1) ++ pre3.flatMap (pk3 s ng x1 x2))).2 (flatMap_prefix (pk4 s x1 x2 x3) hp)
          simpa [pk3] using h
      case done3 =>
        rintro V hk hj
        gi_wp2
        exact ⟨K2.trans hk, by simpa [pk2] using hj⟩
      case stop3 =>
        rintro pre V hp hk ⟨q, hq, hx⟩
        gi_wp2
        refine ⟨K2.trans hk, q, hq.trans ?_, hx⟩
        have h := (List.prefix_append_right_inj (pre1.flatMap (pk1 s nh nl ng) ++ pre2.flatMap (pk2 s nl ng x1))).2 (flatMap_prefix (pk3 s ng x1 x2) hp)
        simpa [pk2] using h
    case done2 =>
      rintro V hk hj
      gi_wp2
      exact ⟨K1.trans hk, by simpa [pk1] using hj⟩
    case stop2 =>
      rintro pre V hp hk ⟨q, hq, hx⟩
      gi_wp2
      refine ⟨K1.trans hk, q, hq.trans ?_, hx⟩
      have h := (List.prefix_append_right_inj (pre1.flatMap (pk1 s nh nl ng))).2 (flatMap_prefix (pk2 s nl ng x1) hp)
      simpa [pk1] using h
  case done1 =>
    rintro D V hD hk hj hK
    gi_wp2
    refine ⟨by simp, .inl ⟨_, _, rfl, run_takeDeferred hK, ?_⟩⟩
    exact ⟨_, results_none rfl _ _ _, ⟨_, rfl⟩, .inl (hJ.putObj _ (by rw [hall]; exact hj) (by omega) hK rfl)⟩
  case stop1 =>
    rintro D pre V hD hp hk ⟨q, hq, hx⟩ hK
    gi_wp2
    refine ⟨by simp, .inl ⟨_, _, rfl, run_takeDeferred hK, ?_⟩⟩
    exact ⟨_, results_none rfl _ _ _, ⟨_, rfl⟩, .inr ⟨q, by rw [hall]; exact hq.trans (flatMap_prefix _ hp), hJx.putObj _ hx (by omega) hK rfl⟩⟩
end Go.Proofs.YtlflblngbneacabDoor
