/- The contract of the model's making of pools out of a code: they are valid, and at most twelve. Conditions: the code reads as bytes; one to seven items. -/
import Derived.Test.YtnpmkoeceihepaaItemsSpec
import Derived.Test.YtnpmkoeceihepaaMakeProb
import Derived.Test.YtnpmkoeceihepaaGWei
namespace Go.Proofs.Ytnpmkoeceihepaa
open Go.RowKit

theorem Own.solid {w : World} {B : Nat} {v : Value} {l : List Int} (h : Own w B v l) (hn : v ≠ .slice none 0 0) : Solid v := by
  rcases h.2 with ⟨h0, _⟩ | ⟨g, cap, cur, h1, -, -⟩
  · exact absurd h0 hn
  · exact ⟨g, _, cap, h1⟩
theorem top_of {n : Nat} (n1 : 1 ≤ n) (n7 : n ≤ 7) : IntKind.i64.wrap (2 ^ n) = topI (n : Int) + 1 ∧ 1 ≤ topI (n : Int) ∧ topI (n : Int) ≤ 127 := by
  have hp : ∀ m : Nat, m ≤ 6 → (2 : Int) ≤ 2 ^ (m + 1) ∧ (2 : Int) ^ (m + 1) ≤ 128 := by decide
  have h := hp (n - 1) (by omega)
  rw [show n - 1 + 1 = n by omega] at h
  have e : topI (n : Int) = 2 ^ n - 1 := rfl
  rw [e, IntKind.wrap_i64]
  omega

theorem only_curP {b : Nat} {w w' : World} (h : w.grownBy w' (some b)) : Only (fun k => k = b) w w' := (Only.of_grown h).mono fun k e => by simpa using e.symm
theorem curAlloc {W w : World} {b : Nat} {a : Option Addr} {len cap : Nat} (h : CurOk W w b a len cap) (o : Obj) : CurOk W (w.alloc o) b a len cap :=
  h.only (T := fun _ => False) (Only.fresh (alloc_below _ _)) fun _ hk => hk.elim
theorem Only.later {T S : Nat → Prop} {w A B : World} (h : Only T w A) (k : Only S A B) (hS : ∀ x, S x → w.heap.size ≤ x) : Only T w B :=
  ⟨k.os.trans h.os, k.tape.trans h.tape, k.output.trans h.output, Nat.le_trans h.size k.size, fun x hx hn => (k.block x (Nat.lt_of_lt_of_le hx h.size) fun hs => by have := hS x hs; omega).trans (h.block x hx hn)⟩
/-- What the drawing of pools has reached: a list of the call's own, and the cursor. -/
structure PoolDraw (W w0 w : World) (b : Nat) (a : Option Addr) (len cap : Nat) (n : Nat) (v : Value) (P : List Int) : Prop where
  own : Own w w0.heap.size v P
  sol : Solid v
  top : ∀ p ∈ P, 0 ≤ p ∧ p ≤ topI (n : Int)
  cur : CurOk W w b a len cap
  only : Only (fun k => k = b) w0 w
  lt : b < w0.heap.size

theorem bits_pools : ∀ n : Nat, n ≤ 6 → poolsB ((n + 1 : Nat) : Int) (bitsO ((n + 1 : Nat) : Int)) = true ∧ (bitsO ((n + 1 : Nat) : Int)).length ≤ 7 := by decide +kernel
theorem sing_pools : ∀ n : Nat, n ≤ 6 → poolsB ((n + 1 : Nat) : Int) (singO ((n + 1 : Nat) : Int)) = true ∧ (singO ((n + 1 : Nat) : Int)).length = n + 1 := by decide +kernel
theorem IntsAt.pre {w : World} {g m c : Nat} {A B : List Int} (h : IntsAt w (.slice (some ⟨g, 0, none⟩) m c) (A ++ B)) (c2 : Nat) : IntsAt w (.slice (some ⟨g, 0, none⟩) A.length c2) A := by
  obtain ⟨a, cc, e, h⟩ := h
  injection e with e1 e2 e3
  rcases h with h | ⟨x, o, e4, hc⟩
  · have : A = [] := List.append_eq_nil_iff.1 h |>.1
    subst this
    exact ⟨_, _, rfl, .inl rfl⟩
  · rw [e4] at e1
    injection e1 with e1
    injection e1 with e5 e6
    subst e5 e6
    refine ⟨_, _, rfl, .inr ⟨_, 0, rfl, fun i hi => ?_⟩⟩
    rw [hc i (by simp; omega), List.getElem_append_left hi]

/-- What MakePools gives back. -/
def MadePools (n : Nat) (w : World) (e : Ending) (w' : World) : Prop := ∃ v P, e = .returned v ∧ IntsAt w' v P ∧ poolsB (n : Int) P = true ∧ Below w.heap.size w w'
/-- The same, and that there are no more than seven. -/
def MadeSeven (n : Nat) (w : World) (e : Ending) (w' : World) : Prop := ∃ v P, e = .returned v ∧ IntsAt w' v P ∧ (poolsB (n : Int) P = true ∧ P.length ≤ 7) ∧ Below w.heap.size w w'

theorem pools_of {n : Nat} (n1 : 1 ≤ n) (n7 : n ≤ 7) {P : List Int} (h : ∀ p ∈ P, 0 ≤ p ∧ p ≤ topI (n : Int)) (hl : P.length ≤ 6) : poolsB (n : Int) P = true := by
  unfold poolsB itemsB
  rw [decide_eq_true (by omega), decide_eq_true (by omega), decide_eq_true (by omega)]
  simp only [Bool.true_and, List.all_eq_true]
  intro p hp
  unfold poolB
  rw [decide_eq_true (h p hp).1, decide_eq_true (h p hp).2]
  rfl

end Go.Proofs.Ytnpmkoeceihepaa
