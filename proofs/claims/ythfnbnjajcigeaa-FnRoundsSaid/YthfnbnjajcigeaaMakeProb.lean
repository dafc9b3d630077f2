/- The contract of the model's making of a problem out of a code: it returns a valid one with 2 to 8 coins. Condition: the code reads as bytes. -/
import Derived.Test.YthfnbnjajcigeaaGWei
import Derived.Test.YthfnbnjajcigeaaDrawW
namespace Go.Proofs.Ythfnbnjajcigeaa
open Go.RowKit

theorem once_any (W w : World) (b : Nat) (a : Option Addr) (len cap : Nat) (n : Int) (hB : BytesAt W a len) (hC : CurOk W w b a len cap) (hl : len ≤ 1048576) (h0 : 0 < n) (h1 : n ≤ 256) :
    Calls Try.prog 54 #[.pointer (some ⟨b, 0, none⟩), .int .i64 n] w fun e w' => ∃ t : Bool, e = .returned (.bool t) ∧ CurOk W w' b a len cap ∧ w.grownBy w' (some b) := by
  have C := Lib.hid (below_any W w b a len cap n hB hC hl h0 h1)
  clear hB hC
  go_enter Try.func54, Try.ntmps54
  go_wp2_with fail
  refine C.out.mono ?_
  rintro e w2 ⟨x, rfl, -, -, hc, hg⟩
  have HC := Lib.hid hc
  have HG := Lib.hid hg
  clear hc hg
  go_wp2
  go_ret
  exact ⟨_, rfl, HC.out, HG.out⟩

/-- Four cells of a problem in block b may be written. -/
def ProbVar (w : World) (b : Nat) (n : Int) (h l z : Bool) : Prop :=
  ProbAt w b n h l z ∧ w.frozen? ⟨b, 0, none⟩ = false ∧ w.frozen? ⟨b, 1, none⟩ = false ∧ w.frozen? ⟨b, 2, none⟩ = false ∧ w.frozen? ⟨b, 3, none⟩ = false
theorem ProbVar.new (w : World) (ty : TypeId) (n : Int) (h l z : Bool) : ProbVar (w.alloc (.cells #[.int .i64 n, .bool h, .bool l, .bool z] ty)) w.heap.size n h l z := by
  refine ⟨ProbAt.new w ty n h l z, ?_, ?_, ?_, ?_⟩ <;> simp
theorem ProbVar.only {T : Nat → Prop} {w w' : World} {b : Nat} {n : Int} {h l z : Bool} (hp : ProbVar w b n h l z) (ho : Only T w w') (hb : ¬ T b) : ProbVar w' b n h l z := by
  obtain ⟨⟨e0, e1, e2, e3, hlt⟩, f0, f1, f2, f3⟩ := hp
  have k := ho.block b hlt hb
  refine ⟨⟨?_, ?_, ?_, ?_, Nat.lt_of_lt_of_le hlt ho.size⟩, ?_, ?_, ?_, ?_⟩
  · rw [World.cell?_of_block (w := w) (a := ⟨b, 0, none⟩) k]; exact e0
  · rw [World.cell?_of_block (w := w) (a := ⟨b, 1, none⟩) k]; exact e1
  · rw [World.cell?_of_block (w := w) (a := ⟨b, 2, none⟩) k]; exact e2
  · rw [World.cell?_of_block (w := w) (a := ⟨b, 3, none⟩) k]; exact e3
  · rw [World.frozen?_of_block (w := w) (a := ⟨b, 0, none⟩) k]; exact f0
  · rw [World.frozen?_of_block (w := w) (a := ⟨b, 1, none⟩) k]; exact f1
  · rw [World.frozen?_of_block (w := w) (a := ⟨b, 2, none⟩) k]; exact f2
  · rw [World.frozen?_of_block (w := w) (a := ⟨b, 3, none⟩) k]; exact f3

theorem Only.setNew {T : Nat → Prop} {w w' : World} (h : Only T w w') {c : Nat} (hc : w.heap.size ≤ c) (o : Nat) (u : Value) : Only T w (w'.setCell ⟨c, o, none⟩ u) :=
  ⟨h.os, h.tape, h.output, by rw [setCell_size]; exact h.size, fun k hk hn => by
    rw [← h.block k hk hn]
    exact (Below.setCell (B := c) (p := ⟨c, o, none⟩) (Below.refl c w') (Nat.le_refl _) u).block k (by omega)⟩
/-- Four cells written one behind another. -/
def set4 (w : World) (b : Nat) (n : Int) (h l z : Bool) : World :=
  (((w.setCell ⟨b, 0, none⟩ (.int .i64 n)).setCell ⟨b, 1, none⟩ (.bool h)).setCell ⟨b, 2, none⟩ (.bool l)).setCell ⟨b, 3, none⟩ (.bool z)
theorem only_set4 {T : Nat → Prop} {w w' : World} (h : Only T w w') {c : Nat} (hc : w.heap.size ≤ c) (n : Int) (p l z : Bool) : Only T w (set4 w' c n p l z) :=
  (((h.setNew hc 0 _).setNew hc 1 _).setNew hc 2 _).setNew hc 3 _
theorem ProbVar.cells {w : World} {b : Nat} {n : Int} {h l z : Bool} (hp : ProbVar w b n h l z) : Cells w b 4 (fun o => if o = 0 then .int .i64 n else if o = 1 then .bool h else if o = 2 then .bool l else .bool z) :=
  ⟨hp.1.2.2.2.2, fun o ho => match o, ho with
    | 0, _ => ⟨hp.1.1, hp.2.1⟩
    | 1, _ => ⟨hp.1.2.1, hp.2.2.1⟩
    | 2, _ => ⟨hp.1.2.2.1, hp.2.2.2.1⟩
    | 3, _ => ⟨hp.1.2.2.2.1, hp.2.2.2.2⟩⟩
theorem Cells.set4 {w : World} {b : Nat} {f : Nat → Value} (h : Cells w b 4 f) (n : Int) (p l z : Bool) : ProbAt (Go.Proofs.Ythfnbnjajcigeaa.set4 w b n p l z) b n p l z := by
  have k := (((h.set 0 (by omega) (.int .i64 n)).set 1 (by omega) (.bool p)).set 2 (by omega) (.bool l)).set 3 (by omega) (.bool z)
  exact ⟨(k.2 0 (by omega)).1, (k.2 1 (by omega)).1, (k.2 2 (by omega)).1, (k.2 3 (by omega)).1, k.1⟩

end Go.Proofs.Ythfnbnjajcigeaa
