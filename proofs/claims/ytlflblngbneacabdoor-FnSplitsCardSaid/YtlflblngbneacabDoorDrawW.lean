/- The contract of the model's draw of a weighing: it returns a valid one of the call's own, and writes besides into the cursor alone. Condition: from 2 to 13 coins. -/
import Derived.Test.YtlflblngbneacabDoorGWei
import Derived.Test.YtlflblngbneacabDoorCur
namespace Go.Proofs.YtlflblngbneacabDoor
open Go.RowKit

/-- An ascending list of numbers from 1 up to k. -/
def Upto (l : List Int) (k : Int) : Prop := l.Pairwise (· < ·) ∧ ∀ x ∈ l, 1 ≤ x ∧ x < k
theorem upto_nil (k : Int) : Upto [] k := ⟨List.Pairwise.nil, by simp⟩
theorem upto_keep {l : List Int} {k : Int} (h : Upto l k) : Upto l (k + 1) := ⟨h.1, fun x hx => by have := h.2 x hx; omega⟩
theorem upto_push {l : List Int} {k : Int} (h : Upto l k) (hk : 1 ≤ k) : Upto (l ++ [k]) (k + 1) := by
  refine ⟨?_, fun x hx => ?_⟩
  · rw [List.pairwise_append]
    refine ⟨h.1, by simp, fun a ha b hb => ?_⟩
    simp only [List.mem_singleton] at hb
    subst hb
    exact (h.2 a ha).2
  · simp only [List.mem_append, List.mem_singleton] at hx
    rcases hx with hx | rfl
    · have := h.2 x hx; omega
    · omega
theorem upto_len {l : List Int} {k : Int} (h : Upto l k) (hk : 1 ≤ k) : (l.length : Int) ≤ k - 1 := by
  rcases asc_len l 1 (k - 1) h.1 (fun x hx => by have := h.2 x hx; omega) with rfl | h
  · simp; omega
  · omega
theorem upto_side {l : List Int} {k : Int} {m : Nat} (h : Upto l k) (hm : 0 < m) (hl : m ≤ l.length) : sideB (l.take m) (k - 1) = true := by
  unfold sideB ascB
  simp only [Bool.and_eq_true, decide_eq_true_eq, List.all_eq_true]
  exact ⟨⟨h.1.sublist (List.take_sublist _ _), fun x hx => by have := h.2 x (List.mem_of_mem_take hx); omega⟩, by simp; omega⟩
/-- No number is in both lists. -/
def Apart (L R : List Int) : Prop := ∀ x ∈ L, x ∉ R
theorem apart_left {L R : List Int} {k : Int} (h : Apart L R) (hR : Upto R k) : Apart (L ++ [k]) R := fun x hx hr => by
  simp only [List.mem_append, List.mem_singleton] at hx
  rcases hx with hx | rfl
  · exact h x hx hr
  · have := hR.2 x hr; omega
theorem apart_right {L R : List Int} {k : Int} (h : Apart L R) (hL : Upto L k) : Apart L (R ++ [k]) := fun x hx hr => by
  simp only [List.mem_append, List.mem_singleton] at hr
  rcases hr with hr | rfl
  · exact h x hx hr
  · have := hL.2 x hx; omega
theorem drawn_ok {L R : List Int} {n : Int} {m : Nat} (hL : Upto L (n + 1)) (hR : Upto R (n + 1)) (ha : Apart L R) (hm : 0 < m) (h1 : m ≤ L.length) (h2 : m ≤ R.length) (n1 : 1 ≤ n) (n2 : n ≤ 13) : weighB (L.take m) (R.take m) n = true := by
  have s1 := upto_side hL hm h1
  have s2 := upto_side hR hm h2
  rw [show n + 1 - 1 = n by omega] at s1 s2
  exact weigh_of n1 n2 s1 s2 (by simp; omega) fun x hx hr => ha x (List.mem_of_mem_take hx) (List.mem_of_mem_take hr)
theorem drawn_none {n : Int} (n1 : 2 ≤ n) (n2 : n ≤ 13) : weighB [1] [2] n = true :=
  weigh_of (by omega) n2 (by unfold sideB ascB; simp; omega) (by unfold sideB ascB; simp; omega) rfl (by simp)

theorem CurOk.only {W w w' : World} {b : Nat} {a : Option Addr} {len cap : Nat} {T : Nat → Prop} (h : CurOk W w b a len cap) (ho : Only T w w') (hT : ∀ k, T k → W.heap.size ≤ k ∧ k ≠ b) : CurOk W w' b a len cap := by
  have hlt := h.lt
  obtain ⟨hb, hw, i, x, hi, hc⟩ := h
  refine ⟨hb.trans (ho.below hb.size fun k hk => (hT k hk).1), hw, i, x, hi, ?_⟩
  rw [ho.block b hlt fun e => (hT b e).2 rfl]
  exact hc

/-- The draw under way: its two variables, its two lists, the cursor. -/
structure Drawing (W0 w W : World) (b : Nat) (a : Option Addr) (len cap : Nat) (vl vr : Value) (L R : List Int) : Prop where
  cur : CurOk W0 W b a len cap
  var : VarAt W (w.heap.size + 1) vl vr
  res : VarAt W w.heap.size (.slice none 0 0) (.slice none 0 0)
  ol : Own W (w.heap.size + 2) vl L
  or_ : Own W (w.heap.size + 2) vr R
  sep : Sep vl vr
  gr : w.grownBy W (some b)
  lt : b < w.heap.size
  w0 : W0.heap.size ≤ w.heap.size


theorem Drawing.cursor {W0 w W W' : World} {b : Nat} {a : Option Addr} {len cap : Nat} {vl vr : Value} {L R : List Int} (d : Drawing W0 w W b a len cap vl vr L R) (hc : CurOk W0 W' b a len cap) (hg : W.grownBy W' (some b)) : Drawing W0 w W' b a len cap vl vr L R := by
  have T := Only.of_grown hg
  have hlt := d.lt
  exact ⟨hc, d.var.grown hg (by simp; omega), d.res.grown hg (by simp; omega), d.ol.only T fun k hk e => by have := (d.ol.blk k hk).1; simp at e; omega, d.or_.only T fun k hk e => by have := (d.or_.blk k hk).1; simp at e; omega, d.sep, d.gr.trans hg, hlt, d.w0⟩


/-- One number more in the left list. -/
theorem Drawing.left {W0 w W X W2 : World} {b : Nat} {a : Option Addr} {len cap : Nat} {vl vr v' : Value} {L R : List Int} {x : Int} (d : Drawing W0 w W b a len cap vl vr L R) (hX : Below W.heap.size W X)
    (hown : W2.ownsRow (w.heap.size + 2) 3 1 v' (L.length + 1) (L.map (Value.int .i64) ++ [.int .i64 x])) (hg : X.grownBy W2 vl.ownBlock) (hat : v'.ownBlock = vl.ownBlock ∨ v'.ownBlock = some X.heap.size) :
    Drawing W0 w (W2.setCell ⟨w.heap.size + 1, 0, none⟩ v') b a len cap v' vr (L ++ [x]) R := by
  have hlt := d.lt
  have hw0 := d.w0
  have gs := d.gr.size
  have xs := hX.size
  have TX : Only (fun k => vl.ownBlock = some k) W W2 := (Only.fresh hX).trans (Only.of_grown hg)
  have own' : Own W2 (w.heap.size + 2) v' (L ++ [x]) := by unfold Own; simpa using hown
  have bl : ∀ k, vl.ownBlock = some k → w.heap.size + 2 ≤ k := fun k hk => (d.ol.blk k hk).1
  have var2 : VarAt W2 (w.heap.size + 1) vl vr := (d.var.below hX).grown hg fun e => by have := bl _ e; omega
  have res2 : VarAt W2 w.heap.size (.slice none 0 0) (.slice none 0 0) := (d.res.below hX).grown hg fun e => by have := bl _ e; omega
  have or2 : Own W2 (w.heap.size + 2) vr R := d.or_.only TX fun k hk e => d.sep k e hk
  have cur2 : CurOk W0 W2 b a len cap := d.cur.only TX fun k hk => by have := bl k hk; omega
  have TS : Only (fun k => k = w.heap.size + 1) W2 (W2.setCell ⟨w.heap.size + 1, 0, none⟩ v') :=
    Only.of_grown (row := some (w.heap.size + 1)) (grown_one _ _ _ _) |>.mono fun k e => by simp at e; exact e.symm
  refine ⟨cur2.only TS fun k hk => by omega, var2.set0 _, res2.far _ _ (by omega), own'.setCell (by omega) _, or2.setCell (by omega) _, ?_, ?_, hlt, hw0⟩
  · intro k h1 h2
    rcases hat with e | e
    · exact d.sep k (e ▸ h1) h2
    · rw [e] at h1
      have := (d.or_.blk k h2).2
      simp at h1
      omega
  · have g1 : w.grownBy W2 (some b) := ⟨hg.os.trans (hX.os.trans d.gr.os), hg.tape.trans (hX.tape.trans d.gr.tape), hg.output.trans (hX.output.trans d.gr.output), Nat.le_trans gs (Nat.le_trans xs hg.size), fun k hk hne => by
      rw [TX.block k (by omega) fun e => by have := bl k e; omega]
      exact d.gr.block k hk hne⟩
    exact ⟨g1.os, g1.tape, g1.output, by simpa [World.setCell] using g1.size, fun k hk hne => by
      rw [Below.heap_setCell _ _ _ _ (by simp; omega)]
      exact g1.block k hk hne⟩
/-- One number more in the right list. -/
theorem Drawing.right {W0 w W X W2 : World} {b : Nat} {a : Option Addr} {len cap : Nat} {vl vr v' : Value} {L R : List Int} {x : Int} (d : Drawing W0 w W b a len cap vl vr L R) (hX : Below W.heap.size W X)
    (hown : W2.ownsRow (w.heap.size + 2) 3 1 v' (R.length + 1) (R.map (Value.int .i64) ++ [.int .i64 x])) (hg : X.grownBy W2 vr.ownBlock) (hat : v'.ownBlock = vr.ownBlock ∨ v'.ownBlock = some X.heap.size) :
    Drawing W0 w (W2.setCell ⟨w.heap.size + 1, 1, none⟩ v') b a len cap vl v' L (R ++ [x]) := by
  have hlt := d.lt
  have hw0 := d.w0
  have gs := d.gr.size
  have xs := hX.size
  have TX : Only (fun k => vr.ownBlock = some k) W W2 := (Only.fresh hX).trans (Only.of_grown hg)
  have own' : Own W2 (w.heap.size + 2) v' (R ++ [x]) := by unfold Own; simpa using hown
  have bl : ∀ k, vr.ownBlock = some k → w.heap.size + 2 ≤ k := fun k hk => (d.or_.blk k hk).1
  have var2 : VarAt W2 (w.heap.size + 1) vl vr := (d.var.below hX).grown hg fun e => by have := bl _ e; omega
  have res2 : VarAt W2 w.heap.size (.slice none 0 0) (.slice none 0 0) := (d.res.below hX).grown hg fun e => by have := bl _ e; omega
  have ol2 : Own W2 (w.heap.size + 2) vl L := d.ol.only TX fun k hk e => d.sep k hk e
  have cur2 : CurOk W0 W2 b a len cap := d.cur.only TX fun k hk => by have := bl k hk; omega
  have TS : Only (fun k => k = w.heap.size + 1) W2 (W2.setCell ⟨w.heap.size + 1, 1, none⟩ v') :=
    Only.of_grown (row := some (w.heap.size + 1)) (grown_one _ _ _ _) |>.mono fun k e => by simp at e; exact e.symm
  refine ⟨cur2.only TS fun k hk => by omega, var2.set1 _, res2.far _ _ (by omega), ol2.setCell (by omega) _, own'.setCell (by omega) _, ?_, ?_, hlt, hw0⟩
  · intro k h1 h2
    rcases hat with e | e
    · exact d.sep k h1 (e ▸ h2)
    · rw [e] at h2
      have := (d.ol.blk k h1).2
      simp at h2
      omega
  · have g1 : w.grownBy W2 (some b) := ⟨hg.os.trans (hX.os.trans d.gr.os), hg.tape.trans (hX.tape.trans d.gr.tape), hg.output.trans (hX.output.trans d.gr.output), Nat.le_trans gs (Nat.le_trans xs hg.size), fun k hk hne => by
      rw [TX.block k (by omega) fun e => by have := bl k e; omega]
      exact d.gr.block k hk hne⟩
    exact ⟨g1.os, g1.tape, g1.output, by simpa [World.setCell] using g1.size, fun k hk hne => by
      rw [Below.heap_setCell _ _ _ _ (by simp; omega)]
      exact g1.block k hk hne⟩

/-- The contract of the model's draw of a problem. -/
def MakesProb : Prop :=
  ∀ (W w : World) (a : Option Addr) (len cap : Nat), BytesAt W a len → Below W.heap.size W w → len ≤ 1048576 →
    Calls Tryd.prog 16 #[.slice a len cap] w fun e w' => ∃ n h l z, e = .returned (probV n h l z) ∧ probB n h l = true ∧ 2 ≤ n ∧ n ≤ 8 ∧ Below w.heap.size w w'
end Go.Proofs.YtlflblngbneacabDoor
