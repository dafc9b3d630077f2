/- The contract of the law's own copy of a row of picks: a row of the call's own. Conditions: the row that came in reads as picks and is short enough to be counted. -/
import Derived.Test.YtbkhmlkicafheaaPicks
import Derived.Test.YtbkhmlkicafheaaToNodes
namespace Go.Proofs.Ytbkhmlkicafheaa
open Go.RowKit

/-- Eight cells written one behind another, from place o on. -/
def set8o (w : World) (b o : Nat) (p : PD) : World :=
  (((((((w.setCell ⟨b, o, none⟩ (.int .i64 p.bl)).setCell ⟨b, o + 1, none⟩ (.int .i64 p.br)).setCell ⟨b, o + 2, none⟩ (.int .i64 p.hl)).setCell ⟨b, o + 3, none⟩ (.int .i64 p.hr)).setCell ⟨b, o + 4, none⟩ (.int .i64 p.ll)).setCell ⟨b, o + 5, none⟩ (.int .i64 p.lr)).setCell ⟨b, o + 6, none⟩ (.int .i64 p.gl)).setCell ⟨b, o + 7, none⟩ (.int .i64 p.gr)
def up8 (f : Nat → Value) (o : Nat) (p : PD) : Nat → Value :=
  fun z => if z = o + 7 then .int .i64 p.gr else if z = o + 6 then .int .i64 p.gl else if z = o + 5 then .int .i64 p.lr else if z = o + 4 then .int .i64 p.ll else if z = o + 3 then .int .i64 p.hr else if z = o + 2 then .int .i64 p.hl else if z = o + 1 then .int .i64 p.br else if z = o then .int .i64 p.bl else f z
theorem up8_far {f : Nat → Value} {o z : Nat} (p : PD) (h : z < o ∨ o + 8 ≤ z) : up8 f o p z = f z := by
  unfold up8
  rw [if_neg (by omega), if_neg (by omega), if_neg (by omega), if_neg (by omega), if_neg (by omega), if_neg (by omega), if_neg (by omega), if_neg (by omega)]
theorem Cells.set8o {w : World} {b n o : Nat} {f : Nat → Value} (h : Cells w b n f) (ho : o + 7 < n) (p : PD) : Cells (Go.Proofs.Ytbkhmlkicafheaa.set8o w b o p) b n (up8 f o p) :=
  (((((((h.set (o) (by omega) (.int .i64 p.bl)).set (o + 1) (by omega) (.int .i64 p.br)).set (o + 2) (by omega) (.int .i64 p.hl)).set (o + 3) (by omega) (.int .i64 p.hr)).set (o + 4) (by omega) (.int .i64 p.ll)).set (o + 5) (by omega) (.int .i64 p.lr)).set (o + 6) (by omega) (.int .i64 p.gl)).set (o + 7) (by omega) (.int .i64 p.gr)
theorem below_set8o {w W : World} {B : Nat} (h : Below B W w) {c : Nat} (hc : B ≤ c) (o : Nat) (p : PD) : Below B W (set8o w c o p) :=
  (((((((h.setCell (p := ⟨c, o, none⟩) hc (.int .i64 p.bl)).setCell (p := ⟨c, o + 1, none⟩) hc (.int .i64 p.br)).setCell (p := ⟨c, o + 2, none⟩) hc (.int .i64 p.hl)).setCell (p := ⟨c, o + 3, none⟩) hc (.int .i64 p.hr)).setCell (p := ⟨c, o + 4, none⟩) hc (.int .i64 p.ll)).setCell (p := ⟨c, o + 5, none⟩) hc (.int .i64 p.lr)).setCell (p := ⟨c, o + 6, none⟩) hc (.int .i64 p.gl)).setCell (p := ⟨c, o + 7, none⟩) hc (.int .i64 p.gr)
/-- Pick i of the row is p. -/
def PickOf (f : Nat → Value) (i : Nat) (p : PD) : Prop := f (i * 8) = .int .i64 p.bl ∧ f (i * 8 + 1) = .int .i64 p.br ∧ f (i * 8 + 2) = .int .i64 p.hl ∧ f (i * 8 + 3) = .int .i64 p.hr ∧ f (i * 8 + 4) = .int .i64 p.ll ∧ f (i * 8 + 5) = .int .i64 p.lr ∧ f (i * 8 + 6) = .int .i64 p.gl ∧ f (i * 8 + 7) = .int .i64 p.gr
theorem up8_pick (f : Nat → Value) (i : Nat) (p : PD) : PickOf (up8 f (i * 8) p) i p := by
  unfold PickOf up8
  refine ⟨?_, ?_, ?_, ?_, ?_, ?_, ?_, ?_⟩
  · rw [if_neg (by omega), if_neg (by omega), if_neg (by omega), if_neg (by omega), if_neg (by omega), if_neg (by omega), if_neg (by omega), if_pos rfl]
  · rw [if_neg (by omega), if_neg (by omega), if_neg (by omega), if_neg (by omega), if_neg (by omega), if_neg (by omega), if_pos rfl]
  · rw [if_neg (by omega), if_neg (by omega), if_neg (by omega), if_neg (by omega), if_neg (by omega), if_pos rfl]
  · rw [if_neg (by omega), if_neg (by omega), if_neg (by omega), if_neg (by omega), if_pos rfl]
  · rw [if_neg (by omega), if_neg (by omega), if_neg (by omega), if_pos rfl]
  · rw [if_neg (by omega), if_neg (by omega), if_pos rfl]
  · rw [if_neg (by omega), if_pos rfl]
  · rw [if_pos rfl]
theorem PickOf.far {f : Nat → Value} {i k : Nat} {p : PD} (h : PickOf f i p) (q : PD) (hne : i ≠ k) : PickOf (up8 f (k * 8) q) i p := by
  unfold PickOf at h ⊢
  obtain ⟨h0, h1, h2, h3, h4, h5, h6, h7⟩ := h
  refine ⟨?_, ?_, ?_, ?_, ?_, ?_, ?_, ?_⟩
  · rw [up8_far _ (by omega)]; exact h0
  · rw [up8_far _ (by omega)]; exact h1
  · rw [up8_far _ (by omega)]; exact h2
  · rw [up8_far _ (by omega)]; exact h3
  · rw [up8_far _ (by omega)]; exact h4
  · rw [up8_far _ (by omega)]; exact h5
  · rw [up8_far _ (by omega)]; exact h6
  · rw [up8_far _ (by omega)]; exact h7
/-- The first k picks of the row of n in block g are the call's own. -/
structure OwnR (w : World) (g n k : Nat) (f : Nat → Value) (P : List PD) : Prop where
  cells : Cells w g (n * 8) f
  pick : ∀ i (h : i < P.length), i < k → PickOf f i P[i]
theorem OwnR.below {w w' : World} {g n k : Nat} {f : Nat → Value} {P : List PD} (h : OwnR w g n k f P) (hb : Below w.heap.size w w') : OwnR w' g n k f P := ⟨h.cells.below hb, h.pick⟩
/-- A row of picks of the call's own, from block lo on. -/
def OwnPs (w : World) (lo : Nat) (v : Value) (P : List PD) : Prop := ∃ g f, v = .slice (some ⟨g, 0, none⟩) P.length P.length ∧ lo ≤ g ∧ OwnR w g P.length P.length f P
theorem OwnPs.below {w w' : World} {lo : Nat} {v : Value} {P : List PD} (h : OwnPs w lo v P) (hb : Below w.heap.size w w') : OwnPs w' lo v P := by
  obtain ⟨g, f, e, hg, hk⟩ := h
  exact ⟨g, f, e, hg, hk.below hb⟩
theorem OwnR.eight {w : World} {g n k : Nat} {f : Nat → Value} {P : List PD} (h : OwnR w g n k f P) {i : Nat} (hi : i < P.length) (hk : i < k) (hn : i < n) : EightAt w g (i * 8) P[i] := by
  obtain ⟨h0, h1, h2, h3, h4, h5, h6, h7⟩ := h.pick i hi hk
  refine ⟨?_, ?_, ?_, ?_, ?_, ?_, ?_, ?_, h.cells.1⟩
  · rw [(h.cells.2 (i * 8) (by omega)).1, h0]
  · rw [(h.cells.2 (i * 8 + 1) (by omega)).1, h1]
  · rw [(h.cells.2 (i * 8 + 2) (by omega)).1, h2]
  · rw [(h.cells.2 (i * 8 + 3) (by omega)).1, h3]
  · rw [(h.cells.2 (i * 8 + 4) (by omega)).1, h4]
  · rw [(h.cells.2 (i * 8 + 5) (by omega)).1, h5]
  · rw [(h.cells.2 (i * 8 + 6) (by omega)).1, h6]
  · rw [(h.cells.2 (i * 8 + 7) (by omega)).1, h7]
theorem OwnPs.reads {w : World} {lo : Nat} {v : Value} {P : List PD} (h : OwnPs w lo v P) : PicksAt w v P := by
  obtain ⟨g, f, rfl, hg, hk⟩ := h
  refine ⟨_, _, rfl, fun i hi => ⟨g, 0, rfl, ?_⟩⟩
  rw [Nat.zero_add]
  exact hk.eight hi hi hi
theorem OwnR.push {w W : World} {g n k : Nat} {f : Nat → Value} {P : List PD} (h : OwnR W g n k f P) (hW : Below W.heap.size W w) (hk : k < P.length) (hn : k < n) : OwnR (set8o w g (k * 8) P[k]) g n (k + 1) (up8 f (k * 8) P[k]) P := by
  refine ⟨(h.cells.below hW).set8o (by omega) _, fun i hi hik => ?_⟩
  by_cases e : i = k
  · subst e; exact up8_pick _ _ _
  · exact (h.pick i hi (by omega)).far _ e

theorem infoPick : (Try.prog.info? 34).map (fun i => (i.zero, i.size, i.bytes)) = some (some (.agg #[.int .i64 0, .int .i64 0, .int .i64 0, .int .i64 0, .int .i64 0, .int .i64 0, .int .i64 0, .int .i64 0]), 8, 64) := by kernel_rfl
theorem cells_of_rowP {w : World} {B e g n : Nat} {xs : List Value} (h : w.ownsRow B e 8 (.slice (some ⟨g, 0, none⟩) n n) n xs) : ∃ f, Cells w g (n * 8) f :=
  ⟨fun o => xs.getD o (.bool false), (h.lt g rfl).2, fun o ho => ⟨by
    have hl : o < xs.length := by rw [h.1]; exact ho
    rw [h.cellAt o ho, List.getElem?_eq_getElem hl]
    simp [List.getD_eq_getElem?_getD, List.getElem?_eq_getElem hl], h.frozenAt o⟩⟩

set_option maxHeartbeats 3200000 in
theorem toPicks (v : Value) (P : List PD) (w : World) (h : PicksAt w v P) (hm : P.length ≤ 1048576) :
    Calls Try.prog 23 #[v] w fun e w' => ∃ v', e = .returned v' ∧ OwnPs w' w.heap.size v' P ∧ Below w.heap.size w w' := by
  obtain ⟨i0, hi, hz0, hz1, hz2⟩ := info_parts infoPick
  obtain ⟨a, c, rfl, h⟩ := h
  have H := Lib.hid h
  clear h
  obtain ⟨n, hn⟩ : ∃ n, P.length = n := ⟨_, rfl⟩
  unfold OwnPs
  rw [hn] at hm ⊢
  have HN := Lib.hid hn
  clear hn
  go_enter Try.func23, Try.ntmps23
  go_wp2_with (at_make; refine wpList_make_full _ rfl _ _ 42 rfl w.heap.size 34 i0 (.agg #[.int .i64 0, .int .i64 0, .int .i64 0, .int .i64 0, .int .i64 0, .int .i64 0, .int .i64 0, .int .i64 0]) 8 Try.underlying42 hi hz0 hz1 .i64 .i64 _ _ n rfl rfl rfl rfl (by rw [hz2]; omega) (by unfold maxLen; omega) (Nat.le_refl _) ?_; intro w1 hown hg)
  have hb := Below.grown (Below.refl w.heap.size w) hg (Nat.le_refl _) (by intro k hk; cases hk)
  obtain ⟨f0, hc0⟩ := cells_of_rowP hown
  have HC0 := Lib.hid hc0
  clear hown hg hc0
  go_wp2
  go_loopw [4] (fun i wr => ∃ (k : Nat) (f : Nat → Value), k ≤ n ∧ i = .int .i64 k ∧ Hid (OwnR wr w.heap.size n k f P) ∧ Below w.heap.size w wr) (fun i _ => n - (intOf i).toNat)
  case atStart => exact ⟨0, f0, Nat.zero_le _, rfl, ⟨HC0.out, fun _ _ h => by omega⟩, hb⟩
  case round =>
    clear HC0 hb
    obtain ⟨k, f, hk, rfl, HK, hb⟩ := hrel
    have HB := Lib.hid hb
    clear hb
    by_cases hlt : k < n
    · have hkl : k < P.length := by rw [HN.out]; exact hlt
      obtain ⟨b, o, rfl, h5⟩ := H.out k hkl
      obtain ⟨p, hx⟩ : ∃ p, P[k] = p := ⟨_, rfl⟩
      have HX := Lib.hid hx
      rw [hx] at h5
      have C := Lib.hid (toPickL p)
      unfold pickV at C
      have F1 := Lib.hid (h5.below HB.out)
      have i0' : (0 : Int) ≤ (k : Int) := by omega
      have i1 : (k : Int) < (n : Int) := by omega
      clear h5 hx
      obtain ⟨e0, e1, e2, e3, e4, e5, e6, e7, -⟩ := F1.out
      go_wp2_with fail
      clear e0 e1 e2 e3 e4 e5 e6 e7
      refine (C.out _).mono ?_
      rintro e w2 ⟨rfl, b2⟩
      have BY := Lib.hid (below_up HB.out b2)
      have BW := Lib.hid b2
      have CW := Lib.hid (HK.out.cells.below b2)
      clear b2
      have q0 := (CW.out.2 (k * 8) (by omega)).1
      have z0 := (CW.out.2 (k * 8) (by omega)).2
      have q1 := (CW.out.2 (k * 8 + 1) (by omega)).1
      have z1 := (CW.out.2 (k * 8 + 1) (by omega)).2
      have q2 := (CW.out.2 (k * 8 + 2) (by omega)).1
      have z2 := (CW.out.2 (k * 8 + 2) (by omega)).2
      have q3 := (CW.out.2 (k * 8 + 3) (by omega)).1
      have z3 := (CW.out.2 (k * 8 + 3) (by omega)).2
      have q4 := (CW.out.2 (k * 8 + 4) (by omega)).1
      have z4 := (CW.out.2 (k * 8 + 4) (by omega)).2
      have q5 := (CW.out.2 (k * 8 + 5) (by omega)).1
      have z5 := (CW.out.2 (k * 8 + 5) (by omega)).2
      have q6 := (CW.out.2 (k * 8 + 6) (by omega)).1
      have z6 := (CW.out.2 (k * 8 + 6) (by omega)).2
      have q7 := (CW.out.2 (k * 8 + 7) (by omega)).1
      have z7 := (CW.out.2 (k * 8 + 7) (by omega)).2
      go_wp2
      go_roundw
      case rel =>
        have HP := HK.out.push (k := k) BW.out hkl hlt
        rw [HX.out] at HP
        exact ⟨k + 1, _, by omega, by go_num, HP, below_set8o BY.out (Nat.le_refl _) _ _⟩
      case measure => simp [intOf]; omega
    · obtain rfl : k = n := by omega
      go_wp2
      go_ret
      exact ⟨_, rfl, ⟨_, f, rfl, Nat.le_refl _, HK.out⟩, HB.out⟩
end Go.Proofs.Ytbkhmlkicafheaa
