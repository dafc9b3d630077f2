/- The contracts of the law's own helpers on lists of integers that came in: their size, and their copy into a list of the call's own. Condition: the slice that came in reads as integers. -/
import Derived.Test.YthgdobnegepgoaaFrame
import Derived.ChangeSlices
import Derived.WalkKit
namespace Go.Proofs.Ythgdobnegepgoaa
open Go.RowKit

/-- What is left of a size behind n elements. -/
def szL (n : Nat) (left : Int) : Int := if left - n < 0 then -1 else left - n

theorem szInts (v : Value) (l : List Int) (left : Int) (w : World) (h : IntsAt w v l) (hm : l.length ≤ maxLen) (h0 : 0 ≤ left) (h1 : left ≤ 1048576) :
    Calls Try.prog 72 #[v, .int .i64 left] w fun e w' => e = .returned (.int .i64 (szL l.length left)) ∧ w = w' := by
  obtain ⟨a, c, rfl, -⟩ := h
  obtain ⟨n, hn⟩ : ∃ n, l.length = n := ⟨_, rfl⟩
  rw [hn] at hm ⊢
  clear hn
  unfold maxLen at hm
  by_cases hlt : left - (n : Int) < 0
  · have HP : Hid (szL n left = -1) := by unfold Hid szL; rw [if_pos hlt]
    go_enter Try.func72, Try.ntmps72
    go_wp2
    go_ret
    exact ⟨ret_int HP.out.symm, rfl⟩
  · have HP : Hid (szL n left = left - n) := by unfold Hid szL; rw [if_neg hlt]
    go_enter Try.func72, Try.ntmps72
    go_wp2
    go_ret
    exact ⟨ret_int HP.out.symm, rfl⟩

theorem infoIntA : (Try.prog.info? 3).map (fun i => (i.zero, i.size, i.bytes)) = some (some (.int .i64 0), 1, 8) := by kernel_rfl

/-- The first k of a list, zeros behind. -/
def icopied (l : List Int) (n k : Nat) : List Int := l.take k ++ List.replicate (n - k) 0
theorem icopied_length {l : List Int} {n k : Nat} (h : l.length = n) (hk : k ≤ n) : (icopied l n k).length = n := by simp [icopied]; omega
theorem icopied_set {l : List Int} {n k : Nat} (h : l.length = n) (hk : k < n) : (icopied l n k).set k (l[k]'(by omega)) = icopied l n (k + 1) := by
  unfold icopied
  have h1 : (l.take k).length = k := by simp; omega
  rw [List.set_append_right _ _ (by omega), h1, Nat.sub_self, show n - k = (n - (k + 1)) + 1 by omega, List.replicate_succ, List.set_cons_zero, List.take_succ_eq_append_getElem (by omega), List.append_assoc]
  rfl
theorem icopied_all {l : List Int} {n : Nat} (h : l.length = n) : icopied l n n = l := by
  simp [icopied, List.take_of_length_le (Nat.le_of_eq h)]

/-- A list of the call's own, from block B on. -/
def Own (w : World) (B : Nat) (v : Value) (l : List Int) : Prop := w.ownsRow B 3 1 v l.length (l.map (Value.int .i64))
theorem Own.reads {w : World} {B : Nat} {v : Value} {l : List Int} (h : Own w B v l) : IntsAt w v l := IntsAt.of_owns h
theorem IntsAt.form {w : World} {v : Value} {l : List Int} (h : IntsAt w v l) : ∃ a n c, v = .slice a n c := by
  obtain ⟨a, c, rfl, -⟩ := h
  exact ⟨a, _, c, rfl⟩
theorem Own.form {w : World} {B : Nat} {v : Value} {l : List Int} (h : Own w B v l) : ∃ a n c, v = .slice a n c := h.reads.form
theorem Own.only {T : Nat → Prop} {w w' : World} {B : Nat} {v : Value} {l : List Int} (h : Own w B v l) (ho : Only T w w') (hb : Blk (fun k => ¬ T k) v) : Own w' B v l := owns_only h ho hb
theorem Own.blk {w : World} {B : Nat} {v : Value} {l : List Int} (h : Own w B v l) : Blk (fun k => B ≤ k ∧ k < w.heap.size) v := owns_blk h
theorem Own.lower {w : World} {B B' : Nat} {v : Value} {l : List Int} (h : Own w B v l) (hB : B' ≤ B) : Own w B' v l :=
  ⟨h.1, h.2.imp id fun ⟨g, cap, cur, h1, h2, h3⟩ => ⟨g, cap, cur, h1, Nat.le_trans hB h2, h3⟩⟩
theorem Own.below {w w' : World} {B : Nat} {v : Value} {l : List Int} (h : Own w B v l) (hb : Below w.heap.size w w') : Own w' B v l := owns_below h hb

/-- The slice value lies somewhere. -/
def Solid (v : Value) : Prop := ∃ g n c, v = .slice (some ⟨g, 0, none⟩) n c

set_option maxHeartbeats 1600000 in
theorem toInts (v : Value) (l : List Int) (w : World) (h : IntsAt w v l) (hm : l.length ≤ 1048576) :
    Calls Try.prog 34 #[v] w (fun e w' => ∃ v', e = .returned v' ∧ Solid v' ∧ Own w' w.heap.size v' l ∧ Below w.heap.size w w') := by
  unfold Own
  obtain ⟨i0, hi, hz0, hz1, hz2⟩ := info_parts infoIntA
  obtain ⟨a, c, rfl, h⟩ := h
  have H : Hid (∀ i (h : i < l.length), ∃ b o, a = some ⟨b, o, none⟩ ∧ w.cell? ⟨b, o + i, none⟩ = some (.int .i64 l[i])) := by
    intro i hi
    rcases h with rfl | ⟨b, o, rfl, hc⟩
    · simp at hi
    · exact ⟨b, o, rfl, hc i hi⟩
  clear h
  obtain ⟨n, hn⟩ : ∃ n, l.length = n := ⟨_, rfl⟩
  rw [hn] at hm ⊢
  have HN := Lib.hid hn
  clear hn
  go_enter Try.func34, Try.ntmps34
  go_wp2_with (at_make; refine wpList_make_full _ rfl _ _ 28 rfl w.heap.size 3 i0 (.int .i64 0) 1 Try.underlying28 hi hz0 hz1 .i64 .i64 _ _ n rfl rfl rfl rfl (by rw [hz2]; omega) (by unfold maxLen; omega) (Nat.le_refl _) ?_; intro w1 hown hg)
  have hb := Below.grown (Below.refl w.heap.size w) hg (Nat.le_refl _) (by intro k hk; cases hk)
  have HO : Hid (w1.ownsRow w.heap.size 3 1 (.slice (some ⟨w.heap.size, 0, none⟩) n n) n ((icopied l n 0).map (Value.int .i64))) := by
    have : (madeCells (Value.int .i64 0).cells (n * 1)).toList = (icopied l n 0).map (Value.int .i64) := by
      simp [icopied, madeCells, Value.cells, Nat.mod_one]
      apply List.ext_getElem <;> simp
    rw [← this]
    exact hown
  clear hown hg
  go_wp2
  go_loopw [4] (fun i wr => ∃ k : Nat, k ≤ n ∧ i = .int .i64 k ∧ Hid (wr.ownsRow w.heap.size 3 1 (.slice (some ⟨w.heap.size, 0, none⟩) n n) n ((icopied l n k).map (Value.int .i64))) ∧ Below w.heap.size w wr) (fun i _ => n - (intOf i).toNat)
  case atStart => exact ⟨0, Nat.zero_le _, rfl, HO, hb⟩
  case round =>
    clear HO hb
    obtain ⟨k, hk, rfl, HO, hb⟩ := hrel
    have HB := Lib.hid hb
    clear hb
    by_cases hlt : k < n
    · have hkl : k < l.length := by rw [HN.out]; exact hlt
      obtain ⟨b, o, rfl, e0⟩ := H.out k hkl
      have hbl := World.block_lt_of_cell? w _ e0
      have e1 : wr.cell? ⟨b, o + k, none⟩ = some (.int .i64 (l[k])) := by rw [HB.out.cell (p := ⟨b, o + k, none⟩) hbl]; exact e0
      obtain ⟨x, hx⟩ : ∃ x, l[k] = x := ⟨_, rfl⟩
      have HS : Hid ((icopied l n k).set k x = icopied l n (k + 1)) := by unfold Hid; rw [← hx]; exact icopied_set HN.out hlt
      rw [hx] at e1
      clear hx e0 hbl
      have fz := HO.out.frozenAt k
      have hcl : k < (icopied l n k).length := by rw [icopied_length HN.out (by omega)]; exact hlt
      have e2 : wr.cell? ⟨w.heap.size, k, none⟩ = some (.int .i64 ((icopied l n k)[k])) := by rw [HO.out.cellAt k (by omega), List.getElem?_map, List.getElem?_eq_getElem hcl]; rfl
      generalize (icopied l n k)[k] = y at e2
      clear hcl hkl
      have i0' : (0 : Int) ≤ (k : Int) := by omega
      have i1 : (k : Int) < (n : Int) := by omega
      go_wp2
      go_roundw
      case rel =>
        have h2 := HO.out.stored k (.int .i64 x)
        refine ⟨k + 1, by omega, by go_num, ?_, Below.setCell HB.out (Nat.le_refl _) _⟩
        unfold Hid
        rw [← HS.out, List.map_set]
        exact h2.1
      case measure => simp [intOf]; omega
    · obtain rfl : k = n := by omega
      have h1 := HO.out
      rw [icopied_all HN.out] at h1
      have HW := Lib.hid h1
      clear h1
      go_wp2
      go_ret
      exact ⟨_, rfl, ⟨_, _, _, rfl⟩, HW.out, HB.out⟩

/-- What the walk is told of a slice of integers that came in. -/
def CameInts (w : World) (v : Value) (l : List Int) : Prop := IntsAt w v l ∧ l.length ≤ maxLen ∧ ∀ x ∈ l, (Lit.int .i64 x).wf = true

theorem cameInts {H : Type} {enc : TypeId × Value → H} {P : Program} {w : World} {base : Nat} {spare : Nat → Bool} {held : Bool} {t e : TypeId} {fuel : Nat} {u : Value} {x : DataW H × List MemPlace} (ht : P.underlying t = some (.slice e)) (he : P.underlying e = some (.int .i64)) (hc : P.cellsOf e = 1)
    (hsp : ∀ b, spare b = true) (h : DataW.trod enc P w base spare held fuel t [u] = some x) : ∃ l, CameInts w u l := by
  rcases Go.ChangeShapes.open_ints ht he hc h with ⟨hcs, _⟩ | ⟨a, len, cap, zs, hcs, _, hl, hm, hz, _, hcell, hwz⟩
  · simp at hcs
    subst hcs
    exact ⟨[], ⟨none, 0, rfl, .inl rfl⟩, by unfold maxLen; simp, by simp⟩
  · simp at hcs
    subst hcs
    rw [hsp, if_pos rfl] at hz
    have hlen : (zs.take len).length = len := by simp; omega
    refine ⟨zs.take len, ⟨some a, cap, by rw [hlen], ?_⟩, by omega, fun y hy => hwz y (List.mem_of_mem_take hy)⟩
    by_cases h0 : len = 0
    · exact .inl (List.eq_nil_of_length_eq_zero (by omega))
    · obtain ⟨b, o, spot⟩ := a
      have hc0 := hcell 0 (by omega)
      have hspot : spot = none := by simpa [Addr.add] using World.cell?_spot hc0
      subst hspot
      refine .inr ⟨b, o, rfl, fun i hi => ?_⟩
      have := hcell i (by omega)
      rw [Addr.add_lit] at this
      rw [this, List.getElem_take]
      simp [List.getD_eq_getElem?_getD, List.getElem?_eq_getElem (show i < zs.length by omega)]
end Go.Proofs.Ythgdobnegepgoaa
