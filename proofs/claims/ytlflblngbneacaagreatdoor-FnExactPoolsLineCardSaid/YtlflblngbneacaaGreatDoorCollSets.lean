/- The contract of slices.Collect over the sets of few items. Conditions: a number of items from 1 to 10. -/
import Derived.Test.YtlflblngbneacaaGreatDoorConsSets
import Derived.Test.YtlflblngbneacaaGreatDoorSeekPlain
namespace Go.Proofs.YtlflblngbneacaaGreatDoor
open Go.RowKit Go.Shelf
attribute [local go_sem] Oper.semAt_some

/-- What the loop keeps: the list that grows, in its box. -/
def CollI (w : World) (L : List Int) (V : World) : Prop :=
  (∃ s, Boxed V w.heap.size 22 s ∧ V.ownsRow (w.heap.size + 1) 3 1 s L.length (L.map (Value.int .i64)) ∧ True) ∧ Below w.heap.size w V
theorem collI_own {β : Type} {w : World} {f : β → List Int} {B : Nat} (hB : w.heap.size ≤ B) : OwnFrom B (fun (s : β) V => CollI w (f s) V) :=
  OwnFrom.and (_root_.Go.Own.from (holdsRow_own (w.heap.size + 1) w.heap.size 22 3 1 (fun s => (f s).length) (fun s => (f s).map (Value.int .i64)) (fun _ _ => True)) _)
    (ownFrom_below (Nat.le_refl _) hB)
theorem collAppend {w V w5 : World} {s v' : Value} {x : Int} {L : List Int} {tmp : Obj} (bS : Boxed V w.heap.size 22 s) (oS : V.ownsRow (w.heap.size + 1) 3 1 s L.length (L.map (Value.int .i64)))
    (hB : Below w.heap.size w V) (hown : w5.ownsRow (w.heap.size + 1) 3 1 v' (L.length + 1) (L.map (Value.int .i64) ++ [.int .i64 x])) (hgrow : (V.alloc tmp).grownBy w5 s.ownBlock) :
    Boxed w5 w.heap.size 22 s ∧ KeepsOthers V (w5.setCell ⟨w.heap.size, 0, none⟩ v') ∧ CollI w (L ++ [x]) (w5.setCell ⟨w.heap.size, 0, none⟩ v') := by
  have ne : some w.heap.size ≠ s.ownBlock := fun e => by have := (oS.lt w.heap.size e.symm).1; omega
  have ne' : v'.ownBlock ≠ some w.heap.size := fun e => by have := (hown.lt w.heap.size e).1; omega
  have S1 := (bS.alloc tmp).kept hgrow ne
  refine ⟨S1, ?_, ⟨v', S1.set v', ?_, trivial⟩, ?_⟩
  · refine ((KeepsOthers.alloc V tmp).trans (KeepsOthers.of_grownBy hgrow fun j o ej hj => ?_)).trans (KeepsOthers.setCell _ _ _)
    rcases (oS.alloc tmp).2 with ⟨rfl, _⟩ | ⟨g, cap, cur, rfl, _, hgb, _⟩
    · simp [Value.ownBlock] at ej
    · obtain rfl : g = j := by simpa [Value.ownBlock] using ej
      rw [hgb] at hj; cases hj; rfl
  · have := hown.kept (grownBy_setCell' w5 w.heap.size v') (.inr ne')
    simpa using this
  · exact ((hB.alloc hB.size tmp).grown hgrow (by have := hB.size; simp; omega) fun j ej => by have := (oS.lt j ej).1; omega).setCell (p := ⟨w.heap.size, 0, none⟩) (by simp) v'
theorem same_below {w V W : World} {b : Nat} (hb : b < w.heap.size) (h : Below w.heap.size w V) (k : Below w.heap.size w W) : SameBlk b V W := (k.block b hb).trans (h.block b hb).symm

set_option maxRecDepth 100000 in
set_option maxHeartbeats 4000000 in
theorem appendSets (b1 b2 : Nat) (m most : Int) (m1 : 1 ≤ m) (m10 : m ≤ 10) (N : Nat) (hN : 2 ^ m.toNat = N) (w : World) (hb1 : Boxed w b1 3 (.int .i64 m)) (hb2 : Boxed w b2 3 (.int .i64 most)) :
    CallsIn Fence.wide 12 Tryz.prog 149 #[.slice none 0 0, .func (.func 150) #[] #[.pointer (some ⟨b1, 0, none⟩), .pointer (some ⟨b2, 0, none⟩)]] w fun e w' => ∃ u, e = .returned u ∧ Own w' w.heap.size u (natL (setsK most N)) ∧ Below w.heap.size w w' := by
  obtain ⟨i0, hi, hz0, hz1, hz2⟩ := info_parts infoIntA
  have hl2 := hb2.lt
  have S0 := Boxed.new w 22 (.slice none 0 0)
  have B1 := alloc_below w (.cells #[.slice none 0 0] 22)
  have s1 : (w.alloc (.cells #[.slice none 0 0] 22)).heap.size = w.heap.size + 1 := by simp
  have N1 := hb1.alloc (.cells #[.slice none 0 0] 22)
  have M1 := hb2.alloc (.cells #[.slice none 0 0] 22)
  generalize hX1 : w.alloc (.cells #[.slice none 0 0] 22) = X1 at S0 B1 s1 N1 M1
  have HI0 : CollI w [] X1 := ⟨⟨_, S0, World.ownsRow_nil _ _ _ _, trivial⟩, B1⟩
  refine callsIn_of_wp_marks Tryz.func149 rfl trivial ?_ rfl
  simp only [Tryz.ntmps149, List.size_toArray, List.length_cons, List.length_nil, Nat.reduceAdd, Nat.reduceSub, Array.replicate_succ, Array.replicate_zero, List.push_toArray, List.append_toArray, List.nil_append, List.cons_append]
  gi_wp2_with fail
  refine wpIn_rangeFunc_ownF rfl (by omega) (gf := 150) (lb := #[.pointer (some ⟨b1, 0, none⟩), .pointer (some ⟨b2, 0, none⟩)]) rfl trivial (enters_of Tryz.func150 (by kernel_rfl) rfl)
    (sets_stops 11 (by omega) b1 b2 m most m1 m10 N hN _ N1 M1) (fun h k => sameBlk_t h k) (sameBlk_b (by omega)) (Below.refl _ _) (fun _ => rfl)
    (fun pre V => CollI w (natL (sets0 pre)) V)
    (fun _ _ _ => False)
    (collI_own (by omega))
    (fun _ _ _ _ _ hs _ _ => hs)
    HI0
    (fun x => { tmps := #[.slice none 0 0, .func (.func 150) #[] #[.pointer (some ⟨b1, 0, none⟩), .pointer (some ⟨b2, 0, none⟩)], .pointer (some ⟨w.heap.size, 0, none⟩), undef, .slice none 0 0, .int .i64 (x.1 : Nat), .func (.func 150) #[] #[.pointer (some ⟨b1, 0, none⟩), .pointer (some ⟨b2, 0, none⟩)], .int .i64 (x.1 : Nat), undef, undef, undef, undef, undef], defers := [] }) ?assign ?body ?done ?stop
  case assign =>
    intro l x W K hK
    gi_wp2
    exact hK
  case body =>
    rintro l pre x V hI hlen
    obtain ⟨⟨s, bS, oS, -⟩, hB⟩ := hI
    have HS : Hid (natL (sets0 (pre ++ [x])) = natL (sets0 pre) ++ [(x.1 : Int)]) := by unfold Hid; rw [sets0_snoc, natL_snoc]
    have hL : (natL (sets0 pre)).length < 1024 := by rw [natL_len, sets0_len]; exact hlen
    have hBs : w.heap.size + 1 ≤ V.heap.size := by have := bS.lt; omega
    have HB := Lib.hid hB
    obtain ⟨L2, hL2⟩ : ∃ L2, natL (sets0 (pre ++ [x])) = L2 := ⟨_, rfl⟩
    rw [hL2] at HS
    have HL2 := Lib.hid hL2
    clear hL2
    generalize natL (sets0 pre) = L at HS oS hL
    have hc := bS.cell
    gi_wp2_with (gi_at_builtin; refine wpListIn_append_own _ rfl _ _ 22 rfl (w.heap.size + 1) 3 i0 (.int .i64 0) 1 8 Tryz.underlying22 hi hz0 hz1 hz2 rfl (by decide) _ _ _ rfl (oS.alloc _) ⟨V.heap.size, 0, none⟩ 1 1 [.int .i64 (x.1 : Nat)] rfl rfl (cell_one_new _ _ _) (by simp [Value.oneCell']) (by unfold maxLen; omega) (by omega) (by simp; omega) ?_; intro v' w5 hown' hgrow _; obtain ⟨g', cap', rfl⟩ := ownsRow_succ hown'; obtain ⟨hv1, hk2, hci⟩ := collAppend bS oS hB hown' hgrow; have hc1 := hv1.cell; have hf1 := hv1.frozen; have HEND := Lib.hid (And.intro hk2 hci); clear hk2 hci)
    refine ⟨HEND.out.1, same_below hl2 HB.out HEND.out.2.2, ?_⟩
    show CollI w (natL (sets0 (pre ++ [x]))) _
    rw [HL2.out, HS.out]
    exact HEND.out.2
  case done =>
    rintro D ys W hD hys hI hK
    have HF : Hid (natL (sets0 ys) = natL (setsK most N)) := by unfold Hid; rw [hys]
    obtain ⟨⟨s, bS, oS, -⟩, hB⟩ := hI
    have hc := bS.cell
    have HB := Lib.hid hB
    have HO := Lib.hid oS
    clear bS oS hB
    gi_wp2
    refine ⟨by simp, .inl ⟨_, _, rfl, run_takeDeferred hK, ?_⟩⟩
    refine ⟨_, results_tmp rfl _ _ _, s, rfl, ?_, ?_⟩
    · have h1 := ownsRow_putObj HO.out (.deferred none) hK rfl
      rw [HF.out] at h1
      exact Own.lower h1 (by omega)
    · exact HB.out.trans (belowK_b (w := w) (Nat.le_refl _) W D _ _ (by omega) hK rfl rfl)
  case stop =>
    rintro D c pre W _ _ h _
    exact h.elim

theorem implCollSets (b1 b2 : Nat) (m most : Int) (m1 : 1 ≤ m) (m10 : m ≤ 10) (N : Nat) (hN : 2 ^ m.toNat = N) (w : World) (hb1 : Boxed w b1 3 (.int .i64 m)) (hb2 : Boxed w b2 3 (.int .i64 most)) :
    Calls Tryz.prog 124 #[.func (.func 150) #[] #[.pointer (some ⟨b1, 0, none⟩), .pointer (some ⟨b2, 0, none⟩)]] w fun e w' => ∃ u, e = .returned u ∧ Own w' w.heap.size u (natL (setsK most N)) ∧ Below w.heap.size w w' := by
  have CA := Lib.hid ((callsIn_wide (n := 12)).1 (appendSets b1 b2 m most m1 m10 N hN w hb1 hb2))
  generalize natL (setsK most N) = S at CA ⊢
  go_enter Tryz.func124, Tryz.ntmps124
  go_wp2_with fail
  refine CA.out.mono ?_
  rintro e w1 ⟨u, rfl, ou, bb⟩
  have O := Lib.hid ou
  have B := Lib.hid bb
  clear ou bb
  obtain ⟨ga, na, ca, rfl⟩ := O.out.form
  go_wp2
  go_ret
  exact ⟨_, rfl, O.out, B.out⟩
end Go.Proofs.YtlflblngbneacaaGreatDoor
