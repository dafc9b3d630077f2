/- The contract of the program's ConsistentSets. Conditions: the slices read as integers and as truth values, and are short enough to be counted. -/
import Derived.Test.YtlflblngbneacabDoorConsImpl
namespace Go.Proofs.YtlflblngbneacabDoor
open Go.RowKit Go.Shelf
attribute [local go_sem] Oper.semAt_some

theorem keepsOthers_belowC {V V' : World} (h : Below V.heap.size V V') : KeepsOthers V V' := ⟨h.size, fun k _ hk _ => (h.block k (Array.getElem?_eq_some_iff.1 hk).1).trans hk⟩
theorem owns_deep {V V' : World} {B : Nat} {e : TypeId} {size k : Nat} {v : Value} {xs : List Value} (h : V.ownsRow B e size v k xs) (hb : Below V.heap.size V V') : V'.ownsRow B e size v k xs := owns_below h hb
/-- What the loop keeps: the list that grows, the two slices that came in, the bound. -/
def ConsI (w : World) (v vr : Value) (most : Int) (L : List Int) (V : World) : Prop :=
  (∃ s, Boxed V (w.heap.size + 2) 32 s ∧ V.ownsRow (w.heap.size + 5) 3 1 s L.length (L.map (Value.int .i64)) ∧ True) ∧
    (Boxed V w.heap.size 32 v ∧ Boxed V (w.heap.size + 1) 63 vr ∧ Boxed V (w.heap.size + 4) 3 (.int .i64 most)) ∧ Below w.heap.size w V
theorem consI_own {β : Type} {w : World} {v vr : Value} {most : Int} {f : β → List Int} {B : Nat} (hB : w.heap.size ≤ B) : OwnFrom B (fun (s : β) V => ConsI w v vr most (f s) V) :=
  OwnFrom.and (_root_.Go.Own.from (holdsRow_own (w.heap.size + 5) (w.heap.size + 2) 32 3 1 (fun s => (f s).length) (fun s => (f s).map (Value.int .i64)) (fun _ _ => True)) _)
    (OwnFrom.and (fun _ X Y row hs hg hr => ⟨boxed_own w.heap.size 32 (fun (_ : Unit) => v) () X Y row hs.1 hg (fun r e => (hr r e).2), boxed_own (w.heap.size + 1) 63 (fun (_ : Unit) => vr) () X Y row hs.2.1 hg (fun r e => (hr r e).2), boxed_own (w.heap.size + 4) 3 (fun (_ : Unit) => Value.int .i64 most) () X Y row hs.2.2 hg (fun r e => (hr r e).2)⟩)
      (ownFrom_below (Nat.le_refl _) hB))
theorem ConsI.deep {w V V' : World} {v vr : Value} {most : Int} {L : List Int} (h : ConsI w v vr most L V) (hb : Below V.heap.size V V') : ConsI w v vr most L V' := by
  obtain ⟨⟨s, bS, oS, ht⟩, ⟨bP, bR, bM⟩, hB⟩ := h
  exact ⟨⟨s, boxedDeep bS hb, owns_deep oS hb, ht⟩, ⟨boxedDeep bP hb, boxedDeep bR hb, boxedDeep bM hb⟩, below_up hB hb⟩

/-- Behind an append to the list: ahead of the store the box still holds the old list; behind it all is kept. -/
theorem consAppend {w V w5 : World} {v vr s v' : Value} {most x : Int} {L : List Int} {tmp : Obj} (bS : Boxed V (w.heap.size + 2) 32 s) (oS : V.ownsRow (w.heap.size + 5) 3 1 s L.length (L.map (Value.int .i64)))
    (bP : Boxed V w.heap.size 32 v) (bR : Boxed V (w.heap.size + 1) 63 vr) (bM : Boxed V (w.heap.size + 4) 3 (.int .i64 most)) (hB : Below w.heap.size w V)
    (hown : w5.ownsRow (w.heap.size + 5) 3 1 v' (L.length + 1) (L.map (Value.int .i64) ++ [.int .i64 x])) (hgrow : (V.alloc tmp).grownBy w5 s.ownBlock) :
    Boxed w5 (w.heap.size + 2) 32 s ∧ KeepsOthers V (w5.setCell ⟨w.heap.size + 2, 0, none⟩ v') ∧ SameBlk (w.heap.size + 4) V (w5.setCell ⟨w.heap.size + 2, 0, none⟩ v') ∧ ConsI w v vr most (L ++ [x]) (w5.setCell ⟨w.heap.size + 2, 0, none⟩ v') := by
  have ne : ∀ b, b < w.heap.size + 5 → some b ≠ s.ownBlock := fun b hb e => by have := (oS.lt b e.symm).1; omega
  have ne' : ∀ b, b < w.heap.size + 5 → v'.ownBlock ≠ some b := fun b hb e => by have := (hown.lt b e).1; omega
  have S1 := (bS.alloc tmp).kept hgrow (ne _ (by omega))
  have P1 := ((bP.alloc tmp).kept hgrow (ne _ (by omega))).other (B' := w.heap.size + 2) (by omega) v'
  have R1 := ((bR.alloc tmp).kept hgrow (ne _ (by omega))).other (B' := w.heap.size + 2) (by omega) v'
  have M1 := ((bM.alloc tmp).kept hgrow (ne _ (by omega))).other (B' := w.heap.size + 2) (by omega) v'
  refine ⟨S1, ?_, Eq.trans M1 (Eq.symm bM), ⟨v', S1.set v', ?_, trivial⟩, ⟨P1, R1, M1⟩, ?_⟩
  · refine ((KeepsOthers.alloc V tmp).trans (KeepsOthers.of_grownBy hgrow fun j o ej hj => ?_)).trans (KeepsOthers.setCell _ _ _)
    rcases (oS.alloc tmp).2 with ⟨rfl, _⟩ | ⟨g, cap, cur, rfl, _, hgb, _⟩
    · simp [Value.ownBlock] at ej
    · obtain rfl : g = j := by simpa [Value.ownBlock] using ej
      rw [hgb] at hj; cases hj; rfl
  · have := hown.kept (grownBy_setCell' w5 (w.heap.size + 2) v') (.inr (ne' _ (by omega)))
    simpa using this
  · exact ((hB.alloc hB.size tmp).grown hgrow (by have := hB.size; simp; omega) fun j ej => by have := (oS.lt j ej).1; omega).setCell (p := ⟨w.heap.size + 2, 0, none⟩) (by simp) v'

set_option maxRecDepth 100000 in
set_option maxHeartbeats 4000000 in
theorem implConsYes (n : Int) (v vr : Value) (P : List Int) (R : List Bool) (most : Int) (w : World) (h : IntsAt w v P) (hr : BoolsAt w vr R) (hm : P.length ≤ 1048576) (hok : rokB n P R = true) :
    CallsIn Fence.wide 12 Tryd.prog 42 #[.int .i64 n, v, vr, .int .i64 most] w (ListsI2 (consL n P R most) w) := by
  obtain ⟨i0, hi, hz0, hz1, hz2⟩ := info_parts infoIntA
  have HP := (rok_pools hok).1
  have hq : poolsB n P = true := by unfold rokB at hok; rw [Bool.and_eq_true] at hok; exact hok.1
  obtain ⟨⟨n1, n10⟩, -, -⟩ := pools_in hq
  clear hq
  have hF := fit_cons n P R most
  rw [← hF]
  clear hF
  obtain ⟨N, hN⟩ : ∃ N : Nat, 2 ^ n.toNat = N := ⟨_, rfl⟩
  rw [hN]
  have HK := Lib.hid (fun W (h : IntsAt W v P) => implResultsOk n v vr P R W h)
  rw [hok] at HK
  clear hok
  have HRS : Hid (∀ (x : Nat) W, x ≤ 1023 → IntsAt W v P → Calls Tryd.prog 97 #[v, .int .i64 (x : Nat)] W (ListsB (resL P (x : Nat)) W)) := fun x W hx hW => implResults v P (x : Nat) W hW hm HP (by omega) (by omega)
  have HEQ : Hid (∀ (x : Nat) u W, BoolsAt W u (resL P (x : Nat)) → BoolsAt W vr R → Calls Tryd.prog 100 #[u, vr] W fun e w' => e = .returned (.bool (resL P (x : Nat) == R)) ∧ ∃ m, w' = W.drewN m) := fun x u W hu hW => implEqualB u vr _ R W hu hW (by rw [resL_len]; omega)
  have H := Lib.hid h
  have HR := Lib.hid hr
  obtain ⟨a, c, hv, -⟩ := h
  obtain ⟨a2, c2, hvr, -⟩ := hr
  unfold ListsB at HRS
  -- the worlds ahead of the loop
  have P0 := Boxed.new w 32 v
  have B1 := alloc_below w (.cells #[v] 32)
  have s1 : (w.alloc (.cells #[v] 32)).heap.size = w.heap.size + 1 := by simp
  generalize hX1 : w.alloc (.cells #[v] 32) = X1 at P0 B1 s1
  have R0 := Boxed.new X1 63 vr
  have B2 := alloc_below X1 (.cells #[vr] 63)
  have s2 : (X1.alloc (.cells #[vr] 63)).heap.size = w.heap.size + 2 := by simp [s1]
  have P1 := P0.alloc (.cells #[vr] 63)
  rw [s1] at R0
  generalize hX2 : X1.alloc (.cells #[vr] 63) = X2 at P1 R0 B2 s2
  have D2 := below_up B1 B2
  have e0 := P1.cell
  have e1 := R0.cell
  have HK2 := Lib.hid (HK.out X2 (H.out.below D2) (HR.out.below D2) hm)
  have S0 := Boxed.new X2 32 (.slice none 0 0)
  have B3 := alloc_below X2 (.cells #[.slice none 0 0] 32)
  have s3 : (X2.alloc (.cells #[.slice none 0 0] 32)).heap.size = w.heap.size + 3 := by simp [s2]
  have P2 := P1.alloc (.cells #[.slice none 0 0] 32)
  have R1 := R0.alloc (.cells #[.slice none 0 0] 32)
  rw [s2] at S0
  generalize hX3 : X2.alloc (.cells #[.slice none 0 0] 32) = X3 at P2 R1 S0 B3 s3
  have D3 := below_up D2 B3
  subst hv hvr
  refine callsIn_of_wp_marks Tryd.func42 rfl trivial ?_ rfl
  simp only [Tryd.ntmps42, List.size_toArray, List.length_cons, List.length_nil, Nat.reduceAdd, Nat.reduceSub, Array.replicate_succ, Array.replicate_zero, List.push_toArray, List.append_toArray, List.nil_append, List.cons_append]
  gi_wp2_with (first
    | (refine ⟨trivial, ?_⟩; gi_at_call 98; refine (callsIn_wide.2 HK2.out).mono ?_; rintro e w1 ⟨rfl, rfl⟩)
    | (refine ⟨trivial, ?_⟩; gi_at_call 99; refine (setsOf_in Fence.wide _ trivial rfl _ _ _).mono ?_; rintro e w' ⟨rfl, rfl⟩))
  have N0 := Boxed.new X3 3 (.int .i64 n)
  have B4 := alloc_below X3 (.cells #[.int .i64 n] 3)
  have s4 : (X3.alloc (.cells #[.int .i64 n] 3)).heap.size = w.heap.size + 4 := by simp [s3]
  have P3 := P2.alloc (.cells #[.int .i64 n] 3)
  have R2 := R1.alloc (.cells #[.int .i64 n] 3)
  have S1 := S0.alloc (.cells #[.int .i64 n] 3)
  rw [s3] at N0
  generalize hX4 : X3.alloc (.cells #[.int .i64 n] 3) = X4 at N0 P3 R2 S1 B4 s4 ⊢
  have D4 := below_up D3 B4
  have M0 := Boxed.new X4 3 (.int .i64 most)
  have B5 := alloc_below X4 (.cells #[.int .i64 most] 3)
  have s5 : (X4.alloc (.cells #[.int .i64 most] 3)).heap.size = w.heap.size + 5 := by simp [s4]
  have P4 := P3.alloc (.cells #[.int .i64 most] 3)
  have R3 := R2.alloc (.cells #[.int .i64 most] 3)
  have S2 := S1.alloc (.cells #[.int .i64 most] 3)
  have N1 := N0.alloc (.cells #[.int .i64 most] 3)
  rw [s4] at M0
  generalize hX5 : X4.alloc (.cells #[.int .i64 most] 3) = X5 at N1 M0 P4 R3 S2 B5 s5 ⊢
  have D5 := below_up D4 B5
  have HI0 : ConsI w (.slice a P.length c) (.slice a2 R.length c2) most [] X5 := ⟨⟨_, S2, World.ownsRow_nil _ _ _ _, trivial⟩, ⟨P4, R3, M0⟩, D5⟩
  refine wpIn_rangeFunc_ownF rfl (by omega) (gf := 132) (lb := #[.pointer (some ⟨w.heap.size + 3, 0, none⟩), .pointer (some ⟨w.heap.size + 3 + 1, 0, none⟩)]) rfl trivial (enters_of Tryd.func132 (by kernel_rfl) rfl)
    (sets_stops 11 (by omega) (w.heap.size + 3) (w.heap.size + 3 + 1) n most n1 n10 N hN _ N1 M0) (fun h k => sameBlk_t h k) (sameBlk_b (by omega)) (Below.refl _ _) (fun _ => rfl)
    (fun pre V => ConsI w (.slice a P.length c) (.slice a2 R.length c2) most (fitL P R (sets0 pre)) V)
    (fun _ _ _ => False)
    (consI_own (by omega))
    (fun _ _ _ _ _ hs _ _ => hs)
    HI0
    (fun x => { tmps := #[.int .i64 n, .slice a P.length c, .slice a2 R.length c2, .int .i64 most, undef, .pointer (some ⟨w.heap.size, 0, none⟩), .pointer (some ⟨w.heap.size + 1, 0, none⟩), undef, .slice none 0 0, .pointer (some ⟨w.heap.size + 2, 0, none⟩), .int .i64 (x.1 : Nat), .int .i64 n, .slice a P.length c, .slice a2 R.length c2, .bool true, .bool false, .int .i64 n, .int .i64 most, .func (.func 132) #[] #[.pointer (some ⟨w.heap.size + 3, 0, none⟩), .pointer (some ⟨w.heap.size + 3 + 1, 0, none⟩)], .int .i64 (x.1 : Nat), undef, undef, undef, undef, undef, undef, undef, undef, undef, undef], defers := [] }) ?assign ?body ?done ?stop
  case assign =>
    intro l x W K hK
    gi_wp2
    exact hK
  case body =>
    rintro l pre x V hI hlen
    have HI := Lib.hid hI
    obtain ⟨-, ⟨bP, bR, bM⟩, hB⟩ := hI
    have hVs : Hid (w.heap.size + 4 < V.heap.size) := bM.lt
    have bd : Below V.heap.size V V.drew := (Below.refl V.heap.size V).drew
    have e0 := Boxed.cell bP
    have e1 := Boxed.cell bR
    have HBR := Lib.hid bR
    have CR := Lib.hid (HRS.out x.1 V.drew x.2 ((H.out.below hB).below bd))
    have HRV := Lib.hid (HR.out.below hB)
    have HS := Lib.hid (fit_snoc P R pre x)
    have HQ := Lib.hid (fun u W hu hW => HEQ.out x.1 u W hu hW)
    have HL : Hid ((fitL P R (sets0 pre)).length < 1024) := by have := fit_len P R (sets0 pre); rw [sets0_len] at this; unfold Hid; omega
    have hn2 : 1 ≤ 12 - 1 - 1 := by omega
    clear bP bR bM hB bd HRS HEQ HK2 HK
    generalize resL P (x.1 : Nat) = rx at CR HS HQ
    obtain ⟨L2, hL2⟩ : ∃ L2, fitL P R (sets0 (pre ++ [x])) = L2 := ⟨_, rfl⟩
    rw [hL2] at HS
    have HL2 := Lib.hid hL2
    clear hL2
    generalize fitL P R (sets0 pre) = L at HS HI HL
    generalize (rx == R) = sb at HS HQ
    gi_wp2
    gi_region_with (first
      | (refine ⟨trivial, ?_⟩; gi_at_call 97; refine (CallsIn.inRound l (callsIn_wide.2 CR.out)).mono ?_; rintro e w3 ⟨u, rfl, ou, bb⟩; have HU := Lib.hid ou.reads; have b3 : Below V.heap.size V w3 := (Below.refl V.heap.size V).drew.trans bb; have e3 := Boxed.cell (boxedDeep HBR.out b3); have HB3 := Lib.hid b3; clear ou bb b3)
      | (refine ⟨trivial, ?_⟩; gi_at_call 100; refine (CallsIn.inRound l (callsIn_wide.2 (HQ.out _ _ HU.out (HRV.out.below HB3.out)))).mono ?_; rintro e w4 ⟨rfl, m4, rfl⟩)
      | fail)
    all_goals
      have HB4 : Hid (Below V.heap.size V (w3.drewN m4)) := below_drewN HB3.out m4
      have HI4 := Lib.hid (HI.out.deep HB4.out)
      clear e3 HB3 HU HQ CR HRV HBR e0 e1 HI
      generalize w3.drewN m4 = V4 at HB4 HI4 ⊢
      cases sb with
      | false =>
        rw [if_neg (by simp)] at HS
        gi_wp2
        refine ⟨keepsOthers_belowC HB4.out, HB4.out.block _ hVs.out, ?_⟩
        show ConsI w _ _ most (fitL P R (sets0 (pre ++ [x]))) _
        rw [HL2.out, HS.out]
        exact HI4.out
      | true =>
        rw [if_pos rfl] at HS
        obtain ⟨⟨s, bS, oS, -⟩, ⟨bP, bR, bM⟩, hB⟩ := HI4.out
        have hc := bS.cell
        have hL := HL.out
        have hBs : w.heap.size + 5 ≤ V4.heap.size := by have := HB4.out.size; have := hVs.out; omega
        gi_wp2_with (gi_at_builtin; refine wpListIn_append_own _ rfl _ _ 32 rfl (w.heap.size + 5) 3 i0 (.int .i64 0) 1 8 Tryd.underlying32 hi hz0 hz1 hz2 rfl (by decide) _ _ _ rfl (oS.alloc _) ⟨V4.heap.size, 0, none⟩ 1 1 [.int .i64 (x.1 : Nat)] rfl rfl (cell_one_new _ _ _) (by simp [Value.oneCell']) (by unfold maxLen; omega) (by omega) (by simp; omega) ?_; intro v' w5 hown' hgrow _; obtain ⟨g', cap', rfl⟩ := ownsRow_succ hown'; obtain ⟨hv1, hk2, hsb, hci⟩ := consAppend bS oS bP bR bM hB hown' hgrow; have hc1 := hv1.cell; have hf1 := hv1.frozen; have HEND := Lib.hid (And.intro hk2 (And.intro hsb hci)); clear hk2 hsb hci)
        refine ⟨(keepsOthers_belowC HB4.out).trans HEND.out.1, sameBlk_t (HB4.out.block _ hVs.out) HEND.out.2.1, ?_⟩
        show ConsI w _ _ most (fitL P R (sets0 (pre ++ [x]))) _
        rw [HL2.out, HS.out]
        exact HEND.out.2.2
  case done =>
    rintro D ys W hD hys hI hK
    have HF : Hid (fitL P R (sets0 ys) = fitL P R (setsK most N)) := by unfold Hid; rw [hys]
    have HI := Lib.hid hI
    obtain ⟨⟨s, bS, oS, -⟩, -, hB⟩ := hI
    have hc := bS.cell
    have HB := Lib.hid hB
    have HO := Lib.hid oS
    clear bS oS hB HK HK2
    gi_wp2
    refine ⟨by simp, .inl ⟨_, _, rfl, run_takeDeferred hK, ?_⟩⟩
    refine ⟨_, results_tmp rfl _ _ _, s, rfl, ?_, ?_⟩
    · have h1 := ownsRow_putObj HO.out (.deferred none) hK rfl
      rw [HF.out] at h1
      exact Own.lower h1 (by omega)
    · exact HB.out.trans (belowK_b (w := w) (Nat.le_refl _) W D _ _ (by omega) hK rfl rfl)
  case stop =>
    rintro D c pre W _ _ h _
    exact h.elim

set_option maxRecDepth 100000 in
set_option maxHeartbeats 1600000 in
theorem implConsNo (n : Int) (v vr : Value) (P : List Int) (R : List Bool) (most : Int) (w : World) (h : IntsAt w v P) (hr : BoolsAt w vr R) (hm : P.length ≤ 1048576) (hok : rokB n P R = false) :
    Calls Tryd.prog 42 #[.int .i64 n, v, vr, .int .i64 most] w (ListsI2 [] w) := by
  have HK := Lib.hid (fun W (h : IntsAt W v P) => implResultsOk n v vr P R W h)
  rw [hok] at HK
  have B1 := alloc_below w (.cells #[v] 32)
  have P0 := (Boxed.new w 32 v).alloc (.cells #[vr] 63)
  have R0 := Boxed.new (w.alloc (.cells #[v] 32)) 63 vr
  have s1 : (w.alloc (.cells #[v] 32)).heap.size = w.heap.size + 1 := by simp
  rw [s1] at R0
  have D2 := below_up B1 (alloc_below _ (.cells #[vr] 63))
  have HK2 := Lib.hid (HK.out _ (h.below D2) (hr.below D2) hm)
  have e0 := P0.cell
  have e1 := R0.cell
  have DD := Lib.hid D2
  obtain ⟨a, c, rfl, -⟩ := h
  obtain ⟨a2, c2, rfl, -⟩ := hr
  clear B1 D2 HK s1
  unfold ListsI2
  go_enter Tryd.func42, Tryd.ntmps42
  go_wp2_with fail
  refine HK2.out.mono ?_
  rintro e w1 ⟨rfl, rfl⟩
  go_wp2
  go_ret
  exact ⟨_, rfl, Own.nil _ _, DD.out⟩
theorem implCons (n : Int) (v vr : Value) (P : List Int) (R : List Bool) (most : Int) (w : World) (h : IntsAt w v P) (hr : BoolsAt w vr R) (hm : P.length ≤ 1048576) :
    Calls Tryd.prog 42 #[.int .i64 n, v, vr, .int .i64 most] w (ListsI2 (consR n P R most) w) := by
  cases hok : rokB n P R with
  | true =>
    have hq : poolsB n P = true := by unfold rokB at hok; rw [Bool.and_eq_true] at hok; exact hok.1
    have he : consR n P R most = consL n P R most := by unfold consR; rw [if_pos hq]
    rw [he]
    exact (callsIn_wide (n := 12)).1 (implConsYes n v vr P R most w h hr hm hok)
  | false =>
    rw [cons_none hok]
    exact implConsNo n v vr P R most w h hr hm hok
end Go.Proofs.YtlflblngbneacabDoor
