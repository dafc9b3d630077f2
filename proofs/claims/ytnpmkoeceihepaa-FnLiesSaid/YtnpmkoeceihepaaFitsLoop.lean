/- The contracts of the program's FitsAfter and IsFound. Conditions: the slices read as integers and as truth values, and are short enough to be counted. -/
import Derived.Test.YtnpmkoeceihepaaFitsImpl
import Derived.BigQuiet
namespace Go.Proofs.Ytnpmkoeceihepaa
open Go.RowKit Go.Conc

/-- What an operation of a select of two receives that hold something leads to. -/
theorem opsN_select {P : Program} {Q : Exit → Act → World → Prop} {a : Act} {w : World} {ops : Array Oper} {i : Nat} {rest : List Nat} {o : Oper} {c c' cap : Nat} {z z' : Value} {L L' : List Int} {w' : World} (ho : ops[i]? = some o) (hw : Region.wanted o (yielded ops a.tmps) = true)
    (hr : (execOp a.eval o).run P w = .ok (.comm #[rcase c z, rcase c' z'] true .select) w') (hc : ChanAt w' c cap L) (hc' : ChanAt w' c' cap L') (hsome : L ≠ [] ∨ L' ≠ [])
    (h0 : ∀ x M W, L = x :: M → Below w'.heap.size w' W → W.heap.size = w'.heap.size → ∀ s r, OpsN P ops Q rest (a.put o.dst (.tuple #[goInt 0, .bool true, .int .i64 x, z'])) (W.setChan c cap (M.map (Value.int .i64)).toArray false s r false))
    (h1 : ∀ x M W, L' = x :: M → Below w'.heap.size w' W → W.heap.size = w'.heap.size → ∀ s r, OpsN P ops Q rest (a.put o.dst (.tuple #[goInt 1, .bool true, z, .int .i64 x])) (W.setChan c' cap (M.map (Value.int .i64)).toArray false s r false)) : OpsN P ops Q (i :: rest) a w := by
  obtain ⟨s, r, hc⟩ := hc
  obtain ⟨s', r', hc'⟩ := hc'
  have ex : ∀ (x : Int) (M : List Int), ((x :: M).map (Value.int .i64)).toArray.extract 1 ((x :: M).map (Value.int .i64)).toArray.size = (M.map (Value.int .i64)).toArray := fun x M => by
    simp
    exact List.take_of_length_le (by simp)
  have gd : ∀ (x : Int) (M : List Int), ((x :: M).map (Value.int .i64)).toArray.getD 0 undef = .int .i64 x := fun x M => by simp
  have r0 : ∀ v, commResult #[rcase c z, rcase c' z'] .select ((0 : Nat) : Int) v true = .tuple #[goInt 0, .bool true, v, z'] := fun v => by
    simp [commResult, rcase, List.zipIdx_cons]
  have r1 : ∀ v, commResult #[rcase c z, rcase c' z'] .select ((1 : Nat) : Int) v true = .tuple #[goInt 1, .bool true, z, v] := fun v => by
    simp [commResult, rcase, List.zipIdx_cons]
  intro b hb k cs
  have hg := stepG_comm (main := true) (cs := cs) (k := k) (rest := rest) ho hw hb hr
  have left0 : ∀ x M W, L = x :: M → Below w'.heap.size w' W → W.heap.size = w'.heap.size → ∀ s r,
      step P (solo (G (b.at a (.inRegion ops (i :: rest) :: k)) cs) w) = .next (solo (G ((b.at a (.inRegion ops (i :: rest) :: k)).finish (.tuple #[goInt 0, .bool true, .int .i64 x, z'])) cs) (W.setChan c cap (M.map (Value.int .i64)).toArray false s r false)) →
      ∃ e a' w'', Q e a' w'' ∧ Arrives P (lone (b.at a (.inRegion ops (i :: rest) :: k)) cs w) b k cs e a' w'' := by
    intro x M W hL hB hS s r hs
    obtain ⟨e, a', w'', hq, harr⟩ := h0 x M W hL hB hS s r b hb k cs
    rw [Frame.finish_at, ho] at hs
    exact ⟨e, a', w'', hq, .of_steps (.one hs) harr⟩
  have left1 : ∀ x M W, L' = x :: M → Below w'.heap.size w' W → W.heap.size = w'.heap.size → ∀ s r,
      step P (solo (G (b.at a (.inRegion ops (i :: rest) :: k)) cs) w) = .next (solo (G ((b.at a (.inRegion ops (i :: rest) :: k)).finish (.tuple #[goInt 1, .bool true, z, .int .i64 x])) cs) (W.setChan c' cap (M.map (Value.int .i64)).toArray false s r false)) →
      ∃ e a' w'', Q e a' w'' ∧ Arrives P (lone (b.at a (.inRegion ops (i :: rest) :: k)) cs w) b k cs e a' w'' := by
    intro x M W hL hB hS s r hs
    obtain ⟨e, a', w'', hq, harr⟩ := h1 x M W hL hB hS s r b hb k cs
    rw [Frame.finish_at, ho] at hs
    exact ⟨e, a', w'', hq, .of_steps (.one hs) harr⟩
  have BD : Below w'.heap.size w' w'.drew := (Below.refl _ _).drew
  cases L with
  | nil =>
    cases L' with
    | nil => simp at hsome
    | cons y M' =>
      have hs := step_lone_sel_recv_buf (k := 1) hg rfl (fun m cc hm hcc => by
        rcases m with _ | _ | m
        · simp only [List.getElem?_toArray, List.getElem?_cons_zero, Option.some.injEq] at hcc
          subst hcc
          exact noWay_recv hc
        · exact absurd rfl hm
        · simp at hcc) hc' (by simp)
      rw [ex, gd, r1] at hs
      exact left1 y M' w' rfl (Below.refl _ _) rfl _ _ hs
  | cons x M =>
    cases L' with
    | nil =>
      have hs := step_lone_sel_recv_buf (k := 0) hg rfl (fun m cc hm hcc => by
        rcases m with _ | _ | m
        · exact absurd rfl hm
        · simp only [List.getElem?_toArray, List.getElem?_cons_succ, List.getElem?_cons_zero, Option.some.injEq] at hcc
          subst hcc
          exact noWay_recv hc'
        · simp at hcc) hc (by simp)
      rw [ex, gd, r0] at hs
      exact left0 x M w' rfl (Below.refl _ _) rfl _ _ hs
    | cons y M' =>
      rcases step_select_both hg hc hc' (by simp) (by simp) with hs | hs
      · rw [ex, gd] at hs
        exact left0 x M w'.drew rfl BD rfl _ _ hs
      · rw [ex, gd] at hs
        exact left1 y M' w'.drew rfl BD rfl _ _ hs
/-- What is true of a channel of which one was taken. -/
theorem ChanAt.took {w : World} {c cap s r : Nat} {L : List Int} (hc : c < w.heap.size) : ChanAt (w.setChan c cap (L.map (Value.int .i64)).toArray false s r false) c cap L := ⟨s, r, heap_setChan _ _ _ _ _ _ _ _ hc⟩

theorem VarAt.chan {w : World} {b c cap : Nat} {x y : Value} {buf : Array Value} {s r : Nat} (h : VarAt w b x y) (hne : b ≠ c) : VarAt (w.setChan c cap buf false s r false) b x y := by
  have e : (w.setChan c cap buf false s r false).heap[b]? = w.heap[b]? := by simp only [World.setChan]; rw [Array.getElem?_setIfInBounds_ne (Ne.symm hne)]
  obtain ⟨⟨e0, e1, hl⟩, f0, f1⟩ := h
  exact ⟨⟨(World.cell?_of_block (a := ⟨b, 0, none⟩) e).trans e0, (World.cell?_of_block (a := ⟨b, 1, none⟩) e).trans e1, by rw [size_setChan]; exact hl⟩, (World.frozen?_of_block (a := ⟨b, 0, none⟩) e).trans f0, (World.frozen?_of_block (a := ⟨b, 1, none⟩) e).trans f1⟩
theorem ChanAt.set {w : World} {c cap f o : Nat} {L : List Int} {v : Value} (h : ChanAt w c cap L) (hne : c ≠ f) : ChanAt (w.setCell ⟨f, o, none⟩ v) c cap L := by
  obtain ⟨s, r, h⟩ := h
  exact ⟨s, r, (Below.heap_setCell w ⟨f, o, none⟩ v c hne).trans h⟩

set_option maxRecDepth 100000 in
set_option maxHeartbeats 3200000 in
theorem implFits (n : Int) (P : List Int) (R : List Bool) (hm : P.length ≤ 1048576) : FitsAfterIs 20 n P R := by
  intro w v vr h hr
  have CK := Lib.hid (implAsksOk n v vr P R w h hr hm)
  have HF : Hid (asksB n P R = false → fitI n P R 0 = 0 ∧ fitI n P R 1 = 0) := fun h => by unfold fitI; rw [h]; exact ⟨rfl, rfl⟩
  have HT : Hid (asksB n P R = true → (1 ≤ n ∧ n ≤ 8) ∧ P.length ≤ 8 ∧ R.length = P.length ∧ ∀ p ∈ P, 0 ≤ p ∧ p ≤ (2 : Int) ^ n.toNat - 1) := fun h => by
    have hi := asks_in h
    refine ⟨hi.1, hi.2.1, hi.2.2.1, fun p hp => ?_⟩
    unfold asksB at h
    simp only [Bool.and_eq_true] at h
    have := List.all_eq_true.1 h.2 p hp
    unfold poolB topI at this
    simpa using this
  have HE : Hid (asksB n P R = true → ∀ x y, LeftIs n.toNat (fun i => cy (yesL P R P.length) i + cn (noL P R P.length) i) x y → x = fitI n P R 0 ∧ y = fitI n P R 1) := fun h x y hl => hl.fits h
  have H := Lib.hid h
  have HR := Lib.hid hr
  generalize fitI n P R 0 = r0 at HF HE ⊢
  generalize fitI n P R 1 = r1 at HF HE ⊢
  generalize asksB n P R = ok at CK HF HT HE
  obtain ⟨a0, k0, rfl, -⟩ := h
  obtain ⟨a1, k1, rfl, -⟩ := hr
  cases ok with
  | false =>
    obtain ⟨rfl, rfl⟩ := HF.out rfl
    clear HT HE
    go_enter Try.func20, Try.ntmps20
    go_wp2_with fail
    refine (CK.out).mono ?_
    rintro e w1 ⟨rfl, b1⟩
    go_wp2
    go_ret2
    exact ⟨rfl, b1⟩
  | true =>
    obtain ⟨⟨n1, n8⟩, p8, hl, hP⟩ := HT.out rfl
    have HX := Lib.hid (HE.out rfl)
    have HP := Lib.hid hP
    clear HF HT HE hP
    have CA := Lib.hid (fun V => implAll n n1 (by omega) V)
    have CB := Lib.hid (fun V h1 h2 => implByAnswer (.slice a0 P.length k0) (.slice a1 R.length k1) P R V h1 h2 p8 hl)
    rw [hl] at CK CB HR ⊢
    obtain ⟨l, hll⟩ : ∃ l, P.length = l := ⟨_, rfl⟩
    have HL := Lib.hid hll
    rw [hll] at CK CB p8 H HR ⊢
    clear hll hl
    refine calls_of_wpn Try.func20 rfl ?_
    simp only [Try.ntmps20, List.size_toArray, List.length_cons, List.length_nil, Nat.reduceAdd, Nat.reduceSub, Array.replicate_succ,
       Array.replicate_zero, List.push_toArray, List.append_toArray, List.nil_append, List.cons_append]
    refine wpn_seq_k (fun K hK => ?_)
    go_wp2
    refine wpn_seq_k (fun K hK => ?_)
    go_wp2_with fail
    refine (CK.out).mono ?_
    rintro e w1 ⟨rfl, b1⟩
    have B1 := Lib.hid b1
    clear b1 CK
    go_wp2_with fail
    refine wpn_seq_k (fun K hK => ?_)
    go_wp2_with fail
    refine (CA.out _).mono ?_
    rintro e w2 ⟨rfl, rfl⟩
    clear CA
    go_wp2_with fail
    have F3 := Lib.hid (VarAt.new w1 43 (.int .i64 (topI n)) (.int .i64 0))
    have B3 := Lib.hid (below_up B1.out (alloc_below w1 (.cells #[.int .i64 (topI n), .int .i64 0] 43)))
    have hf : w.heap.size ≤ w1.heap.size := B1.out.size
    refine wpn_seq_k (fun K hK => ?_)
    go_wp2_with fail
    generalize w1.alloc (.cells #[.int .i64 (topI n), .int .i64 0] 43) = X3 at F3 B3 ⊢
    generalize w1.heap.size = f at F3 hf ⊢
    refine wpn_seq_k (fun K hK => ?_)
    go_wp2_with fail
    refine (CB.out _ (H.out.below B3.out) (HR.out.below B3.out)).mono ?_
    rintro e w4 ⟨c, c', rfl, ⟨hc1, hc2, hcc⟩, hch1, hch2, b4⟩
    have hfX := F3.out.1.2.2
    have F4 := Lib.hid (F3.out.below b4)
    have B4 := Lib.hid (below_up B3.out b4)
    have C1 := Lib.hid hch1
    have C2 := Lib.hid hch2
    clear b4 F3 B3 B1 hch1 hch2 CB
    have hfc : f ≠ c ∧ f ≠ c' := by omega
    have hwc : w.heap.size ≤ c ∧ w.heap.size ≤ c' := by omega
    clear hc1 hc2 hfX
    go_wp2_with fail
    have HTT : Hid (topI n = (2 : Int) ^ n.toNat - 1) := rfl
    generalize topI n = T at HTT F4 ⊢
    have L4 : Hid (LeftIs n.toNat (fun i => cy [] i + cn [] i) T 0) := by unfold Hid; rw [HTT.out]; exact LeftIs.start
    refine wpn_seq ?_
    refine wpn_seq_k (fun K hK => ?_)
    go_wp2_with fail
    refine wpn_block ?_
    obtain ⟨I, hI⟩ : ∃ I : Act → World → Prop, I = (fun a X => ∃ (i : Nat) (x y : Int) (Y1 Y2 N1 N2 : List Int) (u12 u13 u32 u33 u34 u35 u36 u37 u38 u39 u40 u41 u42 u43 u44 u45 u46 u47 u48 u49 : Value), a = ⟨#[.int .i64 n, .slice a0 l k0, .slice a1 l k1, undef, undef, undef, .int .i64 0, .int .i64 0, .int .i64 T, .pointer (some ⟨f, 0, none⟩), .chan (some c), .chan (some c'), u12, u13, .int .i64 n, .slice a0 l k0, .slice a1 l k1, .bool true, .bool false, .int .i64 n, .int .i64 T, .int .i64 T, .agg #[.int .i64 T, .int .i64 0], .tuple #[.chan (some c), .chan (some c')], .slice a0 l k0, .slice a1 l k1, .tuple #[.chan (some c), .chan (some c')], .chan (some c), .chan (some c'), .slice a0 l k0, .int .i64 l, .int .i64 i, u32, u33, u34, u35, u36, u37, u38, u39, u40, u41, u42, u43, u44, u45, u46, u47, u48, u49, undef, undef, undef, undef], []⟩ ∧ i ≤ l ∧ Hid (yesL P R l = Y1 ++ Y2 ∧ noL P R l = N1 ++ N2 ∧ Y1.length + N1.length = i) ∧ Hid (LeftIs n.toNat (fun i => cy Y1 i + cn N1 i) x y) ∧ Hid (ChanAt X c l Y2) ∧ Hid (ChanAt X c' l N2) ∧ Hid (VarAt X f (.int .i64 x) (.int .i64 y)) ∧ Hid (Below w.heap.size w X)) := ⟨_, rfl⟩
    obtain ⟨M, hM⟩ : ∃ M : Act → World → Nat, M = (fun a _ => l - (intOf (a.tmps.getD 31 undef)).toNat) := ⟨_, rfl⟩
    refine wpn_loop I M ?_ ?_
    · rw [hI]
      exact ⟨0, T, 0, [], _, [], _, undef, undef, undef, undef, undef, undef, undef, undef, undef, undef, undef, undef, undef, undef, undef, undef, undef, undef, undef, undef, rfl, Nat.zero_le _, ⟨rfl, rfl, rfl⟩, L4, C1, C2, F4, B4⟩
    · intro fa X hX
      rw [hI] at hX
      obtain ⟨i, x, y, Y1, Y2, N1, N2, u12, u13, u32, u33, u34, u35, u36, u37, u38, u39, u40, u41, u42, u43, u44, u45, u46, u47, u48, u49, rfl, hi, HS, HL4, C1, C2, F4, B4⟩ := hX
      have HI := Lib.hid hI
      have HM := Lib.hid hM
      clear hI hM L4
      refine wpn_seq_k (fun K1 hK1 => ?_)
      go_wp2_with fail
      by_cases hlt : i < l
      · have i1 : (i : Int) < (l : Int) := by omega
        have hsome : Y2 ≠ [] ∨ N2 ≠ [] := by
          have h3 := yes_no_len P R l
          rw [HS.out.1, HS.out.2.1, List.length_append, List.length_append] at h3
          have h4 := HS.out.2.2
          rcases Y2 with _ | ⟨a, b⟩
          · rcases N2 with _ | ⟨a, b⟩
            · simp at h3; omega
            · exact .inr (by simp)
          · exact .inl (by simp)
        refine wpn_seq ?_
        refine wpn_of_wp ?_
        go_wp2_with fail
        refine wpn_seq ?_
        refine wpn_block ?_
        refine wpn_seq ?_
        refine wpn_of_wp ?_
        go_wp2_with fail
        refine wpn_seq ?_
        refine wpn_region ?_
        show OpsN _ _ _ [0, 1, 2, 3] _ _
        refine opsN_select (c := c) (c' := c') (cap := l) (z := .int .i64 0) (z' := .int .i64 0) (L := Y2) (L' := N2) (w' := X) rfl rfl (by simp [go_sem, execOp, rcase, Act.eval]) C1.out C2.out hsome ?_ ?_
        · intro ask Y3 W hY BW SW s r
          walk_nrm
          have D1 : Hid (ChanAt (W.setChan c l (Y3.map (Value.int .i64)).toArray false s r false) c l Y3) := ChanAt.took (by rw [SW]; exact C1.out.lt)
          have D2 : Hid (ChanAt (W.setChan c l (Y3.map (Value.int .i64)).toArray false s r false) c' l N2) := (C2.out.below BW).other hcc _ _ _
          have F5 : Hid (VarAt (W.setChan c l (Y3.map (Value.int .i64)).toArray false s r false) f (.int .i64 x) (.int .i64 y)) := (F4.out.below BW).chan hfc.1
          have B5 : Hid (Below w.heap.size w (W.setChan c l (Y3.map (Value.int .i64)).toArray false s r false)) := below_setChan (below_up B4.out BW) hwc.1 _ _ _ _ _ _
          have hmem : ask ∈ P := yes_mem l (by rw [HL.out]; exact Nat.le_refl _) (by rw [HS.out.1, hY]; simp)
          have hp := HP.out ask hmem
          have HS2 : Hid (yesL P R l = (Y1 ++ [ask]) ++ Y3 ∧ noL P R l = N1 ++ N2 ∧ (Y1 ++ [ask]).length + N1.length = i + 1) := ⟨by rw [HS.out.1, hY]; simp, HS.out.2.1, by have := HS.out.2.2; simp; omega⟩
          have HL5 : Hid (LeftIs n.toNat (fun i => cy (Y1 ++ [ask]) i + cn N1 i) (bits .and .i64 x ask) (bits .or .i64 (bits .and .i64 y ask) (bits .andNot .i64 x ask))) := HL4.out.yes (by omega) hp.1 hp.2
          generalize W.setChan c l (Y3.map (Value.int .i64)).toArray false s r false = Z at D1 D2 F5 B5 ⊢
          clear hmem hp hY BW SW HS HL4 C1 C2 F4 B4 hsome
          refine opsN_value (v := .int .i64 0) (w' := Z) rfl rfl (by simp [go_sem, execOp, Act.eval]) ?_
          walk_nrm
          refine opsN_value (v := .bool true) (w' := Z) rfl rfl (by simp [go_sem, execOp, Act.eval]) ?_
          walk_nrm
          refine opsN_value (v := .bool false) (w' := Z) rfl rfl (by simp [go_sem, execOp, Act.eval]) ?_
          walk_nrm
          refine opsN_of ?_
          simp only [wpOps]
          show WpN _ _ _ _ _
          refine wpn_of_wp ?_
          have CF := Lib.hid (implAfterF x y ask Z)
          obtain ⟨⟨e0, e1, -⟩, -⟩ := F5.out
          go_wp2_with fail
          refine (CF.out).mono ?_
          rintro e w6 ⟨rfl, b6⟩
          have F6 := Lib.hid (F5.out.below b6)
          have D61 := Lib.hid (D1.out.below b6)
          have D62 := Lib.hid (D2.out.below b6)
          have B6 := Lib.hid (below_up B5.out b6)
          clear b6 e0 e1 CF F5 D1 D2 B5
          obtain ⟨⟨e0, e1, hlf⟩, g0, g1⟩ := F6.out
          have U1 : Hid (VarAt ((w6.setCell ⟨f, 0, none⟩ (.int .i64 (bits .and .i64 x ask))).setCell ⟨f, 1, none⟩ (.int .i64 (bits .or .i64 (bits .and .i64 y ask) (bits .andNot .i64 x ask)))) f (.int .i64 (bits .and .i64 x ask)) (.int .i64 (bits .or .i64 (bits .and .i64 y ask) (bits .andNot .i64 x ask)))) := (F6.out.set0 _).set1 _
          have U2 : Hid (ChanAt ((w6.setCell ⟨f, 0, none⟩ (.int .i64 (bits .and .i64 x ask))).setCell ⟨f, 1, none⟩ (.int .i64 (bits .or .i64 (bits .and .i64 y ask) (bits .andNot .i64 x ask)))) c l Y3) := (D61.out.set (Ne.symm hfc.1)).set (Ne.symm hfc.1)
          have U3 : Hid (ChanAt ((w6.setCell ⟨f, 0, none⟩ (.int .i64 (bits .and .i64 x ask))).setCell ⟨f, 1, none⟩ (.int .i64 (bits .or .i64 (bits .and .i64 y ask) (bits .andNot .i64 x ask)))) c' l N2) := (D62.out.set (Ne.symm hfc.2)).set (Ne.symm hfc.2)
          have U4 : Hid (Below w.heap.size w ((w6.setCell ⟨f, 0, none⟩ (.int .i64 (bits .and .i64 x ask))).setCell ⟨f, 1, none⟩ (.int .i64 (bits .or .i64 (bits .and .i64 y ask) (bits .andNot .i64 x ask))))) := (B6.out.setCell hf _).setCell hf _
          go_wp2_with fail
          clear e0 e1 g0 g1 hlf F6 D61 D62 B6
          generalize (w6.setCell ⟨f, 0, none⟩ (.int .i64 (bits .and .i64 x ask))).setCell ⟨f, 1, none⟩ (.int .i64 (bits .or .i64 (bits .and .i64 y ask) (bits .andNot .i64 x ask))) = Y at U1 U2 U3 U4 ⊢
          refine wpn_of_wp ?_
          go_wp2
          rw [HI.out, HM.out]
          have hi1 : (i : Int) + 1 = ((i + 1 : Nat) : Int) := by omega
          rw [hi1]
          exact ⟨⟨i + 1, _, _, _, _, _, _, _, _, _, _, _, _, _, _, _, _, _, _, _, _, _, _, _, _, _, _, rfl, hlt, HS2, HL5, U2, U3, U1, U4⟩, by simp [intOf]; omega⟩
        · intro ask N3 W hN BW SW s r
          walk_nrm
          have D1 : Hid (ChanAt (W.setChan c' l (N3.map (Value.int .i64)).toArray false s r false) c l Y2) := (C1.out.below BW).other (Ne.symm hcc) _ _ _
          have D2 : Hid (ChanAt (W.setChan c' l (N3.map (Value.int .i64)).toArray false s r false) c' l N3) := ChanAt.took (by rw [SW]; exact C2.out.lt)
          have F5 : Hid (VarAt (W.setChan c' l (N3.map (Value.int .i64)).toArray false s r false) f (.int .i64 x) (.int .i64 y)) := (F4.out.below BW).chan hfc.2
          have B5 : Hid (Below w.heap.size w (W.setChan c' l (N3.map (Value.int .i64)).toArray false s r false)) := below_setChan (below_up B4.out BW) hwc.2 _ _ _ _ _ _
          have hmem : ask ∈ P := no_mem l (by rw [HL.out]; exact Nat.le_refl _) (by rw [HS.out.2.1, hN]; simp)
          have hp := HP.out ask hmem
          have HS2 : Hid (yesL P R l = Y1 ++ Y2 ∧ noL P R l = (N1 ++ [ask]) ++ N3 ∧ Y1.length + (N1 ++ [ask]).length = i + 1) := ⟨HS.out.1, by rw [HS.out.2.1, hN]; simp, by have := HS.out.2.2; simp; omega⟩
          have HL5 : Hid (LeftIs n.toNat (fun i => cy Y1 i + cn (N1 ++ [ask]) i) (bits .and .i64 x (bits .andNot .i64 T ask)) (bits .or .i64 (bits .and .i64 y (bits .andNot .i64 T ask)) (bits .andNot .i64 x (bits .andNot .i64 T ask)))) := by
            unfold Hid
            rw [HTT.out]
            exact HL4.out.no (by omega) hp.1 hp.2
          generalize W.setChan c' l (N3.map (Value.int .i64)).toArray false s r false = Z at D1 D2 F5 B5 ⊢
          clear hmem hp hN BW SW HS HL4 C1 C2 F4 B4 hsome
          refine opsN_value (v := .int .i64 1) (w' := Z) rfl rfl (by simp [go_sem, execOp, Act.eval]) ?_
          walk_nrm
          refine opsN_value (v := .bool false) (w' := Z) rfl rfl (by simp [go_sem, execOp, Act.eval]) ?_
          walk_nrm
          refine opsN_value (v := .bool true) (w' := Z) rfl rfl (by simp [go_sem, execOp, Act.eval]) ?_
          walk_nrm
          refine opsN_of ?_
          simp only [wpOps]
          show WpN _ _ _ _ _
          refine wpn_of_wp ?_
          have CF := Lib.hid (implAfterF x y (bits .andNot .i64 T ask) Z)
          obtain ⟨⟨e0, e1, -⟩, -⟩ := F5.out
          go_wp2_with fail
          refine (CF.out).mono ?_
          rintro e w6 ⟨rfl, b6⟩
          have F6 := Lib.hid (F5.out.below b6)
          have D61 := Lib.hid (D1.out.below b6)
          have D62 := Lib.hid (D2.out.below b6)
          have B6 := Lib.hid (below_up B5.out b6)
          clear b6 e0 e1 CF F5 D1 D2 B5
          obtain ⟨⟨e0, e1, hlf⟩, g0, g1⟩ := F6.out
          have U1 : Hid (VarAt ((w6.setCell ⟨f, 0, none⟩ (.int .i64 (bits .and .i64 x (bits .andNot .i64 T ask)))).setCell ⟨f, 1, none⟩ (.int .i64 (bits .or .i64 (bits .and .i64 y (bits .andNot .i64 T ask)) (bits .andNot .i64 x (bits .andNot .i64 T ask))))) f (.int .i64 (bits .and .i64 x (bits .andNot .i64 T ask))) (.int .i64 (bits .or .i64 (bits .and .i64 y (bits .andNot .i64 T ask)) (bits .andNot .i64 x (bits .andNot .i64 T ask))))) := (F6.out.set0 _).set1 _
          have U2 : Hid (ChanAt ((w6.setCell ⟨f, 0, none⟩ (.int .i64 (bits .and .i64 x (bits .andNot .i64 T ask)))).setCell ⟨f, 1, none⟩ (.int .i64 (bits .or .i64 (bits .and .i64 y (bits .andNot .i64 T ask)) (bits .andNot .i64 x (bits .andNot .i64 T ask))))) c l Y2) := (D61.out.set (Ne.symm hfc.1)).set (Ne.symm hfc.1)
          have U3 : Hid (ChanAt ((w6.setCell ⟨f, 0, none⟩ (.int .i64 (bits .and .i64 x (bits .andNot .i64 T ask)))).setCell ⟨f, 1, none⟩ (.int .i64 (bits .or .i64 (bits .and .i64 y (bits .andNot .i64 T ask)) (bits .andNot .i64 x (bits .andNot .i64 T ask))))) c' l N3) := (D62.out.set (Ne.symm hfc.2)).set (Ne.symm hfc.2)
          have U4 : Hid (Below w.heap.size w ((w6.setCell ⟨f, 0, none⟩ (.int .i64 (bits .and .i64 x (bits .andNot .i64 T ask)))).setCell ⟨f, 1, none⟩ (.int .i64 (bits .or .i64 (bits .and .i64 y (bits .andNot .i64 T ask)) (bits .andNot .i64 x (bits .andNot .i64 T ask)))))) := (B6.out.setCell hf _).setCell hf _
          go_wp2_with fail
          clear e0 e1 g0 g1 hlf F6 D61 D62 B6
          generalize (w6.setCell ⟨f, 0, none⟩ (.int .i64 (bits .and .i64 x (bits .andNot .i64 T ask)))).setCell ⟨f, 1, none⟩ (.int .i64 (bits .or .i64 (bits .and .i64 y (bits .andNot .i64 T ask)) (bits .andNot .i64 x (bits .andNot .i64 T ask)))) = Y at U1 U2 U3 U4 ⊢
          refine wpn_of_wp ?_
          go_wp2
          rw [HI.out, HM.out]
          have hi1 : (i : Int) + 1 = ((i + 1 : Nat) : Int) := by omega
          rw [hi1]
          exact ⟨⟨i + 1, _, _, _, _, _, _, _, _, _, _, _, _, _, _, _, _, _, _, _, _, _, _, _, _, _, _, rfl, hlt, HS2, HL5, U2, U3, U1, U4⟩, by simp [intOf]; omega⟩
      · obtain rfl : i = l := by omega
        have i1 : ¬ (i : Int) < (i : Int) := by omega
        have hY2 : Y2 = [] ∧ N2 = [] := by
          have h3 := yes_no_len P R i
          rw [HS.out.1, HS.out.2.1, List.length_append, List.length_append] at h3
          have h4 := HS.out.2.2
          exact ⟨List.eq_nil_of_length_eq_zero (by omega), List.eq_nil_of_length_eq_zero (by omega)⟩
        have HE : Hid (x = r0 ∧ y = r1) := by
          obtain ⟨rfl, rfl⟩ := hY2
          refine HX.out x y ?_
          rw [HL.out, HS.out.1, HS.out.2.1, List.append_nil, List.append_nil]
          exact HL4.out
        clear hY2 HS HL4 HX HP C1 C2
        refine wpn_seq ?_
        refine wpn_of_wp ?_
        go_wp2_with fail
        refine wpn_of_wp ?_
        obtain ⟨⟨e0, e1, -⟩, -⟩ := F4.out
        go_wp2_with fail
        go_quiet (fail)
        all_goals
          go_wp2
          go_ret2
          rw [HE.out.1, HE.out.2]
          exact ⟨rfl, below_drewN B4.out _⟩
end Go.Proofs.Ytnpmkoeceihepaa
