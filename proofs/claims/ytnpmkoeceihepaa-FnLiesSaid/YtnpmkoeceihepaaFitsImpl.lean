/- The contracts of the program's AsksOk, byAnswer, FitsAfter and IsFound. Conditions: the slices read as integers and as truth values, and are short enough to be counted. -/
import Derived.Test.YtnpmkoeceihepaaFitsPlain
import Derived.Test.YtnpmkoeceihepaaLoneComm
import Derived.Test.YtnpmkoeceihepaaLieLaws
import Derived.Test.YtnpmkoeceihepaaCountImpl
import Derived.Test.YtnpmkoeceihepaaBitsImpl
namespace Go.Proofs.Ytnpmkoeceihepaa
open Go.RowKit Go.Conc

set_option maxRecDepth 100000 in
set_option maxHeartbeats 1600000 in
theorem implAsksOk (n : Int) (v vr : Value) (P : List Int) (R : List Bool) (w : World) (h : IntsAt w v P) (hr : BoolsAt w vr R) (hm : P.length ≤ 1048576) :
    Calls Try.prog 16 #[.int .i64 n, v, vr] w fun e w' => e = .returned (.bool (asksB n P R)) ∧ Below w.heap.size w w' := by
  have C := Lib.hid (implResultsOk n v vr P R w h hr hm)
  have HR : Hid (asksB n P R = (decide (n ≤ 8) && decide (P.length ≤ 8) && rokB n P R)) := by
    unfold Hid asksB rokB poolsB numsB itemsB
    by_cases h1 : n ≤ 8
    · by_cases h2 : P.length ≤ 8
      · rw [decide_eq_true h1, decide_eq_true h2, decide_eq_true (show n ≤ 10 by omega), decide_eq_true (show P.length ≤ 12 by omega)]
        cases decide (1 ≤ n) <;> cases P.all (poolB n) <;> cases (R.length == P.length) <;> rfl
      · rw [decide_eq_false h2]; simp
    · rw [decide_eq_false h1]; simp
  generalize asksB n P R = r at HR ⊢
  generalize rokB n P R = rk at HR C
  obtain ⟨a, k, rfl, -⟩ := h
  obtain ⟨ar, kr, rfl, -⟩ := hr
  generalize hl : P.length = l at HR C
  have B0 := Below.refl w.heap.size w
  by_cases h1 : n ≤ 8
  · have t1 : decide (n ≤ 8) = true := decide_eq_true h1
    by_cases h2 : l ≤ 8
    · have t2 : decide ((l : Int) ≤ 8) = true := decide_eq_true (by omega)
      have HE : Hid (rk = r) := by unfold Hid; rw [HR.out, t1, decide_eq_true h2]; rfl
      clear HR hl
      go_enter Try.func16, Try.ntmps16
      go_wp2_with fail
      refine (C.out).mono ?_
      rintro e w1 ⟨rfl, rfl⟩
      go_wp2
      go_ret
      exact ⟨ret_bool HE.out, B0⟩
    · have t2 : decide ((l : Int) ≤ 8) = false := decide_eq_false (by omega)
      have HE : Hid (false = r) := by unfold Hid; rw [HR.out, t1, decide_eq_false h2]; rfl
      clear HR hl
      go_enter Try.func16, Try.ntmps16
      go_wp2
      go_ret
      exact ⟨ret_bool HE.out, B0⟩
  · have t1 : decide (n ≤ 8) = false := decide_eq_false h1
    have HE : Hid (false = r) := by unfold Hid; rw [HR.out, t1]; rfl
    clear HR hl
    go_enter Try.func16, Try.ntmps16
    go_wp2
    go_ret
    exact ⟨ret_bool HE.out, B0⟩

set_option maxHeartbeats 1600000 in
theorem implAfterF (x y t : Int) (W : World) : Calls Try.prog 37 #[.agg #[.int .i64 x, .int .i64 y], .int .i64 t] W fun e w' => e = .returned (.agg #[.int .i64 (bits .and .i64 x t), .int .i64 (bits .or .i64 (bits .and .i64 y t) (bits .andNot .i64 x t))]) ∧ Below W.heap.size W w' := by
  have B0 : Below W.heap.size W ((W.alloc (.cells #[.int .i64 x, .int .i64 y] 43)).alloc (.cells #[.int .i64 (bits .and .i64 x t), .int .i64 (bits .or .i64 (bits .and .i64 y t) (bits .andNot .i64 x t))] 43)) := ((Below.refl _ W).alloc (Nat.le_refl _) _).alloc (by simp) _
  go_enter Try.func37, Try.ntmps37
  go_wp2
  refine bodyPost_ret (v := .agg #[.int .i64 (bits .and .i64 x t), .int .i64 (bits .or .i64 (bits .and .i64 y t) (bits .andNot .i64 x t))]) (by simp [results, Try.results37, go_sem]) rfl ⟨rfl, B0⟩

theorem calls_of_wpn {P : Program} {f : FuncId} {fn : Func} {c : Code} {args : Array Value} {w : World} {R : Ending → World → Prop}
    (hf : P.funcs[f]? = some fn) (hb : fn.body = some c)
    (h : WpN P c (bodyPost P fn R) { tmps := args ++ Array.replicate (fn.ntmps - args.size) undef, defers := [] } w) :
    Calls P f args w R := by
  intro cs
  let b : Frame := { (default : Frame) with fn := f, kind := .normal }
  have henter : Frame.enter P f args .normal =
      b.at { tmps := args ++ Array.replicate (fn.ntmps - args.size) undef, defers := [] } [.code c] := by
    simp [Frame.enter, Frame.at, hf, hb, b]
  obtain ⟨e, a', w', hq, harr⟩ := h b (by simp [b]) [] cs
  rw [← henter] at harr
  cases e with
  | normal =>
    obtain ⟨hd, v, hr, hR⟩ := hq
    exact ⟨.returned v, w', _, hR, Steps.trans harr (.one step_end), rfl, rfl, hd, rfl, fn, hf, hr⟩
  | ret =>
    obtain ⟨hd, v, hr, hR⟩ := hq
    obtain ⟨todo, hs⟩ := harr
    exact ⟨.returned v, w', _, hR, hs, rfl, rfl, hd, rfl, fn, hf, hr⟩
  | panic chain =>
    obtain ⟨hd, hR⟩ := hq
    obtain ⟨todo, hs⟩ := harr
    exact ⟨.panicked chain, w', _, hR, hs, rfl, rfl, hd, fn, hf⟩
  | exit id => exact hq.elim
  | goto l => exact hq.elim
  | outgrown => exact ⟨.outgrown, w', b, hq, harr.resolve_left (by simp [b]), rfl, trivial⟩
theorem wpn_seq_k {P : Program} {Q : Exit → Act → World → Prop} {a : Act} {w : World} {x y : Code} (h : ∀ K : Act → World → Prop, (∀ a w, WpN P y Q a w → K a w) → x.wp P (Exit.then K Q) a w) :
    WpN P (Code.seq x y) Q a w := wpn_seq_wp (h _ fun _ _ h => h)

/-- Block c is an open channel that holds these integers. -/
def ChanAt (w : World) (c cap : Nat) (L : List Int) : Prop := ∃ s r, w.heap[c]? = some (.chan cap (L.map (Value.int .i64)).toArray false s r false)
theorem ChanAt.lt {w : World} {c cap : Nat} {L : List Int} (h : ChanAt w c cap L) : c < w.heap.size := by
  obtain ⟨s, r, h⟩ := h
  exact (Array.getElem?_eq_some_iff.1 h).1
theorem ChanAt.made (w : World) (cap : Nat) : ChanAt (w.alloc (.chan cap #[] false 0 0 false)) w.heap.size cap [] := ⟨0, 0, heap_alloc_new w _⟩
theorem ChanAt.below {w w' : World} {c cap : Nat} {L : List Int} (h : ChanAt w c cap L) (hb : Below w.heap.size w w') : ChanAt w' c cap L := by
  have hl := h.lt
  obtain ⟨s, r, h⟩ := h
  exact ⟨s, r, (hb.block c hl).trans h⟩
theorem ChanAt.other {w : World} {c c' cap cap' : Nat} {L : List Int} (h : ChanAt w c cap L) (hne : c' ≠ c) (buf : Array Value) (s r : Nat) : ChanAt (w.setChan c' cap' buf false s r false) c cap L := by
  obtain ⟨s0, r0, h⟩ := h
  refine ⟨s0, r0, ?_⟩
  rw [← h]
  simp [World.setChan, Array.getElem?_setIfInBounds_ne hne]
/-- One is put into the channel, and the first is taken out. -/
theorem ChanAt.put {w : World} {c cap s : Nat} {L : List Int} {x : Int} {r : Nat} (hc : c < w.heap.size) : ChanAt (w.setChan c cap (L.map (Value.int .i64) ++ [Value.int .i64 x]).toArray false s r false) c cap (L ++ [x]) := by
  refine ⟨s, r, ?_⟩
  rw [heap_setChan _ _ _ _ _ _ _ _ hc]
  simp
theorem ChanAt.take {w : World} {c cap s : Nat} {L : List Int} {x : Int} {r : Nat} (hc : c < w.heap.size) : ChanAt (w.setChan c cap (((x :: L).map (Value.int .i64)).toArray.extract 1 ((x :: L).map (Value.int .i64)).toArray.size) false s r false) c cap L := by
  refine ⟨s, r, ?_⟩
  rw [heap_setChan _ _ _ _ _ _ _ _ hc]
  simp
  exact List.take_of_length_le (by simp)

set_option maxRecDepth 100000 in
set_option maxHeartbeats 3200000 in
theorem implByAnswer (v vr : Value) (P : List Int) (R : List Bool) (w : World) (h : IntsAt w v P) (hr : BoolsAt w vr R) (hm : P.length ≤ 8) (hl : R.length = P.length) :
    Calls Try.prog 36 #[v, vr] w fun e w' => ∃ c c' : Nat, e = .returned (.tuple #[.chan (some c), .chan (some c')]) ∧ (w.heap.size ≤ c ∧ w.heap.size ≤ c' ∧ c ≠ c') ∧ ChanAt w' c P.length (yesL P R P.length) ∧ ChanAt w' c' P.length (noL P R P.length) ∧ Below w.heap.size w w' := by
  have H := Lib.hid h
  have HR := Lib.hid hr
  obtain ⟨a0, k0, rfl, -⟩ := h
  obtain ⟨a1, k1, rfl, -⟩ := hr
  rw [hl]
  obtain ⟨n, hn⟩ : ∃ n, P.length = n := ⟨_, rfl⟩
  have HN := Lib.hid hn
  have HL := Lib.hid hl
  rw [hn] at hm ⊢
  clear hn hl
  have hmk : ∀ W, (Instr.makeChan 44 (.int .i64 n)).run Try.prog W = .ok (.chan (some W.heap.size)) (W.alloc (.chan n #[] false 0 0 false)) := fun W => by
    have h : (Try.prog.info? 3).map (·.bytes) = some 8 := by kernel_rfl
    obtain ⟨i, hi, hb⟩ := Option.map_eq_some_iff.1 h
    simpa using run_makeChan (P := Try.prog) (w := W) Try.underlying44 hi .i64 n (by omega) (by rw [hb]; omega)
  refine calls_of_wpn Try.func36 rfl ?_
  simp only [Try.ntmps36, List.size_toArray, List.length_cons, List.length_nil, Nat.reduceAdd, Nat.reduceSub, Array.replicate_succ,
     Array.replicate_zero, List.push_toArray, List.append_toArray, List.nil_append, List.cons_append]
  refine wpn_seq_k (fun K hK => ?_)
  go_wp2
  refine wpn_seq_k (fun K hK => ?_)
  have key : ∀ (c c' : Nat) (X : World), (w.heap.size ≤ c ∧ w.heap.size ≤ c' ∧ c ≠ c') → ChanAt X c n [] → ChanAt X c' n [] → Below w.heap.size w X →
      K ⟨#[.slice a0 n k0, .slice a1 n k1, undef, undef, .chan (some c), .chan (some c'), undef, undef, .slice a0 n k0, .int .i64 n, .chan (some c), .slice a0 n k0, .int .i64 n, .chan (some c'), undef, undef, undef, undef, undef, undef, undef, undef, undef, undef, undef, undef, undef, undef, undef, undef, undef, undef], []⟩ X := by
    intro c c' X hcc h1 h2 h3
    refine hK _ _ ?_
    clear hK hmk
    have C1 := Lib.hid h1
    have C2 := Lib.hid h2
    have B0 := Lib.hid h3
    clear h1 h2 h3
    refine wpn_seq ?_
    refine wpn_seq_k (fun K1 hK1 => ?_)
    go_wp2
    refine wpn_block ?_
    obtain ⟨I, hI⟩ : ∃ I : Act → World → Prop, I = (fun a X => ∃ (i : Nat) (u6 u7 u17 u18 u19 u20 u21 u22 u23 u24 u25 u26 u27 u28 u29 : Value), a = ⟨#[.slice a0 n k0, .slice a1 n k1, undef, undef, .chan (some c), .chan (some c'), u6, u7, .slice a0 n k0, .int .i64 n, .chan (some c), .slice a0 n k0, .int .i64 n, .chan (some c'), .slice a0 n k0, .int .i64 n, .int .i64 i, u17, u18, u19, u20, u21, u22, u23, u24, u25, u26, u27, u28, u29, undef, undef], []⟩ ∧ i ≤ n ∧ Hid (ChanAt X c n (yesL P R i)) ∧ Hid (ChanAt X c' n (noL P R i)) ∧ Hid (Below w.heap.size w X)) := ⟨_, rfl⟩
    obtain ⟨M, hM⟩ : ∃ M : Act → World → Nat, M = (fun a _ => n - (intOf (a.tmps.getD 16 undef)).toNat) := ⟨_, rfl⟩
    refine wpn_loop I M ?_ ?_
    · rw [hI]
      exact ⟨0, undef, undef, undef, undef, undef, undef, undef, undef, undef, undef, undef, undef, undef, undef, undef, rfl, Nat.zero_le _, C1, C2, B0⟩
    · intro fa X hX
      rw [hI] at hX
      obtain ⟨i, u6, u7, u17, u18, u19, u20, u21, u22, u23, u24, u25, u26, u27, u28, u29, rfl, hi, C1, C2, B0⟩ := hX
      have HI := Lib.hid hI
      have HM := Lib.hid hM
      clear hI hM
      refine wpn_seq_k (fun K1 hK1 => ?_)
      go_wp2_with fail
      by_cases hlt : i < n
      · have i0 : (0 : Int) ≤ (i : Int) := by omega
        have i1 : (i : Int) < (n : Int) := by omega
        have h1 : i < P.length := by rw [HN.out]; exact hlt
        have h2 : i < R.length := by rw [HL.out, HN.out]; exact hlt
        obtain ⟨_, _, ee, hcP⟩ := H.out.below B0.out
        injection ee with ee1 ee2 ee3
        subst ee1 ee3
        obtain ⟨_, _, ee, hcR⟩ := HR.out.below B0.out
        injection ee with ee1 ee2' ee3
        subst ee1 ee3
        rcases hcP with h0 | ⟨b1, o1, rfl, c1⟩
        · rw [h0] at h1; simp at h1
        rcases hcR with h0 | ⟨b2, o2, rfl, c2⟩
        · rw [h0] at h2; simp at h2
        have e1 := c1 i h1
        have e2 := c2 i h2
        have HY : Hid (yesL P R (i + 1) = if R[i] = true then yesL P R i ++ [P[i]] else yesL P R i) := by
          unfold Hid
          rw [yesL, getD_at false h2, getD_at 0 h1]
        have HZ : Hid (noL P R (i + 1) = if R[i] = true then noL P R i else noL P R i ++ [P[i]]) := by
          unfold Hid
          rw [noL, getD_at false h2, getD_at 0 h1]
        have ly := Lib.hid (yes_le P R i)
        have lz := Lib.hid (no_le P R i)
        generalize R[i] = x at e2 HY HZ
        generalize P[i] = p at e1 HY HZ
        clear c1 c2 h1 h2 ee2 ee2'
        refine wpn_seq ?_
        refine wpn_of_wp ?_
        go_wp2_with fail
        refine wpn_seq ?_
        refine wpn_block ?_
        refine wpn_seq_k (fun K1 hK1 => ?_)
        go_wp2_with fail
        refine wpn_seq_k (fun K1 hK1 => ?_)
        go_wp2_with fail
        refine wpn_cond rfl ?_
        cases x with
        | true =>
          simp only [if_true]
          refine wpn_region ?_
          show OpsN _ _ _ [0, 1, 2] _ _
          refine opsN_value (v := .chan (some c)) (w' := X) rfl rfl (by simp [go_sem, execOp, Act.eval]) ?_
          walk_nrm
          refine opsN_value (v := .int .i64 p) (w' := X) rfl rfl (by simp [go_sem, execOp, Act.eval]) ?_
          walk_nrm
          obtain ⟨s, r, hc⟩ := C1.out
          refine opsN_send (c := c) (cap := n) (s := s) (r := r) (buf := ((yesL P R i).map (Value.int .i64)).toArray) (v := .int .i64 p) (z' := .tuple #[]) (w' := X) rfl rfl (by simp [execOp, scase, Act.eval]) hc (by simp; have := ly.out; omega) ?_
          walk_nrm
          have D1 : Hid (ChanAt (X.setChan c n ((yesL P R i).map (Value.int .i64) ++ [Value.int .i64 p]).toArray false (s + 1) r false) c n (yesL P R (i + 1))) := by
            unfold Hid
            rw [HY.out]
            exact ChanAt.put C1.out.lt
          have D2 : Hid (ChanAt (X.setChan c n ((yesL P R i).map (Value.int .i64) ++ [Value.int .i64 p]).toArray false (s + 1) r false) c' n (noL P R (i + 1))) := by
            unfold Hid
            rw [HZ.out]
            exact C2.out.other hcc.2.2 _ _ _
          have D3 : Hid (Below w.heap.size w (X.setChan c n ((yesL P R i).map (Value.int .i64) ++ [Value.int .i64 p]).toArray false (s + 1) r false)) := below_setChan B0.out hcc.1 _ _ _ _ _ _
          generalize X.setChan c n ((yesL P R i).map (Value.int .i64) ++ [Value.int .i64 p]).toArray false (s + 1) r false = Y at D1 D2 D3 ⊢
          clear hc C1 C2 B0 HY HZ ly lz
          refine opsN_of ?_
          simp only [wpOps]
          show WpN _ _ _ _ _
          refine wpn_of_wp ?_
          go_wp2
          rw [HI.out, HM.out]
          have hi1 : (i : Int) + 1 = ((i + 1 : Nat) : Int) := by omega
          rw [hi1]
          exact ⟨⟨i + 1, _, _, _, _, _, _, _, _, _, _, _, _, _, _, _, rfl, hlt, D1, D2, D3⟩, by simp [intOf]; omega⟩
        | false =>
          simp only [Bool.false_eq_true, if_false]
          refine wpn_region ?_
          show OpsN _ _ _ [0, 1, 2] _ _
          refine opsN_value (v := .chan (some c')) (w' := X) rfl rfl (by simp [go_sem, execOp, Act.eval]) ?_
          walk_nrm
          refine opsN_value (v := .int .i64 p) (w' := X) rfl rfl (by simp [go_sem, execOp, Act.eval]) ?_
          walk_nrm
          obtain ⟨s, r, hc⟩ := C2.out
          refine opsN_send (c := c') (cap := n) (s := s) (r := r) (buf := ((noL P R i).map (Value.int .i64)).toArray) (v := .int .i64 p) (z' := .tuple #[]) (w' := X) rfl rfl (by simp [execOp, scase, Act.eval]) hc (by simp; have := lz.out; omega) ?_
          walk_nrm
          have D1 : Hid (ChanAt (X.setChan c' n ((noL P R i).map (Value.int .i64) ++ [Value.int .i64 p]).toArray false (s + 1) r false) c n (yesL P R (i + 1))) := by
            unfold Hid
            rw [HY.out]
            exact C1.out.other (Ne.symm hcc.2.2) _ _ _
          have D2 : Hid (ChanAt (X.setChan c' n ((noL P R i).map (Value.int .i64) ++ [Value.int .i64 p]).toArray false (s + 1) r false) c' n (noL P R (i + 1))) := by
            unfold Hid
            rw [HZ.out]
            exact ChanAt.put C2.out.lt
          have D3 : Hid (Below w.heap.size w (X.setChan c' n ((noL P R i).map (Value.int .i64) ++ [Value.int .i64 p]).toArray false (s + 1) r false)) := below_setChan B0.out hcc.2.1 _ _ _ _ _ _
          generalize X.setChan c' n ((noL P R i).map (Value.int .i64) ++ [Value.int .i64 p]).toArray false (s + 1) r false = Y at D1 D2 D3 ⊢
          clear hc C1 C2 B0 HY HZ ly lz
          refine opsN_of ?_
          simp only [wpOps]
          show WpN _ _ _ _ _
          refine wpn_of_wp ?_
          go_wp2
          rw [HI.out, HM.out]
          have hi1 : (i : Int) + 1 = ((i + 1 : Nat) : Int) := by omega
          rw [hi1]
          exact ⟨⟨i + 1, _, _, _, _, _, _, _, _, _, _, _, _, _, _, _, rfl, hlt, D1, D2, D3⟩, by simp [intOf]; omega⟩
      · obtain rfl : i = n := by omega
        have i1 : ¬ (i : Int) < (i : Int) := by omega
        refine wpn_seq ?_
        refine wpn_of_wp ?_
        go_wp2_with fail
        refine wpn_of_wp ?_
        go_wp2
        go_ret2
        exact ⟨c, c', rfl, hcc, C1.out, C2.out, B0.out⟩
  go_wp2_with fail
  have D0 : Below w.heap.size w (w.alloc (.chan n #[] false 0 0 false)) := alloc_below _ _
  have D1 : Below (w.alloc (.chan n #[] false 0 0 false)).heap.size (w.alloc (.chan n #[] false 0 0 false)) ((w.alloc (.chan n #[] false 0 0 false)).alloc (.chan n #[] false 0 0 false)).drew := (alloc_below _ _).drew
  have s0 : (w.alloc (.chan n #[] false 0 0 false)).heap.size = w.heap.size + 1 := by simp
  have M0 := (ChanAt.made w n).below D1
  have M1 : ChanAt ((w.alloc (.chan n #[] false 0 0 false)).alloc (.chan n #[] false 0 0 false)).drew (w.heap.size + 1) n [] := by
    have h := (ChanAt.made (w.alloc (.chan n #[] false 0 0 false)) n).below (Below.refl _ _).drew
    rw [s0] at h
    exact h
  have DD := below_up D0 D1
  go_region
  · first | exact key _ _ _ (by omega) M0 M1 DD | exact key _ _ _ (by omega) M1 M0 DD
  · first | exact key _ _ _ (by omega) M0 M1 DD | exact key _ _ _ (by omega) M1 M0 DD
end Go.Proofs.Ytnpmkoeceihepaa
