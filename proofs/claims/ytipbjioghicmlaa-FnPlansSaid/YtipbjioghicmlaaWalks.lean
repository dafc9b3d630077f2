/- The contract of the program's walksOf: the outcomes of a plan in each case of a problem. Conditions: the plan's slice reads as nodes and is short enough to be counted. -/
import Derived.Test.YtipbjioghicmlaaFollowImpl
import Derived.Test.YtipbjioghicmlaaPlanOkImpl
import Derived.Test.YtipbjioghicmlaaPlanFacts
import Derived.Test.YtipbjioghicmlaaDrawW
import Derived.WalkSmall
namespace Go.Proofs.Ytipbjioghicmlaa
open Go.RowKit

/-- The cells of a row of walks. -/
def wcells : List Int → List Value → List Value
  | c :: r, u :: t => .int .i64 c :: u :: wcells r t
  | _, _ => []
theorem wcells_app {c : Int} {u : Value} : ∀ {cs : List Int} {us : List Value}, us.length = cs.length → wcells (cs ++ [c]) (us ++ [u]) = wcells cs us ++ [.int .i64 c, u]
  | [], [], _ => rfl
  | x :: r, y :: t, h => by
    have := wcells_app (c := c) (u := u) (cs := r) (us := t) (by simpa using h)
    simp [wcells, this]
  | [], _ :: _, h => by simp at h
  | _ :: _, [], h => by simp at h
theorem wcells_at : ∀ {cs : List Int} {us : List Value}, us.length = cs.length → ∀ i (h : i < cs.length) (h' : i < us.length), (wcells cs us)[i * 2]? = some (.int .i64 cs[i]) ∧ (wcells cs us)[i * 2 + 1]? = some us[i]
  | [], _, _, i, h, _ => by simp at h
  | _ :: _, [], h, _, _, _ => by simp at h
  | x :: r, y :: t, h, i, h1, h2 => by
    cases i with
    | zero => exact ⟨rfl, rfl⟩
    | succ i =>
      have := wcells_at (cs := r) (us := t) (by simpa using h) i (by simpa using h1) (by simpa using h2)
      rw [show (i + 1) * 2 = i * 2 + 2 by omega]
      simpa [wcells] using this
/-- A row of walks of the call's own. -/
def WalksK (w : World) (lo : Nat) (ov : Value) (cs : List Int) (F : Int → List Int) (us : List Value) : Prop :=
  us.length = cs.length ∧ w.ownsRow lo 67 2 ov cs.length (wcells cs us) ∧ ∀ i (h : i < cs.length) (h' : i < us.length), IntsAt w us[i] (F cs[i]) ∧ Blk (fun b => ov.ownBlock ≠ some b ∧ b < w.heap.size) us[i]
theorem WalksK.below {w w' : World} {lo : Nat} {ov : Value} {cs : List Int} {F : Int → List Int} {us : List Value} (h : WalksK w lo ov cs F us) (hb : Below w.heap.size w w') : WalksK w' lo ov cs F us :=
  ⟨h.1, owns_below h.2.1 hb, fun i h1 h2 => ⟨(h.2.2 i h1 h2).1.below hb, fun b e => ⟨((h.2.2 i h1 h2).2 b e).1, Nat.lt_of_lt_of_le ((h.2.2 i h1 h2).2 b e).2 hb.size⟩⟩⟩
theorem WalksK.push {w w' : World} {lo : Nat} {ov ov' : Value} {cs : List Int} {F : Int → List Int} {us : List Value} (h : WalksK w lo ov cs F us) {c : Int} {u : Value}
    (hg : w.grownBy w' ov.ownBlock) (hown : w'.ownsRow lo 67 2 ov' (cs.length + 1) (wcells cs us ++ [.int .i64 c, u])) (hat : ov'.ownBlock = ov.ownBlock ∨ ov'.ownBlock = some w.heap.size)
    (hu : IntsAt w u (F c)) (hbu : Blk (fun b => ov.ownBlock ≠ some b ∧ b < w.heap.size) u) : WalksK w' lo ov' (cs ++ [c]) F (us ++ [u]) := by
  have T := Only.of_grown hg
  have key : ∀ (x : Value) (l : List Int), IntsAt w x l → Blk (fun b => ov.ownBlock ≠ some b ∧ b < w.heap.size) x → IntsAt w' x l ∧ Blk (fun b => ov'.ownBlock ≠ some b ∧ b < w'.heap.size) x := fun x l hx hb =>
    ⟨hx.only T fun b e => (hb b e).1, fun b e => ⟨by
      have h1 := hb b e
      rcases hat with e' | e'
      · rw [e']; exact h1.1
      · rw [e']; intro e2; simp at e2; omega, Nat.lt_of_lt_of_le (hb b e).2 T.size⟩⟩
  refine ⟨by simp [h.1], by rw [wcells_app h.1]; simpa using hown, fun i h1 h2 => ?_⟩
  by_cases e : i < cs.length
  · have e' : i < us.length := by rw [h.1]; exact e
    rw [List.getElem_append_left e, List.getElem_append_left e']
    exact key _ _ (h.2.2 i e e').1 (h.2.2 i e e').2
  · have e1 : i = cs.length := by simp at h1; omega
    have e2 : i = us.length := by rw [h.1]; exact e1
    rw [List.getElem_append_right (by omega), List.getElem_append_right (by omega)]
    simpa [e1, h.1] using key u (F c) hu hbu

/-- The slice value v reads as the walks of the cases cs. -/
def WalksAt (w : World) (v : Value) (cs : List Int) (F : Int → List Int) : Prop :=
  ∃ a cap, v = .slice a cs.length cap ∧ cs.length ≤ cap ∧ ∀ i (h : i < cs.length), ∃ g u, a = some ⟨g, 0, none⟩ ∧ w.cell? ⟨g, i * 2, none⟩ = some (.int .i64 cs[i]) ∧ w.cell? ⟨g, i * 2 + 1, none⟩ = some u ∧ IntsAt w u (F cs[i]) ∧ g < w.heap.size
theorem WalksK.reads {w : World} {lo : Nat} {ov : Value} {cs : List Int} {F : Int → List Int} {us : List Value} (h : WalksK w lo ov cs F us) : WalksAt w ov cs F := by
  obtain ⟨h1, h2, h3⟩ := h
  rcases h2.2 with ⟨h0, hn⟩ | ⟨g, cap, cur, h0, _, _, hc, _⟩
  · refine ⟨none, 0, by rw [h0, hn], by omega, fun i hi => by omega⟩
  · subst h0
    refine ⟨_, cap, rfl, hc, fun i hi => ?_⟩
    have hi' : i < us.length := by omega
    have hw := wcells_at h1 i hi hi'
    exact ⟨g, us[i], rfl, by rw [h2.cellAt _ (by omega)]; exact hw.1, by rw [h2.cellAt _ (by omega)]; exact hw.2, (h3 i hi hi').1, (h2.lt g rfl).2⟩
theorem WalksAt.below {w w' : World} {v : Value} {cs : List Int} {F : Int → List Int} (h : WalksAt w v cs F) (hb : Below w.heap.size w w') : WalksAt w' v cs F := by
  obtain ⟨a, cap, rfl, hc, h⟩ := h
  refine ⟨a, cap, rfl, hc, fun i hi => ?_⟩
  obtain ⟨g, u, e, h1, h2, h3, h4⟩ := h i hi
  exact ⟨g, u, e, by rw [hb.cell (p := ⟨g, i * 2, none⟩) h4]; exact h1, by rw [hb.cell (p := ⟨g, i * 2 + 1, none⟩) h4]; exact h2, h3.below hb, Nat.lt_of_lt_of_le h4 hb.size⟩

/-- The cases whose walks are given back. -/
def walkL (P : List ND) (n : Int) (h l z : Bool) : List Int := if planB P n = true then casesL n h l z else []
theorem infoWalk : (Try.prog.info? 67).map (fun i => (i.zero, i.size, i.bytes)) = some (some (.agg #[.int .i64 0, .slice none 0 0]), 2, 32) := by kernel_rfl

set_option maxRecDepth 100000 in
set_option maxHeartbeats 6400000 in
theorem implWalksOf (v : Value) (P : List ND) (n : Int) (h l z : Bool) (w : World) (hp : NodesAt w v P) (hm : P.length ≤ 1048576) (hl : ∀ d ∈ P, d.L.length ≤ 1048576 ∧ d.R.length ≤ 1048576) :
    Calls Try.prog 46 #[probV n h l z, v] w fun e w' => ∃ u, e = .returned u ∧ WalksAt w' u (walkL P n h l z) (followL P) ∧ Below w.heap.size w w' := by
  obtain ⟨i0, hi, hz0, hz1, hz2⟩ := info_parts infoWalk
  have C0 := Lib.hid (fun W hW => implPlanOk v P n W hW hm hl)
  have C1 := Lib.hid (fun W => implCasesOf n h l z W)
  have HG : Hid (walkL P n h l z = if planB P n = true then casesL n h l z else []) := rfl
  have K : Hid (planB P n = true → ∀ W, NodesAt W v P → Calls Try.prog 44 #[v] W fun e w' => ∃ g, e = .returned (ptrTo g P.length 0) ∧ Steps w' g P ∧ Below W.heap.size W w') := fun hv W hW => implLinkPlan v P W hW (plan_size hv).1
  have C2 : Hid (planB P n = true → ∀ c ∈ casesL n h l z, ((followL P c).length ≤ 60) ∧ ∀ W g, Steps W g P → Calls Try.prog 48 #[ptrTo g P.length 0, .int .i64 c] W (Lists (followL P c) W)) := fun hg c hc => by
    have := cases_in hc
    exact ⟨followL_len hg c, fun W g hW => implFollow g P n c W hW hg hl (by omega) (by omega)⟩
  have hcl := cases_len n h l z
  have P0 := Lib.hid (ProbAt.new w 24 n h l z)
  have B0 := Lib.hid (alloc_below w (.cells #[.int .i64 n, .bool h, .bool l, .bool z] 24))
  unfold probV at C1 ⊢
  unfold Lists at C1
  generalize hX0 : w.alloc (.cells #[.int .i64 n, .bool h, .bool l, .bool z] 24) = X0 at P0 B0
  have H0 := Lib.hid (hp.below B0.out)
  obtain ⟨a0, c0, rfl⟩ := hp.form
  clear hp hm hl
  generalize P.length = k0 at H0 C0 C2 K
  generalize walkL P n h l z = Q at HG ⊢
  generalize planB P n = t at C0 HG C2 K
  generalize casesL n h l z = L at C1 C2 HG hcl
  obtain ⟨e0, e1, e2, e3, -⟩ := P0.out
  cases t with
  | false =>
    have HE : Hid (Q = []) := HG.out
    clear C2 C1 K
    go_enter Try.func46, Try.ntmps46
    go_wp2_with fail
    refine (C0.out _ H0.out).mono ?_
    rintro e w1 ⟨rfl, b1⟩
    have B1 := Lib.hid (below_up B0.out b1)
    clear b1
    go_wp2
    go_ret
    exact ⟨_, rfl, by rw [HE.out]; exact ⟨none, 0, rfl, Nat.le_refl _, fun i hi => by simp at hi⟩, B1.out⟩
  | true =>
    have HE : Hid (Q = L) := HG.out
    have D := Lib.hid (C2.out rfl)
    have KL := Lib.hid (K.out rfl)
    clear C2 HG K
    go_enter Try.func46, Try.ntmps46
    go_wp2_with fail
    refine (C0.out _ H0.out).mono ?_
    rintro e w1 ⟨rfl, b1⟩
    have B1 := Lib.hid (below_up B0.out b1)
    have H1 := Lib.hid (H0.out.below b1)
    have P1 := Lib.hid (P0.out.below b1)
    clear b1 e0 e1 e2 e3 hX0
    go_wp2_with fail
    refine (KL.out _ H1.out).mono ?_
    rintro e w2 ⟨g, rfl, st, b2⟩
    have B2 := Lib.hid (below_up B1.out b2)
    have P2 := Lib.hid (P1.out.below b2)
    have ST := Lib.hid st
    obtain ⟨pu, hpu⟩ := ptrTo_form g k0 0
    rw [hpu]
    have D2 : Hid (∀ c ∈ L, ((followL P c).length ≤ 60) ∧ ∀ W, Steps W g P → Calls Try.prog 48 #[.pointer pu, .int .i64 c] W (Lists (followL P c) W)) := fun c hc => ⟨(D.out c hc).1, fun W hW => by have := (D.out c hc).2 W g hW; rw [hpu] at this; exact this⟩
    clear b2 st hpu D
    obtain ⟨e0, e1, e2, e3, -⟩ := P2.out
    go_wp2_with fail
    refine (C1.out _).mono ?_
    rintro e w3 ⟨vl, rfl, ol, b3⟩
    have B3 := Lib.hid (below_up B2.out b3)
    have S3 := Lib.hid (ST.out.below b3)
    have L2 := Lib.hid (IntsAt.of_lists ol)
    obtain ⟨al, cl, rfl, hc⟩ := L2.out
    have HC : Hid (∀ i (h : i < L.length), ∃ b o, al = some ⟨b, o, none⟩ ∧ w3.cell? ⟨b, o + i, none⟩ = some (.int .i64 L[i])) := by
      intro i hi
      rcases hc with rfl | ⟨b, o, rfl, hc⟩
      · simp at hi
      · exact ⟨b, o, rfl, hc i hi⟩
    clear b3 ol hc e0 e1 e2 e3
    obtain ⟨nl, hn⟩ : ∃ nl, L.length = nl := ⟨_, rfl⟩
    rw [hn] at hcl L2 ⊢
    have HN := Lib.hid hn
    clear hn
    have hs3 : w.heap.size ≤ w3.heap.size := B3.out.size
    go_wp2
    go_loopw [6, 8, 19] (fun ov _ i wr => ∃ (k : Nat) (us : List Value), k ≤ nl ∧ i = .int .i64 k ∧ Hid (WalksK wr w3.heap.size ov (L.take k) (followL P) us) ∧ Below w3.heap.size w3 wr) (fun _ _ i _ => nl - (intOf i).toNat)
    case atStart => exact ⟨0, [], Nat.zero_le _, rfl, ⟨by simp, by simpa [wcells] using World.ownsRow_nil _ _ _ _, fun i h1 h2 => by simp at h2⟩, Below.refl _ _⟩
    case round =>
      obtain ⟨k, us, hk, rfl, HS, hb⟩ := hrel
      have HB := Lib.hid hb
      have hbs := hb.size
      clear hb
      by_cases hlt : k < nl
      · have hkl : k < L.length := by rw [HN.out]; exact hlt
        obtain ⟨b, o, rfl, e0⟩ := HC.out k hkl
        have hbl := World.block_lt_of_cell? w3 _ e0
        have HTK := Lib.hid (List.take_succ_eq_append_getElem hkl)
        obtain ⟨hx60, hfx⟩ := D2.out L[k] (List.getElem_mem hkl)
        obtain ⟨x, hx⟩ : ∃ x, L[k] = x := ⟨_, rfl⟩
        rw [hx] at e0 hx60 hfx HTK
        have e1 : wr.cell? ⟨b, o + k, none⟩ = some (.int .i64 x) := by rw [HB.out.cell (p := ⟨b, o + k, none⟩) hbl]; exact e0
        have FX := Lib.hid (hfx wr (S3.out.below HB.out))
        unfold Lists at FX
        have htl : (L.take k).length = k := by simp; omega
        have i0' : (0 : Int) ≤ (k : Int) := by omega
        have i1 : (k : Int) < (nl : Int) := by omega
        have hrow : ∀ j, u6.ownBlock = some j → w3.heap.size ≤ j ∧ j < wr.heap.size := fun j hj => HS.out.2.1.lt j hj
        have HRW := Lib.hid hrow
        have HTL := Lib.hid htl
        clear e0 hbl hx hkl hfx hrow htl
        go_wp2_with fail
        refine FX.out.mono ?_
        rintro e w4 ⟨va, rfl, oa, b4⟩
        have B4 := Lib.hid (HB.out.trans (b4.mono HB.out.size))
        have hs4 : w3.heap.size ≤ w4.heap.size := B4.out.size
        have HS4 := Lib.hid (HS.out.below b4)
        have RA := Lib.hid (IntsAt.of_lists oa)
        have RB : Hid (Blk (fun q => u6.ownBlock ≠ some q ∧ q < w4.heap.size) va) := by
          intro q hq
          have h1 := owns_blk oa q hq
          refine ⟨fun e => ?_, h1.2⟩
          have h2 := HRW.out q e
          omega
        obtain ⟨aa, na, ca, rfl⟩ := RA.out.form
        have RW := Lib.hid HS4.out.2.1
        rw [HTL.out] at RW
        clear oa b4 e1
        go_wp2_with (at_builtin; refine wpList_append_own_at _ rfl _ _ 64 rfl w3.heap.size 67 i0 (.agg #[.int .i64 0, .slice none 0 0]) 2 32 Try.underlying64 hi hz0 hz1 hz2 rfl (by decide) _ _ _ rfl (RW.out.alloc _) ⟨w4.heap.size, 0, none⟩ 1 1 [.int .i64 x, .slice aa na ca] rfl rfl (cell_two_new _ _ _ _) (by simp [Value.oneCell']) (by unfold maxLen; omega) (by omega) (by simp; omega) ?_; intro v' w5 hown' hg1 _ hat)
        have A4 := alloc_below w4 (.cells #[.int .i64 x, .slice aa na ca] 67)
        have B5 := Lib.hid (Below.grown (B4.out.alloc hs4 _) hg1 (by simp; omega) (fun j hj => (RW.out.lt j hj).1))
        have KP := (HS4.out.below A4).push hg1 (by rw [HTL.out]; exact hown') hat (RA.out.below A4) (fun q hq => ⟨(RB.out q hq).1, by have := (RB.out q hq).2; simp; omega⟩)
        rw [← HTK.out] at KP
        have HK := Lib.hid KP
        clear KP hown' hg1 hat A4
        go_wp2
        go_roundw
        case rel => exact ⟨k + 1, _, by omega, by go_num, HK, B5.out⟩
        case measure => simp [intOf]; omega
      · have HZ : Hid (WalksAt wr u6 Q (followL P)) := by
          have := HS.out.reads
          rw [List.take_of_length_le (by rw [HN.out]; omega)] at this
          unfold Hid
          rw [HE.out]
          exact this
        go_wp2
        go_ret
        exact ⟨_, rfl, HZ.out, below_up B3.out HB.out⟩
end Go.Proofs.Ytipbjioghicmlaa
