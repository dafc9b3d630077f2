/- The contracts of the program's CountSigns and DecodeSigns; the map of groups as a range over it sees it. Conditions: the slice reads as weighings and is short enough to be counted; the signs fit Go's int. -/
import Derived.Test.YtbkhmlkicafheaaBySigns
namespace Go.Proofs.Ytbkhmlkicafheaa
open Go.RowKit

theorem grp_pos {P : List WD} {n : Int} {h l z : Bool} (hg : goodD P n h l z = true) : 1 ≤ (grpD P n h l z).length := by
  have hp : probB n h l = true := by
    unfold goodD at hg
    rw [Bool.and_eq_true] at hg
    exact hg.1
  unfold grpD
  rw [if_pos hg]
  have h1 := groupsF_sum (signsL P) (casesL n h l z) []
  have h2 := List.length_pos_iff.2 (cases_some (z := z) hp)
  cases hG : groupsF (signsL P) [] (casesL n h l z) with
  | nil => rw [hG] at h1; simp [sumG] at h1; omega
  | cons a r => simp
theorem grp_none {P : List WD} {n : Int} {h l z : Bool} (hg : goodD P n h l z = false) : grpD P n h l z = [] := by
  unfold grpD
  rw [if_neg (by rw [hg]; decide)]
theorem grp_len (P : List WD) (n : Int) (h l z : Bool) : (grpD P n h l z).length ≤ 27 := by
  unfold grpD
  split
  · rw [groupsF_len]
    have h1 := seenL_len (signsL P) (casesL n h l z) []
    have h2 := cases_len n h l z
    simp at h1
    omega
  · simp
theorem cnt_grp (P : List WD) (n : Int) (h l z : Bool) : cntR P n h l z = if (grpD P n h l z).length = 0 then -1 else ((grpD P n h l z).length : Int) := by
  cases hg : goodD P n h l z with
  | false =>
    rw [grp_none hg]
    unfold cntR
    rw [if_neg (by rw [hg]; decide)]
    rfl
  | true =>
    have := grp_pos hg
    rw [if_neg (by omega)]
    unfold cntR grpD
    rw [if_pos hg, if_pos hg, groupsF_len]
theorem dec_grp (P : List WD) (n : Int) (h l z : Bool) (S : List Int) : getG S (grpD P n h l z) = decR P n h l z S := by
  unfold grpD decR
  split
  · rw [getG_groups]; simp [getG]
  · rfl
theorem sol_grp (P : List WD) (n : Int) (h l z : Bool) : dsolB P n h l z = (decide (0 < (grpD P n h l z).length) && decide (((grpD P n h l z).filter fun g => decide (g.2.length ≠ 1)).length = 0)) := by
  unfold dsolB
  cases hg : goodD P n h l z with
  | false =>
    rw [grp_none hg]
    rfl
  | true =>
    have hp := grp_pos hg
    rw [decide_eq_true (show 0 < (grpD P n h l z).length by omega)]
    have h1 : grpD P n h l z = groupsF (signsL P) [] (casesL n h l z) := by unfold grpD; rw [if_pos hg]
    have h2 := groupsF_sum (signsL P) (casesL n h l z) []
    have h3 := groupsF_pos (signsL P) (casesL n h l z) [] (by simp)
    have h4 := (ones_iff h3).2
    rw [h1, Bool.true_and, Bool.true_and, Bool.eq_iff_iff, decide_eq_true_eq, decide_eq_true_eq, h4]
    unfold cntR
    rw [if_pos hg, groupsF_len]
    have h5 : sumG (groupsF (signsL P) [] (casesL n h l z)) = (casesL n h l z).length := by rw [h2]; simp [sumG]
    rw [h5]
    omega

theorem wpList_len_grp {w : World} {ops : Array Oper} {rest : List Oper} {o : Oper} {a : Act} {Q : Exit → Act → World → Prop} (hg : o.guard = none) (m : Operand)
    (hop : o.op = Op.call { callee := Callee.builtin Builtin.len, args := #[m], argTypes := #[105] }) {lo b : Nat} {G : List (List Int × List Int)} (hm : a.eval m = .map (some b)) (h : GrpAt w lo b G)
    (hK : wpList Try.prog ops Q rest (a.put o.dst (.int .i64 G.length)) w) : wpList Try.prog ops Q (o :: rest) a w := by
  refine wpList_plain hg fun K' hK' => ?_
  unfold Oper.wp
  simp [execOp, hop, resolve, invoke, builtin, hm, h.len o.type, Result.andThen]
  exact hK' _ _ hK
theorem wpList_lookup_grp {w : World} {ops : Array Oper} {rest : List Oper} {o : Oper} {a : Act} {Q : Exit → Act → World → Prop} (hg : o.guard = none) (m x : Operand) (hop : o.op = Op.lookup 105 m x false)
    {lo b : Nat} {G : List (List Int × List Int)} (hm : a.eval m = .map (some b)) (h : GrpAt w lo b G) (s : List Int) (hx : a.eval x = keyV s) (hs : KeyOk s)
    (hK : ∀ v, Own w lo v (getG s G) → wpList Try.prog ops Q rest (a.put o.dst v) w) : wpList Try.prog ops Q (o :: rest) a w := by
  refine wpList_plain hg fun K' hK' => ?_
  obtain ⟨v, hrun, hv⟩ := h.look hs
  unfold Oper.wp
  simp [execOp, hop, hm, hx, hrun, Result.andThen]
  exact hK' _ _ (hK v hv)

set_option maxRecDepth 100000 in
set_option maxHeartbeats 1600000 in
theorem implCountSigns (v : Value) (P : List WD) (n : Int) (h l z : Bool) (w : World) (hp : WdsAt w v P) (hm : P.length ≤ 1048576) (hl : ∀ d ∈ P, d.L.length ≤ 1048576 ∧ d.R.length ≤ 1048576) :
    Calls Try.prog 53 #[probV n h l z, v] w fun e w' => e = .returned (.int .i64 (cntR P n h l z)) ∧ Below w.heap.size w w' := by
  have C0 := Lib.hid (fun W hW => implBySigns v P n h l z W hW hm hl)
  have HR := Lib.hid (cnt_grp P n h l z)
  have HL := grp_len P n h l z
  have P0 := Lib.hid (ProbAt.new w 69 n h l z)
  have B0 := Lib.hid (alloc_below w (.cells #[.int .i64 n, .bool h, .bool l, .bool z] 69))
  unfold probV at C0 ⊢
  unfold BySigns at C0
  generalize hX0 : w.alloc (.cells #[.int .i64 n, .bool h, .bool l, .bool z] 69) = X0 at P0 B0
  have H0 := Lib.hid (hp.below B0.out)
  obtain ⟨a0, c0, rfl⟩ := hp.form
  clear hp hm hl
  generalize P.length = k0 at H0 C0
  generalize cntR P n h l z = r at HR ⊢
  generalize grpD P n h l z = G at C0 HR HL
  obtain ⟨g, hg⟩ : ∃ g, G.length = g := ⟨_, rfl⟩
  rw [hg] at HR HL
  have HG := Lib.hid hg
  clear hg
  obtain ⟨e0, e1, e2, e3, -⟩ := P0.out
  by_cases hz : g = 0
  · have HF : Hid (r = -1) := by unfold Hid; rw [HR.out, if_pos hz]
    subst hz
    clear HR
    go_enter Try.func53, Try.ntmps53
    go_wp2_with fail
    refine (C0.out _ H0.out).mono ?_
    rintro e w1 ⟨b, lo, rfl, hb, hlo, hG, b1⟩
    have B1 := Lib.hid (below_up B0.out b1)
    have HM := Lib.hid hG
    clear b1 hG
    go_wp2_with (at_len; refine wpList_len_grp rfl _ rfl rfl HM.out ?_; rw [HG.out])
    go_ret
    exact ⟨ret_int HF.out.symm, B1.out⟩
  · have HF : Hid (r = (g : Int)) := by unfold Hid; rw [HR.out, if_neg hz]
    have hz0 : ((g : Int) == 0) = false := by simpa using hz
    clear HR
    go_enter Try.func53, Try.ntmps53
    go_wp2_with fail
    refine (C0.out _ H0.out).mono ?_
    rintro e w1 ⟨b, lo, rfl, hb, hlo, hG, b1⟩
    have B1 := Lib.hid (below_up B0.out b1)
    have HM := Lib.hid hG
    clear b1 hG
    go_wp2_with (at_len; refine wpList_len_grp rfl _ rfl rfl HM.out ?_; rw [HG.out])
    go_ret
    exact ⟨ret_int HF.out.symm, B1.out⟩

set_option maxRecDepth 100000 in
set_option maxHeartbeats 1600000 in
theorem implDecodeSigns (v vs : Value) (P : List WD) (n : Int) (h l z : Bool) (S : List Int) (w : World) (hp : WdsAt w v P) (hs : IntsAt w vs S) (hm : P.length ≤ 1048576) (hl : ∀ d ∈ P, d.L.length ≤ 1048576 ∧ d.R.length ≤ 1048576) (hk : KeyOk S) :
    Calls Try.prog 52 #[probV n h l z, v, vs] w (Lists (decR P n h l z S) w) := by
  have C0 := Lib.hid (fun W hW => implBySigns v P n h l z W hW hm hl)
  have C1 := Lib.hid (fun W hW => implKeyOf vs S W hW hk.1)
  have HR := Lib.hid (dec_grp P n h l z S)
  have HK := Lib.hid hk
  have P0 := Lib.hid (ProbAt.new w 69 n h l z)
  have B0 := Lib.hid (alloc_below w (.cells #[.int .i64 n, .bool h, .bool l, .bool z] 69))
  unfold probV at C0 ⊢
  unfold BySigns at C0
  unfold Lists
  generalize hX0 : w.alloc (.cells #[.int .i64 n, .bool h, .bool l, .bool z] 69) = X0 at P0 B0
  have H0 := Lib.hid (hp.below B0.out)
  have H1 := Lib.hid (hs.below B0.out)
  obtain ⟨a0, c0, rfl⟩ := hp.form
  obtain ⟨a1, n1, c1, rfl⟩ := hs.form
  clear hp hm hl hs hk
  generalize P.length = k0 at H0 C0
  generalize decR P n h l z S = R at HR ⊢
  generalize grpD P n h l z = G at C0 HR
  obtain ⟨x0, x1, x2, x3, x4, x5, x6, hkv⟩ : ∃ x0 x1 x2 x3 x4 x5 x6 : Int, keyV S = .agg #[.int .i64 x0, .int .i64 x1, .int .i64 x2, .int .i64 x3, .int .i64 x4, .int .i64 x5, .int .i64 x6] := ⟨_, _, _, _, _, _, _, rfl⟩
  have HKV := Lib.hid hkv
  rw [hkv] at C1
  clear hkv
  obtain ⟨e0, e1, e2, e3, -⟩ := P0.out
  go_enter Try.func52, Try.ntmps52
  go_wp2_with fail
  refine (C0.out _ H0.out).mono ?_
  rintro e w1 ⟨b, lo, rfl, hb, hlo, hG, b1⟩
  have B1 := Lib.hid (below_up B0.out b1)
  have HM := Lib.hid hG
  have H2 := Lib.hid (H1.out.below b1)
  have hs0 := B0.out.size
  clear b1 hG e0 e1 e2 e3
  go_wp2_with fail
  refine (C1.out _ H2.out).mono ?_
  rintro e w2 ⟨rfl, b2⟩
  have B2 := Lib.hid (below_up B1.out b2)
  have HM2 := Lib.hid (HM.out.below b2)
  clear b2
  go_wp2_with (at_lookup; refine wpList_lookup_grp rfl _ _ rfl rfl HM2.out S HKV.out.symm HK.out ?_; intro u hu; have HU := Lib.hid hu; obtain ⟨au, nu, cu, rfl⟩ := HU.out.form; clear hu)
  go_ret
  have hR := HR.out
  subst hR
  exact ⟨_, rfl, owns_lower HU.out (by omega), B2.out⟩
end Go.Proofs.Ytbkhmlkicafheaa
