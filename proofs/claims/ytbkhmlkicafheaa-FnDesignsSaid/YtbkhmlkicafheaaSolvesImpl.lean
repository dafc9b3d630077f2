/- The contract of the program's DesignSolves: entries of one case are deleted while the map is ranged over. Conditions: the slice reads as weighings and is short enough to be counted. -/
import Derived.Test.YtbkhmlkicafheaaGrpVals
namespace Go.Proofs.Ytbkhmlkicafheaa
open Go.RowKit Go.MapKept
open Go.WideElems (Fit rd rg rd_mk rg_of)

/-- A list as an element of a map, of which only the length is read. -/
def lenElem : Value → Option (DataW Unit × List MemPlace)
  | .slice _ n _ => some (.lit (.int .i64 n), [])
  | _ => none
theorem lenElem_inv {v : Value} {y : DataW Unit × List MemPlace} (h : lenElem v = some y) : ∃ a n c, v = .slice a n c ∧ y = (.lit (.int .i64 n), []) := by
  cases v <;> simp [lenElem] at h
  exact ⟨_, _, _, rfl, h.symm⟩
/-- The entries of the map as a range sees them. -/
noncomputable def lenPair (g : List Int × List Int) : Lit × DataW Unit := ((Go.keyOf Try.prog 109 (keyV g.1)).getD (.bool false), .lit (.int .i64 g.2.length))
noncomputable def lenL (G : List (List Int × List Int)) : List (Lit × DataW Unit) := (G.map lenPair).foldr DataW.insert []
theorem GrpAt.owns {w : World} {lo b : Nat} {G : List (List Int × List Int)} (h : GrpAt w lo b G) (hG : G.length ≤ 27) : w.ownsMap Try.prog 109 lenElem b 27 (.map (lenL G)) := by
  obtain ⟨es, clock, hb, hst, hlen, hlo, hok, hent, hsep⟩ := h
  have hrd : ∀ i (hi : i < G.length) (x : MapEntry), es.toList[i]? = some x → rd Try.prog 109 lenElem x = some (lenPair G[i]) := fun i hi x hx => by
    obtain ⟨x', e1, e2, e3⟩ := hent i hi
    rw [hx] at e1
    cases e1
    obtain ⟨l, hl⟩ := keyOf_mk (hok _ (List.getElem_mem hi)).2
    obtain ⟨a, c, hv, -⟩ := e3.reads
    have hk : Go.keyOf Try.prog 109 x.key = some l := by rw [e2]; exact hl
    have hv' : lenElem x.val = some (.lit (.int .i64 G[i].2.length), []) := by rw [hv]; rfl
    have := rd_mk (born := x.born) hk hv'
    rw [show x = ⟨x.key, x.val, x.born⟩ from rfl, this]
    unfold lenPair
    rw [hl]
    rfl
  refine ⟨es, clock, hb, ⟨?_, hst, fun x hx => ?_⟩, ?_, ?_⟩
  · have : es.size = es.toList.length := by simp
    rw [this, hlen]
    unfold maxLen
    omega
  · obtain ⟨i, hi, rfl⟩ := List.getElem_of_mem hx
    exact ⟨_, hrd i (by omega) _ (List.getElem?_eq_getElem hi)⟩
  · have : es.size = es.toList.length := by simp
    rw [this, hlen]
    exact hG
  · have : es.toList.map (rg Try.prog 109 lenElem) = G.map lenPair := by
      apply List.ext_getElem (by simpa using hlen)
      intro i h1 h2
      rw [List.getElem_map, List.getElem_map]
      exact rg_of (hrd i (by simpa using h2) _ (List.getElem?_eq_getElem (by simpa using h1)))
    rw [this]
    rfl

/-! ### what the map reads as, as a function of what is still to come -/
def isOne : DataW Unit → Bool
  | .lit (.int _ a) => a == 1
  | _ => false
def leftL (es0 : List (Lit × DataW Unit)) (left : Lit → Bool) : DataW Unit := .map (es0.filter fun p => !isOne p.2 || left p.1)
theorem leftL_start {es0 : List (Lit × DataW Unit)} (hkeys : ∀ p ∈ es0, WideAt.IsKeyLit p.1) : leftL es0 (Maps.has (.map es0)) = .map es0 := by
  unfold leftL
  rw [List.filter_eq_self.2 (fun p hp => by
    have : Maps.has (DataW.map es0) p.1 = true := List.any_eq_true.2 ⟨p, hp, WideAt.sameKey_self (hkeys p hp)⟩
    simp [this])]
theorem leftL_end {es0 : List (Lit × DataW Unit)} {left : Lit → Bool} (hl : ∀ kl, left kl = false) : leftL es0 left = .map (es0.filter fun p => !isOne p.2) := by
  unfold leftL
  congr 1
  exact List.filter_congr (fun p _ => by simp [hl])
theorem leftL_came {es0 : List (Lit × DataW Unit)} {left : Lit → Bool} (hap : es0.Pairwise (fun p q => p.1 ≠ q.1)) {kl : Lit} (hk : WideAt.IsKeyLit kl) (hlk : left kl = true) {d : DataW Unit} (hat : ∀ zd, (leftL es0 left).atKey kl zd = d) : ∀ p ∈ es0, p.1 = kl → p.2 = d := by
  intro p hp hpk
  have hm : (kl, p.2) ∈ es0.filter fun p => !isOne p.2 || left p.1 := List.mem_filter.2 ⟨by rw [← hpk]; exact hp, by simp [hlk]⟩
  exact (WideAt.atKey_mem .nil hk (hap.filter _) hm).symm.trans (hat .nil)
theorem leftL_struck {es0 : List (Lit × DataW Unit)} {left : Lit → Bool} (hap : es0.Pairwise (fun p q => p.1 ≠ q.1)) {kl : Lit} (hk : WideAt.IsKeyLit kl) (hlk : left kl = true) (hat : ∀ zd, (leftL es0 left).atKey kl zd = .lit (.int .i64 1)) :
    (leftL es0 left).del kl = leftL es0 (fun z => left z && !z.sameKey kl) := by
  have hc := leftL_came hap hk hlk hat
  show DataW.map ((es0.filter fun p => !isOne p.2 || left p.1).filter fun p => !p.1.sameKey kl) = _
  unfold leftL
  rw [List.filter_filter]
  congr 1
  refine List.filter_congr (fun p hp => ?_)
  cases hs : p.1.sameKey kl
  · simp [hs]
  · simp [hs, hc p hp (WideAt.sameKey_eq hs), isOne]
theorem leftL_stays {es0 : List (Lit × DataW Unit)} {left : Lit → Bool} (hap : es0.Pairwise (fun p q => p.1 ≠ q.1)) {kl : Lit} (hk : WideAt.IsKeyLit kl) (hlk : left kl = true) {c : Int} (hc1 : c ≠ 1) (hat : ∀ zd, (leftL es0 left).atKey kl zd = .lit (.int .i64 c)) :
    leftL es0 left = leftL es0 (fun z => left z && !z.sameKey kl) := by
  have hc := leftL_came hap hk hlk hat
  unfold leftL
  congr 1
  refine List.filter_congr (fun p hp => ?_)
  cases hs : p.1.sameKey kl
  · simp [hs]
  · simp [hs, hc p hp (WideAt.sameKey_eq hs), isOne, hc1]
theorem lenL_size (G : List (List Int × List Int)) : ((lenL G).filter fun p => !isOne p.2).length = (G.filter fun g => decide (g.2.length ≠ 1)).length := by
  unfold lenL
  have hp := ((WideShapes.sorted_perm (G.map lenPair)).filter fun p => !isOne p.2).length_eq
  rw [hp, List.filter_map, List.length_map]
  congr 1
  refine List.filter_congr (fun g _ => ?_)
  by_cases e : g.2.length = 1
  · simp [isOne, lenPair, e]
  · have h1 : ((g.2.length : Int) == 1) = false := by
      rw [beq_eq_false_iff_ne]
      omega
    simp [isOne, lenPair, e]
    omega

theorem wpList_next_grp {w : World} {ops : Array Oper} {rest : List Oper} {o : Oper} {a : Act} {Q : Exit → Act → World → Prop} (hg : o.guard = none) (it : Operand) (hop : o.op = Op.next it false)
    (b r n : Nat) (D : DataW Unit) (left : Lit → Bool) (cnt : Nat) (hit : a.eval it = .pointer (some ⟨r, 0, none⟩)) (h : w.ranges Try.prog 109 lenElem b r n D left cnt)
    (hDone : cnt = 0 → (∀ kl, left kl = false) → wpList Try.prog ops Q rest (a.put o.dst (.tuple #[.bool false])) w)
    (hMore : ∀ (x0 x1 x2 x3 x4 x5 x6 : Int) (ad : Option Addr) (c cap : Nat) (kl : Lit) (w' : World) (cnt' : Nat), Go.keyOf Try.prog 109 (.agg #[.int .i64 x0, .int .i64 x1, .int .i64 x2, .int .i64 x3, .int .i64 x4, .int .i64 x5, .int .i64 x6]) = some kl → left kl = true →
      (∀ zd, D.atKey kl zd = .lit (.int .i64 c)) → w'.ranges Try.prog 109 lenElem b r n D (fun z => left z && !z.sameKey kl) cnt' → cnt' < cnt → w.grownBy w' (some r) → w'.heap.size = w.heap.size →
      (Instr.entry (.pointer (some ⟨r, 0, none⟩))).run Try.prog w' = .ok (.tuple #[.agg #[.int .i64 x0, .int .i64 x1, .int .i64 x2, .int .i64 x3, .int .i64 x4, .int .i64 x5, .int .i64 x6], .slice ad c cap]) w' →
      wpList Try.prog ops Q rest (a.put o.dst (.tuple #[.bool true, .agg #[.int .i64 x0, .int .i64 x1, .int .i64 x2, .int .i64 x3, .int .i64 x4, .int .i64 x5, .int .i64 x6], .slice ad c cap])) w') :
    wpList Try.prog ops Q (o :: rest) a w :=
  wpList_next_ranges (α := Int × Int × Int × Int × Int × Int × Int) (β := Option Addr × Nat × Nat) w hg it hop 109 keyKeyed lenElem (fun x => .agg #[.int .i64 x.1, .int .i64 x.2.1, .int .i64 x.2.2.1, .int .i64 x.2.2.2.1, .int .i64 x.2.2.2.2.1, .int .i64 x.2.2.2.2.2.1, .int .i64 x.2.2.2.2.2.2])
    (fun c => .slice c.1 c.2.1 c.2.2) (fun key kl hkey => by obtain ⟨x0, x1, x2, x3, x4, x5, x6, rfl⟩ := keyOf_inv hkey; exact ⟨(x0, x1, x2, x3, x4, x5, x6), rfl⟩) (fun v y hv => by obtain ⟨ad, c, cap, rfl, -⟩ := lenElem_inv hv; exact ⟨(ad, c, cap), rfl⟩)
    b r n D left cnt hit h hDone (fun x c kl y w' cnt' hkey hlk hv hat hrg hlt hgr hsz hen => by
      obtain ⟨x0, x1, x2, x3, x4, x5, x6⟩ := x
      obtain ⟨ad, c, cap⟩ := c
      simp only [lenElem, Option.some.injEq] at hv
      subst hv
      exact hMore x0 x1 x2 x3 x4 x5 x6 ad c cap kl w' cnt' hkey hlk hat hrg hlt hgr hsz hen)

set_option maxRecDepth 100000 in
set_option maxHeartbeats 3200000 in
theorem implDesignSolves (v : Value) (P : List WD) (n : Int) (h l z : Bool) (w : World) (hp : WdsAt w v P) (hm : P.length ≤ 1048576) (hl : ∀ d ∈ P, d.L.length ≤ 1048576 ∧ d.R.length ≤ 1048576) :
    Calls Try.prog 49 #[probV n h l z, v] w fun e w' => e = .returned (.bool (dsolB P n h l z)) ∧ Below w.heap.size w w' := by
  have C0 := Lib.hid (fun W hW => implBySigns v P n h l z W hW hm hl)
  have HR := Lib.hid (sol_grp P n h l z)
  have HL := grp_len P n h l z
  have P0 := Lib.hid (ProbAt.new w 69 n h l z)
  have B0 := Lib.hid (alloc_below w (.cells #[.int .i64 n, .bool h, .bool l, .bool z] 69))
  unfold probV at C0 ⊢
  unfold BySigns at C0
  generalize hX0 : w.alloc (.cells #[.int .i64 n, .bool h, .bool l, .bool z] 69) = X0 at P0 B0
  have H0 := Lib.hid (hp.below B0.out)
  obtain ⟨a0, c0, rfl⟩ := hp.form
  clear hp hm hl
  generalize P.length = k0 at H0 C0
  generalize dsolB P n h l z = r at HR ⊢
  generalize grpD P n h l z = G at C0 HR HL
  have HS := Lib.hid (lenL_size G)
  obtain ⟨g, hg⟩ : ∃ g, G.length = g := ⟨_, rfl⟩
  have HG := Lib.hid hg
  obtain ⟨e0, e1, e2, e3, -⟩ := P0.out
  by_cases hz : g = 0
  · have HF : Hid (r = false) := by unfold Hid; rw [HR.out, decide_eq_false (show ¬ 0 < G.length by omega)]; rfl
    clear HR
    subst hz
    clear hg HS
    go_enter Try.func49, Try.ntmps49
    go_wp2_with fail
    refine (C0.out _ H0.out).mono ?_
    rintro e w1 ⟨b, lo, rfl, hb, hlo, hG, b1⟩
    have B1 := Lib.hid (below_up B0.out b1)
    have HM := Lib.hid hG
    clear b1 hG
    go_wp2_with (at_len; refine wpList_len_grp rfl _ rfl rfl HM.out ?_; rw [HG.out])
    go_ret
    exact ⟨ret_bool HF.out.symm, B1.out⟩
  · have HF : Hid (r = decide (((lenL G).filter fun p => !isOne p.2).length = 0)) := by unfold Hid; rw [HR.out, HS.out, decide_eq_true (show 0 < G.length by omega)]; rfl
    have hz0 : ((g : Int) == 0) = false := by simpa using hz
    clear HR HS
    have HL27 : Hid (G.length ≤ 27) := HL
    clear hg hz HL
    go_enter Try.func49, Try.ntmps49
    go_wp2_with fail
    refine (C0.out _ H0.out).mono ?_
    rintro e w1 ⟨b, lo, rfl, hb, hlo, hG, b1⟩
    have B1 := Lib.hid (below_up B0.out b1)
    have HM := Lib.hid hG
    have HO := Lib.hid (hG.owns HL27.out)
    obtain ⟨es0, he, hap, hkeys⟩ := (hG.owns HL27.out).entries keyKeyed
    cases he
    have HAP := Lib.hid hap
    have HKS := Lib.hid hkeys
    have hs0 := B0.out.size
    have hbw : w.heap.size ≤ b := by omega
    have hbs : w.heap.size ≤ w1.heap.size := B1.out.size
    clear b1 hG hap hkeys e0 e1 e2 e3
    generalize hE : lenL G = es at HF HO HAP HKS
    clear hE
    go_wp2_with (first
      | (at_len; refine wpList_len_grp rfl _ rfl rfl HM.out ?_; rw [HG.out])
      | (at_range; refine wpList_range_own _ rfl _ 105 rfl 109 39 keyKeyed Try.underlying105 _ b 27 _ rfl HO.out ?_; intro w2 hrg2 hg2 hs2))
    go_frame
    have HRG2 := Lib.hid hrg2
    have B2 := Lib.hid (Below.grown B1.out hg2 hbs (fun j hj => by cases hj))
    clear hrg2 hg2
    go_loopw [16] (fun _ wr => ∃ (left : Lit → Bool) (cnt : Nat), Hid (wr.ranges Try.prog 109 lenElem b w1.heap.size 27 (leftL es left) left cnt) ∧ Below w.heap.size w wr) (fun _ wr => wr.rangeLeft b w1.heap.size)
    case atStart => exact ⟨_, _, by unfold Hid; rw [leftL_start HKS.out]; exact HRG2.out, B2.out⟩
    case round =>
      clear HRG2
      obtain ⟨left, cnt, HRG, hb3⟩ := hrel
      have B3 := Lib.hid hb3
      have hsr := hb3.size
      clear hb3
      go_wp2_with (at_next; refine wpList_next_grp rfl _ rfl b w1.heap.size 27 _ _ _ rfl HRG.out ?_ ?_)
      · intro _ hl0
        have HQ : Hid (wr.ownsMap Try.prog 109 lenElem b 27 (.map (es.filter fun p => !isOne p.2))) := by
          unfold Hid
          rw [← leftL_end hl0]
          exact HRG.out.owns
        generalize (es.filter fun p => !isOne p.2) = fs at HQ HF
        obtain ⟨q, hq⟩ : ∃ q, fs.length = q := ⟨_, rfl⟩
        rw [hq] at HF
        have HQL : Hid (Maps.size (DataW.map fs) = q) := hq
        have hqr : ((q : Int) == 0) = r := by
          rw [HF.out, Bool.eq_iff_iff, beq_iff_eq, decide_eq_true_eq]
          omega
        clear hl0 hq HF
        go_wp2_with (at_len; refine wpList_len_own _ rfl _ 105 rfl 109 39 Try.underlying105 _ b 27 _ rfl HQ.out ?_; rw [HQL.out])
        go_ret
        exact ⟨rfl, B3.out⟩
      · intro x0 x1 x2 x3 x4 x5 x6 ad c cap kl w4 cnt4 hkl hlk hat hrg4 hlt hg4 hs4 hen
        have HKL := Lib.hid hkl
        have HAT := Lib.hid hat
        have HR4 := Lib.hid hrg4
        have B4 := Lib.hid (Below.grown B3.out hg4 hsr (fun j hj => by cases hj; exact hbs))
        have HLK := Lib.hid hlk
        have HLT := Lib.hid hlt
        have hsw : w.heap.size ≤ w4.heap.size := B4.out.size
        have B5 := Lib.hid (B4.out.alloc hsw (.cells #[.int .i64 x0, .int .i64 x1, .int .i64 x2, .int .i64 x3, .int .i64 x4, .int .i64 x5, .int .i64 x6] 109))
        have HR5 := Lib.hid (hrg4.alloc (.cells #[.int .i64 x0, .int .i64 x1, .int .i64 x2, .int .i64 x3, .int .i64 x4, .int .i64 x5, .int .i64 x6] 109))
        have V5 := Lib.hid (seven_new w4 109 x0 x1 x2 x3 x4 x5 x6 _ rfl)
        clear hkl hat hrg4 hg4 hlk hlt hs4
        generalize hX5 : w4.alloc (.cells #[.int .i64 x0, .int .i64 x1, .int .i64 x2, .int .i64 x3, .int .i64 x4, .int .i64 x5, .int .i64 x6] 109) = X5 at B5 HR5 V5
        obtain ⟨k0, k1, k2, k3, k4, k5, k6⟩ := V5.out
        by_cases hc : c = 1
        · subst hc
          go_wp2_with (at_delete; refine wpList_delete_ranges _ rfl _ _ 105 109 rfl 39 keyKeyed Try.underlying105 _ b w1.heap.size 27 _ _ _ rfl HR5.out _ _ rfl HKL.out ?_; intro w6 cnt6 hrg6 hle hturn; go_frame)
          rw [Maps.strike_twice] at hrg6
          have HE : Hid (w6.ranges Try.prog 109 lenElem b w1.heap.size 27 (leftL es (fun z => left z && !z.sameKey kl)) (fun z => left z && !z.sameKey kl) cnt6) := by
            unfold Hid
            rw [← leftL_struck HAP.out (keyKeyed.key HKL.out) HLK.out (by simpa using HAT.out)]
            exact hrg6
          have B6 := Lib.hid (Below.grown B5.out hturn.grown B5.out.size (fun j hj => by cases hj; exact hbw))
          go_roundw
          case rel => exact ⟨_, cnt6, HE, B6.out⟩
          case measure =>
            have := HLT.out
            rw [HE.out.left_eq, HRG.out.left_eq]; omega
        · have h1 : ((c : Int) == 1) = false := by
            rw [beq_eq_false_iff_ne]
            omega
          have HE : Hid (X5.ranges Try.prog 109 lenElem b w1.heap.size 27 (leftL es (fun z => left z && !z.sameKey kl)) (fun z => left z && !z.sameKey kl) cnt4) := by
            unfold Hid
            rw [← leftL_stays HAP.out (keyKeyed.key HKL.out) HLK.out (c := (c : Int)) (by omega) HAT.out]
            exact HR5.out
          go_wp2
          go_roundw
          case rel => exact ⟨_, cnt4, HE, B5.out⟩
          case measure =>
            have := HLT.out
            rw [HE.out.left_eq, HRG.out.left_eq]; omega
end Go.Proofs.Ytbkhmlkicafheaa
