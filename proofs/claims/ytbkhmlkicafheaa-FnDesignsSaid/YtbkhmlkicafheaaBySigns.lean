/- The contract of the program's casesBySigns: a map of the cases by their signs. Conditions: the slice reads as weighings and is short enough to be counted. -/
import Derived.Test.YtbkhmlkicafheaaGroups
import Derived.Test.YtbkhmlkicafheaaKeyImpl
import Derived.Test.YtbkhmlkicafheaaDesignImpl
import Derived.Test.YtbkhmlkicafheaaDecodeLaw
namespace Go.Proofs.Ytbkhmlkicafheaa
open Go.RowKit

theorem signs_key {P : List WD} {c : Int} (h : P.length ≤ 6) : (signsL P c).length ≤ 6 ∧ KeyOk (signsL P c) := by
  have hl := signsL_len P c
  exact ⟨by omega, by omega, signs_wf P c⟩
theorem seven_new (w : World) (t : TypeId) (x0 x1 x2 x3 x4 x5 x6 : Int) (X : World) (hX : w.alloc (.cells #[.int .i64 x0, .int .i64 x1, .int .i64 x2, .int .i64 x3, .int .i64 x4, .int .i64 x5, .int .i64 x6] t) = X) :
    X.cell? ⟨w.heap.size, 0, none⟩ = some (.int .i64 x0) ∧ X.cell? ⟨w.heap.size, 1, none⟩ = some (.int .i64 x1) ∧ X.cell? ⟨w.heap.size, 2, none⟩ = some (.int .i64 x2) ∧ X.cell? ⟨w.heap.size, 3, none⟩ = some (.int .i64 x3) ∧
    X.cell? ⟨w.heap.size, 4, none⟩ = some (.int .i64 x4) ∧ X.cell? ⟨w.heap.size, 5, none⟩ = some (.int .i64 x5) ∧ X.cell? ⟨w.heap.size, 6, none⟩ = some (.int .i64 x6) := by
  subst hX
  refine ⟨?_, ?_, ?_, ?_, ?_, ?_, ?_⟩ <;> simp
theorem only_cell {T : Nat → Prop} {w w' : World} {b : Nat} (h : Only T w w') (hlt : b < w.heap.size) (hb : ¬ T b) (j : Nat) : w'.cell? ((⟨b, 0, none⟩ : Addr).add j) = w.cell? ((⟨b, 0, none⟩ : Addr).add j) := by
  rw [Addr.add_lit]
  exact World.cell?_of_block (w := w) (a := ⟨b, 0 + j, none⟩) (h.block b hlt hb)
/-- The groups of the first k cases. -/
def grpK (P : List WD) (n : Int) (cs : List Int) (k : Nat) : List (List Int × List Int) := if designB P n = true then groupsF (signsL P) [] (cs.take k) else []
/-- The groups of all cases. -/
def grpD (P : List WD) (n : Int) (h l z : Bool) : List (List Int × List Int) := if goodD P n h l z = true then groupsF (signsL P) [] (casesL n h l z) else []
theorem grpK_end {P : List WD} {n : Int} {h l z : Bool} {k : Nat} (hk : (casesL n h l z).length ≤ k) : grpK P n (casesL n h l z) k = grpD P n h l z := by
  unfold grpK grpD goodD
  rw [List.take_of_length_le hk]
  cases hp : probB n h l with
  | true => simp
  | false => rw [casesL_not hp]; simp [groupsF]
theorem grpK_step {P : List WD} {n : Int} {cs : List Int} {k : Nat} (hv : designB P n = true) (h : k < cs.length) : grpK P n cs (k + 1) = addG (signsL P cs[k]) cs[k] (grpK P n cs k) := by
  unfold grpK
  rw [if_pos hv, if_pos hv, groupsF_take h]
theorem grpK_off {P : List WD} {n : Int} {cs : List Int} {k : Nat} (hv : designB P n = false) : grpK P n cs k = [] := by
  unfold grpK
  rw [if_neg (by rw [hv]; decide)]
theorem getG_len (P : List WD) (n : Int) (cs : List Int) (k : Nat) (s : List Int) : (getG s (grpK P n cs k)).length ≤ cs.length := by
  unfold grpK
  split
  · rw [getG_groups]
    have := List.length_filter_le (fun c => decide (signsL P c = s)) (cs.take k)
    simp only [getG, List.nil_append]
    have h2 := List.length_take_le k cs
    have h3 : (cs.take k).length ≤ cs.length := by simp; omega
    omega
  · simp [getG]
theorem sok_case {P : List WD} {n : Int} {h l z : Bool} {c : Int} (hc : c ∈ casesL n h l z) : sokB P n c = designB P n := by
  obtain ⟨h1, h2⟩ := cases_coins hc
  unfold sokB
  rw [decide_eq_true h1, decide_eq_true h2]
  simp
/-- What casesBySigns gives back. -/
def BySigns (P : List WD) (n : Int) (h l z : Bool) (w : World) (e : Ending) (w' : World) : Prop :=
  ∃ b lo, e = .returned (.map (some b)) ∧ w.heap.size ≤ b ∧ w.heap.size ≤ lo ∧ GrpAt w' lo b (grpD P n h l z) ∧ Below w.heap.size w w'

set_option maxRecDepth 100000 in
set_option maxHeartbeats 6400000 in
theorem implBySigns (v : Value) (P : List WD) (n : Int) (h l z : Bool) (w : World) (hp : WdsAt w v P) (hm : P.length ≤ 1048576) (hl : ∀ d ∈ P, d.L.length ≤ 1048576 ∧ d.R.length ≤ 1048576) :
    Calls Try.prog 79 #[probV n h l z, v] w (BySigns P n h l z w) := by
  have CC := Lib.hid (fun W => implCasesOf n h l z W)
  have HC : Hid (∀ c ∈ casesL n h l z, (-13 ≤ c ∧ c ≤ 13) ∧ sokB P n c = designB P n) := fun c hc => ⟨cases_in hc, sok_case hc⟩
  have CS : Hid (∀ c W, -13 ≤ c ∧ c ≤ 13 → WdsAt W v P → Calls Try.prog 51 #[v, .int .i64 n, .int .i64 c] W (SignsR P n c W)) := fun c W hc hW => implSignsOf v P n c W hW hm hl (by omega) (by omega)
  have HD : Hid (designB P n = true → P.length ≤ 6) := fun hv => (design_size hv).1
  have HE : Hid (∀ k, (casesL n h l z).length ≤ k → grpK P n (casesL n h l z) k = grpD P n h l z) := fun k hk => grpK_end hk
  have HL := cases_len n h l z
  have HW := Lib.hid hp
  obtain ⟨av, cv, rfl⟩ := hp.form
  generalize P.length = pn at HW HD CS
  obtain ⟨i0, hi, hz0, hz1, hz2⟩ := info_parts infoInt
  have P0 := Lib.hid (ProbAt.new w 69 n h l z)
  have B0 := Lib.hid (alloc_below w (.cells #[.int .i64 n, .bool h, .bool l, .bool z] 69))
  have hs0 : (w.alloc (.cells #[.int .i64 n, .bool h, .bool l, .bool z] 69)).heap.size = w.heap.size + 1 := by simp
  unfold probV at CC ⊢
  unfold Lists at CC
  unfold BySigns
  generalize hX0 : w.alloc (.cells #[.int .i64 n, .bool h, .bool l, .bool z] 69) = X0 at P0 B0 hs0
  have HM : Hid (∀ lo, w.heap.size + 1 < lo → GrpAt (X0.alloc (.map #[] 0)) lo (w.heap.size + 1) []) := fun lo hlo => by rw [← hs0]; exact GrpAt.made X0 lo (by omega)
  have B1 := Lib.hid (below_up B0.out (alloc_below X0 (.map #[] 0)))
  have hs1 : (X0.alloc (.map #[] 0)).heap.size = w.heap.size + 2 := by simp [hs0]
  generalize hX1 : X0.alloc (.map #[] 0) = X1 at HM B1 hs1
  have P1 := Lib.hid (P0.out.below (show Below X0.heap.size X0 X1 from hX1 ▸ alloc_below X0 _))
  generalize casesL n h l z = cs at CC HC HE HL
  obtain ⟨m, hm'⟩ : ∃ m, cs.length = m := ⟨_, rfl⟩
  rw [hm'] at HL CC HE
  have HN := Lib.hid hm'
  clear hm' hp hm hl
  obtain ⟨e0, e1, e2, e3, -⟩ := P1.out
  have hmm := @run_makeMap Try.prog
  go_enter Try.func79, Try.ntmps79
  go_wp2_with fail
  refine (CC.out _).mono ?_
  rintro e w1 ⟨vc, rfl, hvc, b1⟩
  clear e0 e1 e2 e3
  have BW := Lib.hid (below_up B1.out b1)
  have P2 := Lib.hid (P1.out.below b1)
  have hsz1 : w.heap.size + 2 ≤ w1.heap.size := by rw [← hs1]; exact b1.size
  have HOC : Hid (Own w1 (w.heap.size + 2) vc cs) := by
    unfold Hid Own
    rw [HN.out, ← hs1]; exact hvc
  have HG0 : Hid (GrpAt w1 w1.heap.size (w.heap.size + 1) (grpK P n cs 0)) := by
    have : grpK P n cs 0 = [] := by unfold grpK groupsF; simp
    unfold Hid
    rw [this]
    exact (HM.out w1.heap.size (by omega)).below b1
  clear b1 hvc
  obtain ⟨ac, kc, hform, hci⟩ := HOC.out.reads
  have HCI := Lib.hid hci
  rw [HN.out] at hform
  subst hform
  clear hci
  go_wp2
  go_loopw [15] (fun i wr => ∃ k : Nat, k ≤ m ∧ i = .int .i64 k ∧ Hid (GrpAt wr w1.heap.size (w.heap.size + 1) (grpK P n cs k)) ∧ Only (fun j => j = w.heap.size + 1) w1 wr) (fun i _ => m - (intOf i).toNat)
  case atStart => exact ⟨0, Nat.zero_le _, rfl, HG0, Only.refl _ _⟩
  case round =>
    clear HG0
    obtain ⟨k, hk, rfl, HG, ho⟩ := hrel
    have HO := Lib.hid ho
    have hszr := ho.size
    clear ho
    have BR : Hid (Below w.heap.size w wr) := BW.out.trans (HO.out.below (by omega) (fun j hj => by omega))
    by_cases hlt : k < m
    · have hkl : k < cs.length := by rw [HN.out]; exact hlt
      obtain ⟨hc13, hsok⟩ := HC.out cs[k] (List.getElem_mem hkl)
      have HT : Hid (designB P n = true → grpK P n cs (k + 1) = addG (signsL P cs[k]) cs[k] (grpK P n cs k)) := fun hv => grpK_step hv hkl
      obtain ⟨bc, oc, rfl, hcell⟩ : ∃ b off, ac = some ⟨b, off, none⟩ ∧ w1.cell? ⟨b, off + k, none⟩ = some (.int .i64 cs[k]) := by
        rcases HCI.out with e | ⟨b, off, e, hc⟩
        · rw [e] at hkl; simp at hkl
        · exact ⟨b, off, e, hc k hkl⟩
      obtain ⟨hbc1, hbc2⟩ := HOC.out.blk bc rfl
      have q0 : wr.cell? ⟨bc, oc + k, none⟩ = some (.int .i64 cs[k]) := by
        rw [World.cell?_of_block (w := w1) (a := ⟨bc, oc + k, none⟩) (HO.out.block bc hbc2 (by omega))]; exact hcell
      have HSOK := Lib.hid hsok
      clear hcell hsok
      generalize cs[k] = c at HSOK q0 HT hc13
      clear hkl
      have Pr := Lib.hid (P2.out.only HO.out (by omega))
      have Wr := Lib.hid (HW.out.below BR.out)
      have i0' : (0 : Int) ≤ (k : Int) := by omega
      have i1 : (k : Int) < (m : Int) := by omega
      obtain ⟨e0, -, -, -, -⟩ := Pr.out
      go_wp2_with fail
      refine (CS.out c wr hc13 Wr.out).mono ?_
      rintro e w2 ⟨u, rfl, hu, b2⟩
      clear e0 q0
      have HU := Lib.hid hu
      have B2 := Lib.hid b2
      have hs2 := b2.size
      rw [HSOK.out]
      clear hu b2
      have HS6 : Hid (designB P n = true → sgR P n c = signsL P c ∧ (signsL P c).length ≤ 6 ∧ KeyOk (signsL P c)) := fun hv => by
        refine ⟨?_, signs_key (design_size hv).1⟩
        unfold sgR
        rw [if_pos (by rw [HSOK.out]; exact hv)]
      obtain ⟨au, nu, cu, rfl⟩ := HU.out.form
      have HF : Hid (designB P n = false → grpK P n cs (k + 1) = grpK P n cs k) := fun hv => by rw [grpK_off hv, grpK_off hv]
      clear HSOK
      generalize designB P n = t at HT HS6 HF
      cases t with
      | false =>
        have HG2 : Hid (GrpAt w2 w1.heap.size (w.heap.size + 1) (grpK P n cs (k + 1))) := by
          unfold Hid
          rw [HF.out rfl]
          exact HG.out.below B2.out
        have HO2 : Hid (Only (fun j => j = w.heap.size + 1) w1 w2) := HO.out.trans (Only.fresh B2.out)
        clear HT HS6 HF
        go_wp2
        go_roundw
        case rel => exact ⟨k + 1, by omega, by go_num, HG2, HO2.out⟩
        case measure => simp [intOf]; omega
      | true =>
        obtain ⟨hsg, hs6, hkey⟩ := HS6.out rfl
        rw [hsg] at HU
        have HT2 := Lib.hid (HT.out rfl)
        clear HT HS6 HF hsg
        generalize signsL P c = s at HU hs6 hkey HT2
        have HK6 := Lib.hid hs6
        have HKK := Lib.hid hkey
        obtain ⟨x0, x1, x2, x3, x4, x5, x6, hkv⟩ : ∃ x0 x1 x2 x3 x4 x5 x6 : Int, keyV s = .agg #[.int .i64 x0, .int .i64 x1, .int .i64 x2, .int .i64 x3, .int .i64 x4, .int .i64 x5, .int .i64 x6] := ⟨_, _, _, _, _, _, _, rfl⟩
        have HKV := Lib.hid hkv
        have CK := Lib.hid (implKeyOf (.slice au nu cu) s w2 HU.out.reads (by omega))
        rw [hkv] at CK
        have hgl := getG_len P n cs k s
        rw [HN.out] at hgl
        clear hkv hs6 hkey
        generalize hG : grpK P n cs k = G at HG HT2 hgl
        clear hG
        go_wp2_with fail
        refine CK.out.mono ?_
        rintro e w3 ⟨rfl, b3⟩
        have B3 := Lib.hid (below_up B2.out b3)
        clear b3 CK
        have B4 := Lib.hid (below_up B3.out (alloc_below w3 (.cells #[.int .i64 x0, .int .i64 x1, .int .i64 x2, .int .i64 x3, .int .i64 x4, .int .i64 x5, .int .i64 x6] 109)))
        have V4 := Lib.hid (seven_new w3 109 x0 x1 x2 x3 x4 x5 x6 _ rfl)
        generalize hX4 : w3.alloc (.cells #[.int .i64 x0, .int .i64 x1, .int .i64 x2, .int .i64 x3, .int .i64 x4, .int .i64 x5, .int .i64 x6] 109) = X4 at B4 V4
        have B5 := Lib.hid (below_up B4.out (alloc_below X4 (.cells #[.int .i64 c] 3)))
        have HC5 : Hid (∀ j u, [Value.int .i64 c][j]? = some u → (X4.alloc (.cells #[.int .i64 c] 3)).cell? ((⟨X4.heap.size, 0, none⟩ : Addr).add j) = some u) := cell_one_val X4 _ _
        have hs5 : (X4.alloc (.cells #[.int .i64 c] 3)).heap.size = X4.heap.size + 1 := by simp
        generalize hX5 : X4.alloc (.cells #[.int .i64 c] 3) = X5 at B5 HC5 hs5
        have HG5 := Lib.hid (HG.out.below B5.out)
        have hsz5 := B4.out.size
        have HXN : Hid (X4.heap.size ≠ w.heap.size + 1) := by unfold Hid; omega
        obtain ⟨k0, k1, k2, k3, k4, k5, k6⟩ := V4.out
        go_wp2_with (first
          | (refine wpList_mapEntry_grp rfl _ _ rfl w1.heap.size (w.heap.size + 1) rfl G s HKV.out.symm HG5.out HK6.out HKK.out ?_
             intro ve st w6 ho6 hon6 hsz6 hback
             have HC6 : Hid (∀ j u, [Value.int .i64 c][j]? = some u → w6.cell? ((⟨X4.heap.size, 0, none⟩ : Addr).add j) = some u) := fun j u hj => by
               have hlt6 : X4.heap.size < X5.heap.size := by omega
               rw [← HC5.out j u hj]
               exact only_cell hon6 hlt6 HXN.out j
             have OV := Lib.hid ho6
             have ON6 := Lib.hid hon6
             have HBK := Lib.hid hback
             obtain ⟨ave, nve, cve, rfl⟩ := OV.out.form
             have hlo6 : w1.heap.size ≤ w6.heap.size := by omega
             clear ho6 hon6 hback)
          | (at_builtin
             go_loud (refine wpList_append_own_at _ rfl _ _ 39 rfl w1.heap.size 3 i0 (.int .i64 0) 1 8 Try.underlying39 hi hz0 hz1 hz2 rfl (by decide) _ _ _ rfl OV.out ⟨X4.heap.size, 0, none⟩ 1 1 [.int .i64 c] rfl rfl HC6.out (by simp [Value.oneCell']) (by unfold maxLen; omega) (by omega) (by omega) ?_)
             intro v' w7 hown7 hg7 hnil7 hat7
             have HO7 : Hid (Own w7 w1.heap.size v' (getG s G ++ [c])) := by unfold Hid Own; simpa using hown7
             have HG7 := Lib.hid (Only.of_grown hg7)
             have HAT : Hid (v'.ownBlock = (Value.slice ave nve cve).ownBlock ∨ ∃ k, v'.ownBlock = some k ∧ w6.heap.size ≤ k) := hat7.imp id (fun h => ⟨_, h, Nat.le_refl _⟩)
             obtain ⟨av', nv', cv', rfl⟩ := HO7.out.form
             clear hown7 hg7 hnil7 hat7)
          | (refine wpList_entryStore_grp rfl _ _ _ rfl HBK.out rfl rfl _ rfl c HG7.out HO7.out HAT.out ?_
             intro w8 hg8 ho8 hsz8
             have HG8 := Lib.hid hg8
             have HO8 := Lib.hid ho8
             clear hg8 ho8))
        have HG9 := Lib.hid HG8.out
        rw [← HT2.out] at HG9
        have HO9 : Hid (Only (fun j => j = w.heap.size + 1) w1 w8) :=
          ((((HO.out.trans (Only.fresh B5.out)).trans ON6.out).andOn HG7.out (fun i hi => Or.inl (OV.out.blk i hi).1)).trans HO8.out)
        clear HT2 k0 k1 k2 k3 k4 k5 k6
        go_wp2
        go_roundw
        case rel => exact ⟨k + 1, by omega, by go_num, HG9, HO9.out⟩
        case measure => simp [intOf]; omega
    · have HG2 := Lib.hid HG.out
      rw [HE.out k (by omega)] at HG2
      go_wp2
      go_ret
      exact ⟨_, _, rfl, by omega, by omega, HG2.out, BR.out⟩
end Go.Proofs.Ytbkhmlkicafheaa
