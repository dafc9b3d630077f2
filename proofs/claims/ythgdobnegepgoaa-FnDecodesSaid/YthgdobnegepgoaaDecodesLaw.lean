/- The walk of the law FnDecodes round the contracts of the program's functions: it returns true for every code. Condition: the code reads as bytes. -/
import Derived.Test.YthgdobnegepgoaaDecodeLaw
import Derived.Test.YthgdobnegepgoaaWdsRow
import Derived.Test.YthgdobnegepgoaaMakeProb
import Derived.Test.YthgdobnegepgoaaMakeW
namespace Go.Proofs.Ythgdobnegepgoaa
open Go.RowKit

/-! ### signs that tell all cases -/
theorem seen_all (f : Int → List Int) : ∀ (l : List Int) (S : List (List Int)), (seenL f S l).length = S.length + l.length ↔ (∀ c ∈ l, f c ∉ S) ∧ (l.map f).Nodup
  | [], S => by simp [seenL]
  | c :: r, S => by
    unfold seenL
    by_cases hm : f c ∈ S
    · have hany : (S.any fun x => decide (x = f c)) = true := by rw [List.any_eq_true]; exact ⟨f c, hm, by simp⟩
      rw [if_pos hany]
      have := seenL_len f r S
      constructor
      · intro h; simp at h; omega
      · intro h; exact absurd hm (h.1 c (by simp))
    · have hany : (S.any fun x => decide (x = f c)) = false := by
        rw [List.any_eq_false]
        intro x hx h
        rw [decide_eq_true_eq] at h
        exact hm (h ▸ hx)
      rw [hany, if_neg (by decide)]
      have ih := seen_all f r (S ++ [f c])
      have e : (S ++ [f c]).length + r.length = S.length + (c :: r).length := by simp; omega
      rw [e] at ih
      rw [ih, List.map_cons, List.nodup_cons]
      constructor
      · rintro ⟨h1, h2⟩
        refine ⟨fun d hd => ?_, fun hx => ?_, h2⟩
        · rw [List.mem_cons] at hd
          rcases hd with rfl | hd
          · exact hm
          · exact fun hx => h1 d hd (by simp [hx])
        · obtain ⟨d, hd, hx'⟩ := List.mem_map.1 hx
          exact h1 d hd (by simp [hx'])
      · rintro ⟨h1, h2, h3⟩
        refine ⟨fun d hd hx => ?_, h3⟩
        rw [List.mem_append, List.mem_singleton] at hx
        rcases hx with hx | hx
        · exact h1 d (by simp [hd]) hx
        · exact h2 (List.mem_map.2 ⟨d, hd, hx⟩)
theorem seen_one (f : Int → List Int) : ∀ (l : List Int) (S : List (List Int)), S.length ≤ (seenL f S l).length ∧ (l ≠ [] → S = [] → 1 ≤ (seenL f S l).length)
  | [], S => ⟨by simp [seenL], fun h => absurd rfl h⟩
  | c :: r, S => by
    unfold seenL
    split
    · rename_i h
      have := (seen_one f r S).1
      refine ⟨this, fun _ hs => ?_⟩
      subst hs; simp at h
    · have := (seen_one f r (S ++ [f c])).1
      simp at this
      exact ⟨by omega, fun _ _ => by omega⟩
theorem alone_iff {f : Int → List Int} {l : List Int} (hn : l.Nodup) : (l.all fun c => decide ((l.filter fun x => decide (f x = f c)).length = 1)) = decide ((seenL f [] l).length = l.length) := by
  have h1 := seen_all f l []
  simp at h1
  rw [Bool.eq_iff_iff, List.all_eq_true, decide_eq_true_eq, h1]
  constructor
  · intro h
    unfold List.Nodup
    rw [List.pairwise_map]
    refine List.Pairwise.imp_of_mem ?_ hn
    intro a b ha hb hab e
    have h2 := h a ha
    rw [decide_eq_true_eq] at h2
    have ha' : a ∈ l.filter fun x => decide (f x = f a) := List.mem_filter.2 ⟨ha, by simp⟩
    have hb' : b ∈ l.filter fun x => decide (f x = f a) := List.mem_filter.2 ⟨hb, by simp [e]⟩
    obtain ⟨z, hz⟩ := List.length_eq_one_iff.1 h2
    rw [hz, List.mem_singleton] at ha' hb'
    exact hab (ha'.trans hb'.symm)
  · intro h c hc
    rw [decide_eq_true_eq]
    have hinj : ∀ x ∈ l, f x = f c → x = c := by
      intro x hx e
      obtain ⟨i, hi, rfl⟩ := List.mem_iff_getElem.1 hx
      obtain ⟨j, hj, rfl⟩ := List.mem_iff_getElem.1 hc
      have h3 : l.Pairwise fun a b => f a ≠ f b := by
        have h4 := h
        unfold List.Nodup at h4
        rw [List.pairwise_map] at h4
        exact h4
      have h5 := List.pairwise_iff_getElem.1 h3
      rcases Nat.lt_trichotomy i j with hij | hij | hij
      · exact absurd e (h5 i j hi hj hij)
      · subst hij; rfl
      · exact absurd e.symm (h5 j i hj hi hij)
    have hf : (l.filter fun x => decide (f x = f c)).Nodup := List.Pairwise.filter _ hn
    have hmem : c ∈ l.filter fun x => decide (f x = f c) := List.mem_filter.2 ⟨hc, by simp⟩
    have hall : ∀ x ∈ l.filter fun x => decide (f x = f c), x = c := fun x hx => by
      rw [List.mem_filter, decide_eq_true_eq] at hx
      exact hinj x hx.1 hx.2
    generalize (l.filter fun x => decide (f x = f c)) = m at hf hmem hall ⊢
    match m, hf, hmem, hall with
    | [x], _, _, _ => rfl
    | x :: y :: r, hf, _, hall =>
      have e1 := hall x (by simp)
      have e2 := hall y (by simp)
      rw [List.nodup_cons] at hf
      exact absurd (by simp [e1, e2]) hf.1

set_option maxRecDepth 100000 in
set_option maxHeartbeats 12800000 in
theorem lawDecodes (MPb : MakesProb)
    (SO : ∀ (P : List WD) (n : Int) (h l z : Bool), P.length + sumW P ≤ 1048576 → wfW n → DesignSolvesIs 14 P n h l z)
    (OK : ∀ (P : List WD) (m : Int), P.length + sumW P ≤ 1048576 → wfW m → DesignOkIs 16 P m)
    (SG : ∀ (P : List WD) (m c : Int), P.length + sumW P ≤ 1048576 → wfW m → wfW c → SignsIs 17 P m c)
    (DE : ∀ (P : List WD) (n : Int) (h l z : Bool) (S : List Int), P.length + sumW P ≤ 1048576 → wfW n → S.length ≤ 1048576 → (∀ x ∈ S, wfW x) → DecodeIs 18 P n h l z S)
    (CO : ∀ (P : List WD) (n : Int) (h l z : Bool), P.length + sumW P ≤ 1048576 → wfW n → CountSignsIs 20 P n h l z)
    (w : World) (a : Option Addr) (len cap : Nat) (hB : BytesAt w a len) (hlm : len ≤ maxLen) :
    Calls Try.prog 3 #[.slice a len cap] w fun e w' => e = .returned (.bool true) ∧ Below w.heap.size w w' := by
  unfold maxLen at hlm
  by_cases hbig : (1048576 : Int) < (len : Int)
  · go_enter Try.func3, Try.ntmps3
    go_wp2
    go_ret
    exact ⟨rfl, Below.refl _ _⟩
  have hl : len ≤ 1048576 := by omega
  obtain ⟨i0, hi, hz0, hz1, hz2⟩ := info_parts infoWdS
  have C1 := Lib.hid (MPb w w a len cap hB (Below.refl _ _) hl)
  have CN := Lib.hid (fun V h => makeNum_any w V a len cap 3 hB h hl (by omega) (by omega))
  have CW := Lib.hid (fun (s : Int) (s0 : 0 ≤ s) (s1 : s ≤ 1000) V n h h1 h2 => specMakeWn s s0 s1 w V a len cap n hB h hl h1 h2)
  have HSO := Lib.hid SO
  have HOK := Lib.hid OK
  have HSG := Lib.hid SG
  have HDE := Lib.hid DE
  have HCO := Lib.hid CO
  clear hB SO OK SG DE CO hlm hl
  go_enter Try.func3, Try.ntmps3
  go_wp2_with fail
  refine C1.out.mono ?_
  rintro e w1 ⟨n, h, l, z, rfl, hp, n2, n8, b1⟩
  unfold probV
  have HPB := Lib.hid hp
  have P1 := Lib.hid (ProbAt.new w1 24 n h l z)
  have A1 := alloc_below w1 (.cells #[.int .i64 n, .bool h, .bool l, .bool z] 24)
  have B1 := Lib.hid (below_up b1 A1)
  have s1 : w.heap.size ≤ w1.heap.size := b1.size
  have z1 : w1.heap.size < (w1.alloc (.cells #[.int .i64 n, .bool h, .bool l, .bool z] 24)).heap.size := by simp
  have AE := alloc_below (w1.alloc (.cells #[.int .i64 n, .bool h, .bool l, .bool z] 24)) (.cells #[] 30)
  have G2 : Hid (WdsG ((w1.alloc (.cells #[.int .i64 n, .bool h, .bool l, .bool z] 24)).alloc (.cells #[] 30)) (w1.heap.size + 1) (.slice (some ⟨w1.heap.size + 1, 0, none⟩) 0 0) [] []) := by
    have e : (w1.alloc (.cells #[.int .i64 n, .bool h, .bool l, .bool z] 24)).heap.size = w1.heap.size + 1 := by simp
    refine ⟨rfl, ?_, fun i h1 _ => by simp at h1⟩
    rw [← e]
    exact World.ownsRow_lit (base := (w1.alloc (.cells #[.int .i64 n, .bool h, .bool l, .bool z] 24)).heap.size) (e := 30) (size := 2) _ #[] 0 (Nat.le_refl _) (by unfold maxLen; omega) rfl
  have P2 := Lib.hid (P1.out.below AE)
  have B2 := Lib.hid (below_up B1.out AE)
  have z2 : w1.heap.size + 1 < ((w1.alloc (.cells #[.int .i64 n, .bool h, .bool l, .bool z] 24)).alloc (.cells #[] 30)).heap.size := by simp
  clear b1 hp A1 AE z1
  go_wp2_with fail
  generalize hX2 : (w1.alloc (.cells #[.int .i64 n, .bool h, .bool l, .bool z] 24)).alloc (.cells #[] 30) = X2 at G2 P2 B2 z2 ⊢
  refine (CN.out _ B2.out).mono ?_
  rintro e w3 ⟨x, rfl, x0, x1, b3⟩
  have B3 := Lib.hid (below_up B2.out b3)
  have P3 := Lib.hid (P2.out.below b3)
  have G3 := Lib.hid (G2.out.below b3)
  have z3 : w1.heap.size + 1 < w3.heap.size := Nat.lt_of_lt_of_le z2 b3.size
  have hx3 : 0 ≤ x % 4 ∧ x % 4 ≤ 3 := by omega
  clear b3 hX2 P1 B1 z2
  go_wp2
  obtain ⟨k3, hk3⟩ : ∃ k3, x % 4 = k3 := ⟨_, rfl⟩
  rw [hk3] at hx3 ⊢
  obtain ⟨hx4, hx5⟩ := hx3
  clear hk3 x0 x1
  have s3 : w.heap.size ≤ w3.heap.size := B3.out.size
  go_loopw [4, 5] (fun lv kv wr => ∃ (kk : Int) (D : List WD) (us : List (Value × Value)), kv = .int .i64 kk ∧ -1 ≤ kk ∧ (D.length : Int) + kk ≤ 3 ∧ Hid (∀ d ∈ D, weighB d.L d.R n = true) ∧ Hid (WdsG wr (w1.heap.size + 1) lv D us) ∧ Hid (ProbAt wr w1.heap.size n h l z) ∧ Hid (Below w.heap.size w wr) ∧ w1.heap.size + 1 < wr.heap.size) (fun _ kv _ => (intOf kv + 1).toNat)
  case atStart => exact ⟨k3, [], [], rfl, by omega, by simp; omega, fun d hd => by simp at hd, G3, P3, B3, z3⟩
  case round =>
    clear G3 P3 B3 z3 hx4 hx5 s3
    obtain ⟨kk, D, us, rfl, kk0, kk1, HW, G4, P4, B4, z4⟩ := hrel
    by_cases hpos : 0 ≤ kk
    · obtain ⟨e0, e1, e2, e3, -⟩ := P4.out
      obtain ⟨al, cl, hlv⟩ := G4.out.reads.form
      obtain ⟨m, hm⟩ : ∃ m, D.length = m := ⟨_, rfl⟩
      rw [hm] at hlv kk1
      subst hlv
      have HM := Lib.hid hm
      clear hm
      go_wp2_with fail
      refine (CW.out (20 + 10 * kk) (by omega) (by omega) wr n B4.out n2 (by omega)).mono ?_
      rintro e w5 ⟨_, L, R, rfl, ⟨vl, vr, rfl, A1, A2, -, D1, D2⟩, hv, b5⟩
      obtain ⟨ga, na, ca, rfl⟩ := D1
      obtain ⟨gb, nb, cb, rfl⟩ := D2
      have B5 := Lib.hid (below_up B4.out b5)
      have P5 := Lib.hid (P4.out.below b5)
      have G5 := Lib.hid (G4.out.below b5)
      have z5 : w1.heap.size + 1 < w5.heap.size := Nat.lt_of_lt_of_le z4 b5.size
      have hrow := G4.out.2.1.lt
      have A0 := Lib.hid (alloc_below w5 (.cells #[.slice (some ⟨ga, 0, none⟩) na ca, .slice (some ⟨gb, 0, none⟩) nb cb] 30))
      have BL1 : Hid (Blk (fun q => (Value.slice al m cl).ownBlock ≠ some q ∧ q < (w5.alloc (.cells #[.slice (some ⟨ga, 0, none⟩) na ca, .slice (some ⟨gb, 0, none⟩) nb cb] 30)).heap.size) (.slice (some ⟨ga, 0, none⟩) na ca)) := fun q hq => by
        have h1 := A1.blk q hq
        exact ⟨fun e => by have := (hrow q e).2; omega, by simp; omega⟩
      have BL2 : Hid (Blk (fun q => (Value.slice al m cl).ownBlock ≠ some q ∧ q < (w5.alloc (.cells #[.slice (some ⟨ga, 0, none⟩) na ca, .slice (some ⟨gb, 0, none⟩) nb cb] 30)).heap.size) (.slice (some ⟨gb, 0, none⟩) nb cb)) := fun q hq => by
        have h1 := A2.blk q hq
        exact ⟨fun e => by have := (hrow q e).2; omega, by simp; omega⟩
      have I1 := Lib.hid (A1.reads.below A0.out)
      have I2 := Lib.hid (A2.reads.below A0.out)
      have G6 := Lib.hid (G5.out.below A0.out)
      have R6 : Hid ((w5.alloc (.cells #[.slice (some ⟨ga, 0, none⟩) na ca, .slice (some ⟨gb, 0, none⟩) nb cb] 30)).ownsRow (w1.heap.size + 1) 30 2 (.slice al m cl) m (pcells us)) := by
        have := G6.out.2.1
        rw [HM.out] at this
        exact this
      have HV := Lib.hid hv
      have hsz2 : w1.heap.size + 1 ≤ (w5.alloc (.cells #[.slice (some ⟨ga, 0, none⟩) na ca, .slice (some ⟨gb, 0, none⟩) nb cb] 30)).heap.size := by simp; omega
      clear A1 A2 hv b5 hrow e0 e1 e2 e3
      go_wp2_with (at_builtin; refine wpList_append_own_at _ rfl _ _ 26 rfl (w1.heap.size + 1) 30 i0 (.agg #[.slice none 0 0, .slice none 0 0]) 2 48 Try.underlying26 hi hz0 hz1 hz2 rfl (by decide) _ _ _ rfl R6.out ⟨w5.heap.size, 0, none⟩ 1 1 [.slice (some ⟨ga, 0, none⟩) na ca, .slice (some ⟨gb, 0, none⟩) nb cb] rfl rfl (cell_two_new _ _ _ _) (by simp [Value.oneCell']) (by unfold maxLen; omega) (by omega) hsz2 ?_; intro v7 w7 hown' hg7 _ hat)
      have hg8 : (w5.alloc (.cells #[.slice (some ⟨ga, 0, none⟩) na ca, .slice (some ⟨gb, 0, none⟩) nb cb] 30)).grownBy w7 (Value.slice al m cl).ownBlock := hg7
      have G7 := Lib.hid (G6.out.push (d := ⟨L, R⟩) hg8 (by rw [HM.out]; exact hown') hat I1.out BL1.out I2.out BL2.out)
      have T7 := Only.of_grown hg8
      have P7 := Lib.hid ((P5.out.below A0.out).only T7 fun e => by have := (R6.out.lt _ e).1; omega)
      have B7 := Lib.hid (Below.grown (below_up B5.out A0.out) hg8 (by simp; omega) (fun q hq => by have := (R6.out.lt q hq).1; omega))
      have z7 : w1.heap.size + 1 < w7.heap.size := Nat.lt_of_lt_of_le (by simp; omega) T7.size
      have HW7 : Hid (∀ d ∈ D ++ [⟨L, R⟩], weighB d.L d.R n = true) := fun d hd => by
        rw [List.mem_append, List.mem_singleton] at hd
        rcases hd with hd | rfl
        · exact HW.out d hd
        · exact HV.out
      clear hown' hg7 hg8 hat T7
      go_wp2
      go_roundw
      case rel => exact ⟨kk - 1, D ++ [⟨L, R⟩], _, by go_num, by omega, by have := HM.out; rw [List.length_append]; simp; omega, HW7, G7, P7, B7, z7⟩
      case measure => simp [intOf]; omega
    · -- the design is made
      have hd4 : D.length ≤ 4 := by omega
      have HDB : designB D n = true := by
        unfold designB
        rw [decide_eq_true (show D.length ≤ 6 by omega), decide_eq_true (show 1 ≤ n by omega), decide_eq_true (show n ≤ 13 by omega)]
        simpa [List.all_eq_true] using HW.out
      have HGD : goodD D n h l z = true := by unfold goodD; rw [HPB.out, HDB]; rfl
      have hsz : D.length + sumW D ≤ 1048576 := by
        have key : ∀ (E : List WD), (∀ d ∈ E, weighB d.L d.R n = true) → sumW E ≤ E.length * 26 := by
          intro E
          induction E with
          | nil => intro _; simp [sumW]
          | cons d r ih =>
            intro hh
            have h2 := weigh_len (hh d (by simp))
            have h3 := ih fun e he => hh e (by simp [he])
            simp only [sumW, List.length_cons]
            omega
        have := key D HW.out
        omega
      have wn : wfW n := by simp [wfW, Lit.wf, IntKind.min, IntKind.max, IntKind.signed, IntKind.bits]; omega
      have KSO := Lib.hid (HSO.out D n h l z hsz wn)
      have KOK := Lib.hid (HOK.out D n hsz wn)
      have KCO := Lib.hid (HCO.out D n h l z hsz wn)
      have KCA := Lib.hid (fun W => implCasesOf n h l z W)
      have hwfc : ∀ c ∈ casesL n h l z, wfW c := fun c hc => by
        have := cases_in hc
        simp [wfW, Lit.wf, IntKind.min, IntKind.max, IntKind.signed, IntKind.bits]; omega
      have KSG : Hid (∀ c ∈ casesL n h l z, SignsIs 17 D n c ∧ sokB D n c = true ∧ sgR D n c = signsL D c) := fun c hc => by
        have hcc := cases_coins hc
        have hs : sokB D n c = true := by
          unfold sokB
          rw [HDB, decide_eq_true hcc.1, decide_eq_true hcc.2]; rfl
        refine ⟨HSG.out D n c hsz wn (hwfc c hc), hs, ?_⟩
        unfold sgR
        rw [hs, if_pos rfl]
      have KDE : Hid (∀ c, DecodeIs 18 D n h l z (signsL D c)) := fun c => HDE.out D n h l z _ hsz wn (by rw [signsL_len]; omega) (signs_wf D c)
      have HDR : Hid (∀ S, decR D n h l z S = (casesL n h l z).filter fun x => decide (signsL D x = S)) := fun S => by unfold decR; rw [HGD, if_pos rfl]
      have HSL : Hid (∀ c, (signsL D c).length = D.length) := fun c => signsL_len D c
      have hnd := cases_nodup n h l z
      have hne := cases_some (n := n) (h := h) (l := l) (z := z) HPB.out
      have hcl := cases_len n h l z
      have HAL := Lib.hid (alone_iff (f := signsL D) hnd)
      have HCN : Hid (cntR D n h l z = ((seenL (signsL D) [] (casesL n h l z)).length : Int)) := by unfold Hid cntR; rw [HGD, if_pos rfl]
      have hq1 := (seen_one (signsL D) (casesL n h l z) []).2 hne rfl
      have hq2 := seenL_len (signsL D) (casesL n h l z) []
      simp only [List.length_nil, Nat.zero_add] at hq2
      have HSB : Hid (dsolB D n h l z = decide ((seenL (signsL D) [] (casesL n h l z)).length = (casesL n h l z).length)) := by
        unfold Hid dsolB
        rw [HGD, Bool.true_and, HCN.out]
        congr 1
        exact propext (by omega)
      have hcp : 0 < (casesL n h l z).length := List.length_pos_iff.2 hne
      unfold DesignSolvesIs probV at KSO
      unfold DesignOkIs at KOK
      unfold CountSignsIs probV at KCO
      unfold probV Lists at KCA
      unfold DecodeIs probV Lists at KDE
      unfold SignsIs SignsR at KSG
      rw [HCN.out] at KCO
      rw [HDB] at KOK
      generalize dsolB D n h l z = sb at KSO HSB
      generalize (seenL (signsL D) [] (casesL n h l z)).length = qn at KCO HSB HAL hq1 hq2
      have HDL := Lib.hid (fun c => decR_len D n h l z (signsL D c))
      generalize casesL n h l z = C at KCA KSG HDR HAL HSB hq2 hcp hcl
      obtain ⟨al, cl, hlv⟩ := G4.out.reads.form
      obtain ⟨m, hm⟩ : ∃ m, D.length = m := ⟨_, rfl⟩
      rw [hm] at hlv HSL
      subst hlv
      have HM := Lib.hid hm
      obtain ⟨nl, hnl⟩ : ∃ nl, C.length = nl := ⟨_, rfl⟩
      rw [hnl] at KCA HAL HSB hq2 hcp hcl
      have HN := Lib.hid hnl
      have W4 := Lib.hid G4.out.reads
      clear hm hnl HDB HGD hsz wn hwfc hnd hne hd4 G4 HSO HOK HSG HDE HCO CW CN
      obtain ⟨e0, e1, e2, e3, -⟩ := P4.out
      go_wp2_with fail
      clear e0 e1 e2 e3
      refine (KSO.out _ _ W4.out).mono ?_
      rintro e w5 ⟨rfl, b5⟩
      have B5 := Lib.hid (below_up B4.out b5)
      have P5 := Lib.hid (P4.out.below b5)
      have W5 := Lib.hid (W4.out.below b5)
      clear b5 B4 P4 W4
      obtain ⟨e0, e1, e2, e3, -⟩ := P5.out
      go_wp2_with fail
      clear e0 e1 e2 e3
      refine (KCA.out _).mono ?_
      rintro e w6 ⟨vc, rfl, oc, b6⟩
      have B6 := Lib.hid (below_up B5.out b6)
      have P6 := Lib.hid (P5.out.below b6)
      have W6 := Lib.hid (W5.out.below b6)
      have L6 : Hid (IntsAt w6 vc C) := by
        have := oc
        rw [← HN.out] at this
        exact IntsAt.of_owns this
      obtain ⟨ac, cc, hvc, -⟩ := L6.out
      rw [HN.out] at hvc
      subst hvc
      clear b6 oc B5 P5 W5
      have hn0 : ((nl : Int) == 0) = false := beq_eq_false_iff_ne.2 (by omega)
      obtain ⟨e0, e1, e2, e3, -⟩ := P6.out
      go_wp2_with fail
      clear e0 e1 e2 e3
      refine (KOK.out _ _ W6.out).mono ?_
      rintro e w7 ⟨rfl, b7⟩
      have B7 := Lib.hid (below_up B6.out b7)
      have P7 := Lib.hid (P6.out.below b7)
      have W7 := Lib.hid (W6.out.below b7)
      have L7 := Lib.hid (L6.out.below b7)
      clear b7 B6 P6 W6 L6
      go_wp2
      go_loopw [8, 55] (fun tv iv wr => ∃ k : Nat, k ≤ nl ∧ iv = .int .i64 k ∧ tv = .bool ((C.take k).all fun c => decide ((C.filter fun x => decide (signsL D x = signsL D c)).length = 1)) ∧ Hid (Below w7.heap.size w7 wr)) (fun _ iv _ => nl - (intOf iv).toNat)
      case atStart => exact ⟨0, Nat.zero_le _, rfl, rfl, Below.refl _ _⟩
      case round =>
        obtain ⟨k, hk, rfl, rfl, HB⟩ := hrel
        by_cases hlt : k < nl
        · have hkl : k < C.length := by rw [HN.out]; exact hlt
          obtain ⟨b, o, hab, e1⟩ : ∃ b o, ac = some ⟨b, o, none⟩ ∧ wr.cell? ⟨b, o + k, none⟩ = some (.int .i64 C[k]) := by
            obtain ⟨a', c', hv, hc⟩ := L7.out.below HB.out
            cases hv
            rcases hc with hc | ⟨b, o, rfl, hc⟩
            · rw [hc] at hkl; simp at hkl
            · exact ⟨b, o, rfl, hc k hkl⟩
          subst hab
          obtain ⟨hsg, hsk, hsr⟩ := KSG.out C[k] (List.getElem_mem hkl)
          have HTK : Hid (((C.take (k + 1)).all fun c => decide ((C.filter fun x => decide (signsL D x = signsL D c)).length = 1)) = (((C.take k).all fun c => decide ((C.filter fun x => decide (signsL D x = signsL D c)).length = 1)) && decide ((C.filter fun x => decide (signsL D x = signsL D C[k])).length = 1))) := by
            unfold Hid
            rw [List.take_succ_eq_append_getElem hkl, List.all_append]
            simp
          have HMEM : Hid (C[k] ∈ C.filter fun x => decide (signsL D x = signsL D C[k])) := List.mem_filter.2 ⟨List.getElem_mem hkl, by simp⟩
          obtain ⟨x, hx⟩ : ∃ x, C[k] = x := ⟨_, rfl⟩
          rw [hx] at e1 hsg hsk hsr HTK HMEM
          rw [hsk, hsr] at hsg
          have KS := Lib.hid hsg
          have KD := Lib.hid (KDE.out x)
          have hsl := HSL.out x
          have hdl := HDL.out x
          rw [HDR.out] at hdl KD
          generalize (C.filter fun y => decide (signsL D y = signsL D x)) = F at KD HTK HMEM hdl
          generalize signsL D x = S at KS KD hsl
          obtain ⟨fl, hfl⟩ : ∃ fl, F.length = fl := ⟨_, rfl⟩
          have HFL := Lib.hid hfl
          rw [hfl] at HTK
          have P8 := Lib.hid (P7.out.below HB.out)
          have W8 := Lib.hid (W7.out.below HB.out)
          have i0' : (0 : Int) ≤ (k : Int) := by omega
          have i1 : (k : Int) < (nl : Int) := by omega
          clear hsg hsk hsr hx hkl hfl
          obtain ⟨e0, e2, e3, e4, -⟩ := P8.out
          go_wp2_with fail
          clear e0 e1 e2 e3 e4
          refine (KS.out _ _ W8.out).mono ?_
          rintro e w9 ⟨us9, rfl, os, b9⟩
          have P9 := Lib.hid (P8.out.below b9)
          have W9 := Lib.hid (W8.out.below b9)
          have B9 := Lib.hid (HB.out.trans (b9.mono HB.out.size))
          have S9 := Lib.hid os.reads
          obtain ⟨as9, cs9, hus, -⟩ := S9.out
          rw [hsl] at hus
          subst hus
          clear os b9 hsl
          obtain ⟨e0, e1, e2, e3, -⟩ := P9.out
          go_wp2_with fail
          clear e0 e1 e2 e3
          refine (KD.out _ _ _ W9.out S9.out).mono ?_
          rintro e wA ⟨vd, rfl, od, bA⟩
          have BA := Lib.hid (B9.out.trans (bA.mono B9.out.size))
          have DA := Lib.hid (IntsAt.of_owns od)
          have KH := Lib.hid (lawsHas vd F x wA DA.out (by omega))
          rw [hasI_mem.2 HMEM.out] at KH
          obtain ⟨ad, cd, hvd, -⟩ := DA.out
          rw [HFL.out] at hvd
          subst hvd
          have hmm : ((m : Int) != (m : Int)) = false := by simp
          clear od bA
          go_wp2_with fail
          refine KH.out.mono ?_
          rintro e wB ⟨rfl, rfl⟩
          have HTT := HTK.out
          generalize ((C.take k).all fun c => decide ((C.filter fun x => decide (signsL D x = signsL D c)).length = 1)) = t at HTT ⊢
          have HT2 := Lib.hid HTT
          clear HTT HTK
          cases t with
          | false =>
            have HT3 : Hid (((C.take (k + 1)).all fun c => decide ((C.filter fun x => decide (signsL D x = signsL D c)).length = 1)) = false) := HT2.out
            go_wp2
            go_roundw
            case rel => exact ⟨k + 1, by omega, by go_num, by rw [HT3.out], BA⟩
            case measure => simp [intOf]; omega
          | true =>
            by_cases hf1 : fl = 1
            · have HT3 : Hid (((C.take (k + 1)).all fun c => decide ((C.filter fun x => decide (signsL D x = signsL D c)).length = 1)) = true) := by unfold Hid; rw [HT2.out, decide_eq_true hf1]; rfl
              have hfe : ((fl : Int) == 1) = true := by rw [hf1]; rfl
              clear hf1
              go_wp2
              go_roundw
              case rel => exact ⟨k + 1, by omega, by go_num, by rw [HT3.out], BA⟩
              case measure => simp [intOf]; omega
            · have HT3 : Hid (((C.take (k + 1)).all fun c => decide ((C.filter fun x => decide (signsL D x = signsL D c)).length = 1)) = false) := by unfold Hid; rw [HT2.out, decide_eq_false hf1]; rfl
              have hfe : ((fl : Int) == 1) = false := beq_eq_false_iff_ne.2 (by omega)
              clear hf1
              go_wp2
              go_roundw
              case rel => exact ⟨k + 1, by omega, by go_num, by rw [HT3.out], BA⟩
              case measure => simp [intOf]; omega
        · obtain rfl : k = nl := by omega
          have HTE : Hid (((C.take k).all fun c => decide ((C.filter fun x => decide (signsL D x = signsL D c)).length = 1)) = sb) := by
            unfold Hid
            rw [List.take_of_length_le (by rw [HN.out]; omega), HSB.out]
            exact HAL.out
          rw [HTE.out]
          have P8 := Lib.hid (P7.out.below HB.out)
          have W8 := Lib.hid (W7.out.below HB.out)
          have BY := Lib.hid (below_up B7.out HB.out)
          have g1 : (1 : Int) ≤ (qn : Int) := by omega
          have g2 : (qn : Int) ≤ (k : Int) := by omega
          obtain ⟨e0, e1, e2, e3, -⟩ := P8.out
          go_wp2_with fail
          clear e0 e1 e2 e3
          refine (KCO.out _ _ W8.out).mono ?_
          rintro e w9 ⟨rfl, b9⟩
          have BZ := Lib.hid (below_up BY.out b9)
          clear b9
          by_cases hqk : qn = k
          · have hs : sb = true := by rw [HSB.out]; exact decide_eq_true hqk
            have hqe : ((qn : Int) == (k : Int)) = true := by rw [hqk]; simp
            clear HTE HSB hqk
            subst hs
            go_wp2
            go_ret
            exact ⟨rfl, BZ.out⟩
          · have hs : sb = false := by rw [HSB.out]; exact decide_eq_false hqk
            have hqe : ((qn : Int) == (k : Int)) = false := beq_eq_false_iff_ne.2 (by omega)
            clear HTE HSB hqk
            subst hs
            go_wp2
            go_ret
            exact ⟨rfl, BZ.out⟩
end Go.Proofs.Ythgdobnegepgoaa
