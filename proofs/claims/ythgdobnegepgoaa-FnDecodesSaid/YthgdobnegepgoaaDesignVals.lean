/- The contracts of the model's CountSigns, DesignSolves and DecodeSigns. Conditions: the slice reads as weighings and is short enough to be counted. -/
import Derived.Test.YthgdobnegepgoaaDesignSpec
import Derived.WalkSmall
namespace Go.Proofs.Ythgdobnegepgoaa
open Go.RowKit

/-- Whether a problem and a design are valid. -/
def goodD (P : List WD) (n : Int) (h l _z : Bool) : Bool := probB n h l && designB P n

set_option maxHeartbeats 1600000 in
theorem specGoodD (v : Value) (P : List WD) (n : Int) (h l z : Bool) (w : World) (hp : WdsAt w v P) (hm : P.length ≤ 1048576) (hl : ∀ d ∈ P, d.L.length ≤ 1048576 ∧ d.R.length ≤ 1048576) :
    Calls Try.prog 56 #[probV n h l z, v] w fun e w' => e = .returned (.bool (goodD P n h l z)) ∧ Below w.heap.size w w' := by
  have C0 := Lib.hid (fun W => specProblemOk n h l z W)
  have C1 := Lib.hid (fun W hW => specDesignOk v P n W hW hm hl)
  have HG : Hid (goodD P n h l z = (probB n h l && designB P n)) := rfl
  have P0 := Lib.hid (ProbAt.new w 24 n h l z)
  have B0 := Lib.hid (alloc_below w (.cells #[.int .i64 n, .bool h, .bool l, .bool z] 24))
  unfold probV at C0 ⊢
  generalize hX0 : w.alloc (.cells #[.int .i64 n, .bool h, .bool l, .bool z] 24) = X0 at P0 B0
  have H0 := Lib.hid (hp.below B0.out)
  obtain ⟨a0, c0, rfl⟩ := hp.form
  clear hp hm hl
  generalize P.length = k at H0 C1
  generalize goodD P n h l z = r at HG ⊢
  generalize probB n h l = t at C0 HG
  generalize designB P n = t2 at C1 HG
  obtain ⟨e0, e1, e2, e3, -⟩ := P0.out
  cases t with
  | false =>
    have HE : Hid (r = false) := HG.out
    go_enter Try.func56, Try.ntmps56
    go_wp2_with fail
    refine (C0.out _).mono ?_
    rintro e w1 ⟨rfl, b1⟩
    have B1 := Lib.hid (below_up B0.out b1)
    clear b1
    go_wp2
    go_ret
    exact ⟨ret_bool HE.out.symm, B1.out⟩
  | true =>
    have HE : Hid (r = t2) := HG.out
    go_enter Try.func56, Try.ntmps56
    go_wp2_with fail
    refine (C0.out _).mono ?_
    rintro e w1 ⟨rfl, b1⟩
    have B1 := Lib.hid (below_up B0.out b1)
    have H1 := Lib.hid (H0.out.below b1)
    have P1 := Lib.hid (P0.out.below b1)
    clear b1 e0 e1 e2 e3 hX0
    obtain ⟨e0, e1, e2, e3, -⟩ := P1.out
    go_wp2_with fail
    refine (C1.out _ H1.out).mono ?_
    rintro e w2 ⟨rfl, b2⟩
    have B2 := Lib.hid (below_up B1.out b2)
    clear b2
    go_wp2
    go_ret
    exact ⟨ret_bool HE.out.symm, B2.out⟩


/-- The cases that are decoded. -/
def decR (P : List WD) (n : Int) (h l z : Bool) (S : List Int) : List Int := if goodD P n h l z = true then (casesL n h l z).filter (fun c => decide (signsL P c = S)) else []
theorem decR_len (P : List WD) (n : Int) (h l z : Bool) (S : List Int) : (decR P n h l z S).length ≤ 27 := by
  unfold decR
  split
  · exact Nat.le_trans (List.length_filter_le _ _) (cases_len _ _ _ _)
  · simp
/-- One's own list grows; another list stays. -/
theorem keep_other {X W2 : World} {ov v' vl : Value} {L : List Int} (hL : IntsAt X vl L) (hB : Blk (· < X.heap.size) vl) (hS : Sep ov vl) (hg : X.grownBy W2 ov.ownBlock) (hat : v'.ownBlock = ov.ownBlock ∨ v'.ownBlock = some X.heap.size) :
    IntsAt W2 vl L ∧ Blk (· < W2.heap.size) vl ∧ Sep v' vl := by
  have T := Only.of_grown hg
  refine ⟨hL.only T fun k hk e => hS k e hk, fun k hk => Nat.lt_of_lt_of_le (hB k hk) T.size, fun k h1 h2 => ?_⟩
  rcases hat with e | e
  · exact hS k (e ▸ h1) h2
  · rw [e] at h1
    have := hB k h2
    have : X.heap.size = k := by simpa using h1
    omega

set_option maxRecDepth 100000 in
set_option maxHeartbeats 3200000 in
theorem specDecode (v vs : Value) (P : List WD) (n : Int) (h l z : Bool) (S : List Int) (w : World) (hp : WdsAt w v P) (hs : IntsAt w vs S) (hm : P.length ≤ 1048576) (hl : ∀ d ∈ P, d.L.length ≤ 1048576 ∧ d.R.length ≤ 1048576) (ms : S.length ≤ 1048576) :
    Calls Try.prog 33 #[probV n h l z, v, vs] w (Lists (decR P n h l z S) w) := by
  obtain ⟨i0, hi, hz0, hz1, hz2⟩ := info_parts infoInt
  have C0 := Lib.hid (fun W hW => specGoodD v P n h l z W hW hm hl)
  have C1 := Lib.hid (fun W => specCasesOf n h l z W)
  have HG : Hid (decR P n h l z S = if goodD P n h l z = true then (casesL n h l z).filter (fun c => decide (signsL P c = S)) else []) := rfl
  have C2 : Hid (∀ c ∈ casesL n h l z, ∀ W, WdsAt W v P → Calls Try.prog 55 #[v, .int .i64 c] W (Lists (signsL P c) W)) := fun c hc W hW => by
    have := cases_in hc
    exact specSigns v P c W hW hm hl (by omega) (by omega)
  have HSL : Hid (∀ c, (signsL P c).length ≤ 1048576) := fun c => by rw [signsL_len]; exact hm
  have hcl := cases_len n h l z
  have P0 := Lib.hid (ProbAt.new w 24 n h l z)
  have B0 := Lib.hid (alloc_below w (.cells #[.int .i64 n, .bool h, .bool l, .bool z] 24))
  have HP := Lib.hid hp
  have HS := Lib.hid hs
  have z0 : Hid ((w.alloc (.cells #[.int .i64 n, .bool h, .bool l, .bool z] 24)).heap.size = w.heap.size + 1) := by unfold Hid; simp
  unfold probV at C0 C1 ⊢
  unfold Lists at C1 ⊢
  generalize hX0 : w.alloc (.cells #[.int .i64 n, .bool h, .bool l, .bool z] 24) = X0 at P0 B0 z0
  obtain ⟨a0, c0, rfl⟩ := hp.form
  obtain ⟨as0, ns0, cs0, rfl⟩ := hs.form
  clear hp hm hl hs
  generalize P.length = k0 at HP C0 C2
  generalize decR P n h l z S = Q at HG ⊢
  generalize goodD P n h l z = t at C0 HG
  generalize casesL n h l z = L at C1 C2 HG hcl
  obtain ⟨e0, e1, e2, e3, -⟩ := P0.out
  cases t with
  | false =>
    have HE : Hid (Q = []) := HG.out
    clear C2 C1
    go_enter Try.func33, Try.ntmps33
    go_wp2_with fail
    refine (C0.out _ (HP.out.below B0.out)).mono ?_
    rintro e w1 ⟨rfl, b1⟩
    have B1 := Lib.hid (below_up B0.out b1)
    clear b1
    go_wp2
    go_ret
    exact ⟨_, rfl, by rw [HE.out]; exact World.ownsRow_nil _ _ _ _, B1.out⟩
  | true =>
    have HE : Hid (Q = L.filter (fun c => decide (signsL P c = S))) := HG.out
    clear HG
    go_enter Try.func33, Try.ntmps33
    go_wp2_with fail
    refine (C0.out _ (HP.out.below B0.out)).mono ?_
    rintro e w1 ⟨rfl, b1⟩
    have B1 := Lib.hid (below_up B0.out b1)
    have P1 := Lib.hid (P0.out.below b1)
    have z1 : w.heap.size + 1 ≤ w1.heap.size := by have := b1.size; have := z0.out; omega
    clear b1 e0 e1 e2 e3 hX0
    have A2 := alloc_below w1 (.cells #[] 3)
    have R2 : Hid (Own (w1.alloc (.cells #[] 3)) (w.heap.size + 1) (.slice (some ⟨w1.heap.size, 0, none⟩) 0 0) []) := Own.lit w1 _ z1
    have P2 := Lib.hid (P1.out.below A2)
    have B2 := Lib.hid (below_up B1.out A2)
    have z2 : w1.heap.size < (w1.alloc (.cells #[] 3)).heap.size := by simp
    obtain ⟨e0, e1, e2, e3, -⟩ := P2.out
    go_wp2_with fail
    generalize hX2 : w1.alloc (.cells #[] 3) = X2 at R2 A2 P2 B2 z2 ⊢
    clear e0 e1 e2 e3
    refine (C1.out _).mono ?_
    rintro e w3 ⟨vl, rfl, ol, b3⟩
    have R3 := Lib.hid (R2.out.below b3)
    have B3 := Lib.hid (below_up B2.out b3)
    have L3 := Lib.hid (IntsAt.of_lists ol)
    have hvl := owns_blk ol
    have K3 : Hid (Blk (· < w3.heap.size) vl) := fun q hq => (hvl q hq).2
    have S3 : Hid (Sep (.slice (some ⟨w1.heap.size, 0, none⟩) 0 0) vl) := fun q h1 h2 => by
      have e1 : w1.heap.size = q := by simpa [Value.ownBlock] using h1
      have := (hvl q h2).1
      omega
    obtain ⟨al, cl, rfl, -⟩ := L3.out
    clear b3 ol hX2 A2 hvl z2 z1
    obtain ⟨nl, hn⟩ : ∃ nl, L.length = nl := ⟨_, rfl⟩
    rw [hn] at hcl L3 K3 S3 ⊢
    have HN := Lib.hid hn
    clear hn
    go_wp2
    go_loopw [7, 9, 18] (fun ov _ i wr => ∃ (k : Nat) (xs : List Int), k ≤ nl ∧ i = .int .i64 k ∧ Hid (xs = (L.take k).filter (fun c => decide (signsL P c = S))) ∧ xs.length ≤ k ∧ Hid (Own wr (w.heap.size + 1) ov xs) ∧ Hid (IntsAt wr (.slice al nl cl) L) ∧ Hid (Blk (· < wr.heap.size) (.slice al nl cl)) ∧ Hid (Sep ov (.slice al nl cl)) ∧ Hid (Below w.heap.size w wr)) (fun _ _ i _ => nl - (intOf i).toNat)
    case atStart => exact ⟨0, [], Nat.zero_le _, rfl, by simp [Hid], by simp, R3, L3, K3, S3, B3⟩
    case round =>
      clear R3 L3 K3 S3 B3
      obtain ⟨k, xs, hk, rfl, HX, hxl, HO, HL, HK, HSP, HB⟩ := hrel
      by_cases hlt : k < nl
      · have hkl : k < L.length := by rw [HN.out]; exact hlt
        obtain ⟨b, o, hab, e1⟩ : ∃ b o, al = some ⟨b, o, none⟩ ∧ wr.cell? ⟨b, o + k, none⟩ = some (.int .i64 L[k]) := by
          obtain ⟨a', c', hv, hc⟩ := HL.out
          cases hv
          rcases hc with hc | ⟨b, o, rfl, hc⟩
          · rw [hc] at hkl; simp at hkl
          · exact ⟨b, o, rfl, hc k hkl⟩
        subst hab
        have hfx := C2.out L[k] (List.getElem_mem hkl)
        have HYES : Hid (decide (signsL P L[k] = S) = true → (L.take (k + 1)).filter (fun c => decide (signsL P c = S)) = (L.take k).filter (fun c => decide (signsL P c = S)) ++ [L[k]]) := fun hh => filter_take_yes hkl hh
        have HNO : Hid (decide (signsL P L[k] = S) = false → (L.take (k + 1)).filter (fun c => decide (signsL P c = S)) = (L.take k).filter (fun c => decide (signsL P c = S))) := fun hh => filter_take_no hkl hh
        obtain ⟨x, hx⟩ : ∃ x, L[k] = x := ⟨_, rfl⟩
        rw [hx] at e1 hfx HYES HNO
        have FX := Lib.hid (hfx wr (HP.out.below HB.out))
        unfold Lists at FX
        have hsl := HSL.out x
        generalize signsL P x = A at FX HYES HNO hsl
        have i0' : (0 : Int) ≤ (k : Int) := by omega
        have i1 : (k : Int) < (nl : Int) := by omega
        clear hfx hx hkl
        go_wp2_with fail
        refine FX.out.mono ?_
        rintro e w4 ⟨va, rfl, oa, b4⟩
        have RA := Lib.hid (IntsAt.of_lists oa)
        have O4 := Lib.hid (HO.out.below b4)
        have L4 := Lib.hid (HL.out.below b4)
        have K4 : Hid (Blk (· < w4.heap.size) (.slice (some ⟨b, o, none⟩) nl cl)) := fun q hq => Nat.lt_of_lt_of_le (HK.out q hq) b4.size
        have B4 := Lib.hid (below_up HB.out b4)
        have SM := Lib.hid (specSame va (.slice as0 ns0 cs0) A S w4 RA.out (HS.out.below B4.out) hsl ms)
        obtain ⟨aa, na, ca, rfl⟩ := RA.out.form
        clear oa b4 e1 HO HL HK HB
        generalize decide (A = S) = tt at SM HYES HNO
        go_wp2_with fail
        refine SM.out.mono ?_
        rintro e w5 ⟨rfl, rfl⟩
        cases tt with
        | true =>
          have HX2 : Hid (xs ++ [x] = (L.take (k + 1)).filter (fun c => decide (signsL P c = S))) := by unfold Hid; rw [HYES.out rfl, HX.out]
          have hsz : w.heap.size + 1 ≤ w4.heap.size ∨ w.heap.size = w4.heap.size := by have := B4.out.size; omega
          have hsz2 : w.heap.size + 1 ≤ (w4.alloc (.cells #[.int .i64 x] 3)).heap.size := by have := B4.out.size; simp; omega
          have OX : Hid ((w4.alloc (.cells #[.int .i64 x] 3)).ownsRow (w.heap.size + 1) 3 1 u7 xs.length (xs.map (Value.int .i64))) := O4.out.below (alloc_below _ _)
          go_wp2_with (at_builtin; refine wpList_append_own_at _ rfl _ _ 28 rfl (w.heap.size + 1) 3 i0 (.int .i64 0) 1 8 Try.underlying28 hi hz0 hz1 hz2 rfl (by decide) _ _ _ rfl OX.out ⟨w4.heap.size, 0, none⟩ 1 1 [.int .i64 x] rfl rfl (cell_one_new _ _ _) (by simp [Value.oneCell']) (by unfold maxLen; omega) (by omega) hsz2 ?_; intro v' w6 hown' hg1 _ hat)
          have A4 := alloc_below w4 (.cells #[.int .i64 x] 3)
          have KO := keep_other (L4.out.below A4) (fun q hq => Nat.lt_of_lt_of_le (K4.out q hq) A4.size) HSP.out hg1 hat
          have L6 := Lib.hid KO.1
          have K6 := Lib.hid KO.2.1
          have S6 := Lib.hid KO.2.2
          have O6 : Hid (Own w6 (w.heap.size + 1) v' (xs ++ [x])) := by unfold Hid Own; simpa using hown'
          have B6 := Lib.hid (Below.grown (below_up B4.out A4) hg1 (by have := B4.out.size; simp; omega) (fun j hj => by have := (OX.out.lt j hj).1; omega))
          clear KO hown' hg1 hat A4 hsz
          go_wp2
          go_roundw
          case rel => exact ⟨k + 1, xs ++ [x], by omega, by go_num, HX2, by simp; omega, O6, L6, K6, S6, B6⟩
          case measure => simp [intOf]; omega
        | false =>
          have HX2 : Hid (xs = (L.take (k + 1)).filter (fun c => decide (signsL P c = S))) := by unfold Hid; rw [HNO.out rfl, HX.out]
          go_wp2
          go_roundw
          case rel => exact ⟨k + 1, xs, by omega, by go_num, HX2, by omega, O4, L4, K4, HSP, B4⟩
          case measure => simp [intOf]; omega
      · have HQ : Hid (xs = Q) := by
          unfold Hid
          rw [HX.out, HE.out, List.take_of_length_le (by rw [HN.out]; omega)]
        have HOQ : Hid (wr.ownsRow w.heap.size 3 1 u7 Q.length (Q.map (Value.int .i64))) := by
          have := HO.out.lower (B' := w.heap.size) (by omega)
          rw [HQ.out] at this
          exact this
        go_wp2
        go_ret
        exact ⟨_, rfl, HOQ.out, HB.out⟩
end Go.Proofs.Ythgdobnegepgoaa
