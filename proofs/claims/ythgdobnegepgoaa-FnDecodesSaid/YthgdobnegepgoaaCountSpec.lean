/- The contracts of the model's CountSigns and DesignSolves. Conditions: the slice reads as weighings and is short enough to be counted. -/
import Derived.Test.YthgdobnegepgoaaDesignVals
import Derived.Deep.RegionLaw
import Derived.Deep.RegionHeld3
import Derived.Deep.RegionWith
namespace Go.Proofs.Ythgdobnegepgoaa
open Go.RowKit

/-- A row of lists of the call's own; the lists lie in other blocks. -/
def ListsK (w : World) (lo : Nat) (ov : Value) (S : List (List Int)) (us : List Value) : Prop :=
  us.length = S.length ∧ w.ownsRow lo 28 1 ov S.length us ∧ ∀ i (h : i < S.length) (h' : i < us.length), IntsAt w us[i] S[i] ∧ Blk (fun b => ov.ownBlock ≠ some b ∧ b < w.heap.size) us[i]
theorem ListsK.below {w w' : World} {lo : Nat} {ov : Value} {S : List (List Int)} {us : List Value} (h : ListsK w lo ov S us) (hb : Below w.heap.size w w') : ListsK w' lo ov S us :=
  ⟨h.1, owns_below h.2.1 hb, fun i h1 h2 => ⟨(h.2.2 i h1 h2).1.below hb, fun b e => ⟨((h.2.2 i h1 h2).2 b e).1, Nat.lt_of_lt_of_le ((h.2.2 i h1 h2).2 b e).2 hb.size⟩⟩⟩
theorem ListsK.push {w w' : World} {lo : Nat} {ov ov' : Value} {S : List (List Int)} {us : List Value} (h : ListsK w lo ov S us) {s : List Int} {u : Value}
    (hg : w.grownBy w' ov.ownBlock) (hown : w'.ownsRow lo 28 1 ov' (S.length + 1) (us ++ [u])) (hat : ov'.ownBlock = ov.ownBlock ∨ ov'.ownBlock = some w.heap.size)
    (hu : IntsAt w u s) (hbu : Blk (fun b => ov.ownBlock ≠ some b ∧ b < w.heap.size) u) : ListsK w' lo ov' (S ++ [s]) (us ++ [u]) := by
  have T := Only.of_grown hg
  have key : ∀ (x : Value) (l : List Int), IntsAt w x l → Blk (fun b => ov.ownBlock ≠ some b ∧ b < w.heap.size) x → IntsAt w' x l ∧ Blk (fun b => ov'.ownBlock ≠ some b ∧ b < w'.heap.size) x := fun x l hx hb =>
    ⟨hx.only T fun b e => (hb b e).1, fun b e => ⟨by
      have h1 := hb b e
      rcases hat with e' | e'
      · rw [e']; exact h1.1
      · rw [e']; intro e2; simp at e2; omega, Nat.lt_of_lt_of_le (hb b e).2 T.size⟩⟩
  refine ⟨by simp [h.1], by simpa using hown, fun i h1 h2 => ?_⟩
  by_cases e : i < S.length
  · have e' : i < us.length := by rw [h.1]; exact e
    rw [List.getElem_append_left e, List.getElem_append_left e']
    exact key _ _ (h.2.2 i e e').1 (h.2.2 i e e').2
  · have e1 : i = S.length := by simp at h1; omega
    have g1 : (S ++ [s])[i] = s := by rw [List.getElem_append_right (by omega)]; simp [e1]
    have g2 : (us ++ [u])[i] = u := by rw [List.getElem_append_right (by rw [h.1]; omega)]; simp [e1, h.1]
    rw [g1, g2]
    exact key u s hu hbu

/-- The different values of f that are seen. -/
def seenL (f : Int → List Int) : List (List Int) → List Int → List (List Int)
  | S, [] => S
  | S, c :: r => seenL f (if (S.any fun x => decide (x = f c)) = true then S else S ++ [f c]) r
theorem seenL_len (f : Int → List Int) : ∀ (l : List Int) (S : List (List Int)), (seenL f S l).length ≤ S.length + l.length
  | [], S => by simp [seenL]
  | c :: r, S => by
    unfold seenL
    split
    · have := seenL_len f r S; simp; omega
    · have := seenL_len f r (S ++ [f c]); simp at this ⊢; omega
/-- The number of different signs that is given back. -/
def cntR (P : List WD) (n : Int) (h l z : Bool) : Int := if goodD P n h l z = true then ((seenL (signsL P) [] (casesL n h l z)).length : Int) else -1
theorem cntR_range (P : List WD) (n : Int) (h l z : Bool) : -1 ≤ cntR P n h l z ∧ cntR P n h l z ≤ 27 := by
  unfold cntR
  split
  · have h1 := seenL_len (signsL P) (casesL n h l z) []
    have h2 := cases_len n h l z
    simp at h1
    omega
  · omega

theorem infoLst : (Try.prog.info? 28).map (fun i => (i.zero, i.size, i.bytes)) = some (some (.slice none 0 0), 1, 24) := by kernel_rfl
theorem any_take {S : List (List Int)} {s : List Int} {j : Nat} (h : j < S.length) : ((S.take (j + 1)).any fun x => decide (x = s)) = (((S.take j).any fun x => decide (x = s)) || decide (S[j] = s)) := by
  rw [List.take_succ_eq_append_getElem h, List.any_append]
  simp

set_option maxRecDepth 100000 in
set_option maxHeartbeats 6400000 in
theorem specCount (v : Value) (P : List WD) (n : Int) (h l z : Bool) (w : World) (hp : WdsAt w v P) (hm : P.length ≤ 1048576) (hl : ∀ d ∈ P, d.L.length ≤ 1048576 ∧ d.R.length ≤ 1048576) :
    Calls Try.prog 30 #[probV n h l z, v] w fun e w' => e = .returned (.int .i64 (cntR P n h l z)) ∧ Below w.heap.size w w' := by
  obtain ⟨i0, hi, hz0, hz1, hz2⟩ := info_parts infoLst
  have C0 := Lib.hid (fun W hW => specGoodD v P n h l z W hW hm hl)
  have C1 := Lib.hid (fun W => specCasesOf n h l z W)
  have HG : Hid (cntR P n h l z = if goodD P n h l z = true then ((seenL (signsL P) [] (casesL n h l z)).length : Int) else -1) := rfl
  have C2 : Hid (∀ c ∈ casesL n h l z, ∀ W, WdsAt W v P → Calls Try.prog 55 #[v, .int .i64 c] W (Lists (signsL P c) W)) := fun c hc W hW => by
    have := cases_in hc
    exact specSigns v P c W hW hm hl (by omega) (by omega)
  have HSL : Hid (∀ c, (signsL P c).length ≤ 1048576) := fun c => by rw [signsL_len]; exact hm
  have hcl := cases_len n h l z
  have P0 := Lib.hid (ProbAt.new w 24 n h l z)
  have B0 := Lib.hid (alloc_below w (.cells #[.int .i64 n, .bool h, .bool l, .bool z] 24))
  have HP := Lib.hid hp
  have z0 : Hid ((w.alloc (.cells #[.int .i64 n, .bool h, .bool l, .bool z] 24)).heap.size = w.heap.size + 1) := by unfold Hid; simp
  unfold probV at C0 C1 ⊢
  unfold Lists at C1
  generalize hX0 : w.alloc (.cells #[.int .i64 n, .bool h, .bool l, .bool z] 24) = X0 at P0 B0 z0
  obtain ⟨a0, c0, rfl⟩ := hp.form
  clear hp hm hl
  generalize P.length = k0 at HP C0 C2
  generalize cntR P n h l z = Q at HG ⊢
  generalize goodD P n h l z = t at C0 HG
  generalize casesL n h l z = L at C1 C2 HG hcl
  obtain ⟨e0, e1, e2, e3, -⟩ := P0.out
  cases t with
  | false =>
    have HE : Hid (Q = -1) := HG.out
    clear C2 C1
    go_enter Try.func30, Try.ntmps30
    go_wp2_with fail
    refine (C0.out _ (HP.out.below B0.out)).mono ?_
    rintro e w1 ⟨rfl, b1⟩
    have B1 := Lib.hid (below_up B0.out b1)
    clear b1
    go_wp2
    go_ret
    exact ⟨ret_int HE.out.symm, B1.out⟩
  | true =>
    have HE : Hid (Q = ((seenL (signsL P) [] (L.drop 0)).length : Int)) := HG.out
    clear HG
    go_enter Try.func30, Try.ntmps30
    go_wp2_with fail
    refine (C0.out _ (HP.out.below B0.out)).mono ?_
    rintro e w1 ⟨rfl, b1⟩
    have B1 := Lib.hid (below_up B0.out b1)
    have P1 := Lib.hid (P0.out.below b1)
    have z1 : w.heap.size + 1 ≤ w1.heap.size := by have := b1.size; have := z0.out; omega
    clear b1 e0 e1 e2 e3 hX0
    have A2 := alloc_below w1 (.cells #[] 28)
    have R2 : Hid (ListsK (w1.alloc (.cells #[] 28)) (w.heap.size + 1) (.slice (some ⟨w1.heap.size, 0, none⟩) 0 0) [] []) :=
      ⟨rfl, World.ownsRow_lit (base := w.heap.size + 1) (e := 28) (size := 1) w1 #[] 0 z1 (by unfold maxLen; omega) rfl, fun i h1 _ => by simp at h1⟩
    have P2 := Lib.hid (P1.out.below A2)
    have B2 := Lib.hid (below_up B1.out A2)
    have z2 : w1.heap.size < (w1.alloc (.cells #[] 28)).heap.size := by simp
    obtain ⟨e0, e1, e2, e3, -⟩ := P2.out
    go_wp2_with fail
    generalize hX2 : w1.alloc (.cells #[] 28) = X2 at R2 A2 P2 B2 z2 ⊢
    clear e0 e1 e2 e3
    refine (C1.out _).mono ?_
    rintro e w3 ⟨vl, rfl, ol, b3⟩
    have R3 := Lib.hid (R2.out.below b3)
    have B3 := Lib.hid (below_up B2.out b3)
    have L3 := Lib.hid (IntsAt.of_lists ol)
    have hvl := owns_blk ol
    have K3 : Hid (Blk (· < w3.heap.size) vl) := fun q hq => (hvl q hq).2
    have S3 : Hid (Sep (.slice (some ⟨w1.heap.size, 0, none⟩) 0 0) vl) := fun q h1 h2 => by
      have e1 : w1.heap.size = q := by simpa [Value.ownBlock] using h1
      have := (hvl q h2).1
      omega
    obtain ⟨al, cl, rfl, -⟩ := L3.out
    clear b3 ol hX2 A2 hvl z2 z1
    obtain ⟨nl, hn⟩ : ∃ nl, L.length = nl := ⟨_, rfl⟩
    rw [hn] at hcl L3 K3 S3 ⊢
    have HN := Lib.hid hn
    clear hn
    go_wp2
    go_loopw [5, 7, 8, 9, 11, 20] (fun ov _ _ _ _ i wr => ∃ (k : Nat) (S : List (List Int)) (us : List Value), k ≤ nl ∧ i = .int .i64 k ∧ Hid (Q = ((seenL (signsL P) S (L.drop k)).length : Int)) ∧ S.length ≤ k ∧ Hid (ListsK wr (w.heap.size + 1) ov S us) ∧ Hid (∀ s ∈ S, s.length ≤ 1048576) ∧ Hid (IntsAt wr (.slice al nl cl) L) ∧ Hid (Blk (· < wr.heap.size) (.slice al nl cl)) ∧ Hid (Sep ov (.slice al nl cl)) ∧ Hid (Below w.heap.size w wr)) (fun _ _ _ _ _ i _ => nl - (intOf i).toNat)
    case atStart => exact ⟨0, [], [], Nat.zero_le _, rfl, HE, by simp, R3, fun s hs => by simp at hs, L3, K3, S3, B3⟩
    case round =>
      clear R3 L3 K3 S3 B3 HE
      obtain ⟨k, S, us, hk, rfl, HX, hsl, HO, HSS, HL, HK, HSP, HB⟩ := hrel
      by_cases hlt : k < nl
      · have hkl : k < L.length := by rw [HN.out]; exact hlt
        obtain ⟨b, o, hab, e1⟩ : ∃ b o, al = some ⟨b, o, none⟩ ∧ wr.cell? ⟨b, o + k, none⟩ = some (.int .i64 L[k]) := by
          obtain ⟨a', c', hv, hc⟩ := HL.out
          cases hv
          rcases hc with hc | ⟨b, o, rfl, hc⟩
          · rw [hc] at hkl; simp at hkl
          · exact ⟨b, o, rfl, hc k hkl⟩
        subst hab
        have hfx := C2.out L[k] (List.getElem_mem hkl)
        have HX1 : Hid (Q = ((seenL (signsL P) (if (S.any fun y => decide (y = signsL P L[k])) = true then S else S ++ [signsL P L[k]]) (L.drop (k + 1))).length : Int)) := by
          unfold Hid
          rw [HX.out, List.drop_eq_getElem_cons hkl]; rfl
        obtain ⟨x, hx⟩ : ∃ x, L[k] = x := ⟨_, rfl⟩
        rw [hx] at e1 hfx HX1
        have FX := Lib.hid (hfx wr (HP.out.below HB.out))
        unfold Lists at FX
        have hal := HSL.out x
        generalize signsL P x = A at FX HX1 hal
        have i0' : (0 : Int) ≤ (k : Int) := by omega
        have i1 : (k : Int) < (nl : Int) := by omega
        clear hfx hx hkl HX
        go_wp2_with fail
        refine FX.out.mono ?_
        rintro e w4 ⟨va, rfl, oa, b4⟩
        have RA := Lib.hid (IntsAt.of_lists oa)
        have BA : Hid (Blk (fun q => u5.ownBlock ≠ some q ∧ q < w4.heap.size) va) := fun q hq => by
          have h1 := owns_blk oa q hq
          exact ⟨fun e => by have := (HO.out.2.1.lt q e).2; omega, h1.2⟩
        have O4 := Lib.hid (HO.out.below b4)
        have L4 := Lib.hid (HL.out.below b4)
        have K4 : Hid (Blk (· < w4.heap.size) (.slice (some ⟨b, o, none⟩) nl cl)) := fun q hq => Nat.lt_of_lt_of_le (HK.out q hq) b4.size
        have B4 := Lib.hid (below_up HB.out b4)
        obtain ⟨aa, na, ca, rfl⟩ := RA.out.form
        obtain ⟨ms, hms⟩ : ∃ ms, S.length = ms := ⟨_, rfl⟩
        have HMS := Lib.hid hms
        rw [hms] at hsl
        obtain ⟨av, nv, cv, hov, hrow⟩ : ∃ av nv cv, u5 = .slice av nv cv ∧ ∀ j, j < ms → ∃ g, av = some ⟨g, 0, none⟩ ∧ nv = ms ∧ w4.cell? ⟨g, j, none⟩ = us[j]? := by
          rcases O4.out.2.1.2 with ⟨h0, hn0⟩ | ⟨g, cap, cur, h0, _⟩
          · exact ⟨none, 0, 0, h0, fun j hj => by omega⟩
          · refine ⟨_, _, cap, h0, fun j hj => ⟨g, rfl, hms, ?_⟩⟩
            have h1 := O4.out.2.1
            rw [h0] at h1
            exact h1.cellAt j (by omega)
        have HROW := Lib.hid hrow
        have hnv : nv = ms := by
          rcases O4.out.2.1.2 with ⟨h0, hn0⟩ | ⟨g, cap, cur, h0, _⟩
          · rw [hov] at h0; cases h0; omega
          · rw [hov] at h0; cases h0; exact hms
        subst hov
        subst hnv
        clear oa b4 e1 HO HL HK HB hms hrow
        go_wp2
        go_loopw [9, 11, 29] (fun fv _ jv ws => ∃ j : Nat, j ≤ nv ∧ jv = .int .i64 j ∧ fv = .bool ((S.take j).any fun y => decide (y = A)) ∧ ws = w4) (fun _ _ jv _ => nv - (intOf jv).toNat)
        case atStart => exact ⟨0, Nat.zero_le _, rfl, rfl, rfl⟩
        case round =>
          obtain ⟨j, hj, rfl, rfl, rfl⟩ := hrel
          by_cases hjm : j < nv
          · have hjl : j < S.length := by rw [HMS.out]; exact hjm
            have hju : j < us.length := by rw [O4.out.1]; exact hjl
            obtain ⟨g, rfl, -, e2⟩ := HROW.out j hjm
            rw [List.getElem?_eq_getElem hju] at e2
            have IY := (O4.out.2.2 j hjl hju).1
            have hyl := HSS.out S[j] (List.getElem_mem hjl)
            have HA := any_take (s := A) hjl
            obtain ⟨y, hy⟩ : ∃ y, S[j] = y := ⟨_, rfl⟩
            obtain ⟨u, hu⟩ : ∃ u, us[j] = u := ⟨_, rfl⟩
            rw [hy] at IY hyl HA
            rw [hu] at IY e2
            obtain ⟨ay, ny, cy, rfl⟩ := IY.form
            have SM := Lib.hid (specSame (.slice ay ny cy) (.slice aa na ca) y A wr IY RA.out hyl hal)
            have j0 : (0 : Int) ≤ (j : Int) := by omega
            have j1 : (j : Int) < (nv : Int) := by omega
            have HAA := Lib.hid HA
            generalize ((S.take j).any fun y => decide (y = A)) = t1 at HAA ⊢
            generalize decide (y = A) = t3 at HAA SM
            clear IY HA hy hu hju hjl
            cases t1 with
            | true =>
              have HT : Hid (((S.take (j + 1)).any fun y => decide (y = A)) = true) := by unfold Hid; rw [HAA.out]; rfl
              go_wp2
              go_roundw
              case rel => exact ⟨j + 1, by omega, by go_num, by rw [HT.out], by first | rfl | trivial⟩
              case measure => simp [intOf]; omega
            | false =>
              have HT : Hid (((S.take (j + 1)).any fun y => decide (y = A)) = t3) := by unfold Hid; rw [HAA.out]; rfl
              go_wp2_with fail
              refine SM.out.mono ?_
              rintro e w5 ⟨rfl, rfl⟩
              go_wp2
              go_roundw
              case rel => exact ⟨j + 1, by omega, by go_num, by rw [HT.out], by first | rfl | trivial⟩
              case measure => simp [intOf]; omega
          · obtain rfl : j = nv := by omega
            rw [List.take_of_length_le (by rw [HMS.out]; omega)]
            obtain ⟨t, ht⟩ : ∃ t, (S.any fun y => decide (y = A)) = t := ⟨_, rfl⟩
            rw [ht] at HX1 ⊢
            clear ht
            cases t with
            | true =>
              have HX2 : Hid (Q = ((seenL (signsL P) S (L.drop (k + 1))).length : Int)) := HX1.out
              go_wp2
              go_roundw
              case rel => exact ⟨k + 1, S, us, by omega, by go_num, HX2, by have := HMS.out; omega, O4, HSS, L4, K4, HSP, B4⟩
              case measure => simp [intOf]; omega
            | false =>
              have HX2 : Hid (Q = ((seenL (signsL P) (S ++ [A]) (L.drop (k + 1))).length : Int)) := HX1.out
              have A4 := alloc_below wr (.cells #[.slice aa na ca] 28)
              have hsz2 : w.heap.size + 1 ≤ (wr.alloc (.cells #[.slice aa na ca] 28)).heap.size := by have := B4.out.size; simp; omega
              have OX := Lib.hid (O4.out.below A4)
              have OXR : Hid ((wr.alloc (.cells #[.slice aa na ca] 28)).ownsRow (w.heap.size + 1) 28 1 (.slice av j cv) j us) := by
                have := OX.out.2.1
                rw [HMS.out] at this
                exact this
              have HA4 := Lib.hid A4
              clear A4
              go_wp2_with (at_builtin; refine wpList_append_own_at _ rfl _ _ 79 rfl (w.heap.size + 1) 28 i0 (.slice none 0 0) 1 24 Try.underlying79 hi hz0 hz1 hz2 rfl (by decide) _ _ _ rfl OXR.out ⟨wr.heap.size, 0, none⟩ 1 1 [.slice aa na ca] rfl rfl (cell_one_new _ _ _) (by simp [Value.oneCell']) (by unfold maxLen; omega) (by omega) hsz2 ?_; intro v' w6 hown' hg1 _ hat)
              have A4 := HA4.out
              have hg2 : (wr.alloc (.cells #[.slice aa na ca] 28)).grownBy w6 (Value.slice av j cv).ownBlock := hg1
              have KO := keep_other (L4.out.below A4) (fun q hq => Nat.lt_of_lt_of_le (K4.out q hq) A4.size) HSP.out hg2 hat
              have L6 := Lib.hid KO.1
              have K6 := Lib.hid KO.2.1
              have S6 := Lib.hid KO.2.2
              have O6 := Lib.hid (OX.out.push (s := A) (u := .slice aa na ca) hg2 (by rw [HMS.out]; exact hown') hat (RA.out.below A4) (fun q hq => ⟨(BA.out q hq).1, Nat.lt_of_lt_of_le (BA.out q hq).2 A4.size⟩))
              have B6 := Lib.hid (Below.grown (below_up B4.out A4) hg2 (by have := B4.out.size; simp; omega) (fun q hq => by have := (OXR.out.lt q hq).1; omega))
              have SS6 : Hid (∀ s ∈ S ++ [A], s.length ≤ 1048576) := fun s hs => by
                rw [List.mem_append, List.mem_singleton] at hs
                rcases hs with hs | rfl
                · exact HSS.out s hs
                · exact hal
              clear KO hown' hg1 hg2 hat A4
              go_wp2
              go_roundw
              case rel => exact ⟨k + 1, S ++ [A], us ++ [.slice aa na ca], by omega, by go_num, HX2, by have := HMS.out; simp; omega, O6, SS6, L6, K6, S6, B6⟩
              case measure => simp [intOf]; omega
      · have hnv : ∃ av cv, u5 = .slice av S.length cv := by
          rcases HO.out.2.1.2 with ⟨h0, hn0⟩ | ⟨g, cap, cur, h0, _⟩
          · exact ⟨none, 0, by rw [h0, hn0]⟩
          · exact ⟨_, cap, h0⟩
        obtain ⟨av, cv, hov⟩ := hnv
        have HQ : Hid (Q = (S.length : Int)) := by
          unfold Hid
          rw [HX.out, List.drop_of_length_le (by rw [HN.out]; omega)]; rfl
        subst hov
        go_wp2
        go_ret
        exact ⟨ret_int HQ.out.symm, HB.out⟩

/-- Whether a design tells all cases of a problem apart. -/
def dsolB (P : List WD) (n : Int) (h l z : Bool) : Bool := goodD P n h l z && decide (cntR P n h l z = ((casesL n h l z).length : Int))

set_option maxRecDepth 100000 in
set_option maxHeartbeats 6400000 in
theorem specSolvesD (v : Value) (P : List WD) (n : Int) (h l z : Bool) (w : World) (hp : WdsAt w v P) (hm : P.length ≤ 1048576) (hl : ∀ d ∈ P, d.L.length ≤ 1048576 ∧ d.R.length ≤ 1048576) :
    Calls Try.prog 32 #[probV n h l z, v] w fun e w' => e = .returned (.bool (dsolB P n h l z)) ∧ Below w.heap.size w w' := by
  have C0 := Lib.hid (fun W hW => specGoodD v P n h l z W hW hm hl)
  have C1 := Lib.hid (fun W => specCasesOf n h l z W)
  have C2 := Lib.hid (fun W hW => specCount v P n h l z W hW hm hl)
  have HG : Hid (dsolB P n h l z = (goodD P n h l z && decide (cntR P n h l z = ((casesL n h l z).length : Int)))) := rfl
  have hcl := cases_len n h l z
  have P0 := Lib.hid (ProbAt.new w 24 n h l z)
  have B0 := Lib.hid (alloc_below w (.cells #[.int .i64 n, .bool h, .bool l, .bool z] 24))
  unfold probV at C0 C1 C2 ⊢
  unfold Lists at C1
  generalize hX0 : w.alloc (.cells #[.int .i64 n, .bool h, .bool l, .bool z] 24) = X0 at P0 B0
  have H0 := Lib.hid (hp.below B0.out)
  have D0 := Lib.hid ((Below.refl X0.heap.size X0).drew)
  obtain ⟨a0, c0, rfl⟩ := hp.form
  clear hp hm hl
  generalize P.length = k0 at H0 C0 C2
  generalize dsolB P n h l z = Q at HG ⊢
  generalize goodD P n h l z = t at C0 HG
  generalize cntR P n h l z = m at C2 HG
  generalize casesL n h l z = L at C1 HG hcl
  obtain ⟨e0, e1, e2, e3, e4⟩ := P0.out
  cases t with
  | false =>
    have HE : Hid (Q = false) := HG.out
    go_enter Try.func32, Try.ntmps32
    go_wp2_with fail
    first | (go_region_with (first | (go_at_call 56; refine (C0.out _ (H0.out.below D0.out)).mono ?_; rintro e w1 ⟨rfl, hb1⟩; have HB := Lib.hid (below_up (below_up B0.out D0.out) hb1); clear hb1) | fail)) | fail
    all_goals
      go_wp2
      go_ret
      exact ⟨ret_bool HE.out.symm, HB.out⟩
  | true =>
    have HE : Hid (Q = decide (m = (L.length : Int))) := HG.out
    obtain ⟨nl, hn⟩ : ∃ nl, L.length = nl := ⟨_, rfl⟩
    rw [hn] at hcl HE
    have HN := Lib.hid hn
    clear hn HG
    have C1' : Hid (∀ W, Calls Try.prog 57 #[.agg #[.int .i64 n, .bool h, .bool l, .bool z]] W fun e w' => ∃ al cl, e = .returned (.slice al nl cl) ∧ Below W.heap.size W w') := fun W => by
      refine (C1.out W).mono ?_
      rintro e w' ⟨vl, rfl, ol, b⟩
      obtain ⟨al, cl, rfl, -⟩ := IntsAt.of_lists ol
      exact ⟨al, cl, by rw [HN.out], b⟩
    by_cases hmm : m = (nl : Int)
    · have hme : (m == (nl : Int)) = true := by rw [hmm]; simp
      have HR : Hid (Q = true) := by unfold Hid; rw [HE.out]; exact decide_eq_true hmm
      clear hmm HE
      go_enter Try.func32, Try.ntmps32
      go_wp2_with fail
      first | (go_region_held3 (fun w' => w'.cell? ⟨w.heap.size, 0, none⟩ = some (.int .i64 n) ∧ w'.cell? ⟨w.heap.size, 1, none⟩ = some (.bool h) ∧ w'.cell? ⟨w.heap.size, 2, none⟩ = some (.bool l) ∧ w'.cell? ⟨w.heap.size, 3, none⟩ = some (.bool z) ∧ w.heap.size < w'.heap.size)
        (first | exact T3.out | exact T2.out | exact T1.out | exact P0.out.below D0.out | exact P0.out | fail)
        (first
          | (go_at_call 56; refine (C0.out _ (H0.out.below D0.out)).mono ?_; rintro e w1 ⟨rfl, b1⟩; have T1 := Lib.hid ((P0.out.below D0.out).below b1); have M1 := Lib.hid ((H0.out.below D0.out).below b1); have Q1 := Lib.hid (below_up (below_up B0.out D0.out) b1); clear b1)
          | (go_at_call 30; refine (C2.out _ M1.out).mono ?_; rintro e w2 ⟨rfl, b2⟩; have T2 := Lib.hid (T1.out.below b2); have Q2 := Lib.hid (below_up Q1.out b2); clear b2)
          | (go_at_call 57; refine (C1'.out _).mono ?_; rintro e w3 ⟨al, cl, rfl, b3⟩; have T3 := Lib.hid (T2.out.below b3); have Q3 := Lib.hid (below_up Q2.out b3); clear b3)
          | fail)) | fail
      all_goals
        go_wp2
        go_ret
        exact ⟨ret_bool HR.out.symm, Q3.out⟩
    · have hme : (m == (nl : Int)) = false := beq_eq_false_iff_ne.2 hmm
      have HR : Hid (Q = false) := by unfold Hid; rw [HE.out]; exact decide_eq_false hmm
      clear hmm HE
      go_enter Try.func32, Try.ntmps32
      go_wp2_with fail
      first | (go_region_held3 (fun w' => w'.cell? ⟨w.heap.size, 0, none⟩ = some (.int .i64 n) ∧ w'.cell? ⟨w.heap.size, 1, none⟩ = some (.bool h) ∧ w'.cell? ⟨w.heap.size, 2, none⟩ = some (.bool l) ∧ w'.cell? ⟨w.heap.size, 3, none⟩ = some (.bool z) ∧ w.heap.size < w'.heap.size)
        (first | exact T3.out | exact T2.out | exact T1.out | exact P0.out.below D0.out | exact P0.out | fail)
        (first
          | (go_at_call 56; refine (C0.out _ (H0.out.below D0.out)).mono ?_; rintro e w1 ⟨rfl, b1⟩; have T1 := Lib.hid ((P0.out.below D0.out).below b1); have M1 := Lib.hid ((H0.out.below D0.out).below b1); have Q1 := Lib.hid (below_up (below_up B0.out D0.out) b1); clear b1)
          | (go_at_call 30; refine (C2.out _ M1.out).mono ?_; rintro e w2 ⟨rfl, b2⟩; have T2 := Lib.hid (T1.out.below b2); have Q2 := Lib.hid (below_up Q1.out b2); clear b2)
          | (go_at_call 57; refine (C1'.out _).mono ?_; rintro e w3 ⟨al, cl, rfl, b3⟩; have T3 := Lib.hid (T2.out.below b3); have Q3 := Lib.hid (below_up Q2.out b3); clear b3)
          | fail)) | fail
      all_goals
        go_wp2
        go_ret
        exact ⟨ret_bool HR.out.symm, Q3.out⟩
end Go.Proofs.Ythgdobnegepgoaa
