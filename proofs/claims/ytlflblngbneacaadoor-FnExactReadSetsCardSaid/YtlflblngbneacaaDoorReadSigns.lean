/- The contracts of the program's (spelling).read, ReadSigns and ReadResults, and the walks through their exact laws. Conditions: the text has at most 2^20 bytes; the variables that the code reads hold what the program's text and the library's lay. -/
import Derived.Test.YtlflblngbneacaaDoorRead
import Derived.Test.YtlflblngbneacaaDoorSignLaws
import Derived.Deep.RegionWith
namespace Go.Proofs.YtlflblngbneacaaDoor
open Go.RowKit Go.Shelf

theorem unknownAt {w : World} {a b : Addr} (h : ErrsAt w a b) : UnknownAt w b := h.u
theorem elem_rows {w : World} {B e : Nat} {v : Value} {n : Nat} {ts : List ByteArray} (h : w.ownsRow B e 1 v n (ts.map Value.string)) (hn : ts.length = n) (i : Nat) (hi : i < ts.length) : ElemAt w v i (.string ts[i]) := by
  rcases h.2 with ⟨_, hz⟩ | ⟨g, cap, cur, rfl, _, _, hcap, _, _, _⟩
  · omega
  · exact ⟨g, 0, n, cap, rfl, by omega, by rw [Nat.zero_add, h.cellAt i (by omega), List.getElem?_map, List.getElem?_eq_getElem hi]; rfl⟩
theorem rows_lower {w : World} {B B' e s n : Nat} {v : Value} {xs : List Value} (h : w.ownsRow B e s v n xs) (hb : B' ≤ B) : w.ownsRow B' e s v n xs := by
  refine ⟨h.1, ?_⟩
  rcases h.2 with h | ⟨g, cap, cur, hv, hg, r⟩
  · exact .inl h
  · exact .inr ⟨g, cap, cur, hv, Nat.le_trans hb hg, r⟩
theorem runesL_pos (t : ByteArray) (h : 0 < t.size) : 0 < (runesL t).length := by
  obtain ⟨g, -, e⟩ := runesF_in t t.size 0 (by omega) h
  unfold runesL
  rw [e]
  exact Nat.succ_pos _
theorem dash_eq {t : ByteArray} : isDash t = true ↔ t = ⟨#[45]⟩ := by
  constructor
  · intro h
    apply bytes_eq
    unfold isDash at h
    rw [beq_iff_eq, toList_data'] at h
    rw [h]
  · intro h; subst h; kernel_rfl

/-! ### int -/
theorem val_mapI (ts : List ByteArray) (h : ts.all isSgn = true) : ts.map (fun x => if isSgn x = true then sgnV x else 0) = ts.map sgnV := by
  apply List.map_congr_left
  intro x hx
  rw [if_pos (List.all_eq_true.1 h x hx)]

set_option maxRecDepth 100000 in
set_option maxHeartbeats 3200000 in
/-- read, at a text that is not '-'. -/
theorem implReadTI (t : ByteArray) (hd : isDash t = false) (ht : t.size ≤ 1048576) (sp : Value) (w : World) (hsp : SpellI w sp) (hm : MaxOk w) (hT : Lib.Utf8Tabs 4 5 w) (b : Addr) (hu : UnknownAt w b) :
    Calls Tryd.prog 48 #[sp, .string t] w fun e w' => ∃ u er, e = .returned (.tuple #[u, er]) ∧ Below w.heap.size w w' ∧
      ((er = .nilIface ∧ 0 < (runesL t).length ∧ (runesL t).all isSgn = true ∧ Own w' w.heap.size u ((runesL t).map sgnV)) ∨ (∃ s, er = emptyErr s b ∧ u = .slice none 0 0 ∧ ((runesL t).length = 0 ∨ (runesL t).all isSgn = false))) := by
  have hdz : (t.toList == [45]) = false := hd
  have B1 := alloc_below w (.cells sp.cells 60)
  have hsp1 := hsp.below B1
  have hm1 := hm.below B1
  have hT1 := utf8_below hT B1
  have hu1 := hu.below B1
  obtain ⟨bb, hspv, -⟩ := id hsp
  have P1 := Lib.hid (TwoAt.new w 60 (.slice (some ⟨bb, 0, none⟩) 3 3) (.string ⟨#[60, 61, 62]⟩))
  have e0 : (w.alloc (.cells sp.cells 60)) = w.alloc (.cells #[.slice (some ⟨bb, 0, none⟩) 3 3, .string ⟨#[60, 61, 62]⟩] 60) := by rw [hspv]; rfl
  rw [e0] at B1 hsp1 hm1 hT1 hu1
  generalize hX1 : w.alloc (.cells #[.slice (some ⟨bb, 0, none⟩) 3 3, .string ⟨#[60, 61, 62]⟩] 60) = X1 at B1 hsp1 hm1 hT1 hu1 P1
  have HB := Lib.hid B1
  have CS : Hid (∀ V, Below X1.heap.size X1 V → Calls Tryd.prog 71 #[.string t, .string ⟨#[]⟩] V fun e w' => ∃ v, e = .returned v ∧ w'.ownsRow V.heap.size 9 1 v (runesL t).length ((runesL t).map Value.string) ∧ Below V.heap.size V w') :=
    fun V hV => splitAll t V ht (utf8_below hT1 hV)
  have CR : Hid (∀ v U V B, U.ownsRow B 9 1 v (runesL t).length ((runesL t).map Value.string) → Below X1.heap.size X1 U → Below U.heap.size U V → Calls Tryd.prog 59 #[v, .func (.func 72) #[sp] #[]] V fun e w' => ∃ u er, e = .returned (.tuple #[u, er]) ∧ Below V.heap.size V w' ∧
      ((er = .nilIface ∧ 0 < (runesL t).length ∧ (runesL t).all isSgn = true ∧ Own w' V.heap.size u ((runesL t).map sgnV)) ∨ (∃ s, er = emptyErr s b ∧ u = .slice none 0 0 ∧ ((runesL t).length = 0 ∨ (runesL t).all isSgn = false)))) := by
    intro v U V B hrow hXU hUV
    have hXV : Below X1.heap.size X1 V := below_up hXU hUV
    refine (implReadI 72 (fun _ _ => by kernel_rfl) #[sp] #[] v (runesL t) (fun x => if isSgn x = true then sgnV x else 0) isSgn V (by obtain ⟨a, c, hv⟩ := ownsLen hrow; exact ⟨a, c, hv⟩) (by have := runesL_le t; omega)
      (fun i hi => (elem_rows hrow rfl i hi).below hUV)
      (fun i hi W hW => implValueI _ (pieces_ok t _ (List.getElem_mem hi)) sp W (hsp1.below (below_up hXV hW)) (hm1.below (below_up hXV hW))) b (hu1.below hXV)).mono ?_
    rintro e w' ⟨u, er, rfl, b1, h | h⟩
    · obtain ⟨h1, h2, h3, h4⟩ := h
      rw [val_mapI _ h3] at h4
      exact ⟨u, er, rfl, b1, .inl ⟨h1, h2, h3, h4⟩⟩
    · exact ⟨u, er, rfl, b1, .inr h⟩
  generalize (runesL t).map sgnV = L at CR ⊢
  generalize (runesL t).map Value.string = ps at CS CR
  generalize (runesL t).all isSgn = k at CR ⊢
  generalize (runesL t).length = n at CS CR ⊢
  subst hspv
  obtain ⟨q0, q1, -⟩ := P1.out
  have hs1 : w.heap.size ≤ X1.heap.size := HB.out.size
  clear B1 hsp1 hm1 hT1 hu1 hsp hm hT hu
  go_enter Tryd.func48, Tryd.ntmps48
  go_wp2_with fail
  go_region_with (first
    | (go_at_call 71; refine (CS.out _ (by first | exact Below.refl _ _ | exact (Below.refl _ _).drew | exact ((Below.refl _ _).drew).drew)).mono ?_; rintro e w1 ⟨v, rfl, o, bz⟩; have HO := Lib.hid o; have HZ := Lib.hid bz; have bx : Below X1.heap.size X1 w1 := ⟨bz.os, bz.tape, bz.output, bz.size, bz.block⟩; have P2 := Lib.hid (P1.out.below bx); have HZX := Lib.hid bx; obtain ⟨r0, r1, -⟩ := P2.out; obtain ⟨sa, sk, sc, rfl⟩ := ownsForm o; clear o bz bx)
    | (go_at_call 59; refine (CR.out _ _ _ _ HO.out HZX.out (by first | exact Below.refl _ _ | exact (Below.refl _ _).drew | exact ((Below.refl _ _).drew).drew)).mono ?_; rintro e w2 ⟨u, er, rfl, bz2, hpost⟩; have HP := Lib.hid hpost; have HZ2 := Lib.hid bz2; clear hpost bz2))
  all_goals (try go_wp2)
  all_goals (
    go_ret2
    have b9 := below_up (below_up HB.out HZX.out) (⟨HZ2.out.os, HZ2.out.tape, HZ2.out.output, HZ2.out.size, HZ2.out.block⟩ : Below w1.heap.size w1 w2)
    refine ⟨_, _, rfl, ⟨b9.os, b9.tape, b9.output, b9.size, b9.block⟩, ?_⟩
    rcases HP.out with ⟨h1, h2, h3, h4⟩ | h
    · exact .inl ⟨h1, h2, h3, rows_lower (show w2.ownsRow _ _ _ _ _ _ from h4) (Nat.le_trans hs1 HZX.out.size)⟩
    · exact .inr h)

set_option maxHeartbeats 1600000 in
/-- read, at '-'. -/
theorem implReadDI (t : ByteArray) (hd : isDash t = true) (sp : Value) (w : World) (hsp : SpellI w sp) (a : Addr) (he : EmptyAt w a) :
    Calls Tryd.prog 48 #[sp, .string t] w fun e w' => e = .returned (.tuple #[.slice none 0 0, emptyErr t a]) ∧ Below w.heap.size w w' := by
  have hdz : (t.toList == [45]) = true := hd
  obtain ⟨bb, rfl, -⟩ := hsp
  have B1 := Lib.hid (alloc_below w (.cells #[.slice (some ⟨bb, 0, none⟩) 3 3, .string ⟨#[60, 61, 62]⟩] 60))
  have e0 : (w.alloc (.cells #[.slice (some ⟨bb, 0, none⟩) 3 3, .string ⟨#[60, 61, 62]⟩] 60)).cell? ⟨0, 0, none⟩ = some (.iface 171 (.pointer (some a))) := he.below B1.out
  clear he hd
  unfold emptyErr
  go_enter Tryd.func48, Tryd.ntmps48
  go_wp2_with fail
  go_quiet (fail)
  all_goals (go_wp2; go_ret2; exact ⟨rfl, below_drewN B1.out _⟩)

set_option maxRecDepth 100000 in
set_option maxHeartbeats 1600000 in
theorem implReadSignsOf (t : ByteArray) (ht : t.size ≤ 1048576) (w : World) (hm : MaxOk w) (hT : Lib.Utf8Tabs 4 5 w) (a b : Addr) (h : ErrsAt w a b) :
    Calls Tryd.prog 19 #[.string t] w (GivesN (readSL t) (readSB t) w) := by
  have C0 := Lib.hid (implsignSpelling w)
  have HE := Lib.hid h
  by_cases hd : isDash t = true
  · obtain ⟨r1, r2, r3, r4⟩ := dash_read t hd
    have HL : Hid (readSL t = [] ∧ readSB t = true) := ⟨r2, r1⟩
    have C1 := Lib.hid (fun sp W h1 h2 => implReadDI t hd sp W h1 a h2)
    have C2 := Lib.hid (fun v hv W hW => implAccIEmpty v hv t a b W hW)
    unfold GivesN
    rw [HL.out.1, HL.out.2]
    clear r1 r2 r3 r4 h hm hT HL hd
    go_enter Tryd.func19, Tryd.ntmps19
    go_wp2_with fail
    refine C0.out.mono ?_
    rintro e w1 ⟨sp, rfl, hs, b1⟩
    have CC := Lib.hid (C1.out sp w1 hs (HE.out.e.below b1))
    have H1 := Lib.hid (HE.out.below b1)
    have B := Lib.hid b1
    obtain ⟨bb, rfl, -⟩ := hs
    clear b1
    go_wp2_with fail
    refine CC.out.mono ?_
    rintro e w2 ⟨rfl, b2⟩
    have B2 := Lib.hid (below_up B.out b2)
    have H2 := Lib.hid (H1.out.below b2)
    clear b2
    unfold emptyErr at *
    go_wp2_with fail
    refine (C2.out (.slice none 0 0) ⟨_, _, _, rfl⟩ _ H2.out).mono ?_
    rintro e w3 ⟨rfl, b3⟩
    have B3 := Lib.hid (below_up B2.out b3)
    clear b3
    go_wp2
    go_ret2
    exact ⟨_, rfl, World.ownsRow_nil _ _ _ _, B3.out⟩
  · have hd' : isDash t = false := by simpa using hd
    have C1 := Lib.hid (fun sp W h1 h2 h3 h4 => implReadTI t hd' ht sp W h1 h2 h3 b h4)
    have C2 := Lib.hid (fun v hv W => implAccINone v hv W)
    have C3 := Lib.hid (fun v s W hW => implAccINot v s a b W hW)
    have HM := Lib.hid hm
    have HT := Lib.hid hT
    have HLN : Hid (0 < (runesL t).length → (runesL t).all isSgn = true → readSL t = (runesL t).map sgnV ∧ readSB t = true) := by
      intro h1 h2
      by_cases h0 : t.size = 0
      · have := runesL_le t; omega
      · obtain ⟨p1, p2⟩ := readS_pieces t (by omega) hd'
        exact ⟨by rw [p2, if_pos h2], by rw [p1, h2]⟩
    have HLF : Hid ((runesL t).length = 0 ∨ (runesL t).all isSgn = false → readSL t = [] ∧ readSB t = false) := by
      intro h1
      by_cases h0 : t.size = 0
      · obtain ⟨r1, r2, r3, r4⟩ := empty_read t h0
        exact ⟨r2, r1⟩
      · have hp := runesL_pos t (by omega)
        obtain ⟨p1, p2⟩ := readS_pieces t (by omega) hd'
        have h2 : (runesL t).all isSgn = false := by
          rcases h1 with h1 | h1
          · omega
          · exact h1
        exact ⟨by rw [p2, h2]; rfl, by rw [p1, h2]⟩
    unfold GivesN
    generalize readSL t = L at HLN HLF ⊢
    generalize readSB t = k at HLN HLF ⊢
    generalize (runesL t).map sgnV = M at C1 HLN
    generalize (runesL t).all isSgn = q at C1 HLN HLF
    generalize (runesL t).length = m at C1 HLN HLF
    clear hd hd' h hm hT ht
    go_enter Tryd.func19, Tryd.ntmps19
    go_wp2_with fail
    refine C0.out.mono ?_
    rintro e w1 ⟨sp, rfl, hs, b1⟩
    have CC := Lib.hid (C1.out sp w1 hs (HM.out.below b1) (utf8_below HT.out b1) ((unknownAt HE.out).below b1))
    have H1 := Lib.hid (HE.out.below b1)
    have B := Lib.hid b1
    obtain ⟨bb, rfl, -⟩ := hs
    clear b1
    go_wp2_with fail
    refine CC.out.mono ?_
    rintro e w2 ⟨u, er, rfl, b2, hp⟩
    have B2 := Lib.hid (below_up B.out b2)
    have H2 := Lib.hid (H1.out.below b2)
    have hs1 : w.heap.size ≤ w1.heap.size := B.out.size
    clear b2
    rcases hp with ⟨rfl, h1, rfl, h2⟩ | ⟨s, rfl, rfl, h1⟩
    · obtain ⟨rfl, rfl⟩ := HLN.out h1 rfl
      have O := Lib.hid (rows_lower (show w2.ownsRow _ _ _ _ _ _ from h2) hs1)
      obtain ⟨ga, ka, ca, rfl⟩ := ownsForm O.out
      clear h2
      go_wp2_with fail
      refine (C2.out (.slice ga ka ca) ⟨_, _, _, rfl⟩ _).mono ?_
      rintro e w3 ⟨rfl, b3⟩
      have B3 := Lib.hid (below_up B2.out b3)
      have O3 := Lib.hid (owns_below O.out b3)
      clear b3
      go_wp2
      go_ret2
      exact ⟨_, rfl, O3.out, B3.out⟩
    · obtain ⟨rfl, rfl⟩ := HLF.out h1
      unfold emptyErr at *
      go_wp2_with fail
      refine (C3.out (.slice none 0 0) s _ H2.out).mono ?_
      rintro e w3 ⟨rfl, b3⟩
      have B3 := Lib.hid (below_up B2.out b3)
      clear b3
      go_wp2
      go_ret2
      exact ⟨_, rfl, World.ownsRow_nil _ _ _ _, B3.out⟩

/-! ### bool -/
theorem val_mapB (ts : List ByteArray) (h : ts.all isRes = true) : ts.map (fun x => if isRes x = true then resV x else false) = ts.map resV := by
  apply List.map_congr_left
  intro x hx
  rw [if_pos (List.all_eq_true.1 h x hx)]

set_option maxRecDepth 100000 in
set_option maxHeartbeats 3200000 in
/-- read, at a text that is not '-'. -/
theorem implReadTB (t : ByteArray) (hd : isDash t = false) (ht : t.size ≤ 1048576) (sp : Value) (w : World) (hsp : SpellB w sp) (hm : MaxOk w) (hT : Lib.Utf8Tabs 4 5 w) (b : Addr) (hu : UnknownAt w b) :
    Calls Tryd.prog 52 #[sp, .string t] w fun e w' => ∃ u er, e = .returned (.tuple #[u, er]) ∧ Below w.heap.size w w' ∧
      ((er = .nilIface ∧ 0 < (runesL t).length ∧ (runesL t).all isRes = true ∧ OwnB w' w.heap.size u ((runesL t).map resV)) ∨ (∃ s, er = emptyErr s b ∧ u = .slice none 0 0 ∧ ((runesL t).length = 0 ∨ (runesL t).all isRes = false))) := by
  have hdz : (t.toList == [45]) = false := hd
  have B1 := alloc_below w (.cells sp.cells 66)
  have hsp1 := hsp.below B1
  have hm1 := hm.below B1
  have hT1 := utf8_below hT B1
  have hu1 := hu.below B1
  obtain ⟨bb, hspv, -⟩ := id hsp
  have P1 := Lib.hid (TwoAt.new w 66 (.slice (some ⟨bb, 0, none⟩) 2 2) (.string ⟨#[43, 46]⟩))
  have e0 : (w.alloc (.cells sp.cells 66)) = w.alloc (.cells #[.slice (some ⟨bb, 0, none⟩) 2 2, .string ⟨#[43, 46]⟩] 66) := by rw [hspv]; rfl
  rw [e0] at B1 hsp1 hm1 hT1 hu1
  generalize hX1 : w.alloc (.cells #[.slice (some ⟨bb, 0, none⟩) 2 2, .string ⟨#[43, 46]⟩] 66) = X1 at B1 hsp1 hm1 hT1 hu1 P1
  have HB := Lib.hid B1
  have CS : Hid (∀ V, Below X1.heap.size X1 V → Calls Tryd.prog 71 #[.string t, .string ⟨#[]⟩] V fun e w' => ∃ v, e = .returned v ∧ w'.ownsRow V.heap.size 9 1 v (runesL t).length ((runesL t).map Value.string) ∧ Below V.heap.size V w') :=
    fun V hV => splitAll t V ht (utf8_below hT1 hV)
  have CR : Hid (∀ v U V B, U.ownsRow B 9 1 v (runesL t).length ((runesL t).map Value.string) → Below X1.heap.size X1 U → Below U.heap.size U V → Calls Tryd.prog 75 #[v, .func (.func 76) #[sp] #[]] V fun e w' => ∃ u er, e = .returned (.tuple #[u, er]) ∧ Below V.heap.size V w' ∧
      ((er = .nilIface ∧ 0 < (runesL t).length ∧ (runesL t).all isRes = true ∧ OwnB w' V.heap.size u ((runesL t).map resV)) ∨ (∃ s, er = emptyErr s b ∧ u = .slice none 0 0 ∧ ((runesL t).length = 0 ∨ (runesL t).all isRes = false)))) := by
    intro v U V B hrow hXU hUV
    have hXV : Below X1.heap.size X1 V := below_up hXU hUV
    refine (implReadB 76 (fun _ _ => by kernel_rfl) #[sp] #[] v (runesL t) (fun x => if isRes x = true then resV x else false) isRes V (by obtain ⟨a, c, hv⟩ := ownsLen hrow; exact ⟨a, c, hv⟩) (by have := runesL_le t; omega)
      (fun i hi => (elem_rows hrow rfl i hi).below hUV)
      (fun i hi W hW => implValueB _ (pieces_ok t _ (List.getElem_mem hi)) sp W (hsp1.below (below_up hXV hW)) (hm1.below (below_up hXV hW))) b (hu1.below hXV)).mono ?_
    rintro e w' ⟨u, er, rfl, b1, h | h⟩
    · obtain ⟨h1, h2, h3, h4⟩ := h
      rw [val_mapB _ h3] at h4
      exact ⟨u, er, rfl, b1, .inl ⟨h1, h2, h3, h4⟩⟩
    · exact ⟨u, er, rfl, b1, .inr h⟩
  generalize (runesL t).map resV = L at CR ⊢
  generalize (runesL t).map Value.string = ps at CS CR
  generalize (runesL t).all isRes = k at CR ⊢
  generalize (runesL t).length = n at CS CR ⊢
  subst hspv
  obtain ⟨q0, q1, -⟩ := P1.out
  have hs1 : w.heap.size ≤ X1.heap.size := HB.out.size
  clear B1 hsp1 hm1 hT1 hu1 hsp hm hT hu
  go_enter Tryd.func52, Tryd.ntmps52
  go_wp2_with fail
  go_region_with (first
    | (go_at_call 71; refine (CS.out _ (by first | exact Below.refl _ _ | exact (Below.refl _ _).drew | exact ((Below.refl _ _).drew).drew)).mono ?_; rintro e w1 ⟨v, rfl, o, bz⟩; have HO := Lib.hid o; have HZ := Lib.hid bz; have bx : Below X1.heap.size X1 w1 := ⟨bz.os, bz.tape, bz.output, bz.size, bz.block⟩; have P2 := Lib.hid (P1.out.below bx); have HZX := Lib.hid bx; obtain ⟨r0, r1, -⟩ := P2.out; obtain ⟨sa, sk, sc, rfl⟩ := ownsForm o; clear o bz bx)
    | (go_at_call 75; refine (CR.out _ _ _ _ HO.out HZX.out (by first | exact Below.refl _ _ | exact (Below.refl _ _).drew | exact ((Below.refl _ _).drew).drew)).mono ?_; rintro e w2 ⟨u, er, rfl, bz2, hpost⟩; have HP := Lib.hid hpost; have HZ2 := Lib.hid bz2; clear hpost bz2))
  all_goals (try go_wp2)
  all_goals (
    go_ret2
    have b9 := below_up (below_up HB.out HZX.out) (⟨HZ2.out.os, HZ2.out.tape, HZ2.out.output, HZ2.out.size, HZ2.out.block⟩ : Below w1.heap.size w1 w2)
    refine ⟨_, _, rfl, ⟨b9.os, b9.tape, b9.output, b9.size, b9.block⟩, ?_⟩
    rcases HP.out with ⟨h1, h2, h3, h4⟩ | h
    · exact .inl ⟨h1, h2, h3, rows_lower (show w2.ownsRow _ _ _ _ _ _ from h4) (Nat.le_trans hs1 HZX.out.size)⟩
    · exact .inr h)

set_option maxHeartbeats 1600000 in
/-- read, at '-'. -/
theorem implReadDB (t : ByteArray) (hd : isDash t = true) (sp : Value) (w : World) (hsp : SpellB w sp) (a : Addr) (he : EmptyAt w a) :
    Calls Tryd.prog 52 #[sp, .string t] w fun e w' => e = .returned (.tuple #[.slice none 0 0, emptyErr t a]) ∧ Below w.heap.size w w' := by
  have hdz : (t.toList == [45]) = true := hd
  obtain ⟨bb, rfl, -⟩ := hsp
  have B1 := Lib.hid (alloc_below w (.cells #[.slice (some ⟨bb, 0, none⟩) 2 2, .string ⟨#[43, 46]⟩] 66))
  have e0 : (w.alloc (.cells #[.slice (some ⟨bb, 0, none⟩) 2 2, .string ⟨#[43, 46]⟩] 66)).cell? ⟨0, 0, none⟩ = some (.iface 171 (.pointer (some a))) := he.below B1.out
  clear he hd
  unfold emptyErr
  go_enter Tryd.func52, Tryd.ntmps52
  go_wp2_with fail
  go_quiet (fail)
  all_goals (go_wp2; go_ret2; exact ⟨rfl, below_drewN B1.out _⟩)

set_option maxRecDepth 100000 in
set_option maxHeartbeats 1600000 in
theorem implReadResultsOf (t : ByteArray) (ht : t.size ≤ 1048576) (w : World) (hm : MaxOk w) (hT : Lib.Utf8Tabs 4 5 w) (a b : Addr) (h : ErrsAt w a b) :
    Calls Tryd.prog 27 #[.string t] w (GivesT (readRL t) (readRB t) w) := by
  have C0 := Lib.hid (implresultSpelling w)
  have HE := Lib.hid h
  by_cases hd : isDash t = true
  · obtain ⟨r1, r2, r3, r4⟩ := dash_read t hd
    have HL : Hid (readRL t = [] ∧ readRB t = true) := ⟨r4, r3⟩
    have C1 := Lib.hid (fun sp W h1 h2 => implReadDB t hd sp W h1 a h2)
    have C2 := Lib.hid (fun v hv W hW => implAccBEmpty v hv t a b W hW)
    unfold GivesT
    rw [HL.out.1, HL.out.2]
    clear r1 r2 r3 r4 h hm hT HL hd
    go_enter Tryd.func27, Tryd.ntmps27
    go_wp2_with fail
    refine C0.out.mono ?_
    rintro e w1 ⟨sp, rfl, hs, b1⟩
    have CC := Lib.hid (C1.out sp w1 hs (HE.out.e.below b1))
    have H1 := Lib.hid (HE.out.below b1)
    have B := Lib.hid b1
    obtain ⟨bb, rfl, -⟩ := hs
    clear b1
    go_wp2_with fail
    refine CC.out.mono ?_
    rintro e w2 ⟨rfl, b2⟩
    have B2 := Lib.hid (below_up B.out b2)
    have H2 := Lib.hid (H1.out.below b2)
    clear b2
    unfold emptyErr at *
    go_wp2_with fail
    refine (C2.out (.slice none 0 0) ⟨_, _, _, rfl⟩ _ H2.out).mono ?_
    rintro e w3 ⟨rfl, b3⟩
    have B3 := Lib.hid (below_up B2.out b3)
    clear b3
    go_wp2
    go_ret2
    exact ⟨_, rfl, World.ownsRow_nil _ _ _ _, B3.out⟩
  · have hd' : isDash t = false := by simpa using hd
    have C1 := Lib.hid (fun sp W h1 h2 h3 h4 => implReadTB t hd' ht sp W h1 h2 h3 b h4)
    have C2 := Lib.hid (fun v hv W => implAccBNone v hv W)
    have C3 := Lib.hid (fun v s W hW => implAccBNot v s a b W hW)
    have HM := Lib.hid hm
    have HT := Lib.hid hT
    have HLN : Hid (0 < (runesL t).length → (runesL t).all isRes = true → readRL t = (runesL t).map resV ∧ readRB t = true) := by
      intro h1 h2
      by_cases h0 : t.size = 0
      · have := runesL_le t; omega
      · obtain ⟨p1, p2⟩ := readR_pieces t (by omega) hd'
        exact ⟨by rw [p2, if_pos h2], by rw [p1, h2]⟩
    have HLF : Hid ((runesL t).length = 0 ∨ (runesL t).all isRes = false → readRL t = [] ∧ readRB t = false) := by
      intro h1
      by_cases h0 : t.size = 0
      · obtain ⟨r1, r2, r3, r4⟩ := empty_read t h0
        exact ⟨r4, r3⟩
      · have hp := runesL_pos t (by omega)
        obtain ⟨p1, p2⟩ := readR_pieces t (by omega) hd'
        have h2 : (runesL t).all isRes = false := by
          rcases h1 with h1 | h1
          · omega
          · exact h1
        exact ⟨by rw [p2, h2]; rfl, by rw [p1, h2]⟩
    unfold GivesT
    generalize readRL t = L at HLN HLF ⊢
    generalize readRB t = k at HLN HLF ⊢
    generalize (runesL t).map resV = M at C1 HLN
    generalize (runesL t).all isRes = q at C1 HLN HLF
    generalize (runesL t).length = m at C1 HLN HLF
    clear hd hd' h hm hT ht
    go_enter Tryd.func27, Tryd.ntmps27
    go_wp2_with fail
    refine C0.out.mono ?_
    rintro e w1 ⟨sp, rfl, hs, b1⟩
    have CC := Lib.hid (C1.out sp w1 hs (HM.out.below b1) (utf8_below HT.out b1) ((unknownAt HE.out).below b1))
    have H1 := Lib.hid (HE.out.below b1)
    have B := Lib.hid b1
    obtain ⟨bb, rfl, -⟩ := hs
    clear b1
    go_wp2_with fail
    refine CC.out.mono ?_
    rintro e w2 ⟨u, er, rfl, b2, hp⟩
    have B2 := Lib.hid (below_up B.out b2)
    have H2 := Lib.hid (H1.out.below b2)
    have hs1 : w.heap.size ≤ w1.heap.size := B.out.size
    clear b2
    rcases hp with ⟨rfl, h1, rfl, h2⟩ | ⟨s, rfl, rfl, h1⟩
    · obtain ⟨rfl, rfl⟩ := HLN.out h1 rfl
      have O := Lib.hid (rows_lower (show w2.ownsRow _ _ _ _ _ _ from h2) hs1)
      obtain ⟨ga, ka, ca, rfl⟩ := ownsForm O.out
      clear h2
      go_wp2_with fail
      refine (C2.out (.slice ga ka ca) ⟨_, _, _, rfl⟩ _).mono ?_
      rintro e w3 ⟨rfl, b3⟩
      have B3 := Lib.hid (below_up B2.out b3)
      have O3 := Lib.hid (owns_below O.out b3)
      clear b3
      go_wp2
      go_ret2
      exact ⟨_, rfl, O3.out, B3.out⟩
    · obtain ⟨rfl, rfl⟩ := HLF.out h1
      unfold emptyErr at *
      go_wp2_with fail
      refine (C3.out (.slice none 0 0) s _ H2.out).mono ?_
      rintro e w3 ⟨rfl, b3⟩
      have B3 := Lib.hid (below_up B2.out b3)
      clear b3
      go_wp2
      go_ret2
      exact ⟨_, rfl, World.ownsRow_nil _ _ _ _, B3.out⟩
end Go.Proofs.YtlflblngbneacaaDoor
