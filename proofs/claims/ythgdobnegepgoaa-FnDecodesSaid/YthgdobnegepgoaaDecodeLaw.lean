/- The walk of the exact law of DecodeSigns round the contract of the program's function: the law returns true for every argument. Condition: the lists that came in read as weighings and as integers. -/
import Derived.Test.YthgdobnegepgoaaDesignLaws
import Derived.Test.YthgdobnegepgoaaThree
namespace Go.Proofs.Ythgdobnegepgoaa
open Go.RowKit

theorem ProbAt.only {T : Nat → Prop} {w w' : World} {b : Nat} {n : Int} {h l z : Bool} (hp : ProbAt w b n h l z) (ho : Only T w w') (hb : ¬ T b) : ProbAt w' b n h l z := by
  obtain ⟨e0, e1, e2, e3, hlt⟩ := hp
  have k := ho.block b hlt hb
  refine ⟨?_, ?_, ?_, ?_, Nat.lt_of_lt_of_le hlt ho.size⟩
  · rw [World.cell?_of_block (w := w) (a := ⟨b, 0, none⟩) k]; exact e0
  · rw [World.cell?_of_block (w := w) (a := ⟨b, 1, none⟩) k]; exact e1
  · rw [World.cell?_of_block (w := w) (a := ⟨b, 2, none⟩) k]; exact e2
  · rw [World.cell?_of_block (w := w) (a := ⟨b, 3, none⟩) k]; exact e3
theorem outc_small (L R : List Int) (c : Int) : -1 ≤ outcI L R c ∧ outcI L R c ≤ 1 := by
  unfold outcI
  repeat' split
  all_goals omega
theorem signs_wf (P : List WD) (c : Int) : ∀ x ∈ signsL P c, wfW x := fun x hx => by
  unfold signsL at hx
  obtain ⟨d, -, rfl⟩ := List.mem_map.1 hx
  have := outc_small d.L d.R c
  simp [wfW, Lit.wf, IntKind.min, IntKind.max, IntKind.signed, IntKind.bits]
  omega
/-- The contract of a function that decodes signs. -/
def DecodeIs (f : FuncId) (P : List WD) (n : Int) (h l z : Bool) (S : List Int) : Prop :=
  ∀ W v vs, WdsAt W v P → IntsAt W vs S → Calls Try.prog f #[probV n h l z, v, vs] W (Lists (decR P n h l z S) W)

set_option maxRecDepth 100000 in
set_option maxHeartbeats 6400000 in
theorem lawDecodeSigns (IM : ∀ (P : List WD) (n : Int) (h l z : Bool) (S : List Int), P.length + sumW P ≤ 1048576 → wfW n → S.length ≤ 1048576 → (∀ x ∈ S, wfW x) → DecodeIs 18 P n h l z S)
    (w : World) (n : Int) (wn : (Lit.int .i64 n).wf = true) (h l z : Bool) (v : Value) (P : List WD) (cp : CameWds w v P) (vs : Value) (S : List Int) (cs : CameInts w vs S) :
    Calls Try.prog 8 #[probV n h l z, v, vs] w fun e w' => e = .returned (.bool true) ∧ Below w.heap.size w w' := by
  have P0 := Lib.hid (ProbAt.new w 50 n h l z)
  have B0 := Lib.hid (alloc_below w (.cells #[.int .i64 n, .bool h, .bool l, .bool z] 50))
  have hmS := cs.2.1
  have HSW : Hid (∀ x ∈ S, wfW x) := cs.2.2
  unfold probV
  generalize hX0 : w.alloc (.cells #[.int .i64 n, .bool h, .bool l, .bool z] 50) = X0 at P0 B0
  have H0 := Lib.hid cp.reads
  have I0 := Lib.hid cs.1
  have SZ := Lib.hid (szWds v P X0 (cp.reads.below B0.out) cp.2.1 cp.lens)
  obtain ⟨a0, c0, rfl, -⟩ := cp.reads
  obtain ⟨as0, cs0, rfl, -⟩ := cs.1
  clear cp cs
  unfold maxLen at hmS
  by_cases hbig : (1048576 : Int) < (S.length : Int)
  · go_enter Try.func8, Try.ntmps8
    go_wp2
    go_ret
    exact ⟨rfl, B0.out⟩
  have hS : S.length ≤ 1048576 := by omega
  have TI := Lib.hid (fun W h => toInts (.slice as0 S.length cs0) S W h hS)
  have ES := Lib.hid (fun W a b (h : IntsAt W a S) h' => eqInts_same a b S W h h' (by omega))
  have MS := Lib.hid (fun W B (q : Int) a (h : Own W B a S) (h0 : 0 < q) (h1 : q ≤ 2000000) => markInts B a q S W h h0 (by omega) (by omega))
  have HSS : Hid (S.length ≤ 1048576) := hS
  obtain ⟨ns, hns⟩ : ∃ ns, S.length = ns := ⟨_, rfl⟩
  have HNS := Lib.hid hns
  rw [hns] at I0 TI hbig MS ⊢
  clear hns hmS hS
  go_enter Try.func8, Try.ntmps8
  go_wp2_with fail
  refine SZ.out.mono ?_
  rintro e w1 ⟨r, rfl, hr, b1⟩
  have B1 := Lib.hid (below_up B0.out b1)
  have P1 := Lib.hid (P0.out.below b1)
  clear b1 hX0
  by_cases hneg : r < 0
  · go_wp2
    go_ret
    exact ⟨rfl, B1.out⟩
  · obtain ⟨r0, r1, hsz⟩ : 0 ≤ r ∧ r ≤ 1048576 ∧ P.length + sumW P ≤ 1048576 := by
      rcases hr with h | h
      · omega
      · exact h
    have T := Lib.hid (fun W h => toWds (.slice a0 P.length c0) P W h (sizesW_len hsz) (SzW.lists hsz))
    have SP := Lib.hid (fun W u us hu hs => specDecode u us P n h l z S W hu hs (sizesW_len hsz) (SzW.lists hsz) HSS.out)
    have IP := Lib.hid (IM P n h l z S hsz wn HSS.out HSW.out)
    have EQ := Lib.hid (fun W a b h h' => eqWds a b P W h h' (sizesW_len hsz) (SzW.lists hsz))
    obtain ⟨sw, hsw⟩ : ∃ sw, (1 : Int) + (sumW P : Int) = sw := ⟨_, rfl⟩
    have MK := Lib.hid (fun W lo hi u hu => markWds lo hi u P W hu hsz)
    rw [hsw] at MK
    have hs0 : 0 < sw := by omega
    have hs1 : sw ≤ 2000000 := by omega
    clear hsw
    have TP := Lib.hid (fun W => toProb n h l z W)
    have hF := decR_len P n h l z S
    unfold DecodeIs probV at IP
    unfold probV at TP SP
    unfold Lists at SP IP
    generalize decR P n h l z S = F at SP IP hF
    have EL := Lib.hid (fun W a b (h : IntsAt W a F) h' => eqInts_same a b F W h h' (by omega))
    have ML := Lib.hid (fun W B a (h : Own W B a F) => markInts B a 1 F W h (by omega) (by omega) (by omega))
    have HL := Lib.hid (fun W a h => heldInts a 1 F.length W h (by omega) (by omega) (by omega))
    obtain ⟨kf, hkf⟩ : ∃ kf, (1 : Int) + (F.length : Int) = kf := ⟨_, rfl⟩
    rw [hkf] at ML HL
    have kf0 : 0 ≤ kf := by omega
    have MZ := Lib.hid (fun W B a (h : Own W B a S) => MS.out W B sw a h hs0 hs1)
    obtain ⟨ks, hks⟩ : ∃ ks, sw + (ns : Int) = ks := ⟨_, rfl⟩
    rw [hks] at MZ
    have ks0 : ¬ ks < 0 := by omega
    clear MS hs0 hs1 hks
    generalize P.length = k at H0 T SZ
    clear hr hsz r1 SZ hkf hF
    obtain ⟨p0, p1, p2, p3, -⟩ := P1.out
    go_wp2_with fail
    clear p0 p1 p2 p3
    refine (TP.out _).mono ?_
    rintro e w2 ⟨rfl, b2⟩
    have B2 := Lib.hid (below_up B1.out b2)
    have P2 := Lib.hid (P1.out.below b2)
    clear b2
    go_wp2_with fail
    refine (T.out _ (H0.out.below B2.out)).mono ?_
    rintro e w3 ⟨u3, rfl, o3, b3⟩
    have B3 := Lib.hid (below_up B2.out b3)
    have P3 := Lib.hid (P2.out.below b3)
    obtain ⟨g3, n3, q3, rfl⟩ := o3.form
    have R3 := Lib.hid o3.reads
    clear o3
    clear b3
    go_wp2_with fail
    refine (TI.out _ (I0.out.below B3.out)).mono ?_
    rintro e w4 ⟨u4, rfl, d4, o4, b4⟩
    have B4 := Lib.hid (below_up B3.out b4)
    have P4 := Lib.hid (P3.out.below b4)
    have R4 := Lib.hid (R3.out.below b4)
    obtain ⟨g4, n4, q4, rfl⟩ := d4
    have S4 := Lib.hid o4.reads
    clear o4
    clear b4
    go_wp2_with fail
    refine (SP.out _ _ _ R4.out S4.out).mono ?_
    rintro e w5 ⟨u5, rfl, o5, b5⟩
    have B5 := Lib.hid (below_up B4.out b5)
    have P5 := Lib.hid (P4.out.below b5)
    have R5 := Lib.hid (R4.out.below b5)
    have W5 : Hid (Own w5 w4.heap.size u5 F) := o5
    have WB : Hid (Blk (· < w5.heap.size) u5) := fun k hk => (owns_blk o5 k hk).2
    obtain ⟨g5, n5, q5, rfl⟩ := W5.out.form
    clear o5 S4
    clear b5
    go_wp2_with fail
    refine (T.out _ (H0.out.below B5.out)).mono ?_
    rintro e w6 ⟨u6, rfl, o6, b6⟩
    have B6 := Lib.hid (below_up B5.out b6)
    have P6 := Lib.hid (P5.out.below b6)
    have W6 := Lib.hid (W5.out.below b6)
    have X6 := Lib.hid o6.all
    obtain ⟨g6, n6, q6, rfl⟩ := o6.form
    have z6 : w5.heap.size ≤ w6.heap.size := b6.size
    clear o6
    clear b6
    go_wp2_with fail
    refine (TI.out _ (I0.out.below B6.out)).mono ?_
    rintro e w7 ⟨u7, rfl, d7, o7, b7⟩
    have B7 := Lib.hid (below_up B6.out b7)
    have P7 := Lib.hid (P6.out.below b7)
    have W7 := Lib.hid (W6.out.below b7)
    have X7 := Lib.hid (X6.out.below b7)
    have Z7 := Lib.hid o7
    have ZB : Hid (Blk (fun k => w6.heap.size ≤ k ∧ k < w7.heap.size) u7) := o7.blk
    obtain ⟨g7, n7, q7, rfl⟩ := d7
    have z7 : w6.heap.size ≤ w7.heap.size := b7.size
    clear o7
    clear b7
    obtain ⟨p0, p1, p2, p3, -⟩ := P7.out
    go_wp2_with fail
    clear p0 p1 p2 p3
    refine (TP.out _).mono ?_
    rintro e w8 ⟨rfl, b8⟩
    have B8 := Lib.hid (below_up B7.out b8)
    have P8 := Lib.hid (P7.out.below b8)
    have W8 := Lib.hid (W7.out.below b8)
    have X8 := Lib.hid (X7.out.below b8)
    have Z8 := Lib.hid (Z7.out.below b8)
    have z8 : w7.heap.size ≤ w8.heap.size := b8.size
    clear b8
    go_wp2_with fail
    refine (IP.out _ _ _ X8.out.reads Z8.out.reads).mono ?_
    rintro e w9 ⟨u9, rfl, o9, b9⟩
    have B9 := Lib.hid (below_up B8.out b9)
    have P9 := Lib.hid (P8.out.below b9)
    have W9 := Lib.hid (W8.out.below b9)
    have X9 := Lib.hid (X8.out.below b9)
    have Z9 := Lib.hid (Z8.out.below b9)
    have G9 : Hid (Own w9 w8.heap.size u9 F) := o9
    have GB : Hid (Blk (w8.heap.size ≤ ·) u9) := fun k hk => (owns_blk o9 k hk).1
    obtain ⟨g9, n9, q9, rfl⟩ := G9.out.form
    clear o9
    clear b9
    go_wp2_with fail
    refine (EL.out _ _ _ G9.out.reads W9.out.reads).mono ?_
    rintro e w10 ⟨rfl, b10⟩
    have B10 := Lib.hid (below_up B9.out b10)
    have P10 := Lib.hid (P9.out.below b10)
    have W10 := Lib.hid (W9.out.below b10)
    have X10 := Lib.hid (X9.out.below b10)
    have Z10 := Lib.hid (Z9.out.below b10)
    have G10 := Lib.hid (G9.out.below b10)
    clear b10
    go_wp2_with fail
    refine (T.out _ (H0.out.below B10.out)).mono ?_
    rintro e w11 ⟨u11, rfl, o11, b11⟩
    have B11 := Lib.hid (below_up B10.out b11)
    have P11 := Lib.hid (P10.out.below b11)
    have W11 := Lib.hid (W10.out.below b11)
    have X11 := Lib.hid (X10.out.below b11)
    have Z11 := Lib.hid (Z10.out.below b11)
    have G11 := Lib.hid (G10.out.below b11)
    obtain ⟨g11, n11, q11, rfl⟩ := o11.form
    have Y11 := Lib.hid o11.reads
    clear o11
    clear b11
    go_wp2_with fail
    refine (EQ.out _ _ _ X11.out.reads Y11.out).mono ?_
    rintro e w12 ⟨rfl, b12⟩
    have B12 := Lib.hid (below_up B11.out b12)
    have P12 := Lib.hid (P11.out.below b12)
    have W12 := Lib.hid (W11.out.below b12)
    have X12 := Lib.hid (X11.out.below b12)
    have Z12 := Lib.hid (Z11.out.below b12)
    have G12 := Lib.hid (G11.out.below b12)
    clear Y11
    clear b12
    go_wp2_with fail
    refine (TI.out _ (I0.out.below B12.out)).mono ?_
    rintro e w13 ⟨u13, rfl, d13, o13, b13⟩
    have B13 := Lib.hid (below_up B12.out b13)
    have P13 := Lib.hid (P12.out.below b13)
    have W13 := Lib.hid (W12.out.below b13)
    have X13 := Lib.hid (X12.out.below b13)
    have Z13 := Lib.hid (Z12.out.below b13)
    have G13 := Lib.hid (G12.out.below b13)
    obtain ⟨g13, n13, q13, rfl⟩ := d13
    have Y13 := Lib.hid o13.reads
    clear o13
    clear b13
    go_wp2_with fail
    refine (ES.out _ _ _ Z13.out.reads Y13.out).mono ?_
    rintro e w14 ⟨rfl, b14⟩
    have B14 := Lib.hid (below_up B13.out b14)
    have P14 := Lib.hid (P13.out.below b14)
    have W14 := Lib.hid (W13.out.below b14)
    have X14 := Lib.hid (X13.out.below b14)
    have Z14 := Lib.hid (Z13.out.below b14)
    have G14 := Lib.hid (G13.out.below b14)
    clear Y13
    clear b14
    go_wp2_with fail
    refine (MK.out _ _ _ _ X14.out).mono ?_
    rintro e w15 ⟨rfl, -, t15'⟩
    have t15 := t15'
    have B15 := Lib.hid (B14.out.trans (t15.below B14.out.size fun k hk => by have := B5.out.size; omega))
    have P15 := Lib.hid (P14.out.only t15 fun e => by have := B5.out.size; have := P5.out.2.2.2.2; omega)
    have W15 := Lib.hid (W14.out.only t15 fun k hk e => by have := WB.out k hk; omega)
    have Z15 := Lib.hid (Z14.out.only t15 fun k hk e => by have := ZB.out k hk; omega)
    have G15 := Lib.hid (G14.out.only t15 fun k hk e => by have := GB.out k hk; omega)
    clear X14
    clear t15
    go_wp2_with fail
    refine (MZ.out _ _ _ Z15.out).mono ?_
    rintro e w16 ⟨rfl, -, t16'⟩
    have t16 := Only.of_grown t16'
    have B16 := Lib.hid (B15.out.trans (t16.below B15.out.size fun k hk => by have := ZB.out k hk; have := B6.out.size; omega))
    have P16 := Lib.hid (P15.out.only t16 fun e => by have := ZB.out _ e; have := P6.out.2.2.2.2; omega)
    have W16 := Lib.hid (W15.out.only t16 fun k hk e => by have := WB.out k hk; have := ZB.out k e; omega)
    have G16 := Lib.hid (G15.out.only t16 fun k hk e => by have := GB.out k hk; have := ZB.out k e; omega)
    clear Z15
    clear t16
    go_wp2_with fail
    refine (EL.out _ _ _ G16.out.reads W16.out.reads).mono ?_
    rintro e w17 ⟨rfl, b17⟩
    have B17 := Lib.hid (below_up B16.out b17)
    have P17 := Lib.hid (P16.out.below b17)
    have W17 := Lib.hid (W16.out.below b17)
    have G17 := Lib.hid (G16.out.below b17)
    clear b17
    go_wp2_with fail
    refine (ML.out _ _ _ G17.out).mono ?_
    rintro e w18 ⟨rfl, m18, t18'⟩
    have t18 := Only.of_grown t18'
    have B18 := Lib.hid (B17.out.trans (t18.below B17.out.size fun k hk => by have := GB.out k hk; have := B8.out.size; omega))
    have P18 := Lib.hid (P17.out.only t18 fun e => by have := GB.out _ e; have := P8.out.2.2.2.2; omega)
    have W18 := Lib.hid (W17.out.only t18 fun k hk e => by have := WB.out k hk; have := GB.out k e; omega)
    have M18 := Lib.hid (IntsAt.of_owns_n m18 (imarks_length _ _))
    clear G17 m18
    clear t18
    go_wp2_with fail
    refine (HL.out _ _ M18.out).mono ?_
    rintro e w19 ⟨rfl, rfl⟩
    obtain ⟨p0, p1, p2, p3, -⟩ := P18.out
    go_wp2_with fail
    clear p0 p1 p2 p3
    refine (TP.out _).mono ?_
    rintro e w19 ⟨rfl, b19⟩
    have B19 := Lib.hid (below_up B18.out b19)
    have P19 := Lib.hid (P18.out.below b19)
    have W19 := Lib.hid (W18.out.below b19)
    have M19 := Lib.hid (M18.out.below b19)
    clear b19
    go_wp2_with fail
    refine (T.out _ (H0.out.below B19.out)).mono ?_
    rintro e w20 ⟨u20, rfl, o20, b20⟩
    have B20 := Lib.hid (below_up B19.out b20)
    have P20 := Lib.hid (P19.out.below b20)
    have W20 := Lib.hid (W19.out.below b20)
    have M20 := Lib.hid (M19.out.below b20)
    obtain ⟨g20, n20, q20, rfl⟩ := o20.form
    have R20 := Lib.hid o20.reads
    clear o20
    clear b20
    go_wp2_with fail
    refine (TI.out _ (I0.out.below B20.out)).mono ?_
    rintro e w21 ⟨u21, rfl, d21, o21, b21⟩
    have B21 := Lib.hid (below_up B20.out b21)
    have P21 := Lib.hid (P20.out.below b21)
    have W21 := Lib.hid (W20.out.below b21)
    have M21 := Lib.hid (M20.out.below b21)
    have R21 := Lib.hid (R20.out.below b21)
    obtain ⟨g21, n21, q21, rfl⟩ := d21
    have S21 := Lib.hid o21.reads
    clear o21
    clear b21
    go_wp2_with fail
    refine (IP.out _ _ _ R21.out S21.out).mono ?_
    rintro e w22 ⟨u22, rfl, o22, b22⟩
    have B22 := Lib.hid (below_up B21.out b22)
    have P22 := Lib.hid (P21.out.below b22)
    have W22 := Lib.hid (W21.out.below b22)
    have M22 := Lib.hid (M21.out.below b22)
    have R22 := Lib.hid (R21.out.below b22)
    have G22 : Hid (Own w22 w21.heap.size u22 F) := o22
    obtain ⟨g22, n22, q22, rfl⟩ := G22.out.form
    clear o22 S21
    clear b22
    go_wp2_with fail
    refine (EL.out _ _ _ G22.out.reads W22.out.reads).mono ?_
    rintro e w23 ⟨rfl, b23⟩
    have B23 := Lib.hid (below_up B22.out b23)
    have P23 := Lib.hid (P22.out.below b23)
    have W23 := Lib.hid (W22.out.below b23)
    have M23 := Lib.hid (M22.out.below b23)
    clear b23
    go_wp2_with fail
    refine (HL.out _ _ M23.out).mono ?_
    rintro e wZ ⟨rfl, rfl⟩
    go_wp2
    go_ret
    exact ⟨rfl, B23.out⟩
end Go.Proofs.Ythgdobnegepgoaa
