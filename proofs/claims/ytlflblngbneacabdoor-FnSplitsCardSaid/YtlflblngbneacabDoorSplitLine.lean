/- The contract of the program's SplitLine, and the walk through its exact law. Conditions: the lists are short enough to be counted, the cases fit Go's int; the variables that the code reads hold what the program's text lays. -/
import Derived.Test.YtlflblngbneacabDoorFormats
import Derived.Test.YtlflblngbneacabDoorFmtWeighImpl
import Derived.Test.YtlflblngbneacabDoorSplitByImpl
import Derived.BigQuiet
namespace Go.Proofs.YtlflblngbneacabDoor
open Go.RowKit Go.Shelf

/-- The sentinel errInvalid lies at a. -/
def InvalidAt (w : World) (a : Addr) : Prop := w.cell? ⟨1, 0, none⟩ = some (.iface 240 (.pointer (some a)))
theorem InvalidAt.below {w w' : World} {a : Addr} (h : InvalidAt w a) (hb : Below w.heap.size w w') : InvalidAt w' a := by
  unfold InvalidAt
  rw [hb.cell (p := ⟨1, 0, none⟩) (World.block_lt_of_cell? w _ h)]
  exact h
def InvalidOk (w : World) : Prop := ∃ a, InvalidAt w a

set_option maxRecDepth 100000 in
set_option maxHeartbeats 3200000 in
theorem implSplitIn (vl vr vc : Value) (L R l : List Int) (w : World) (h1 : IntsAt w vl L) (h2 : IntsAt w vr R) (h3 : IntsAt w vc l) (ml : L.length ≤ 1048576) (mr : R.length ≤ 1048576) (mc : l.length ≤ 1048576)
    (hw : ∀ x ∈ l, -9223372036854775808 ≤ x ∧ x ≤ 9223372036854775807) (ht : TabOk w) (hh : HandleOk w) (a : Addr) (he : EmptyAt w a) (d : Addr) (hd : InvalidAt w d) :
    Calls Tryd.prog 78 #[.agg #[vl, vr], vc] w fun e w' => Below w.heap.size w w' ∧ ((e = .returned (.tuple #[.string (splitT L R l), .nilIface])) ∨ (splitT L R l = ⟨#[110, 111, 110, 101]⟩ ∧ e = .returned (.tuple #[.string ⟨#[]⟩, emptyErr ⟨#[110, 111, 110, 101]⟩ d]))) := by
  unfold emptyErr
  have CW := Lib.hid (fun W a b h => implFmtWeigh vl vr L R W a b ml mr h)
  have CS := Lib.hid (fun W a b c => implSplitBy vl vr vc L R l W a b c (by omega) (by omega) (by omega) hw)
  have CF := Lib.hid (fun (v : Value) (m : List Int) W (h : IntsAt W v m) (hm : m.length ≤ 1048576) (hf : ∀ x ∈ m, -9223372036854775808 ≤ x ∧ x ≤ 9223372036854775807) (hW : Below w.heap.size w W) => implFormatCases v m W h hm hf (ht.below hW) (hh.below hW) a (he.below hW))
  have HT0 := Lib.hid ht
  have HD := Lib.hid hd
  unfold Parts at CS
  have HT : Hid (splitT L R l = if (weighT L R).toList.isEmpty = true then ⟨#[110, 111, 110, 101]⟩ else (((((weighT L R ++ ⟨#[32, 124, 32]⟩) ++ casesT (lessL (outI L R) l)) ++ ⟨#[32, 124, 32]⟩) ++ casesT (evenL (outI L R) l)) ++ ⟨#[32, 124, 32]⟩) ++ casesT (moreL (outI L R) l)) := rfl
  have hlen := part_len (outI L R) l
  have z0 := weighT_size ml mr
  have z1 := casesT_size (lessL (outI L R) l)
  have z2 := casesT_size (evenL (outI L R) l)
  have z3 := casesT_size (moreL (outI L R) l)
  have F1 : Hid (∀ x ∈ lessL (outI L R) l, -9223372036854775808 ≤ x ∧ x ≤ 9223372036854775807) := fun x hx => hw x (List.mem_filter.1 hx).1
  have F2 : Hid (∀ x ∈ evenL (outI L R) l, -9223372036854775808 ≤ x ∧ x ≤ 9223372036854775807) := fun x hx => hw x (List.mem_filter.1 hx).1
  have F3 : Hid (∀ x ∈ moreL (outI L R) l, -9223372036854775808 ≤ x ∧ x ≤ 9223372036854775807) := fun x hx => hw x (List.mem_filter.1 hx).1
  have P0 := Lib.hid (TwoAt.new w 40 vl vr)
  have B0 := Lib.hid (alloc_below w (.cells #[vl, vr] 40))
  generalize hX : w.alloc (.cells #[vl, vr] 40) = X at P0 B0
  have K1 := Lib.hid (h1.below B0.out)
  have K2 := Lib.hid (h2.below B0.out)
  have K3 := Lib.hid (h3.below B0.out)
  obtain ⟨al, nl, cl, rfl⟩ := h1.form
  obtain ⟨ar, nr, cr, rfl⟩ := h2.form
  obtain ⟨ac, nc, cc, rfl⟩ := h3.form
  clear h1 h2 h3 hw
  generalize splitT L R l = T at HT ⊢
  generalize weighT L R = Wt at CW HT z0
  generalize hA : lessL (outI L R) l = A at CS HT hlen z1 F1
  generalize hB : evenL (outI L R) l = B at CS HT hlen z2 F2
  generalize hC : moreL (outI L R) l = C at CS HT hlen z3 F3
  clear hA hB hC
  obtain ⟨lA, lB, lC⟩ := hlen
  have CA := Lib.hid (fun v W h hW => CF.out v A W h (by omega) F1.out hW)
  have CB := Lib.hid (fun v W h hW => CF.out v B W h (by omega) F2.out hW)
  have CC := Lib.hid (fun v W h hW => CF.out v C W h (by omega) F3.out hW)
  clear CF F1 F2 F3
  generalize casesT A = tA at CA HT z1
  generalize casesT B = tB at CB HT z2
  generalize casesT C = tC at CC HT z3
  have HSZ : Hid (Wt.size + tA.size + tB.size + tC.size + 9 ≤ 140737488355328) := by unfold Hid; omega
  clear z0 z1 z2 z3 lA lB lC ml mr mc ht hh he hd
  obtain ⟨e0, e1, -⟩ := P0.out
  go_enter Tryd.func78, Tryd.ntmps78
  go_wp2_with fail
  clear e0 e1
  refine (CW.out _ K1.out K2.out (HT0.out.below B0.out)).mono ?_
  rintro e w1 ⟨rfl, bb⟩
  have B1 := Lib.hid (below_up B0.out bb)
  have P1 := Lib.hid (P0.out.below bb)
  have L1 := Lib.hid (K1.out.below bb)
  have L2 := Lib.hid (K2.out.below bb)
  have L3 := Lib.hid (K3.out.below bb)
  clear bb P0 B0 K1 K2 K3 hX CW
  cases hem : Wt.toList.isEmpty with
  | true =>
    have hnl : Wt.toList = [] := List.isEmpty_iff.1 hem
    have HE : Hid (T = ⟨#[110, 111, 110, 101]⟩) := by unfold Hid; rw [HT.out, if_pos hem]
    have e0 : w1.cell? ⟨1, 0, none⟩ = some (.iface 240 (.pointer (some d))) := HD.out.below B1.out
    clear HT
    go_wp2_with fail
    go_quiet (fail)
    all_goals (go_wp2; go_ret2; exact ⟨below_drewN B1.out _, .inr ⟨HE.out, rfl⟩⟩)
  | false =>
    have HE : Hid (joinB [Wt, tA, tB, tC] ⟨#[32, 124, 32]⟩ = T) := by
      unfold Hid
      rw [HT.out, hem, if_neg (by simp)]
      apply bytes_eq
      show Lib.join [_, _, _, _] [32, 124, 32] = _
      rw [join_two, join_two, join_two, Lib.join_one]
      simp
    have HS : Hid ((joinB [Wt, tA, tB, tC] ⟨#[32, 124, 32]⟩).size ≤ 140737488355328) := by
      unfold Hid
      rw [HE.out, HT.out, hem, if_neg (by simp)]
      simp only [ByteArray.size_append]
      have e3 : (⟨#[32, 124, 32]⟩ : ByteArray).size = 3 := rfl
      have := HSZ.out
      omega
    clear HT
    obtain ⟨e0, e1, -⟩ := P1.out
    go_wp2_with fail
    clear e0 e1
    refine (CS.out _ L1.out L2.out L3.out).mono ?_
    rintro e w2 ⟨v1, v2, v3, rfl, th, bb⟩
    have B2 := Lib.hid (below_up B1.out bb)
    have R1 := Lib.hid th.o1.reads
    have R2 := Lib.hid th.o2.reads
    have R3 := Lib.hid th.o3.reads
    obtain ⟨g1, m1, c1, rfl⟩ := th.o1.form
    obtain ⟨g2, m2, c2, rfl⟩ := th.o2.form
    obtain ⟨g3, m3, c3, rfl⟩ := th.o3.form
    clear th bb B1 P1 L1 L2 L3 CS
    go_wp2_with fail
    refine (CA.out _ _ R1.out B2.out).mono ?_
    rintro e w3 ⟨rfl, bb⟩
    have B3 := Lib.hid (below_up B2.out bb)
    have S2 := Lib.hid (R2.out.below bb)
    have S3 := Lib.hid (R3.out.below bb)
    clear bb B2 R1 R2 R3 CA
    go_wp2_with fail
    refine (CB.out _ _ S2.out B3.out).mono ?_
    rintro e w4 ⟨rfl, bb⟩
    have B4 := Lib.hid (below_up B3.out bb)
    have U3 := Lib.hid (S3.out.below bb)
    clear bb B3 S2 S3 CB
    go_wp2_with fail
    refine (CC.out _ _ U3.out B4.out).mono ?_
    rintro e w5 ⟨rfl, bb⟩
    have B5 := Lib.hid (below_up B4.out bb)
    clear bb B4 U3 CC
    have R6 : Hid ((w5.alloc (.cells #[.string Wt, .string tA, .string tB, .string tC] 9)).ownsRow w5.heap.size 9 1 (.slice (some ⟨w5.heap.size, 0, none⟩) 4 4) [Wt, tA, tB, tC].length ([Wt, tA, tB, tC].map Value.string)) :=
      World.ownsRow_lit (base := w5.heap.size) (e := 9) (size := 1) w5 #[.string Wt, .string tA, .string tB, .string tC] 4 (Nat.le_refl _) (by unfold maxLen; omega) rfl
    have B6 := Lib.hid (below_up B5.out (alloc_below w5 (.cells #[.string Wt, .string tA, .string tB, .string tC] 9)))
    have J := Lib.hid (implJoinOwn _ [Wt, tA, tB, tC] ⟨#[32, 124, 32]⟩ _ _ R6.out (by simp) (by simp) HS.out)
    rw [HE.out] at J
    go_wp2_with fail
    refine J.out.mono ?_
    rintro e w6 ⟨rfl, bb⟩
    have B7 := Lib.hid (below_up B6.out bb)
    clear bb
    go_wp2
    go_ret2
    exact ⟨B7.out, .inl rfl⟩

set_option maxRecDepth 100000 in
set_option maxHeartbeats 1600000 in
theorem implSplitLine (vl vr vc : Value) (L R l : List Int) (w : World) (h1 : IntsAt w vl L) (h2 : IntsAt w vr R) (h3 : IntsAt w vc l) (ml : L.length ≤ 1048576) (mr : R.length ≤ 1048576) (mc : l.length ≤ 1048576)
    (hw : ∀ x ∈ l, -9223372036854775808 ≤ x ∧ x ≤ 9223372036854775807) (ht : TabOk w) (hh : HandleOk w) (a : Addr) (he : EmptyAt w a) (d : Addr) (hd : InvalidAt w d) :
    Calls Tryd.prog 27 #[.agg #[vl, vr], vc] w fun e w' => e = .returned (.string (splitT L R l)) ∧ Below w.heap.size w w' := by
  have B0 := alloc_below w (.cells #[vl, vr] 40)
  have P0 := Lib.hid (TwoAt.new w 40 vl vr)
  have C := fun W (b : Below w.heap.size w W) => implSplitIn vl vr vc L R l W (h1.below b) (h2.below b) (h3.below b) ml mr mc hw (ht.below b) (hh.below b) a (he.below b) d (hd.below b)
  have CC := Lib.hid (C _ B0)
  have HH := Lib.hid (hh.below B0)
  generalize hX : w.alloc (.cells #[vl, vr] 40) = X at B0 P0 CC HH
  have HB := Lib.hid B0
  have CL := Lib.hid (fun t W => implShownLine t W)
  have CT := Lib.hid (fun s c h W hW => implShownText ⟨#[]⟩ s c h W hW)
  obtain ⟨al, nl, cl, rfl⟩ := h1.form
  obtain ⟨ar, nr, cr, rfl⟩ := h2.form
  obtain ⟨ac, nc, cc, rfl⟩ := h3.form
  generalize splitT L R l = T at CC ⊢
  obtain ⟨e0, e1, -⟩ := P0.out
  clear h1 h2 h3 hw ht hh he hd C B0 ml mr mc
  go_enter Tryd.func27, Tryd.ntmps27
  go_wp2_with fail
  refine CC.out.mono ?_
  rintro e w1 ⟨b1, h⟩
  have B1 := Lib.hid (below_up HB.out b1)
  have H1 := Lib.hid (HH.out.below b1)
  clear b1
  rcases h with rfl | ⟨rfl, rfl⟩
  · go_wp2_with fail
    refine (CL.out _ _).mono ?_
    rintro e w2 ⟨rfl, b2⟩
    have B2 := Lib.hid (below_up B1.out b2)
    clear b2
    go_wp2
    go_ret
    exact ⟨rfl, B2.out⟩
  · unfold emptyErr
    go_wp2_with fail
    refine (CT.out _ _ rfl _ H1.out).mono ?_
    rintro e w2 ⟨rfl, b2⟩
    have B2 := Lib.hid (below_up B1.out b2)
    clear b2
    go_wp2
    go_ret
    exact ⟨rfl, B2.out⟩

end Go.Proofs.YtlflblngbneacabDoor
