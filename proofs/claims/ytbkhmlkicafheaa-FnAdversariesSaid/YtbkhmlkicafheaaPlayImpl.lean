/- The contract of the program's PlayAgainst. Conditions: the slice reads as picks, the numbers of which are Go integers. -/
import Derived.Test.YtbkhmlkicafheaaPlayPlain
import Derived.Test.YtbkhmlkicafheaaWorstBranch
import Derived.Test.YtbkhmlkicafheaaGClass
import Derived.Test.YtbkhmlkicafheaaCasesOf
namespace Go.Proofs.Ytbkhmlkicafheaa
open Go.RowKit

theorem left_of {s : SD} {p : PD} {x : Int} {bs bp bx lo : Nat} {W : World} (hp : pickB s p = true) (hx : -1 ≤ x ∧ x ≤ 1) (h : BrAt W lo (leftV bs bp bx) s p x) :
    Calls Try.prog 104 #[.pointer (some ⟨bs, 0, none⟩), .pointer (some ⟨bp, 0, none⟩), .pointer (some ⟨bx, 0, none⟩)] W fun e w' => e = .returned (stateV (afterS s p x)) ∧ Below W.heap.size W w' := by
  obtain ⟨a, b, c, e, -, h1, h2, h3⟩ := h
  unfold leftV at e
  simp at e
  obtain ⟨rfl, rfl, rfl⟩ := e
  exact implLeft s p x hp hx _ _ _ W h1 h2 h3
theorem TwoBr.only {T : Nat → Prop} {w w' : World} {b : Nat} {x : Int} {v : Value} (h : TwoBr w b 0 x v) (ho : Only T w w') (hb : ¬ T b) : TwoBr w' b 0 x v := by
  have e := ho.block b h.2.2 hb
  obtain ⟨e0, e1, hlt⟩ := h
  exact ⟨(World.cell?_of_block (a := ⟨b, 0, none⟩) e).trans e0, (World.cell?_of_block (a := ⟨b, 0 + 1, none⟩) e).trans e1, Nat.lt_of_lt_of_le hlt ho.size⟩

set_option maxRecDepth 100000 in
set_option maxHeartbeats 6400000 in
theorem implPlay (s : SD) (v : Value) (P : List PD) (w : World) (h : PicksAt w v P) (hn : ∀ p ∈ P, ∀ y ∈ p.list, I64 y) :
    Calls Try.prog 24 #[stateV s, v] w (Plays (playR s P) w) := by
  obtain ⟨i0, hi, hz0, hz1, hz2⟩ := info_parts infoInt
  obtain ⟨a, cc, rfl, h⟩ := h
  have H := Lib.hid h
  have CS := Lib.hid (implStateOk s)
  have CK := Lib.hid (fun t p (hp : ∀ y ∈ p.list, I64 y) W => implWorstBranch t p hp W)
  have CA : Hid (∀ (t : SD) (p : PD) (bs bp bx lo : Nat), pickB t p = true → ∀ W, BrAt W lo (leftV bs bp bx) t p (worstI t p) → Calls Try.prog 104 #[.pointer (some ⟨bs, 0, none⟩), .pointer (some ⟨bp, 0, none⟩), .pointer (some ⟨bx, 0, none⟩)] W fun e w' => e = .returned (stateV (afterS t p (worstI t p))) ∧ Below W.heap.size W w') := fun t p _ _ _ _ hp W hb => left_of hp (worst_in t p) hb
  have HI := Lib.hid hn
  have HR : Hid (playR s P = if (stateB s && decide (P.length ≤ 10)) = true then playO s P else none) := rfl
  have HV : Hid (stateB s = true → ∀ (i : Nat) (t : SD) (L : List Int), i ≤ P.length → playO s (P.take i) = some (L, t) → L.length = i) := fun hs _ _ _ hi h => (play_len hs hi h).1
  generalize playR s P = R at HR ⊢
  obtain ⟨n, hnn⟩ : ∃ n, P.length = n := ⟨_, rfl⟩
  rw [hnn] at HR HV ⊢
  have HN := Lib.hid hnn
  clear hnn hn h
  have V0 := FourVar.new w 32 s
  have B0 := alloc_below w (.cells #[.int .i64 s.b, .int .i64 s.h, .int .i64 s.l, .int .i64 s.g] 32)
  have s0 : (w.alloc (.cells #[.int .i64 s.b, .int .i64 s.h, .int .i64 s.l, .int .i64 s.g] 32)).heap.size = w.heap.size + 1 := by simp
  generalize hX0 : w.alloc (.cells #[.int .i64 s.b, .int .i64 s.h, .int .i64 s.l, .int .i64 s.g] 32) = X0 at V0 B0 s0
  have R0 := FourVar.new X0 32 zeroS
  have B1 := alloc_below X0 (.cells #[.int .i64 0, .int .i64 0, .int .i64 0, .int .i64 0] 32)
  rw [s0] at R0
  change FourVar (X0.alloc (.cells #[.int .i64 0, .int .i64 0, .int .i64 0, .int .i64 0] 32)) _ _ at R0
  generalize hX1 : X0.alloc (.cells #[.int .i64 0, .int .i64 0, .int .i64 0, .int .i64 0] 32) = X1 at R0 B1
  have V1 := Lib.hid (V0.below B1)
  have R1 := Lib.hid R0
  have BX := Lib.hid (below_up B0 B1)
  clear V0 B0 B1 R0
  unfold stateV at CS ⊢
  obtain ⟨⟨e0, e1, e2, e3, -⟩, -⟩ := V1.out
  go_enter Try.func24, Try.ntmps24
  go_wp2_with fail
  refine (CS.out _).mono ?_
  rintro e w1 ⟨rfl, b1⟩
  have B2 := Lib.hid (below_up BX.out b1)
  have V2 := Lib.hid (V1.out.below b1)
  have R2 := Lib.hid (R1.out.below b1)
  clear b1 e0 e1 e2 e3 hX0 hX1 s0 BX V1 R1 CS
  generalize stateB s = sb at HR HV
  cases sb with
  | false =>
    have HE : Hid (R = none) := HR.out
    obtain ⟨⟨r0, r1, r2, r3, rl⟩, g0, g1, g2, g3⟩ := R2.out
    clear HR HV CK CA V2
    go_wp2
    refine bodyPost_ret (v := .tuple #[.slice none 0 0, .agg #[.int .i64 0, .int .i64 0, .int .i64 0, .int .i64 0], .bool false]) (by simp [results, Try.results24, go_sem, r0, r1, r2, r3]) rfl (Plays.none HE.out ?_)
    exact below_fill4 B2.out (b := w.heap.size + 1) (by omega) zeroS
  | true =>
    replace HV := Lib.hid (HV.out rfl)
    by_cases hlen : n ≤ 10
    · have HE0 : Hid (R = playO s P) := by unfold Hid; rw [HR.out, decide_eq_true hlen]; rfl
      have k10 : ¬ (10 : Int) < (n : Int) := by omega
      have rl : w.heap.size + 1 < w1.heap.size := R2.out.1.2.2.2.2
      have O3 := Lib.hid (Own.nil w1 (w.heap.size + 2))
      clear HR
      go_wp2
      clear k10
      go_loopw [7, 23] (fun ov iv wr => ∃ (i : Nat) (t : SD) (L : List Int), i ≤ n ∧ iv = .int .i64 i ∧ Hid (playO s (P.take i) = some (L, t)) ∧ Hid (Own wr (w.heap.size + 2) ov L) ∧ Hid (FourVar wr w.heap.size t) ∧ Hid (FourVar wr (w.heap.size + 1) zeroS) ∧ Hid (Below w.heap.size w wr)) (fun _ iv _ => n - (intOf iv).toNat)
      case atStart => exact ⟨0, s, [], Nat.zero_le _, rfl, Lib.hid rfl, O3, V2, R2, B2⟩
      case round =>
        clear O3 V2 R2 B2 rl
        obtain ⟨i, t, L, hik, rfl, HP, O4, V4, R4, B4⟩ := hrel
        obtain ⟨g, m, c, rfl⟩ := O4.out.form
        by_cases hlt : i < n
        · have hil : i < P.length := by rw [HN.out]; exact hlt
          have HL : Hid (L.length = i) := HV.out i t L hik HP.out
          have hst := play_step hil HP.out
          obtain ⟨b, o, rfl, h8⟩ := H.out i hil
          obtain ⟨p, hx⟩ : ∃ p, P[i] = p := ⟨_, rfl⟩
          rw [hx] at h8 hst
          have HT := Lib.hid hst
          have F4 := Lib.hid (h8.below B4.out)
          have i0' : (0 : Int) ≤ (i : Int) := by omega
          have i1 : (i : Int) < (n : Int) := by omega
          have a5 := alloc_below wr (.cells #[.int .i64 p.bl, .int .i64 p.br, .int .i64 p.hl, .int .i64 p.hr, .int .i64 p.ll, .int .i64 p.lr, .int .i64 p.gl, .int .i64 p.gr] 34)
          have Q5 := PickAt.new wr 34 p
          have V5 := Lib.hid (V4.out.below a5)
          have R5 := Lib.hid (R4.out.below a5)
          have B5 := Lib.hid (below_up B4.out a5)
          have O5 := Lib.hid (O4.out.below a5)
          have CK1 := Lib.hid (CK.out t p (HI.out p (hx ▸ List.getElem_mem hil)))
          have CA1 := Lib.hid (CA.out t p)
          have OB : Hid (∀ k, Value.ownBlock (.slice g m c) = some k → w.heap.size + 2 ≤ k ∧ k < wr.heap.size) := O4.out.blk
          clear hst h8 hx a5 V4 R4 B4 O4 HP
          generalize hX5 : wr.alloc (.cells #[.int .i64 p.bl, .int .i64 p.br, .int .i64 p.hl, .int .i64 p.hr, .int .i64 p.ll, .int .i64 p.lr, .int .i64 p.gl, .int .i64 p.gr] 34) = X5 at Q5 V5 R5 B5 O5
          have Q6 := Lib.hid Q5
          clear Q5
          unfold stateV at CK1 CA1
          unfold pickV at CK1
          obtain ⟨e0, e1, e2, e3, e4, e5, e6, e7, -⟩ := F4.out
          obtain ⟨⟨f0, f1, f2, f3, -⟩, -⟩ := V5.out
          obtain ⟨q0, q1, q2, q3, q4, q5, q6, q7, -⟩ := Q6.out
          go_wp2_with fail
          clear e0 e1 e2 e3 e4 e5 e6 e7
          refine (CK1.out _).mono ?_
          rintro e w6 ⟨x, v, rfl, h1, h2, bb⟩
          have V6 := Lib.hid (V5.out.below bb)
          have R6 := Lib.hid (R5.out.below bb)
          have Q7 := Lib.hid (Q6.out.below bb)
          have O6 := Lib.hid (O5.out.below bb)
          have B6 := Lib.hid (below_up B5.out bb)
          have LX : Hid (wr.heap.size ≤ X5.heap.size) := by unfold Hid; rw [← hX5]; simp
          clear bb f0 f1 f2 f3 q0 q1 q2 q3 q4 q5 q6 q7 hX5 V5 R5 Q6 O5 B5 CK1
          generalize pickB t p = pb at HT CA1 h1 h2
          cases pb with
          | false =>
            have HE : Hid (R = none) := by unfold Hid; rw [HE0.out]; exact HT.out.2 rfl
            obtain ⟨rfl, rfl⟩ := h1 rfl
            have V := TwoBrVar.new w6 81 0 .nilFunc
            have b7 := alloc_below w6 (.cells #[.int .i64 0, .nilFunc] 81)
            have hlt6 := R6.out.1.2.2.2.2
            have hle6 : w.heap.size ≤ w6.heap.size := by omega
            have B7 := below_up B6.out b7
            have R7 := R6.out.below b7
            generalize hX7 : w6.alloc (.cells #[.int .i64 0, .nilFunc] 81) = X7 at V R7 B7
            obtain ⟨k0, k1, -⟩ := V.cells
            obtain ⟨-, y0, y1⟩ := V
            obtain ⟨U, hU⟩ : ∃ U, (X7.setCell ⟨w6.heap.size, 0, none⟩ (.int .i64 0)).setCell ⟨w6.heap.size, 1, none⟩ .nilFunc = U := ⟨_, rfl⟩
            have R8 : FourVar U (w.heap.size + 1) zeroS := by rw [← hU]; exact (R7.farC (by omega) 0 _).farC (by omega) 1 _
            have B8 := Lib.hid (show Below w.heap.size w U by rw [← hU]; exact (B7.setCell (p := ⟨w6.heap.size, 0, none⟩) hle6 _).setCell (p := ⟨w6.heap.size, 1, none⟩) hle6 _)
            obtain ⟨⟨r0, r1, r2, r3, rl⟩, g0, g1, g2, g3⟩ := R8
            clear HT CA1 V6 Q7 O6 h1 h2 b7 B7 R7 R6 B6 hlt6 hle6
            go_wp2
            refine bodyPost_ret (v := .tuple #[.slice none 0 0, .agg #[.int .i64 0, .int .i64 0, .int .i64 0, .int .i64 0], .bool false]) (by simp [results, Try.results24, go_sem, r0, r1, r2, r3]) rfl (Plays.none HE.out ?_)
            exact below_fill4 B8.out (b := w.heap.size + 1) (by omega) zeroS
          | true =>
            have HT2 := Lib.hid (HT.out.1 rfl)
            obtain ⟨hx, hb⟩ := h2 rfl
            have HB6 := Lib.hid hb
            obtain ⟨bs, bp, bx, rfl, -⟩ := hb
            have CA2 := Lib.hid (CA1.out bs bp bx X5.heap.size rfl)
            rw [← hx] at HT2 CA2
            generalize afterS t p x = q at HT2 CA2
            clear HT CA1 h1 h2 hx
            have EB : Hid (leftV bs bp bx = .func (.func 104) #[] #[.pointer (some ⟨bs, 0, none⟩), .pointer (some ⟨bp, 0, none⟩), .pointer (some ⟨bx, 0, none⟩)]) := rfl
            have T7 := TwoBr.new w6 81 x (leftV bs bp bx)
            have a7 := alloc_below w6 (.cells #[.int .i64 x, leftV bs bp bx] 81)
            have V7 := Lib.hid (V6.out.below a7)
            have R7 := Lib.hid (R6.out.below a7)
            have O7 := Lib.hid (O6.out.below a7)
            have HB7 := Lib.hid (HB6.out.below a7)
            have BB7 := Lib.hid (below_up B6.out a7)
            have L6 : Hid (wr.heap.size ≤ w6.heap.size) := by have := Q7.out.lt; unfold Hid; omega
            generalize hX7 : w6.alloc (.cells #[.int .i64 x, leftV bs bp bx] 81) = w7 at T7 V7 R7 O7 HB7 BB7
            rw [EB.out] at hX7 T7
            have T8 := Lib.hid T7
            have hown := O7.out
            have hbs : w.heap.size ≤ w7.heap.size := BB7.out.size
            have hbl : w.heap.size + 2 ≤ w7.heap.size := by have := R7.out.1.2.2.2.2; omega
            have HLL := HL.out
            obtain ⟨k0, k1, -⟩ := T7.cells
            unfold leftV
            clear V6 R6 O6 B6 HB6 T7 a7 EB
            unfold Own at hown
            go_wp2_with (at_builtin; refine wpList_append_own _ rfl _ _ 39 rfl (w.heap.size + 2) 3 i0 (.int .i64 0) 1 8 Try.underlying39 hi hz0 hz1 hz2 rfl (by decide) _ _ _ rfl (hown.alloc _) ⟨w7.heap.size, 0, none⟩ 1 1 [.int .i64 x] rfl rfl (cell_one_new _ _ _) (by simp [Value.oneCell']) (by unfold maxLen; omega) (by omega) (by simp; omega) ?_; intro v' w8 hown' hg1 _; have hO := Only.of_grown hg1; have V8 := Lib.hid ((V7.out.below (alloc_below _ _)).only hO (fun e => by have := (OB.out _ e).1; omega)); have R8 := Lib.hid ((R7.out.below (alloc_below _ _)).only hO (fun e => by have := (OB.out _ e).1; omega)); have HB8 := Lib.hid ((HB7.out.below (alloc_below _ _)).only hO (fun k e => by have := (OB.out _ e).2; have := LX.out; omega)); obtain ⟨k0, k1, -⟩ := (TwoBr.only (T8.out.below (alloc_below _ _)) hO (fun e => by have := (OB.out _ e).2; have := L6.out; omega)).cells; have BB8 := Lib.hid (Below.grown (BB7.out.alloc hbs _) hg1 (by simp; omega) (fun j hj => by have := (OB.out _ hj).1; omega)); obtain ⟨⟨f0, f1, f2, f3, -⟩, -⟩ := V8.out; clear T8)
            have O8 : Hid (Own w8 (w.heap.size + 2) v' (L ++ [x])) := by unfold Hid Own; simpa using hown'
            clear hown' hg1 hO hown hbs hbl HLL V7 R7 O7 HB7 BB7
            refine (CA2.out _ HB8.out).mono ?_
            rintro e w9 ⟨rfl, bb⟩
            have V9 := Lib.hid (V8.out.below bb)
            have R9 := Lib.hid (R8.out.below bb)
            have O9 := Lib.hid (O8.out.below bb)
            have HB9 := Lib.hid (below_up BB8.out bb)
            clear bb f0 f1 f2 f3 k0 k1 V8 R8 O8 HB8 BB8 CA2 hX7
            obtain ⟨⟨z0, z1, z2, z3, -⟩, y0, y1, y2, y3⟩ := V9.out
            go_wp2
            go_roundw
            case rel => exact ⟨i + 1, q, L ++ [x], by omega, by go_num, HT2, Lib.hid (O9.out.set4s (by omega) q), Lib.hid (V9.out.set4s q), Lib.hid (R9.out.far4s (by omega) q), Lib.hid (below_set4s HB9.out (Nat.le_refl _) q)⟩
            case measure => simp [intOf]; omega
        · obtain rfl : i = n := by omega
          have HE : Hid (R = some (L, t)) := by
            unfold Hid
            rw [HE0.out, ← HP.out, ← HN.out, List.take_length]
          obtain ⟨⟨f0, f1, f2, f3, -⟩, -⟩ := V4.out
          obtain ⟨⟨r0, r1, r2, r3, rl⟩, g0, g1, g2, g3⟩ := R4.out
          go_wp2_with fail
          go_region
          all_goals
            go_wp2
            refine bodyPost_ret (v := .tuple #[.slice g m c, .agg #[.int .i64 t.b, .int .i64 t.h, .int .i64 t.l, .int .i64 t.g], .bool true]) (by simp [results, Try.results24, go_sem, r0, r1, r2, r3]) rfl (Plays.some HE.out ?_ ?_)
            · exact ((O4.out.below (Below.refl _ _).drew).set4s (c := w.heap.size + 1) (by omega) t).lower (by omega)
            · exact below_fill4 B4.out.drew (b := w.heap.size + 1) (by omega) t
    · have HE : Hid (R = none) := by unfold Hid; rw [HR.out, decide_eq_false hlen]; rfl
      have k10 : (10 : Int) < (n : Int) := by omega
      obtain ⟨⟨r0, r1, r2, r3, rl⟩, g0, g1, g2, g3⟩ := R2.out
      clear HR HV CK CA V2
      go_wp2
      refine bodyPost_ret (v := .tuple #[.slice none 0 0, .agg #[.int .i64 0, .int .i64 0, .int .i64 0, .int .i64 0], .bool false]) (by simp [results, Try.results24, go_sem, r0, r1, r2, r3]) rfl (Plays.none HE.out ?_)
      exact below_fill4 B2.out (b := w.heap.size + 1) (by omega) zeroS
end Go.Proofs.Ytbkhmlkicafheaa
