/- The walk of the law of outcomes round the contracts of the program's functions and of the model's draw of a weighing: it returns true for every code. Condition: the slice that came in reads as bytes. -/
import Derived.Test.YtdfcjdepfikboaaOutPlain
import Derived.Test.YtdfcjdepfikboaaTurnLaw
import Derived.Test.YtdfcjdepfikboaaCur
namespace Go.Proofs.Ytdfcjdepfikboaa
open Go.RowKit

set_option maxHeartbeats 800000 in
theorem lawsHas (v : Value) (l : List Int) (x : Int) (w : World) (h : IntsAt w v l) (hm : l.length ≤ 100000000) :
    Calls Try.prog 14 #[v, .int .i64 x] w fun e w' => e = .returned (.bool (hasI l x)) ∧ w = w' := by
  obtain ⟨a, c, rfl, h⟩ := h
  have H : Hid (∀ i (h : i < l.length), ∃ b o, a = some ⟨b, o, none⟩ ∧ w.cell? ⟨b, o + i, none⟩ = some (.int .i64 l[i])) := by
    intro i hi
    rcases h with rfl | ⟨b, o, rfl, hc⟩
    · simp at hi
    · exact ⟨b, o, rfl, hc i hi⟩
  clear h
  obtain ⟨n, hn⟩ : ∃ n, l.length = n := ⟨_, rfl⟩
  rw [hn] at hm ⊢
  have HN := Lib.hid hn
  clear hn
  go_enter Try.func14, Try.ntmps14
  go_wp2
  go_loop [6, 9] (fun _ i => ∃ k : Nat, k ≤ n ∧ i = .int .i64 k ∧ Hid (hasI (l.take k) x = false)) (fun _ i => n - (intOf i).toNat)
  case atStart => exact ⟨0, Nat.zero_le _, rfl, by simp [Hid, hasI]⟩
  case round =>
    obtain ⟨k, hk, rfl, HF⟩ := hrel
    by_cases hlt : k < n
    · have hkl : k < l.length := by rw [HN.out]; exact hlt
      obtain ⟨b, o, rfl, e0⟩ := H.out k hkl
      have i0 : (0 : Int) ≤ (k : Int) := by omega
      have i1 : (k : Int) < (n : Int) := by omega
      obtain ⟨y, hy⟩ : ∃ y, l[k] = y := ⟨_, rfl⟩
      rw [hy] at e0
      cases hc : (y == x) with
      | true =>
        have HY := Lib.hid (hasI_yes hkl (hy.trans (eq_of_beq hc)))
        clear hy hkl
        go_wp2
        go_ret
        exact ⟨ret_bool HY.out.symm, rfl⟩
      | false =>
        have HY := Lib.hid (hasI_step hkl HF.out (fun e => by rw [hy] at e; subst e; simp at hc))
        clear hy hkl
        go_wp2
        go_round
        case rel => exact ⟨k + 1, by omega, by go_num, HY⟩
        case measure => simp [intOf]; omega
    · have HY := Lib.hid (hasI_end (by rw [HN.out]; omega) HF.out)
      go_wp2
      go_ret
      exact ⟨ret_bool HY.out.symm, rfl⟩

/-- The contract of the model's draw of a weighing. -/
def MakesW : Prop :=
  ∀ (W w : World) (a : Option Addr) (len cap : Nat) (n : Int), BytesAt W a len → Below W.heap.size W w → len ≤ 1048576 → 2 ≤ n → n ≤ 13 →
    Calls Try.prog 10 #[.slice a len cap, .int .i64 20, .int .i64 n] w fun e w' => ∃ v L R, e = .returned v ∧ OwnW w' w.heap.size v L R ∧ weighB L R n = true ∧ Below w.heap.size w w'

set_option maxRecDepth 100000 in
set_option maxHeartbeats 6400000 in
theorem lawOutcomes (MW : MakesW)
    (OK : ∀ (L R : List Int) (n : Int), L.length ≤ 1048576 → R.length ≤ 1048576 → -9223372036854775808 ≤ n → n ≤ 9223372036854775807 → OkIs 12 L R n)
    (OU : ∀ (L R : List Int) (n : Int), L.length ≤ 1048576 → R.length ≤ 1048576 → -9223372036854775808 ≤ n → n ≤ 9223372036854775807 → OutIs 13 L R n)
    (TU : ∀ (L R : List Int), L.length ≤ 1048576 → R.length ≤ 1048576 → TurnIs 11 L R)
    (w : World) (a : Option Addr) (len cap : Nat) (hB : BytesAt w a len) (hlm : len ≤ maxLen) :
    Calls Try.prog 3 #[.slice a len cap] w fun e w' => e = .returned (.bool true) ∧ Below w.heap.size w w' := by
  unfold maxLen at hlm
  by_cases hbig : (1048576 : Int) < (len : Int)
  · go_enter Try.func3, Try.ntmps3
    go_wp2
    go_ret
    exact ⟨rfl, Below.refl _ _⟩
  have hl : len ≤ 1048576 := by omega
  have CN := Lib.hid (makeNum_any w w a len cap 1 hB (Below.refl _ _) hl (by omega) (by omega))
  have CW := Lib.hid (fun W n h h1 h2 => MW w W a len cap n hB h hl h1 h2)
  have HOK := Lib.hid OK
  have HOU := Lib.hid OU
  have HTU := Lib.hid TU
  unfold OkIs at HOK
  unfold OutIs at HOU
  unfold TurnIs at HTU
  clear MW OK OU TU hB hl
  go_enter Try.func3, Try.ntmps3
  go_wp2_with fail
  refine CN.out.mono ?_
  rintro e w1 ⟨r, rfl, r0, r1, b1⟩
  have B1 := Lib.hid b1
  have hm0 : 0 ≤ r % 12 := by omega
  have hm1 : r % 12 < 12 := by omega
  clear b1
  go_wp2_with fail
  refine (CW.out _ _ B1.out (by omega) (by omega)).mono ?_
  rintro e w2 ⟨_, L, R, rfl, ⟨vl, vr, rfl, A1, A2, S2, D1, D2⟩, hv, b2⟩
  obtain ⟨ga, ca, rfl, l1⟩ := solid_form A1 D1
  obtain ⟨gb, cb, rfl, l2⟩ := solid_form A2 D2
  have al := alloc_below w2 (.cells #[.slice (some ⟨ga, 0, none⟩) L.length ca, .slice (some ⟨gb, 0, none⟩) R.length cb] 26)
  have P2 := Lib.hid (Var.new 26 A1 A2 S2 b2.size)
  have B2 := Lib.hid (below_up (below_up B1.out b2) al)
  have U1 := Lib.hid l1
  have U2 := Lib.hid l2
  have HV := Lib.hid hv
  clear A1 A2 S2 b2 al l1 l2
  generalize hX2 : w2.alloc (.cells #[.slice (some ⟨ga, 0, none⟩) L.length ca, .slice (some ⟨gb, 0, none⟩) R.length cb] 26) = X2 at P2 B2
  have s2 : Hid (X2.heap.size = w2.heap.size + 1) := by unfold Hid; rw [← hX2]; simp
  obtain ⟨n, hn⟩ : ∃ n, 2 + r % 12 = n := ⟨_, rfl⟩
  have n0 : 2 ≤ n := by omega
  have n1 : n ≤ 13 := by omega
  rw [hn] at hv HV ⊢
  clear hn hm0 hm1
  obtain ⟨m1, m2⟩ := weigh_len hv
  have OKL := Lib.hid (HOK.out L R n (by omega) (by omega) (by omega) (by omega))
  have OKR := Lib.hid (HOK.out R L n (by omega) (by omega) (by omega) (by omega))
  have OUL := Lib.hid (fun c c1 c2 => HOU.out L R c (by omega) (by omega) c1 c2)
  have OUR := Lib.hid (fun c c1 c2 => HOU.out R L c (by omega) (by omega) c1 c2)
  have TUL := Lib.hid (HTU.out L R (by omega) (by omega))
  have HL := Lib.hid (fun v x W h => lawsHas v L x W h (by omega))
  have HRr := Lib.hid (fun v x W h => lawsHas v R x W h (by omega))
  rw [hv] at OKL
  rw [weigh_turn hv] at OKR
  clear hv m1 m2 HOK HOU HTU CW CN
  obtain ⟨e0, e1, -⟩ := P2.out.two
  go_wp2_with fail
  clear e0 e1
  refine (TUL.out X2 _ _ _ _ P2.out.left.reads P2.out.right.reads (by have := U1.out; have := s2.out; omega) (by have := U2.out; have := s2.out; omega)).mono ?_
  rintro e w3 ⟨_, rfl, ⟨tl, tr, rfl, A1, A2, S3⟩, b3⟩
  obtain ⟨gc, nc, cc, rfl⟩ := A1.form
  obtain ⟨gd, nd, cd, rfl⟩ := A2.form
  have al := alloc_below w3 (.cells #[.slice gc nc cc, .slice gd nd cd] 26)
  have Q3 := Lib.hid (Var.new 26 A1 A2 S3 b3.size)
  have P3 := Lib.hid ((P2.out.below b3).below al)
  have B3 := Lib.hid (below_up (below_up B2.out b3) al)
  clear A1 A2 S3 b3 al hX2
  generalize hX3 : w3.alloc (.cells #[.slice gc nc cc, .slice gd nd cd] 26) = X3 at Q3 P3 B3
  obtain ⟨e0, e1, -⟩ := P3.out.two
  go_wp2_with fail
  clear e0 e1
  refine (OKL.out _ _ _ P3.out.left.reads P3.out.right.reads).mono ?_
  rintro e w4 ⟨rfl, b4⟩
  have P4 := Lib.hid (P3.out.below b4)
  have Q4 := Lib.hid (Q3.out.below b4)
  have B4 := Lib.hid (below_up B3.out b4)
  clear b4 hX3
  obtain ⟨e0, e1, -⟩ := Q4.out.two
  go_wp2_with fail
  clear e0 e1
  refine (OKR.out _ _ _ Q4.out.left.reads Q4.out.right.reads).mono ?_
  rintro e w5 ⟨rfl, b5⟩
  have P5 := Lib.hid (P4.out.below b5)
  have Q5 := Lib.hid (Q4.out.below b5)
  have B5 := Lib.hid (below_up B4.out b5)
  clear b5
  generalize w2.heap.size = p at P5 ⊢
  generalize w3.heap.size = q at Q5 ⊢
  obtain ⟨plo, phi, HP5⟩ : ∃ lo hi, Hid (Var w5 p lo hi (.slice (some ⟨ga, 0, none⟩) L.length ca) (.slice (some ⟨gb, 0, none⟩) R.length cb) L R) := ⟨_, _, P5⟩
  obtain ⟨qlo, qhi, HQ5⟩ : ∃ lo hi, Hid (Var w5 q lo hi (.slice gc nc cc) (.slice gd nd cd) R L) := ⟨_, _, Q5⟩
  clear P2 P3 P4 P5 Q3 Q4 Q5 B1 B2 B3 B4 U1 U2 s2
  go_wp2
  go_loopw [6, 7, 8] (fun sv cv _ wr => ∃ (k : Nat) (S : Int), (k : Int) ≤ n ∧ cv = .int .i64 ((k : Int) + 1) ∧ sv = .int .i64 S ∧ -13 ≤ S ∧ S ≤ 13 ∧ Hid (cnt L (k : Int) - cnt R (k : Int) = S) ∧ Below w.heap.size w wr ∧ Hid (Var wr p plo phi (.slice (some ⟨ga, 0, none⟩) L.length ca) (.slice (some ⟨gb, 0, none⟩) R.length cb) L R) ∧ Hid (Var wr q qlo qhi (.slice gc nc cc) (.slice gd nd cd) R L)) (fun _ cv _ _ => (15 - intOf cv).toNat)
  case atStart => exact ⟨0, 0, by omega, rfl, rfl, by omega, by omega, sum_zero HV.out, B5.out, HP5, HQ5⟩
  case round =>
    clear HP5 HQ5 B5
    obtain ⟨k, S, hk, rfl, rfl, S0, S1, HSS, hb, VP, VQ⟩ := hrel
    by_cases hlt : (k : Int) < n
    · obtain ⟨c, hck⟩ : ∃ c : Int, (k : Int) + 1 = c := ⟨_, rfl⟩
      have q0 : -9223372036854775808 ≤ c := by omega
      have q1 : c ≤ 9223372036854775807 := by omega
      have q2 : 1 ≤ c := by omega
      have q3 : c ≤ 13 := by omega
      have q4 : c ≤ n := by omega
      rw [hck]
      cases hl : hasI L c with
      | true =>
       cases hr : hasI R c with
       | true => exact absurd (hasI_mem.1 hr) ((weigh_parts HV.out).2.2.2.2.2 c (hasI_mem.1 hl))
       | false =>
        have hs : sgI L R c = 1 := by rw [sg_val hl hr]; rfl
        have D1 := Lib.hid (OUL.out c q0 q1)
        have D2 := Lib.hid (OUL.out (-c) (by omega) (by omega))
        have D3 := Lib.hid (OUR.out c q0 q1)
        rw [out_heavy HV.out q2 q3, hs] at D1
        rw [out_light HV.out q2 q3, hs] at D2
        rw [out_turn HV.out q2 q3, hs] at D3
        have E1 := Lib.hid (fun v W h => HL.out v c W h)
        have E2 := Lib.hid (fun v W h => HRr.out v c W h)
        rw [hl] at E1
        rw [hr] at E2
        have HSS2 : Hid (cnt L ((k + 1 : Nat) : Int) - cnt R ((k + 1 : Nat) : Int) = S + 1) := by
          unfold Hid
          rw [show ((k + 1 : Nat) : Int) = (k : Int) + 1 by omega, sum_step HV.out, HSS.out, hck, hs]
        clear hs hl hr
        obtain ⟨e0, e1, -⟩ := VP.out.two
        go_wp2_with fail
        clear e0 e1
        refine (D1.out _ _ _ VP.out.left.reads VP.out.right.reads).mono ?_
        rintro e w6 ⟨rfl, b6⟩
        have VP6 := Lib.hid (VP.out.below b6)
        have VQ6 := Lib.hid (VQ.out.below b6)
        have B6 := Lib.hid (below_up hb b6)
        clear b6
        obtain ⟨e0, e1, -⟩ := VP6.out.two
        go_wp2_with fail
        clear e0 e1
        refine (D2.out _ _ _ VP6.out.left.reads VP6.out.right.reads).mono ?_
        rintro e w7 ⟨rfl, b7⟩
        have VP7 := Lib.hid (VP6.out.below b7)
        have VQ7 := Lib.hid (VQ6.out.below b7)
        have B7 := Lib.hid (below_up B6.out b7)
        clear b7
        obtain ⟨e0, e1, -⟩ := VQ7.out.two
        go_wp2_with fail
        clear e0 e1
        refine (D3.out _ _ _ VQ7.out.left.reads VQ7.out.right.reads).mono ?_
        rintro e w8 ⟨rfl, b8⟩
        have VP8 := Lib.hid (VP7.out.below b8)
        have VQ8 := Lib.hid (VQ7.out.below b8)
        have B8 := Lib.hid (below_up B7.out b8)
        clear b8
        obtain ⟨e0, e1, -⟩ := VP8.out.two
        go_wp2_with fail
        refine (E1.out _ _ VP8.out.left.reads).mono ?_
        rintro e w9 ⟨rfl, rfl⟩
        go_wp2
        go_roundw
        case rel => exact ⟨k + 1, S + 1, by omega, val_int (by omega), val_int (by omega), by have := sum_range HV.out ((k + 1 : Nat) : Int); have := HSS2.out; omega, by have := sum_range HV.out ((k + 1 : Nat) : Int); have := HSS2.out; omega, HSS2, B8.out, VP8, VQ8⟩
        case measure => simp [intOf]; omega
      | false =>
       cases hr : hasI R c with
       | true =>
        have hs : sgI L R c = -1 := by rw [sg_val hl hr]; rfl
        have D1 := Lib.hid (OUL.out c q0 q1)
        have D2 := Lib.hid (OUL.out (-c) (by omega) (by omega))
        have D3 := Lib.hid (OUR.out c q0 q1)
        rw [out_heavy HV.out q2 q3, hs] at D1
        rw [out_light HV.out q2 q3, hs] at D2
        rw [out_turn HV.out q2 q3, hs] at D3
        have E1 := Lib.hid (fun v W h => HL.out v c W h)
        have E2 := Lib.hid (fun v W h => HRr.out v c W h)
        rw [hl] at E1
        rw [hr] at E2
        have HSS2 : Hid (cnt L ((k + 1 : Nat) : Int) - cnt R ((k + 1 : Nat) : Int) = S + -1) := by
          unfold Hid
          rw [show ((k + 1 : Nat) : Int) = (k : Int) + 1 by omega, sum_step HV.out, HSS.out, hck, hs]
        clear hs hl hr
        obtain ⟨e0, e1, -⟩ := VP.out.two
        go_wp2_with fail
        clear e0 e1
        refine (D1.out _ _ _ VP.out.left.reads VP.out.right.reads).mono ?_
        rintro e w6 ⟨rfl, b6⟩
        have VP6 := Lib.hid (VP.out.below b6)
        have VQ6 := Lib.hid (VQ.out.below b6)
        have B6 := Lib.hid (below_up hb b6)
        clear b6
        obtain ⟨e0, e1, -⟩ := VP6.out.two
        go_wp2_with fail
        clear e0 e1
        refine (D2.out _ _ _ VP6.out.left.reads VP6.out.right.reads).mono ?_
        rintro e w7 ⟨rfl, b7⟩
        have VP7 := Lib.hid (VP6.out.below b7)
        have VQ7 := Lib.hid (VQ6.out.below b7)
        have B7 := Lib.hid (below_up B6.out b7)
        clear b7
        obtain ⟨e0, e1, -⟩ := VQ7.out.two
        go_wp2_with fail
        clear e0 e1
        refine (D3.out _ _ _ VQ7.out.left.reads VQ7.out.right.reads).mono ?_
        rintro e w8 ⟨rfl, b8⟩
        have VP8 := Lib.hid (VP7.out.below b8)
        have VQ8 := Lib.hid (VQ7.out.below b8)
        have B8 := Lib.hid (below_up B7.out b8)
        clear b8
        obtain ⟨e0, e1, -⟩ := VP8.out.two
        go_wp2_with fail
        refine (E1.out _ _ VP8.out.left.reads).mono ?_
        rintro e w9 ⟨rfl, rfl⟩
        go_wp2_with fail
        refine (E2.out _ _ VP8.out.right.reads).mono ?_
        rintro e w10 ⟨rfl, rfl⟩
        go_wp2
        go_roundw
        case rel => exact ⟨k + 1, S + -1, by omega, val_int (by omega), val_int (by omega), by have := sum_range HV.out ((k + 1 : Nat) : Int); have := HSS2.out; omega, by have := sum_range HV.out ((k + 1 : Nat) : Int); have := HSS2.out; omega, HSS2, B8.out, VP8, VQ8⟩
        case measure => simp [intOf]; omega
       | false =>
        have hs : sgI L R c = 0 := by rw [sg_val hl hr]; rfl
        have D1 := Lib.hid (OUL.out c q0 q1)
        have D2 := Lib.hid (OUL.out (-c) (by omega) (by omega))
        have D3 := Lib.hid (OUR.out c q0 q1)
        rw [out_heavy HV.out q2 q3, hs] at D1
        rw [out_light HV.out q2 q3, hs] at D2
        rw [out_turn HV.out q2 q3, hs] at D3
        have E1 := Lib.hid (fun v W h => HL.out v c W h)
        have E2 := Lib.hid (fun v W h => HRr.out v c W h)
        rw [hl] at E1
        rw [hr] at E2
        have HSS2 : Hid (cnt L ((k + 1 : Nat) : Int) - cnt R ((k + 1 : Nat) : Int) = S + 0) := by
          unfold Hid
          rw [show ((k + 1 : Nat) : Int) = (k : Int) + 1 by omega, sum_step HV.out, HSS.out, hck, hs]
        clear hs hl hr
        obtain ⟨e0, e1, -⟩ := VP.out.two
        go_wp2_with fail
        clear e0 e1
        refine (D1.out _ _ _ VP.out.left.reads VP.out.right.reads).mono ?_
        rintro e w6 ⟨rfl, b6⟩
        have VP6 := Lib.hid (VP.out.below b6)
        have VQ6 := Lib.hid (VQ.out.below b6)
        have B6 := Lib.hid (below_up hb b6)
        clear b6
        obtain ⟨e0, e1, -⟩ := VP6.out.two
        go_wp2_with fail
        clear e0 e1
        refine (D2.out _ _ _ VP6.out.left.reads VP6.out.right.reads).mono ?_
        rintro e w7 ⟨rfl, b7⟩
        have VP7 := Lib.hid (VP6.out.below b7)
        have VQ7 := Lib.hid (VQ6.out.below b7)
        have B7 := Lib.hid (below_up B6.out b7)
        clear b7
        obtain ⟨e0, e1, -⟩ := VQ7.out.two
        go_wp2_with fail
        clear e0 e1
        refine (D3.out _ _ _ VQ7.out.left.reads VQ7.out.right.reads).mono ?_
        rintro e w8 ⟨rfl, b8⟩
        have VP8 := Lib.hid (VP7.out.below b8)
        have VQ8 := Lib.hid (VQ7.out.below b8)
        have B8 := Lib.hid (below_up B7.out b8)
        clear b8
        obtain ⟨e0, e1, -⟩ := VP8.out.two
        go_wp2_with fail
        refine (E1.out _ _ VP8.out.left.reads).mono ?_
        rintro e w9 ⟨rfl, rfl⟩
        go_wp2_with fail
        refine (E2.out _ _ VP8.out.right.reads).mono ?_
        rintro e w10 ⟨rfl, rfl⟩
        go_wp2
        go_roundw
        case rel => exact ⟨k + 1, S + 0, by omega, val_int (by omega), val_int (by omega), by have := sum_range HV.out ((k + 1 : Nat) : Int); have := HSS2.out; omega, by have := sum_range HV.out ((k + 1 : Nat) : Int); have := HSS2.out; omega, HSS2, B8.out, VP8, VQ8⟩
        case measure => simp [intOf]; omega
    · have hkn : (k : Int) = n := by omega
      have hS : S = 0 := by rw [← HSS.out, hkn]; exact sum_end HV.out
      subst hS
      have D := Lib.hid (OUL.out 0 (by omega) (by omega))
      rw [out_none HV.out] at D
      obtain ⟨e0, e1, -⟩ := VP.out.two
      clear hkn
      go_wp2_with fail
      refine (D.out _ _ _ VP.out.left.reads VP.out.right.reads).mono ?_
      rintro e w6 ⟨rfl, b6⟩
      have B6 := Lib.hid (below_up hb b6)
      clear b6
      go_wp2
      go_ret
      exact ⟨rfl, B6.out⟩
end Go.Proofs.Ytdfcjdepfikboaa
