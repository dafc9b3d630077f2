/- The contract of the model's making of pools out of a code: they are valid, and at most twelve. Conditions: the code reads as bytes; one to seven items. -/
import Derived.Test.YtlflblngbneacabDoorItemsSpec
import Derived.Test.YtlflblngbneacabDoorMakeProb
import Derived.Test.YtlflblngbneacabDoorCapAt
import Derived.Test.YtlflblngbneacabDoorGWei
namespace Go.Proofs.YtlflblngbneacabDoor
open Go.RowKit

theorem Own.solid {w : World} {B : Nat} {v : Value} {l : List Int} (h : Own w B v l) (hn : v ≠ .slice none 0 0) : Solid v := by
  rcases h.2 with ⟨h0, _⟩ | ⟨g, cap, cur, h1, -, -⟩
  · exact absurd h0 hn
  · exact ⟨g, _, cap, h1⟩
theorem top_of {n : Nat} (n1 : 1 ≤ n) (n7 : n ≤ 7) : IntKind.i64.wrap (2 ^ n) = topI (n : Int) + 1 ∧ 1 ≤ topI (n : Int) ∧ topI (n : Int) ≤ 127 := by
  have hp : ∀ m : Nat, m ≤ 6 → (2 : Int) ≤ 2 ^ (m + 1) ∧ (2 : Int) ^ (m + 1) ≤ 128 := by decide
  have h := hp (n - 1) (by omega)
  rw [show n - 1 + 1 = n by omega] at h
  have e : topI (n : Int) = 2 ^ n - 1 := rfl
  rw [e, IntKind.wrap_i64]
  omega

theorem only_curP {b : Nat} {w w' : World} (h : w.grownBy w' (some b)) : Only (fun k => k = b) w w' := (Only.of_grown h).mono fun k e => by simpa using e.symm
theorem curAlloc {W w : World} {b : Nat} {a : Option Addr} {len cap : Nat} (h : CurOk W w b a len cap) (o : Obj) : CurOk W (w.alloc o) b a len cap :=
  h.only (T := fun _ => False) (Only.fresh (alloc_below _ _)) fun _ hk => hk.elim
theorem Only.later {T S : Nat → Prop} {w A B : World} (h : Only T w A) (k : Only S A B) (hS : ∀ x, S x → w.heap.size ≤ x) : Only T w B :=
  ⟨k.os.trans h.os, k.tape.trans h.tape, k.output.trans h.output, Nat.le_trans h.size k.size, fun x hx hn => (k.block x (Nat.lt_of_lt_of_le hx h.size) fun hs => by have := hS x hs; omega).trans (h.block x hx hn)⟩
/-- What the drawing of pools has reached: a list of the call's own, and the cursor. -/
structure PoolDraw (W w0 w : World) (b : Nat) (a : Option Addr) (len cap : Nat) (n : Nat) (v : Value) (P : List Int) : Prop where
  own : Own w w0.heap.size v P
  sol : Solid v
  top : ∀ p ∈ P, 0 ≤ p ∧ p ≤ topI (n : Int)
  cur : CurOk W w b a len cap
  only : Only (fun k => k = b) w0 w
  lt : b < w0.heap.size

set_option maxRecDepth 100000 in
set_option maxHeartbeats 1600000 in
theorem poolDraw (W w : World) (b : Nat) (a : Option Addr) (len cap : Nat) (n : Nat) (n1 : 1 ≤ n) (n7 : n ≤ 7) (hB : BytesAt W a len) (hC : CurOk W w b a len cap) (hl : len ≤ 1048576) :
    Calls Tryd.prog 95 #[.pointer (some ⟨b, 0, none⟩), .int .i64 (n : Int)] w fun e w' => ∃ v P, e = .returned v ∧ PoolDraw W w w' b a len cap n v P ∧ P.length ≤ 6 := by
  obtain ⟨i0, hi, hz0, hz1, hz2⟩ := info_parts infoIntA
  obtain ⟨t1, t2, t3⟩ := top_of n1 n7
  have CB := Lib.hid (fun V (k : Int) (h : CurOk W V b a len cap) (k0 : 0 < k) (k1 : k ≤ 256) => below_any W V b a len cap k hB h hl k0 k1)
  have hlt := hC.lt
  have H0 : Hid (CurOk W (w.alloc (.cells #[] 3)) b a len cap) := curAlloc hC _
  have n0 : (0 : Int) ≤ (n : Int) := by omega
  have HT : Hid (∀ x : Int, 0 ≤ x → x < topI (n : Int) + 1 → 0 ≤ x ∧ x ≤ topI (n : Int)) := fun x h0 h1 => by omega
  have CT := Lib.hid (fun V h => CB.out V (topI (n : Int) + 1) h (by omega) (by omega))
  have TT : Hid (topI (n : Int) = topI (n : Int)) := rfl
  go_enter Tryd.func95, Tryd.ntmps95
  go_wp2_with fail
  refine (CB.out _ 7 H0.out (by omega) (by omega)).mono ?_
  rintro e w1 ⟨x, rfl, x0, x1, hc, hg⟩
  have P0 : Hid (PoolDraw W w w1 b a len cap n (.slice (some ⟨w.heap.size, 0, none⟩) 0 0) []) := by
    have o0 : Own (w.alloc (.cells #[] 3)) w.heap.size (.slice (some ⟨w.heap.size, 0, none⟩) 0 0) [] := World.ownsRow_lit (base := w.heap.size) (e := 3) (size := 1) w #[] 0 (Nat.le_refl _) (by unfold maxLen; omega) rfl
    refine ⟨o0.only (only_curP hg) fun k hk => ?_, ⟨_, _, _, rfl⟩, by simp, hc, (Only.fresh (alloc_below w _)).trans (only_curP hg), hlt⟩
    have e : w.heap.size = k := by simpa [Value.ownBlock] using hk
    omega
  clear H0 hc hg CB
  go_wp2
  go_loopw [5, 6] (fun vv kv wr => ∃ (k : Nat) (v : Value) (P : List Int), k + P.length ≤ 6 ∧ kv = .int .i64 (k : Int) ∧ vv = v ∧ Hid (PoolDraw W w wr b a len cap n v P)) (fun _ kv _ => (intOf kv).toNat)
  case atStart => exact ⟨x.toNat, _, [], by simp; omega, by congr 1; omega, rfl, P0⟩
  case round =>
    clear P0 x0 x1
    obtain ⟨k, v, P, hk, rfl, rfl, PD⟩ := hrel
    obtain ⟨g, m, c, rfl⟩ := PD.out.sol
    by_cases h0 : 0 < k
    · have h1 : (0 : Int) < (k : Int) := by omega
      have C := Lib.hid (CT.out wr PD.out.cur)
      generalize topI (n : Int) + 1 = T at t1 C HT
      go_wp2_with fail
      refine C.out.mono ?_
      rintro e w2 ⟨y, rfl, y0, y1, hc, hg⟩
      have hb : g ≠ b := by
        have := (PD.out.own.blk g rfl).1
        omega
      have P2 : Hid (PoolDraw W w w2 b a len cap n (.slice (some ⟨g, 0, none⟩) m c) P) :=
        ⟨PD.out.own.only (only_curP hg) fun k hk e => by have := (PD.out.own.blk k hk).1; have := PD.out.lt; omega, ⟨_, _, _, rfl⟩, PD.out.top, hc, PD.out.only.trans (only_curP hg), PD.out.lt⟩
      have hown1 : (w2.alloc (.cells #[.int .i64 y] 3)).ownsRow w.heap.size 3 1 (.slice (some ⟨g, 0, none⟩) m c) P.length (P.map (Value.int .i64)) := (P2.out.own.below (alloc_below _ _))
      have C3 : Hid (CurOk W (w2.alloc (.cells #[.int .i64 y] 3)) b a len cap) := curAlloc P2.out.cur _
      have HY := HT.out y y0 y1
      have hsz : w.heap.size ≤ (w2.alloc (.cells #[.int .i64 y] 3)).heap.size := by have := P2.out.only.size; simp; omega
      have HO3 := Lib.hid (P2.out.only.trans (Only.fresh (alloc_below w2 (.cells #[.int .i64 y] 3))))
      clear hc hg PD
      go_wp2_with (at_builtin; refine wpList_append_own _ rfl _ _ 32 rfl w.heap.size 3 i0 (.int .i64 0) 1 8 Tryd.underlying32 hi hz0 hz1 hz2 rfl (by decide) _ _ _ rfl hown1 ⟨w2.heap.size, 0, none⟩ 1 1 [.int .i64 y] rfl rfl (cell_one_new _ _ _) (by simp [Value.oneCell']) (by unfold maxLen; omega) (by omega) hsz ?_; intro v' w3 hown' hg1 hnn; have hg2 := Lib.hid hg1; have hn2 := Lib.hid hnn; clear hg1 hnn)
      have hblk : ∀ k, (Value.slice (some ⟨g, 0, none⟩) m c).ownBlock = some k → W.heap.size ≤ k ∧ k ≠ b := fun k hk => by
        have h5 := (P2.out.own.blk k hk).1
        have h6 := P2.out.lt
        have h7 := P2.out.cur.2.1
        omega
      have C4 : Hid (CurOk W w3 b a len cap) := C3.out.only (Only.of_grown hg2.out) hblk
      have hown2 : Own w3 w.heap.size v' (P ++ [y]) := by unfold Own; simpa using hown'
      have S4 : Solid v' := hown2.solid fun e => by have := (hn2.out.1 e).1; cases this
      have O4 : Hid (Only (fun k => k = b) w w3) := HO3.out.later (Only.of_grown hg2.out) fun k hk => (P2.out.own.blk k hk).1
      obtain ⟨g', m', c', rfl⟩ := S4
      have P4 : Hid (PoolDraw W w w3 b a len cap n (.slice (some ⟨g', 0, none⟩) m' c') (P ++ [y])) :=
        ⟨hown2, ⟨_, _, _, rfl⟩, fun p hp => by
          rw [List.mem_append, List.mem_singleton] at hp
          rcases hp with hp | rfl
          · exact P2.out.top p hp
          · exact HY, C4.out, O4.out, P2.out.lt⟩
      clear hown' hown2 hblk C4 O4 C3 HO3 P2 HY hg2 hn2
      go_wp2
      go_roundw
      case rel => exact ⟨k - 1, _, P ++ [y], by simp; omega, by congr 1; omega, rfl, P4⟩
      case measure => simp [intOf]; omega
    · obtain rfl : k = 0 := by omega
      go_wp2
      go_ret
      exact ⟨_, P, rfl, PD.out, by omega⟩

theorem bits_pools : ∀ n : Nat, n ≤ 6 → poolsB ((n + 1 : Nat) : Int) (bitsO ((n + 1 : Nat) : Int)) = true ∧ (bitsO ((n + 1 : Nat) : Int)).length ≤ 7 := by decide +kernel
theorem sing_pools : ∀ n : Nat, n ≤ 6 → poolsB ((n + 1 : Nat) : Int) (singO ((n + 1 : Nat) : Int)) = true ∧ (singO ((n + 1 : Nat) : Int)).length = n + 1 := by decide +kernel
theorem IntsAt.pre {w : World} {g m c : Nat} {A B : List Int} (h : IntsAt w (.slice (some ⟨g, 0, none⟩) m c) (A ++ B)) (c2 : Nat) : IntsAt w (.slice (some ⟨g, 0, none⟩) A.length c2) A := by
  obtain ⟨a, cc, e, h⟩ := h
  injection e with e1 e2 e3
  rcases h with h | ⟨x, o, e4, hc⟩
  · have : A = [] := List.append_eq_nil_iff.1 h |>.1
    subst this
    exact ⟨_, _, rfl, .inl rfl⟩
  · rw [e4] at e1
    injection e1 with e1
    injection e1 with e5 e6
    subst e5 e6
    refine ⟨_, _, rfl, .inr ⟨_, 0, rfl, fun i hi => ?_⟩⟩
    rw [hc i (by simp; omega), List.getElem_append_left hi]

/-- What MakePools gives back. -/
def MadePools (n : Nat) (w : World) (e : Ending) (w' : World) : Prop := ∃ v P, e = .returned v ∧ IntsAt w' v P ∧ poolsB (n : Int) P = true ∧ Below w.heap.size w w'
/-- The same, and that there are no more than seven. -/
def MadeSeven (n : Nat) (w : World) (e : Ending) (w' : World) : Prop := ∃ v P, e = .returned v ∧ CapAt w' v P ∧ (poolsB (n : Int) P = true ∧ P.length ≤ 7) ∧ Below w.heap.size w w'

theorem pools_of {n : Nat} (n1 : 1 ≤ n) (n7 : n ≤ 7) {P : List Int} (h : ∀ p ∈ P, 0 ≤ p ∧ p ≤ topI (n : Int)) (hl : P.length ≤ 6) : poolsB (n : Int) P = true := by
  unfold poolsB itemsB
  rw [decide_eq_true (by omega), decide_eq_true (by omega), decide_eq_true (by omega)]
  simp only [Bool.true_and, List.all_eq_true]
  intro p hp
  unfold poolB
  rw [decide_eq_true (h p hp).1, decide_eq_true (h p hp).2]
  rfl

set_option maxRecDepth 100000 in
set_option maxHeartbeats 1600000 in
theorem specMakeSeven (W w : World) (a : Option Addr) (len cap : Nat) (sk : Int) (n : Nat) (n1 : 1 ≤ n) (n7 : n ≤ 7) (hB : BytesAt W a len) (hb : Below W.heap.size W w) (hl : len ≤ 1048576) (s0 : 0 ≤ sk) (s1 : sk ≤ 1000000000) :
    Calls Tryd.prog 40 #[.slice a len cap, .int .i64 sk, .int .i64 (n : Int)] w (MadeSeven n w) := by
  obtain ⟨i0, hi, hz0, hz1, hz2⟩ := info_parts infoIntA
  have CN := Lib.hid (new17_any W w a len cap sk hB hb hl s0 s1)
  have CO := Lib.hid (fun V b h => once_any W V b a len cap 3 hB h hl (by omega) (by omega))
  have CD := Lib.hid (fun V b h => poolDraw W V b a len cap n n1 n7 hB h hl)
  have CB := Lib.hid (fun V => specBitPools (n : Int) V)
  have CS := Lib.hid (fun V => specSinglePools (n : Int) V)
  have HB : Hid (poolsB (n : Int) (bitsO (n : Int)) = true ∧ (bitsO (n : Int)).length ≤ 7) := by have := bits_pools (n - 1) (by omega); rwa [show n - 1 + 1 = n by omega] at this
  have HS : Hid ((poolsB (n : Int) (singO (n : Int)) = true ∧ (singO (n : Int)).length ≤ 7) ∧ (singO (n : Int)).length = n) := by have := sing_pools (n - 1) (by omega); rw [show n - 1 + 1 = n by omega] at this; exact ⟨⟨this.1, by omega⟩, this.2⟩
  have HP : Hid (∀ P : List Int, (∀ p ∈ P, 0 ≤ p ∧ p ≤ topI (n : Int)) → P.length ≤ 6 → poolsB (n : Int) P = true ∧ P.length ≤ 7) := fun P h hl => ⟨pools_of n1 n7 h hl, by omega⟩
  unfold Gives at CB CS
  generalize bitsO (n : Int) = LB at CB HB
  generalize singO (n : Int) = LS at CS HS
  generalize itemsB (n : Int) = ib at CB CS
  have HM : Hid (MadeSeven n w = fun e w' => ∃ v P, e = .returned v ∧ CapAt w' v P ∧ (poolsB (n : Int) P = true ∧ P.length ≤ 7) ∧ Below w.heap.size w w') := rfl
  rw [HM.out]
  clear hB hb HM
  obtain ⟨ni, hni⟩ : ∃ ni : Int, (n : Int) = ni := ⟨_, rfl⟩
  have k2 : ni ≤ 7 := by omega
  have k3 : (1 : Int) ≤ ni := by omega
  have HN := Lib.hid hni
  rw [hni] at CB CS CD HB HS ⊢
  clear hni
  rcases (show ni = 1 ∨ 1 < ni by omega) with h | h
  · subst h
    clear k2 k3
    go_enter Tryd.func40, Tryd.ntmps40
    go_wp2_with fail
    refine CN.out.mono ?_
    rintro e w1 ⟨b, rfl, hbl, hc, bb⟩
    have C1 := Lib.hid hc
    have B1 := Lib.hid bb
    clear hc bb CN
    go_wp2_with fail
    refine (CO.out _ _ C1.out).mono ?_
    rintro e w2 ⟨t, rfl, hc, hg⟩
    have C2 := Lib.hid hc
    have B2 := Lib.hid (B1.out.grown hg B1.out.size (fun k hk => by cases hk; exact hbl))
    clear hc hg C1 B1
    cases t with
    | true =>
      go_wp2_with fail
      refine (CB.out _).mono ?_
      rintro e w3 ⟨u, rfl, ou, bb⟩
      have OU := Lib.hid ou.capAt
      have B3 := Lib.hid (below_up B2.out bb)
      obtain ⟨gu, nu, cu, rfl⟩ := ou.form
      clear ou bb
      go_wp2
      go_ret
      exact ⟨_, LB, rfl, OU.out, HB.out, B3.out⟩
    | false =>
      go_wp2_with fail
      refine (CO.out _ _ C2.out).mono ?_
      rintro e w3 ⟨t, rfl, hc, hg⟩
      have C3 := Lib.hid hc
      have B3 := Lib.hid (B2.out.grown hg B2.out.size (fun k hk => by cases hk; exact hbl))
      clear hc hg C2 B2
      cases t with
      | true =>
        go_wp2_with fail
        refine (CS.out _).mono ?_
        rintro e w4 ⟨u, rfl, ou, bb⟩
        have O4 := Lib.hid ou
        have B4 := Lib.hid (below_up B3.out bb)
        have C4 : Hid (CurOk W w4 b a len cap) := C3.out.only (T := fun _ => False) (Only.fresh bb) fun _ hk => hk.elim
        have hw3 : w.heap.size ≤ w3.heap.size := B3.out.size
        have hbw : b < w3.heap.size := C3.out.lt
        clear ou bb C3 B3
        obtain ⟨gu, mu, qu, rfl⟩ := O4.out.form
        have hmu : mu = LS.length := by
          obtain ⟨_, _, e, -⟩ := O4.out.reads
          injection e with _ e2 _
        subst hmu
        have hln := HS.out.2
        obtain ⟨gx, my, cz, e⟩ := O4.out.solid (fun e => by injection e with _ e2 _; omega)
        injection e with e1 e2 e3
        subst e1 e2 e3
        have HX : Hid (LS.length = n ∧ (n : Int) = 1) := ⟨hln, HN.out⟩
        clear hln
        go_wp2_with fail
        refine (CD.out _ _ C4.out).mono ?_
        rintro e w5 ⟨v2, P2, rfl, pd, hp⟩
        have O5 : Own w5 w.heap.size (.slice (some ⟨gx, 0, none⟩) LS.length qu) LS := (O4.out.only pd.only (fun k hk e => by have := (O4.out.blk k hk).1; omega)).lower hw3
        obtain ⟨g2, m2, c2, rfl⟩ := pd.sol
        have hm2 : m2 = P2.length := by
          obtain ⟨_, _, e, -⟩ := pd.own.reads
          injection e with _ e2 _
        subst hm2
        have hcl := ints_cells pd.own.reads
        have B5 : Below w.heap.size w w5 := B4.out.trans (pd.only.below B4.out.size fun k hk => by omega)
        have hs5 := B5.size
        have HB5 := Lib.hid B5
        have hls : LS.length ≤ 7 ∧ 1 ≤ LS.length := by have := HX.out; omega
        clear pd O4 B4 C4 B5
        go_wp2_with (at_builtin; refine wpList_append_own _ rfl _ _ 32 rfl w.heap.size 3 i0 (.int .i64 0) 1 8 Tryd.underlying32 hi hz0 hz1 hz2 rfl (by decide) _ _ _ rfl O5 ⟨g2, 0, none⟩ P2.length c2 (P2.map (Value.int .i64)) rfl (by simp) hcl (ints_one _) (by unfold maxLen; omega) (by omega) hs5 ?_; intro v' w6 hown' hg1 hnn; have hg2 := Lib.hid hg1; obtain ⟨g6, c6, hv6, hcap⟩ : ∃ g c, v' = .slice (some ⟨g, 0, none⟩) (LS.length + P2.length) c ∧ LS.length + P2.length ≤ c := hown'.2.elim (fun h => absurd h.2 (by omega)) (fun ⟨g, c, _, h1, _, _, h2, _⟩ => ⟨g, c, h1, h2⟩); subst hv6; have q1 : 1 ≤ (c6 : Int) := (by have := HX.out; omega); have HO6 := Lib.hid hown'; clear hown' hg1 hnn hcap)
        go_wp2
        go_ret
        have R6 : IntsAt w6 (.slice (some ⟨g6, 0, none⟩) (LS.length + P2.length) c6) (LS ++ P2) := IntsAt.of_owns_n (n := LS.length + P2.length) (by simpa using HO6.out) (by simp)
        have h := R6.pre c6
        have e : LS.length = 1 := by have := HX.out; omega
        rw [e] at h
        have hcp : CapAt w6 (.slice (some ⟨g6, 0, none⟩) 1 c6) LS := ⟨some ⟨g6, 0, none⟩, c6, by rw [e], by omega, h⟩
        exact ⟨_, LS, rfl, hcp, HS.out.1, HB5.out.grown hg2.out hs5 (fun k hk => (O5.blk k hk).1)⟩
      | false =>
        go_wp2_with fail
        refine (CD.out _ _ C3.out).mono ?_
        rintro e w4 ⟨v, P, rfl, pd, hp⟩
        have PV := HP.out P pd.top hp
        rw [HN.out] at PV
        replace PV := Lib.hid PV
        have OV := Lib.hid pd.own.capAt
        have B4 : Hid (Below w.heap.size w w4) := B3.out.trans ((pd.only.below (B := w.heap.size) B3.out.size fun k hk => by omega))
        obtain ⟨g, m, c, rfl⟩ := pd.sol
        clear pd
        go_wp2
        go_ret
        exact ⟨_, P, rfl, OV.out, PV.out, B4.out⟩
  · have k4 : ¬ ni ≤ 1 := by omega
    go_enter Tryd.func40, Tryd.ntmps40
    go_wp2_with fail
    refine CN.out.mono ?_
    rintro e w1 ⟨b, rfl, hbl, hc, bb⟩
    have C1 := Lib.hid hc
    have B1 := Lib.hid bb
    clear hc bb CN
    go_wp2_with fail
    refine (CO.out _ _ C1.out).mono ?_
    rintro e w2 ⟨t, rfl, hc, hg⟩
    have C2 := Lib.hid hc
    have B2 := Lib.hid (B1.out.grown hg B1.out.size (fun k hk => by cases hk; exact hbl))
    clear hc hg C1 B1
    cases t with
    | true =>
      go_wp2_with fail
      refine (CB.out _).mono ?_
      rintro e w3 ⟨u, rfl, ou, bb⟩
      have OU := Lib.hid ou.capAt
      have B3 := Lib.hid (below_up B2.out bb)
      obtain ⟨gu, nu, cu, rfl⟩ := ou.form
      clear ou bb
      go_wp2
      go_ret
      exact ⟨_, LB, rfl, OU.out, HB.out, B3.out⟩
    | false =>
      go_wp2_with fail
      refine (CO.out _ _ C2.out).mono ?_
      rintro e w3 ⟨t, rfl, hc, hg⟩
      have C3 := Lib.hid hc
      have B3 := Lib.hid (B2.out.grown hg B2.out.size (fun k hk => by cases hk; exact hbl))
      clear hc hg C2 B2
      cases t with
      | true =>
        go_wp2_with fail
        refine (CS.out _).mono ?_
        rintro e w4 ⟨u, rfl, ou, bb⟩
        have O4 := Lib.hid ou
        have B4 := Lib.hid (below_up B3.out bb)
        have C4 : Hid (CurOk W w4 b a len cap) := C3.out.only (T := fun _ => False) (Only.fresh bb) fun _ hk => hk.elim
        have hw3 : w.heap.size ≤ w3.heap.size := B3.out.size
        have hbw : b < w3.heap.size := C3.out.lt
        clear ou bb C3 B3
        obtain ⟨gu, mu, qu, rfl⟩ := O4.out.form
        have hmu : mu = LS.length := by
          obtain ⟨_, _, e, -⟩ := O4.out.reads
          injection e with _ e2 _
        subst hmu
        have hln := HS.out.2
        obtain ⟨gx, my, cz, e⟩ := O4.out.solid (fun e => by injection e with _ e2 _; omega)
        injection e with e1 e2 e3
        subst e1 e2 e3
        have HX : Hid (LS.length = n ∧ (n : Int) = ni) := ⟨hln, HN.out⟩
        clear hln
        go_wp2_with fail
        refine (CD.out _ _ C4.out).mono ?_
        rintro e w5 ⟨v2, P2, rfl, pd, hp⟩
        have O5 : Own w5 w.heap.size (.slice (some ⟨gx, 0, none⟩) LS.length qu) LS := (O4.out.only pd.only (fun k hk e => by have := (O4.out.blk k hk).1; omega)).lower hw3
        obtain ⟨g2, m2, c2, rfl⟩ := pd.sol
        have hm2 : m2 = P2.length := by
          obtain ⟨_, _, e, -⟩ := pd.own.reads
          injection e with _ e2 _
        subst hm2
        have hcl := ints_cells pd.own.reads
        have B5 : Below w.heap.size w w5 := B4.out.trans (pd.only.below B4.out.size fun k hk => by omega)
        have hs5 := B5.size
        have HB5 := Lib.hid B5
        have hls : LS.length ≤ 7 ∧ 1 ≤ LS.length := by have := HX.out; omega
        clear pd O4 B4 C4 B5
        go_wp2_with (at_builtin; refine wpList_append_own _ rfl _ _ 32 rfl w.heap.size 3 i0 (.int .i64 0) 1 8 Tryd.underlying32 hi hz0 hz1 hz2 rfl (by decide) _ _ _ rfl O5 ⟨g2, 0, none⟩ P2.length c2 (P2.map (Value.int .i64)) rfl (by simp) hcl (ints_one _) (by unfold maxLen; omega) (by omega) hs5 ?_; intro v' w6 hown' hg1 hnn; have hg2 := Lib.hid hg1; obtain ⟨g6, c6, hv6, hcap⟩ : ∃ g c, v' = .slice (some ⟨g, 0, none⟩) (LS.length + P2.length) c ∧ LS.length + P2.length ≤ c := hown'.2.elim (fun h => absurd h.2 (by omega)) (fun ⟨g, c, _, h1, _, _, h2, _⟩ => ⟨g, c, h1, h2⟩); subst hv6; have q1 : ni ≤ (c6 : Int) := (by have := HX.out; omega); have HO6 := Lib.hid hown'; clear hown' hg1 hnn hcap)
        go_wp2
        go_ret
        have R6 : IntsAt w6 (.slice (some ⟨g6, 0, none⟩) (LS.length + P2.length) c6) (LS ++ P2) := IntsAt.of_owns_n (n := LS.length + P2.length) (by simpa using HO6.out) (by simp)
        have h := R6.pre c6
        have e : LS.length = ni.toNat := by have := HX.out; omega
        rw [e] at h
        have hcp : CapAt w6 (.slice (some ⟨g6, 0, none⟩) ni.toNat c6) LS := ⟨some ⟨g6, 0, none⟩, c6, by rw [e], by omega, h⟩
        exact ⟨_, LS, rfl, hcp, HS.out.1, HB5.out.grown hg2.out hs5 (fun k hk => (O5.blk k hk).1)⟩
      | false =>
        go_wp2_with fail
        refine (CD.out _ _ C3.out).mono ?_
        rintro e w4 ⟨v, P, rfl, pd, hp⟩
        have PV := HP.out P pd.top hp
        rw [HN.out] at PV
        replace PV := Lib.hid PV
        have OV := Lib.hid pd.own.capAt
        have B4 : Hid (Below w.heap.size w w4) := B3.out.trans ((pd.only.below (B := w.heap.size) B3.out.size fun k hk => by omega))
        obtain ⟨g, m, c, rfl⟩ := pd.sol
        clear pd
        go_wp2
        go_ret
        exact ⟨_, P, rfl, OV.out, PV.out, B4.out⟩
theorem specMakePools (W w : World) (a : Option Addr) (len cap : Nat) (sk : Int) (n : Nat) (n1 : 1 ≤ n) (n7 : n ≤ 7) (hB : BytesAt W a len) (hb : Below W.heap.size W w) (hl : len ≤ 1048576) (s0 : 0 ≤ sk) (s1 : sk ≤ 1000000000) :
    Calls Tryd.prog 40 #[.slice a len cap, .int .i64 sk, .int .i64 (n : Int)] w (MadePools n w) :=
  (specMakeSeven W w a len cap sk n n1 n7 hB hb hl s0 s1).mono fun _ _ ⟨v, P, h1, h2, h3, h4⟩ => ⟨v, P, h1, h2.reads, h3.1, h4⟩
end Go.Proofs.YtlflblngbneacabDoor
