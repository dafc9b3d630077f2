/- The walk of the model's draw of a weighing. Condition: from 2 to 13 coins. -/
import Derived.Test.YtlflblngbneacabDoorDrawW
namespace Go.Proofs.YtlflblngbneacabDoor
open Go.RowKit

theorem infoIntD : (Tryd.prog.info? 3).map (fun i => (i.zero, i.size, i.bytes)) = some (some (.int .i64 0), 1, 8) := by kernel_rfl

theorem row_form {w : World} {B e s n : Nat} {v : Value} {xs : List Value} (h : w.ownsRow B e s v n xs) : ∃ a m c, v = .slice a m c := by
  rcases h.2 with ⟨rfl, _⟩ | ⟨g, c, cur, rfl, _⟩
  · exact ⟨none, 0, 0, rfl⟩
  · exact ⟨_, _, _, rfl⟩

theorem own_one (X : World) (B : Nat) (k : Int) (hB : B ≤ X.heap.size) : Own (X.alloc (.cells #[.int .i64 k] 3)) B (.slice (some ⟨X.heap.size, 0, none⟩) 1 1) [k] :=
  World.ownsRow_lit (base := B) (e := 3) (size := 1) X #[.int .i64 k] 1 hB (by unfold maxLen; omega) rfl

/-- The draw's end: the two lists lie in the result's variable. -/
theorem Drawing.done {W0 w W X U : World} {b : Nat} {a : Option Addr} {len cap : Nat} {vl vr x y : Value} {L R l r : List Int} (d : Drawing W0 w W b a len cap vl vr L R) (hX : Below W.heap.size W X)
    (hU : (X.setCell ⟨w.heap.size, 0, none⟩ x).setCell ⟨w.heap.size, 1, none⟩ y = U) (hv : VarAt X w.heap.size (.slice none 0 0) (.slice none 0 0)) (h1 : Own X W.heap.size x l) (h2 : Own X W.heap.size y r) :
    VarAt U w.heap.size x y ∧ Own U w.heap.size x l ∧ Own U w.heap.size y r ∧ CurOk W0 U b a len cap ∧ w.grownBy U (some b) := by
  have gs := d.gr.size
  have hlt := d.lt
  have hw0 := d.w0
  have dv := d.var.1.2.2
  have TS : Only (fun k => k = w.heap.size) X U := by
    rw [← hU]
    have one : ∀ (W : World) (o : Nat) (u : Value), Only (fun k => k = w.heap.size) W (W.setCell ⟨w.heap.size, o, none⟩ u) := fun W o u =>
      (Only.of_grown (row := some w.heap.size) (grown_one _ _ _ _)).mono fun k e => by simp at e; exact e.symm
    exact (one _ _ _).trans (one _ _ _)
  refine ⟨by rw [← hU]; exact (hv.set0 _).set1 _, ?_, ?_, ?_, ?_⟩
  · rw [← hU]; exact ((h1.setCell (by omega) _).setCell (by omega) _).lower gs
  · rw [← hU]; exact ((h2.setCell (by omega) _).setCell (by omega) _).lower gs
  · exact (d.cur.only (Only.fresh (T := fun _ => False) hX) fun k h => h.elim).only TS fun k hk => by omega
  · exact ⟨TS.os.trans (hX.os.trans d.gr.os), TS.tape.trans (hX.tape.trans d.gr.tape), TS.output.trans (hX.output.trans d.gr.output), Nat.le_trans gs (Nat.le_trans hX.size TS.size), fun k hk hne => by
      rw [TS.block k (by have := hX.size; omega) (by omega), hX.block k (by omega)]
      exact d.gr.block k hk hne⟩

theorem ints_cells_take {W : World} {g c m : Nat} {l : List Int} (h : IntsAt W (.slice (some ⟨g, 0, none⟩) l.length c) l) : ∀ j u, ((l.take m).map (Value.int .i64))[j]? = some u → W.cell? ((⟨g, 0, none⟩ : Addr).add j) = some u := by
  intro j u hj
  refine ints_cells h j u ?_
  rw [List.map_take, List.getElem?_take] at hj
  split at hj
  · exact hj
  · cases hj

/-- What the draw ends with. -/
def Draws (W0 w : World) (b : Nat) (a : Option Addr) (len cap : Nat) (n : Int) (e : Ending) (w' : World) : Prop :=
  ∃ v L R, e = .returned v ∧ OwnW w' w.heap.size v L R ∧ weighB L R n = true ∧ CurOk W0 w' b a len cap ∧ w.grownBy w' (some b)

set_option maxRecDepth 100000 in
set_option maxHeartbeats 6400000 in
theorem specDraw (W0 w : World) (b : Nat) (a : Option Addr) (len cap : Nat) (n : Int) (hB : BytesAt W0 a len) (hC : CurOk W0 w b a len cap) (hl : len ≤ 1048576) (n0 : 2 ≤ n) (n1 : n ≤ 13) :
    Calls Tryd.prog 71 #[.pointer (some ⟨b, 0, none⟩), .int .i64 n] w (Draws W0 w b a len cap n) := by
  obtain ⟨i0, hi, hz0, hz1, hz2⟩ := info_parts infoIntD
  have CB := Lib.hid (fun W h => below_any W0 W b a len cap 3 hB h hl (by omega) (by omega))
  have hlt := hC.lt
  have hw0 := hC.1.size
  have P1 := Lib.hid (VarAt.new w 40 (.slice none 0 0) (.slice none 0 0))
  generalize hX1 : w.alloc (.cells #[.slice none 0 0, .slice none 0 0] 40) = X1 at P1
  have s1 : X1.heap.size = w.heap.size + 1 := by rw [← hX1]; simp
  have B1 : Below w.heap.size w X1 := by rw [← hX1]; exact alloc_below _ _
  have P2 : Hid (VarAt (X1.alloc (.cells #[.slice none 0 0, .slice none 0 0] 40)) (w.heap.size + 1) (.slice none 0 0) (.slice none 0 0)) := by rw [← s1]; exact VarAt.new _ _ _ _
  generalize hX2 : X1.alloc (.cells #[.slice none 0 0, .slice none 0 0] 40) = X2 at P2
  have B2 : Below X1.heap.size X1 X2 := by rw [← hX2]; exact alloc_below _ _
  have BX := Lib.hid (below_up B1 B2)
  have R2 := Lib.hid (P1.out.below B2)
  have C2 := Lib.hid (hC.only (Only.fresh (T := fun _ => False) (below_up B1 B2)) (fun k h => h.elim))
  clear P1 B1 B2 hB hC
  obtain ⟨⟨z0, z1, z2⟩, g0, g1⟩ := P2.out
  have q0 : (X2.setCell ⟨w.heap.size + 1, 0, none⟩ (.slice none 0 0)).cell? ⟨w.heap.size + 1, 1, none⟩ = some (.slice none 0 0) := (P2.out.set0 _).1.2.1
  go_enter Tryd.func71, Tryd.ntmps71
  go_wp2
  generalize hU : (X2.setCell ⟨w.heap.size + 1, 0, none⟩ (.slice none 0 0)).setCell ⟨w.heap.size + 1, 1, none⟩ (.slice none 0 0) = U
  have TS : Only (fun k => k = w.heap.size + 1) X2 U := by
    rw [← hU]
    have one : ∀ (W : World) (o : Nat) (u : Value), Only (fun k => k = w.heap.size + 1) W (W.setCell ⟨w.heap.size + 1, o, none⟩ u) := fun W o u =>
      (Only.of_grown (row := some (w.heap.size + 1)) (grown_one _ _ _ _)).mono fun k e => by simp at e; exact e.symm
    exact (one _ _ _).trans (one _ _ _)
  have D2 : Hid (Drawing W0 w U b a len cap (.slice none 0 0) (.slice none 0 0) [] []) := by
    refine ⟨C2.out.only TS fun k hk => by omega, ?_, ?_, Own.nil _ _, Own.nil _ _, Sep.nil _, ?_, hlt, hw0⟩
    · rw [← hU]; exact (P2.out.set0 _).set1 _
    · rw [← hU]; exact (R2.out.far _ _ (by omega)).far _ _ (by omega)
    · exact ⟨TS.os.trans BX.out.os, TS.tape.trans BX.out.tape, TS.output.trans BX.out.output, Nat.le_trans BX.out.size TS.size, fun k hk _ => (TS.block k (Nat.lt_of_lt_of_le hk BX.out.size) (by omega)).trans (BX.out.block k hk)⟩
  clear TS z0 z1 z2 g0 g1 q0 C2 R2 P2 BX
  go_loopw [6] (fun kv wr => ∃ (k : Int) (vl vr : Value) (L R : List Int), kv = .int .i64 k ∧ 1 ≤ k ∧ k ≤ n + 1 ∧ Hid (Upto L k ∧ Upto R k ∧ Apart L R) ∧ Hid (Drawing W0 w wr b a len cap vl vr L R)) (fun kv _ => (15 - intOf kv).toNat)
  case atStart => exact ⟨1, _, _, [], [], rfl, by omega, by omega, ⟨upto_nil _, upto_nil _, by intro x hx; simp at hx⟩, D2⟩
  case round =>
    clear hX1 hX2 s1 D2 hU
    obtain ⟨k, vl, vr, L, R, rfl, k0, k1, HU, HD⟩ := hrel
    have kl := upto_len HU.out.1 k0
    have kr := upto_len HU.out.2.1 k0
    by_cases hk : k ≤ n
    · go_wp2_with fail
      refine (CB.out _ HD.out.cur).mono ?_
      rintro e w1 ⟨x, rfl, x0, x1, hcur, hg⟩
      have HD1 := Lib.hid (HD.out.cursor hcur hg)
      clear hcur hg
      have ds := HD1.out.gr.size
      have dv := HD1.out.var.1.2.2
      obtain ⟨al, nl, cl, rfl⟩ := HD1.out.ol.form
      obtain ⟨ar, nr, cr, rfl⟩ := HD1.out.or_.form
      obtain ⟨⟨z0, z1, z2⟩, g0, g1⟩ := HD1.out.var
      rcases (show x = 0 ∨ x = 1 ∨ x = 2 by omega) with rfl | rfl | rfl
      · have ho : w1.ownsRow (w.heap.size + 2) 3 1 (.slice al nl cl) L.length (L.map (Value.int .i64)) := HD1.out.ol
        have UL := Lib.hid (And.intro (upto_push HU.out.1 k0) (And.intro (upto_keep HU.out.2.1) (apart_left HU.out.2.2 HU.out.2.1)))
        go_wp2_with (at_builtin; refine wpList_append_own_at _ rfl _ _ 32 rfl (w.heap.size + 2) 3 i0 (.int .i64 0) 1 8 Tryd.underlying32 hi hz0 hz1 hz2 rfl (by decide) _ _ _ rfl (ho.alloc _) ⟨w1.heap.size, 0, none⟩ 1 1 [.int .i64 k] rfl rfl (cell_one_new _ _ _) (by simp [Value.oneCell']) (by unfold maxLen; omega) (by omega) (by simp; omega) ?_; intro v' w2 hown' hg1 _ hat; have V2 := Lib.hid ((HD1.out.var.below (alloc_below _ _)).grown hg1 (fun e => by have := (HD1.out.ol.blk _ e).1; omega)); obtain ⟨⟨y0, y1, y2⟩, h0, h1⟩ := V2.out; obtain ⟨a', n', c', hv'⟩ := row_form hown'; subst hv')
        have DN := Lib.hid (HD1.out.left (alloc_below _ _) hown' hg1 hat)
        clear hown' hg1 hat ho
        go_wp2
        go_roundw
        case rel => exact ⟨k + 1, _, _, L ++ [k], R, rfl, by omega, by omega, UL, DN⟩
        case measure => simp [intOf]; omega
      · have ho : w1.ownsRow (w.heap.size + 2) 3 1 (.slice ar nr cr) R.length (R.map (Value.int .i64)) := HD1.out.or_
        have UL := Lib.hid (And.intro (upto_keep HU.out.1) (And.intro (upto_push HU.out.2.1 k0) (apart_right HU.out.2.2 HU.out.1)))
        go_wp2_with (at_builtin; refine wpList_append_own_at _ rfl _ _ 32 rfl (w.heap.size + 2) 3 i0 (.int .i64 0) 1 8 Tryd.underlying32 hi hz0 hz1 hz2 rfl (by decide) _ _ _ rfl (ho.alloc _) ⟨w1.heap.size, 0, none⟩ 1 1 [.int .i64 k] rfl rfl (cell_one_new _ _ _) (by simp [Value.oneCell']) (by unfold maxLen; omega) (by omega) (by simp; omega) ?_; intro v' w2 hown' hg1 _ hat; have V2 := Lib.hid ((HD1.out.var.below (alloc_below _ _)).grown hg1 (fun e => by have := (HD1.out.or_.blk _ e).1; omega)); obtain ⟨⟨y0, y1, y2⟩, h0, h1⟩ := V2.out; obtain ⟨a', n', c', hv'⟩ := row_form hown'; subst hv')
        have DN := Lib.hid (HD1.out.right (alloc_below _ _) hown' hg1 hat)
        clear hown' hg1 hat ho
        go_wp2
        go_roundw
        case rel => exact ⟨k + 1, _, _, L, R ++ [k], rfl, by omega, by omega, UL, DN⟩
        case measure => simp [intOf]; omega
      · have UN := Lib.hid (And.intro (upto_keep HU.out.1) (And.intro (upto_keep HU.out.2.1) HU.out.2.2))
        go_wp2
        go_roundw
        case rel => exact ⟨k + 1, _, _, L, R, rfl, by omega, by omega, UN, HD1⟩
        case measure => simp [intOf]; omega
    · obtain rfl : k = n + 1 := by omega
      obtain ⟨al, cl, rfl, -⟩ := HD.out.ol.reads
      obtain ⟨ar, cr, rfl, -⟩ := HD.out.or_.reads
      obtain ⟨⟨z0, z1, z2⟩, g0, g1⟩ := HD.out.var
      by_cases hL : L = []
      · subst hL
        have X1b := (alloc_below wr (.cells #[.int .i64 1] 3))
        have X2b := (alloc_below (wr.alloc (.cells #[.int .i64 1] 3)) (.cells #[.int .i64 2] 3))
        have O1 := own_one wr wr.heap.size 1 (Nat.le_refl _)
        have O2 := own_one (wr.alloc (.cells #[.int .i64 1] 3)) wr.heap.size 2 (by simp)
        have sa : (wr.alloc (.cells #[.int .i64 1] 3)).heap.size = wr.heap.size + 1 := by simp
        generalize hXa : wr.alloc (.cells #[.int .i64 1] 3) = Xa at X1b X2b O1 O2 sa
        rw [sa] at O2
        have O1' := O1.below X2b
        generalize hXb : Xa.alloc (.cells #[.int .i64 2] 3) = Xb at X2b O2 O1'
        have RV := (HD.out.res.below X1b).below X2b
        have BB := Lib.hid (below_up X1b X2b)
        have HV := Lib.hid RV
        have HO1 := Lib.hid O1'
        have HO2 := Lib.hid O2
        obtain ⟨⟨r0, r1, r2⟩, r3, r4⟩ := RV
        have q0 : (Xb.setCell ⟨w.heap.size, 0, none⟩ (.slice (some ⟨wr.heap.size, 0, none⟩) 1 1)).cell? ⟨w.heap.size, 1, none⟩ = some (.slice none 0 0) := (HV.out.set0 _).1.2.1
        clear X1b X2b O1 O1' O2
        go_wp2
        generalize hU : (Xb.setCell ⟨w.heap.size, 0, none⟩ (.slice (some ⟨wr.heap.size, 0, none⟩) 1 1)).setCell ⟨w.heap.size, 1, none⟩ (.slice (some ⟨wr.heap.size + 1, 0, none⟩) 1 1) = U
        obtain ⟨⟨⟨u0, u1, -⟩, -, -⟩, K1, K2, K3, K4⟩ := HD.out.done BB.out hU HV.out HO1.out HO2.out
        refine bodyPost_ret (v := .agg #[.slice (some ⟨wr.heap.size, 0, none⟩) 1 1, .slice (some ⟨wr.heap.size + 1, 0, none⟩) 1 1]) (by simp [results, Tryd.results71, go_sem, u0, u1]) rfl ⟨_, [1], [2], rfl, ⟨_, _, rfl, K1, K2, fun k h1 h2 => by simp [Value.ownBlock] at h1 h2; omega, ⟨_, _, _, rfl⟩, ⟨_, _, _, rfl⟩⟩, drawn_none n0 n1, K3, K4⟩
      · by_cases hR : R = []
        · subst hR
          have hl0 : ((L.length : Int) == 0) = false := beq_eq_false_iff_ne.2 (by have := List.length_pos_iff.2 hL; omega)
          have hl1 : (0 : Int) < (L.length : Int) := by have := List.length_pos_iff.2 hL; omega
          have X1b := (alloc_below wr (.cells #[.int .i64 1] 3))
          have X2b := (alloc_below (wr.alloc (.cells #[.int .i64 1] 3)) (.cells #[.int .i64 2] 3))
          have O1 := own_one wr wr.heap.size 1 (Nat.le_refl _)
          have O2 := own_one (wr.alloc (.cells #[.int .i64 1] 3)) wr.heap.size 2 (by simp)
          have sa : (wr.alloc (.cells #[.int .i64 1] 3)).heap.size = wr.heap.size + 1 := by simp
          generalize hXa : wr.alloc (.cells #[.int .i64 1] 3) = Xa at X1b X2b O1 O2 sa
          rw [sa] at O2
          have O1' := O1.below X2b
          generalize hXb : Xa.alloc (.cells #[.int .i64 2] 3) = Xb at X2b O2 O1'
          have RV := (HD.out.res.below X1b).below X2b
          have BB := Lib.hid (below_up X1b X2b)
          have HV := Lib.hid RV
          have HO1 := Lib.hid O1'
          have HO2 := Lib.hid O2
          obtain ⟨⟨r0, r1, r2⟩, r3, r4⟩ := RV
          have q0 : (Xb.setCell ⟨w.heap.size, 0, none⟩ (.slice (some ⟨wr.heap.size, 0, none⟩) 1 1)).cell? ⟨w.heap.size, 1, none⟩ = some (.slice none 0 0) := (HV.out.set0 _).1.2.1
          clear X1b X2b O1 O1' O2
          go_wp2
          generalize hU : (Xb.setCell ⟨w.heap.size, 0, none⟩ (.slice (some ⟨wr.heap.size, 0, none⟩) 1 1)).setCell ⟨w.heap.size, 1, none⟩ (.slice (some ⟨wr.heap.size + 1, 0, none⟩) 1 1) = U
          obtain ⟨⟨⟨u0, u1, -⟩, -, -⟩, K1, K2, K3, K4⟩ := HD.out.done BB.out hU HV.out HO1.out HO2.out
          refine bodyPost_ret (v := .agg #[.slice (some ⟨wr.heap.size, 0, none⟩) 1 1, .slice (some ⟨wr.heap.size + 1, 0, none⟩) 1 1]) (by simp [results, Tryd.results71, go_sem, u0, u1]) rfl ⟨_, [1], [2], rfl, ⟨_, _, rfl, K1, K2, fun k h1 h2 => by simp [Value.ownBlock] at h1 h2; omega, ⟨_, _, _, rfl⟩, ⟨_, _, _, rfl⟩⟩, drawn_none n0 n1, K3, K4⟩
        · have pL := List.length_pos_iff.2 hL
          have pR := List.length_pos_iff.2 hR
          obtain ⟨gl, rfl, kcl⟩ : ∃ g, al = some ⟨g, 0, none⟩ ∧ L.length ≤ cl := by
            rcases HD.out.ol.2 with ⟨h, h0⟩ | ⟨g, cap, cur, h, _, _, h1, _⟩
            · omega
            · cases h; exact ⟨g, rfl, h1⟩
          obtain ⟨gr, rfl, kcr⟩ : ∃ g, ar = some ⟨g, 0, none⟩ ∧ R.length ≤ cr := by
            rcases HD.out.or_.2 with ⟨h, h0⟩ | ⟨g, cap, cur, h, _, _, h1, _⟩
            · omega
            · cases h; exact ⟨g, rfl, h1⟩
          obtain ⟨z, hz⟩ : ∃ z, wr.heap.size = z := ⟨_, rfl⟩
          have zb := HD.out.var.1.2.2
          have HK : Hid (Kept wr wr z (w.heap.size + 1) w.heap.size z (.slice (some ⟨gl, 0, none⟩) L.length cl) (.slice (some ⟨gr, 0, none⟩) R.length cr) L R) :=
            ⟨by rw [← hz]; exact Below.refl _ _, HD.out.var.1, HD.out.res, HD.out.ol.reads, HD.out.or_.reads, fun k hk => by have := (HD.out.ol.blk k hk).2; omega, fun k hk => by have := (HD.out.or_.blk k hk).2; omega, ⟨Nat.le_refl _, by omega, by omega⟩, by omega⟩
          rcases Nat.lt_or_ge R.length L.length with hm | hm
          · have hmi : (R.length : Int) < (L.length : Int) := by omega
            have hm0 : ((R.length : Int) == 0) = false := beq_eq_false_iff_ne.2 (by omega)
            have i0' : (0 : Int) ≤ (R.length : Int) := by omega
            have i1 : (R.length : Int) ≤ (cl : Int) := by omega
            have i2 : (R.length : Int) ≤ (cr : Int) := by omega
            go_wp2_with fail
            first | (go_region_held3 (fun w' => w'.cell? ⟨w.heap.size + 1, 0, none⟩ = some (.slice (some ⟨gl, 0, none⟩) L.length cl) ∧ w'.cell? ⟨w.heap.size + 1, 1, none⟩ = some (.slice (some ⟨gr, 0, none⟩) R.length cr) ∧ w.heap.size + 1 < w'.heap.size)
                  (first | exact HK.out.two.drew | exact HK.out.two | exact TwoAt.alloc (show TwoAt _ _ _ _ from by assumption) _ | exact TwoAt.drew (show TwoAt _ _ _ _ from by assumption) | exact TwoAt.far (TwoAt.far (show TwoAt _ _ _ _ from by assumption) _ _ (by omega)) _ _ (by omega))
                  (first
                    | ((refine step_append_own rfl (.tmp 44) (.tmp 48) 32 rfl z 3 i0 (.int .i64 0) 1 8 Tryd.underlying32 hi hz0 hz1 hz2 rfl (by decide) (.slice (some ⟨_, 0, none⟩) 0 0) 0 [] rfl (Bare.own ?_ ?_) ⟨gl, 0, none⟩ R.length cl ((L.take R.length).map (Value.int .i64)) rfl (by simp <;> omega) (ints_cells_take (Kept.left (?_ : Kept wr _ z (w.heap.size + 1) w.heap.size z (.slice (some ⟨gl, 0, none⟩) L.length cl) (.slice (some ⟨gr, 0, none⟩) R.length cr) L R))) (ints_one _) (by unfold maxLen; omega) (by omega) (Kept.size (?_ : Kept wr _ z (w.heap.size + 1) w.heap.size z (.slice (some ⟨gl, 0, none⟩) L.length cl) (.slice (some ⟨gr, 0, none⟩) R.length cr) L R)) (by simp) ?_);
                          (first | exact HB2.out | exact HB3.out | exact Bare.at _ _ rfl | (focus (refine Bare.at _ _ ?_; simp [hz]; done)) | (focus (refine Bare.alloc (Bare.at _ _ ?_) _; simp [hz]; done)) | fail);
                          (first | omega | exact HK.out.size);
                          (first | exact HK.out | exact HK.out.drew | exact HK.out.drew.alloc _ | exact (HK.out.alloc _).drew | exact ((HK.out.alloc _).alloc _).drew | exact (HK.out.drew.alloc _).alloc _ | exact HK.out.alloc _ | exact (HK.out.alloc _).alloc _ | fail);
                          (first | exact HK.out | exact HK.out.drew | exact HK.out.drew.alloc _ | exact (HK.out.alloc _).drew | exact ((HK.out.alloc _).alloc _).drew | exact (HK.out.drew.alloc _).alloc _ | exact HK.out.alloc _ | exact (HK.out.alloc _).alloc _ | fail);
                          intro v6 w1 hown hg hat D6;
                          have S6 := Lib.hid hat;
                          have D6 := Lib.hid D6;
                          have O6 : Hid (Own w1 z v6 (L.take R.length)) := (by have hlen : (L.take R.length).length = R.length := (by simp <;> omega); unfold Hid Own; rw [hlen]; simpa using hown);
                          (try ((refine addFact (A := Hid (Bare w1 (z))) ?_ (fun HB2 => ?_)); (focus (refine Bare.grown ?_ hg ?_)); (first | exact HB2.out | exact HB3.out | exact Bare.at _ _ rfl | (focus (refine Bare.at _ _ ?_; simp [hz]; done)) | (focus (refine Bare.alloc (Bare.at _ _ ?_) _; simp [hz]; done)) | fail); (focus (simp [Value.ownBlock]; done))));
                          (try ((refine addFact (A := Hid (Bare w1 (z + 1))) ?_ (fun HB3 => ?_)); (focus (refine Bare.grown ?_ hg ?_)); (first | exact HB2.out | exact HB3.out | exact Bare.at _ _ rfl | (focus (refine Bare.at _ _ ?_; simp [hz]; done)) | (focus (refine Bare.alloc (Bare.at _ _ ?_) _; simp [hz]; done)) | fail); (focus (simp [Value.ownBlock]; done))));
                          (refine addFact (A := Hid (Kept wr w1 z (w.heap.size + 1) w.heap.size z (.slice (some ⟨gl, 0, none⟩) L.length cl) (.slice (some ⟨gr, 0, none⟩) R.length cr) L R)) ?_ (fun HK => ?_));
                          (focus (refine Kept.grown ?_ hg ?_));
                          (first | exact HK.out | exact HK.out.drew | exact HK.out.drew.alloc _ | exact (HK.out.alloc _).drew | exact ((HK.out.alloc _).alloc _).drew | exact (HK.out.drew.alloc _).alloc _ | exact HK.out.alloc _ | exact (HK.out.alloc _).alloc _ | fail);
                          (focus (intro j hj; simp [Value.ownBlock] at hj; first | omega | (have := (Kept.size HK.out); omega)));
                          obtain ⟨⟨r0, r1, r2⟩, r3, r4⟩ := HK.out.var;
                          obtain ⟨a6, n6, c6, hv6⟩ := O6.out.form;
                          subst hv6;
                          clear hown hg hat)
                    | ((refine step_append_own rfl (.tmp 50) (.tmp 54) 32 rfl z 3 i0 (.int .i64 0) 1 8 Tryd.underlying32 hi hz0 hz1 hz2 rfl (by decide) (.slice (some ⟨_, 0, none⟩) 0 0) 0 [] rfl (Bare.own ?_ ?_) ⟨gr, 0, none⟩ R.length cr ((R.take R.length).map (Value.int .i64)) rfl (by simp <;> omega) (ints_cells_take (Kept.right (?_ : Kept wr _ z (w.heap.size + 1) w.heap.size z (.slice (some ⟨gl, 0, none⟩) L.length cl) (.slice (some ⟨gr, 0, none⟩) R.length cr) L R))) (ints_one _) (by unfold maxLen; omega) (by omega) (Kept.size (?_ : Kept wr _ z (w.heap.size + 1) w.heap.size z (.slice (some ⟨gl, 0, none⟩) L.length cl) (.slice (some ⟨gr, 0, none⟩) R.length cr) L R)) (by simp) ?_);
                          (first | exact HB2.out | exact HB3.out | exact Bare.at _ _ rfl | (focus (refine Bare.at _ _ ?_; simp [hz]; done)) | (focus (refine Bare.alloc (Bare.at _ _ ?_) _; simp [hz]; done)) | fail);
                          (first | omega | exact HK.out.size);
                          (first | exact HK.out | exact HK.out.drew | exact HK.out.drew.alloc _ | exact (HK.out.alloc _).drew | exact ((HK.out.alloc _).alloc _).drew | exact (HK.out.drew.alloc _).alloc _ | exact HK.out.alloc _ | exact (HK.out.alloc _).alloc _ | fail);
                          (first | exact HK.out | exact HK.out.drew | exact HK.out.drew.alloc _ | exact (HK.out.alloc _).drew | exact ((HK.out.alloc _).alloc _).drew | exact (HK.out.drew.alloc _).alloc _ | exact HK.out.alloc _ | exact (HK.out.alloc _).alloc _ | fail);
                          have HLT := Lib.hid (fun k hk => (O6.out.blk k hk).2);
                          intro v10 w1 hown hg hat D10;
                          have S10 := Lib.hid hat;
                          have D10 := Lib.hid D10;
                          have O10 : Hid (Own w1 z v10 (R.take R.length)) := (by have hlen : (R.take R.length).length = R.length := (by simp <;> omega); unfold Hid Own; rw [hlen]; simpa using hown);
                          (refine addFact (A := Hid (Own w1 z (.slice a6 n6 c6) (L.take R.length))) ?_ (fun O6 => ?_));
                          (focus (refine Own.only ?_ (Only.of_grown hg) ?_));
                          (first | exact O6.out | exact O6.out.alloc _ | fail);
                          (focus (intro k hk e; have a1 := (O6.out.blk k hk).2; rcases S6.out with e' | e' <;> rw [hk] at e' <;> simp [Value.ownBlock, hz] at e e' <;> omega));
                          (refine addFact (A := Hid (Kept wr w1 z (w.heap.size + 1) w.heap.size z (.slice (some ⟨gl, 0, none⟩) L.length cl) (.slice (some ⟨gr, 0, none⟩) R.length cr) L R)) ?_ (fun HK => ?_));
                          (focus (refine Kept.grown ?_ hg ?_));
                          (first | exact HK.out | exact HK.out.drew | exact HK.out.drew.alloc _ | exact (HK.out.alloc _).drew | exact ((HK.out.alloc _).alloc _).drew | exact (HK.out.drew.alloc _).alloc _ | exact HK.out.alloc _ | exact (HK.out.alloc _).alloc _ | fail);
                          (focus (intro j hj; simp [Value.ownBlock] at hj; first | omega | (have := (Kept.size HK.out); omega)));
                          obtain ⟨⟨r0, r1, r2⟩, r3, r4⟩ := HK.out.var;
                          (refine addFact (A := Hid (Sep (.slice a6 n6 c6) v10)) ?_ (fun HS => ?_));
                          (focus (intro k hk hk'; have a1 := HLT.out k hk; rcases S10.out with e | e <;> rcases S6.out with e' | e' <;> rw [hk] at e' <;> rw [hk'] at e <;> simp [Value.ownBlock, hz] at e e' <;> omega));
                          obtain ⟨a10, n10, c10, hv10⟩ := O10.out.form;
                          subst hv10;
                          clear hown hg hat)
                    | fail)) | fail
            all_goals
              go_wp2
              generalize hU : (w1.setCell ⟨w.heap.size, 0, none⟩ (.slice a6 n6 c6)).setCell ⟨w.heap.size, 1, none⟩ (.slice a10 n10 c10) = U
              obtain ⟨⟨⟨u0, u1, -⟩, -, -⟩, K1, K2, K3, K4⟩ := HD.out.done (by rw [hz]; exact HK.out.bel) hU HK.out.var (by rw [hz]; exact O6.out) (by rw [hz]; exact O10.out)
              refine bodyPost_ret (v := .agg #[.slice a6 n6 c6, .slice a10 n10 c10]) (by simp [results, Tryd.results71, go_sem, u0, u1]) rfl ⟨_, L.take R.length, R.take R.length, rfl, ⟨_, _, rfl, K1, K2, HS.out, D6.out, D10.out⟩, drawn_ok HU.out.1 HU.out.2.1 HU.out.2.2 (by omega) (by omega) (by omega) (by omega) n1, K3, K4⟩
          · have hmi : ¬ (R.length : Int) < (L.length : Int) := by omega
            have hm0 : ((L.length : Int) == 0) = false := beq_eq_false_iff_ne.2 (by omega)
            have i0' : (0 : Int) ≤ (L.length : Int) := by omega
            have i1 : (L.length : Int) ≤ (cl : Int) := by omega
            have i2 : (L.length : Int) ≤ (cr : Int) := by omega
            go_wp2_with fail
            first | (go_region_held3 (fun w' => w'.cell? ⟨w.heap.size + 1, 0, none⟩ = some (.slice (some ⟨gl, 0, none⟩) L.length cl) ∧ w'.cell? ⟨w.heap.size + 1, 1, none⟩ = some (.slice (some ⟨gr, 0, none⟩) R.length cr) ∧ w.heap.size + 1 < w'.heap.size)
                  (first | exact HK.out.two.drew | exact HK.out.two | exact TwoAt.alloc (show TwoAt _ _ _ _ from by assumption) _ | exact TwoAt.drew (show TwoAt _ _ _ _ from by assumption) | exact TwoAt.far (TwoAt.far (show TwoAt _ _ _ _ from by assumption) _ _ (by omega)) _ _ (by omega))
                  (first
                    | ((refine step_append_own rfl (.tmp 44) (.tmp 48) 32 rfl z 3 i0 (.int .i64 0) 1 8 Tryd.underlying32 hi hz0 hz1 hz2 rfl (by decide) (.slice (some ⟨_, 0, none⟩) 0 0) 0 [] rfl (Bare.own ?_ ?_) ⟨gl, 0, none⟩ L.length cl ((L.take L.length).map (Value.int .i64)) rfl (by simp <;> omega) (ints_cells_take (Kept.left (?_ : Kept wr _ z (w.heap.size + 1) w.heap.size z (.slice (some ⟨gl, 0, none⟩) L.length cl) (.slice (some ⟨gr, 0, none⟩) R.length cr) L R))) (ints_one _) (by unfold maxLen; omega) (by omega) (Kept.size (?_ : Kept wr _ z (w.heap.size + 1) w.heap.size z (.slice (some ⟨gl, 0, none⟩) L.length cl) (.slice (some ⟨gr, 0, none⟩) R.length cr) L R)) (by simp) ?_);
                          (first | exact HB2.out | exact HB3.out | exact Bare.at _ _ rfl | (focus (refine Bare.at _ _ ?_; simp [hz]; done)) | (focus (refine Bare.alloc (Bare.at _ _ ?_) _; simp [hz]; done)) | fail);
                          (first | omega | exact HK.out.size);
                          (first | exact HK.out | exact HK.out.drew | exact HK.out.drew.alloc _ | exact (HK.out.alloc _).drew | exact ((HK.out.alloc _).alloc _).drew | exact (HK.out.drew.alloc _).alloc _ | exact HK.out.alloc _ | exact (HK.out.alloc _).alloc _ | fail);
                          (first | exact HK.out | exact HK.out.drew | exact HK.out.drew.alloc _ | exact (HK.out.alloc _).drew | exact ((HK.out.alloc _).alloc _).drew | exact (HK.out.drew.alloc _).alloc _ | exact HK.out.alloc _ | exact (HK.out.alloc _).alloc _ | fail);
                          intro v6 w1 hown hg hat D6;
                          have S6 := Lib.hid hat;
                          have D6 := Lib.hid D6;
                          have O6 : Hid (Own w1 z v6 (L.take L.length)) := (by have hlen : (L.take L.length).length = L.length := (by simp <;> omega); unfold Hid Own; rw [hlen]; simpa using hown);
                          (try ((refine addFact (A := Hid (Bare w1 (z))) ?_ (fun HB2 => ?_)); (focus (refine Bare.grown ?_ hg ?_)); (first | exact HB2.out | exact HB3.out | exact Bare.at _ _ rfl | (focus (refine Bare.at _ _ ?_; simp [hz]; done)) | (focus (refine Bare.alloc (Bare.at _ _ ?_) _; simp [hz]; done)) | fail); (focus (simp [Value.ownBlock]; done))));
                          (try ((refine addFact (A := Hid (Bare w1 (z + 1))) ?_ (fun HB3 => ?_)); (focus (refine Bare.grown ?_ hg ?_)); (first | exact HB2.out | exact HB3.out | exact Bare.at _ _ rfl | (focus (refine Bare.at _ _ ?_; simp [hz]; done)) | (focus (refine Bare.alloc (Bare.at _ _ ?_) _; simp [hz]; done)) | fail); (focus (simp [Value.ownBlock]; done))));
                          (refine addFact (A := Hid (Kept wr w1 z (w.heap.size + 1) w.heap.size z (.slice (some ⟨gl, 0, none⟩) L.length cl) (.slice (some ⟨gr, 0, none⟩) R.length cr) L R)) ?_ (fun HK => ?_));
                          (focus (refine Kept.grown ?_ hg ?_));
                          (first | exact HK.out | exact HK.out.drew | exact HK.out.drew.alloc _ | exact (HK.out.alloc _).drew | exact ((HK.out.alloc _).alloc _).drew | exact (HK.out.drew.alloc _).alloc _ | exact HK.out.alloc _ | exact (HK.out.alloc _).alloc _ | fail);
                          (focus (intro j hj; simp [Value.ownBlock] at hj; first | omega | (have := (Kept.size HK.out); omega)));
                          obtain ⟨⟨r0, r1, r2⟩, r3, r4⟩ := HK.out.var;
                          obtain ⟨a6, n6, c6, hv6⟩ := O6.out.form;
                          subst hv6;
                          clear hown hg hat)
                    | ((refine step_append_own rfl (.tmp 50) (.tmp 54) 32 rfl z 3 i0 (.int .i64 0) 1 8 Tryd.underlying32 hi hz0 hz1 hz2 rfl (by decide) (.slice (some ⟨_, 0, none⟩) 0 0) 0 [] rfl (Bare.own ?_ ?_) ⟨gr, 0, none⟩ L.length cr ((R.take L.length).map (Value.int .i64)) rfl (by simp <;> omega) (ints_cells_take (Kept.right (?_ : Kept wr _ z (w.heap.size + 1) w.heap.size z (.slice (some ⟨gl, 0, none⟩) L.length cl) (.slice (some ⟨gr, 0, none⟩) R.length cr) L R))) (ints_one _) (by unfold maxLen; omega) (by omega) (Kept.size (?_ : Kept wr _ z (w.heap.size + 1) w.heap.size z (.slice (some ⟨gl, 0, none⟩) L.length cl) (.slice (some ⟨gr, 0, none⟩) R.length cr) L R)) (by simp) ?_);
                          (first | exact HB2.out | exact HB3.out | exact Bare.at _ _ rfl | (focus (refine Bare.at _ _ ?_; simp [hz]; done)) | (focus (refine Bare.alloc (Bare.at _ _ ?_) _; simp [hz]; done)) | fail);
                          (first | omega | exact HK.out.size);
                          (first | exact HK.out | exact HK.out.drew | exact HK.out.drew.alloc _ | exact (HK.out.alloc _).drew | exact ((HK.out.alloc _).alloc _).drew | exact (HK.out.drew.alloc _).alloc _ | exact HK.out.alloc _ | exact (HK.out.alloc _).alloc _ | fail);
                          (first | exact HK.out | exact HK.out.drew | exact HK.out.drew.alloc _ | exact (HK.out.alloc _).drew | exact ((HK.out.alloc _).alloc _).drew | exact (HK.out.drew.alloc _).alloc _ | exact HK.out.alloc _ | exact (HK.out.alloc _).alloc _ | fail);
                          have HLT := Lib.hid (fun k hk => (O6.out.blk k hk).2);
                          intro v10 w1 hown hg hat D10;
                          have S10 := Lib.hid hat;
                          have D10 := Lib.hid D10;
                          have O10 : Hid (Own w1 z v10 (R.take L.length)) := (by have hlen : (R.take L.length).length = L.length := (by simp <;> omega); unfold Hid Own; rw [hlen]; simpa using hown);
                          (refine addFact (A := Hid (Own w1 z (.slice a6 n6 c6) (L.take L.length))) ?_ (fun O6 => ?_));
                          (focus (refine Own.only ?_ (Only.of_grown hg) ?_));
                          (first | exact O6.out | exact O6.out.alloc _ | fail);
                          (focus (intro k hk e; have a1 := (O6.out.blk k hk).2; rcases S6.out with e' | e' <;> rw [hk] at e' <;> simp [Value.ownBlock, hz] at e e' <;> omega));
                          (refine addFact (A := Hid (Kept wr w1 z (w.heap.size + 1) w.heap.size z (.slice (some ⟨gl, 0, none⟩) L.length cl) (.slice (some ⟨gr, 0, none⟩) R.length cr) L R)) ?_ (fun HK => ?_));
                          (focus (refine Kept.grown ?_ hg ?_));
                          (first | exact HK.out | exact HK.out.drew | exact HK.out.drew.alloc _ | exact (HK.out.alloc _).drew | exact ((HK.out.alloc _).alloc _).drew | exact (HK.out.drew.alloc _).alloc _ | exact HK.out.alloc _ | exact (HK.out.alloc _).alloc _ | fail);
                          (focus (intro j hj; simp [Value.ownBlock] at hj; first | omega | (have := (Kept.size HK.out); omega)));
                          obtain ⟨⟨r0, r1, r2⟩, r3, r4⟩ := HK.out.var;
                          (refine addFact (A := Hid (Sep (.slice a6 n6 c6) v10)) ?_ (fun HS => ?_));
                          (focus (intro k hk hk'; have a1 := HLT.out k hk; rcases S10.out with e | e <;> rcases S6.out with e' | e' <;> rw [hk] at e' <;> rw [hk'] at e <;> simp [Value.ownBlock, hz] at e e' <;> omega));
                          obtain ⟨a10, n10, c10, hv10⟩ := O10.out.form;
                          subst hv10;
                          clear hown hg hat)
                    | fail)) | fail
            all_goals
              go_wp2
              generalize hU : (w1.setCell ⟨w.heap.size, 0, none⟩ (.slice a6 n6 c6)).setCell ⟨w.heap.size, 1, none⟩ (.slice a10 n10 c10) = U
              obtain ⟨⟨⟨u0, u1, -⟩, -, -⟩, K1, K2, K3, K4⟩ := HD.out.done (by rw [hz]; exact HK.out.bel) hU HK.out.var (by rw [hz]; exact O6.out) (by rw [hz]; exact O10.out)
              refine bodyPost_ret (v := .agg #[.slice a6 n6 c6, .slice a10 n10 c10]) (by simp [results, Tryd.results71, go_sem, u0, u1]) rfl ⟨_, L.take L.length, R.take L.length, rfl, ⟨_, _, rfl, K1, K2, HS.out, D6.out, D10.out⟩, drawn_ok HU.out.1 HU.out.2.1 HU.out.2.2 (by omega) (by omega) (by omega) (by omega) n1, K3, K4⟩
end Go.Proofs.YtlflblngbneacabDoor
