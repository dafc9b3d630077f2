/- The contracts of the model's ArrayOk and TestArray, and of what they call. No condition. -/
import Derived.Test.YtljodgdnimiliaaArrPlain
import Derived.Test.YtljodgdnimiliaaSetsSpec
namespace Go.Proofs.Ytljodgdnimiliaa
open Go.RowKit

set_option maxHeartbeats 800000 in
theorem specArrayOk (r c : Int) (w : World) : Calls Try.prog 11 #[.int .i64 r, .int .i64 c] w fun e w' => e = .returned (.bool (okArr r c)) ∧ w = w' := by
  have C1 := Lib.hid (fun W => l01In_is r 1 4 W)
  have C2 := Lib.hid (fun W => l01In_is c 1 4 W)
  have HB : Hid (okArr r c = ((decide (1 ≤ r) && decide (r ≤ 4)) && (decide (1 ≤ c) && decide (c ≤ 4)))) := rfl
  generalize okArr r c = b at HB ⊢
  generalize (decide (1 ≤ r) && decide (r ≤ 4)) = x at C1 HB
  generalize (decide (1 ≤ c) && decide (c ≤ 4)) = y at C2 HB
  cases x with
  | false =>
    have HE : Hid (b = false) := HB.out
    go_enter Try.func11, Try.ntmps11
    go_wp2_with fail
    refine (C1.out _).mono ?_
    rintro e w1 ⟨rfl, rfl⟩
    go_wp2
    go_ret
    exact ⟨ret_bool HE.out.symm, rfl⟩
  | true =>
    have HE : Hid (b = y) := HB.out
    go_enter Try.func11, Try.ntmps11
    go_wp2_with fail
    refine (C1.out _).mono ?_
    rintro e w1 ⟨rfl, rfl⟩
    go_wp2_with fail
    refine (C2.out _).mono ?_
    rintro e w1 ⟨rfl, rfl⟩
    go_wp2
    go_ret
    exact ⟨ret_bool HE.out.symm, rfl⟩

theorem setCell_only2 (w : World) (b o : Nat) (u : Value) : Only (fun k => k = b) w (w.setCell ⟨b, o, none⟩ u) :=
  ⟨rfl, rfl, rfl, by simp [World.setCell], fun _ _ hk => RowKit.Below.heap_setCell _ _ _ _ hk⟩
/-- Row and column of an item. -/
theorem item_at {R C k : Nat} (hC : 1 ≤ C) (hk : k < R * C) : k / C < R ∧ k % C < C := ⟨Nat.div_lt_of_lt_mul (by rw [Nat.mul_comm]; exact hk), Nat.mod_lt _ (by omega)⟩
theorem item_go {C k : Nat} (hk : k ≤ 16) : wrap64 ((k : Int) / (C : Int)) = ((k / C : Nat) : Int) ∧ (k : Int) % (C : Int) = ((k % C : Nat) : Int) := by
  have h3 := Nat.div_le_self k C
  refine ⟨?_, rfl⟩
  have h1 : (k : Int) / (C : Int) = ((k / C : Nat) : Int) := rfl
  rw [h1]
  unfold wrap64
  generalize k / C = q at h3 ⊢
  omega
theorem false_row (n : Nat) : (madeCells (Value.bool false).cells (n * 1)).toList = (List.replicate n false).map Value.bool := by
  simp [madeCells, Value.cells, Nat.mod_one]
  apply List.ext_getElem <;> simp

theorem rowLower {w : World} {B B' e s n : Nat} {v : Value} {xs : List Value} (h : w.ownsRow B e s v n xs) (hB : B' ≤ B) : w.ownsRow B' e s v n xs :=
  ⟨h.1, h.2.imp id fun ⟨g, cap, cur, h1, h2, h3⟩ => ⟨g, cap, cur, h1, Nat.le_trans hB h2, h3⟩⟩
/-- Two lists of truth values of the call's own, in different blocks. -/
def Two2 (X Y : List Bool) (w : World) (e : Ending) (w' : World) : Prop :=
  ∃ u v, e = .returned (.tuple #[u, v]) ∧ OwnB w' w.heap.size u X ∧ OwnB w' w.heap.size v Y ∧ Sep u v ∧ Below w.heap.size w w'

set_option maxRecDepth 100000 in
set_option maxHeartbeats 300000 in
theorem specTestA (R C : Nat) (R4 : R ≤ 4) (C1 : 1 ≤ C) (C4 : C ≤ 4) (bad : Int) (w : World) :
    Calls Try.prog 32 #[.int .i64 (R : Int), .int .i64 (C : Int), .int .i64 bad] w (Two2 (rowF R C bad (R * C)) (colF C bad (R * C)) w) := by
  obtain ⟨i0, hi, hz0, hz1, hz2⟩ := info_parts infoBoolA
  have HX : Hid (∀ k, rowF R C bad (k + 1) = if bits .and .i64 bad (2 ^ k) = 0 then rowF R C bad k else (rowF R C bad k).set (k / C) true) := fun _ => rfl
  have HY : Hid (∀ k, colF C bad (k + 1) = if bits .and .i64 bad (2 ^ k) = 0 then colF C bad k else (colF C bad k).set (k % C) true) := fun _ => rfl
  have HXL := Lib.hid (rowF_len R C bad)
  have HYL := Lib.hid (colF_len C bad)
  have HX0 : Hid (rowF R C bad 0 = List.replicate R false) := rfl
  have HY0 : Hid (colF C bad 0 = List.replicate C false) := rfl
  have HAT : Hid (∀ k, k < R * C → k / C < R ∧ k % C < C) := fun k hk => item_at C1 hk
  have HM16 : R * C ≤ 16 := by
    have := Nat.mul_le_mul R4 C4
    omega
  obtain ⟨M, hM⟩ : ∃ M, R * C = M := ⟨_, rfl⟩
  have hm : IntKind.i64.wrap ((R : Int) * (C : Int)) = (M : Int) := by
    have e : (R : Int) * (C : Int) = (M : Int) := by rw [← hM]; push_cast; rfl
    rw [e, IntKind.wrap_i64]
    omega
  rw [hM] at HAT HM16 ⊢
  generalize rowF R C bad = X at HX HXL HX0 ⊢
  generalize colF C bad = Y at HY HYL HY0 ⊢
  have c0 : ¬ (C : Int) = 0 := by omega
  have c9 : ((C : Int) == 0) = false := by rw [beq_eq_false_iff_ne]; exact c0
  have cN : ¬ C = 0 := by omega
  have r0 : (0 : Int) ≤ (R : Int) := by omega
  have c1 : (0 : Int) ≤ (C : Int) := by omega
  clear hM
  go_enter Try.func32, Try.ntmps32
  go_wp2_with (at_make; first
    | (refine wpList_make_full _ rfl _ _ 23 rfl w.heap.size 4 i0 (.bool false) 1 Try.underlying23 hi hz0 hz1 .i64 .i64 _ _ R rfl rfl rfl rfl (by rw [hz2]; omega) (by unfold maxLen; omega) (Nat.le_refl _) ?_; intro w1 hown hg; have hb1 := Below.grown (Below.refl w.heap.size w) hg (Nat.le_refl _) (by intro k hk; cases hk); have HO1 := Lib.hid hown; have HG1 := Lib.hid hb1; have hlt1 := (hown.lt w.heap.size rfl).2; have hs1 := hb1.size; clear hown hg hb1)
    | (refine wpList_make_full _ rfl _ _ 23 rfl w1.heap.size 4 i0 (.bool false) 1 Try.underlying23 hi hz0 hz1 .i64 .i64 _ _ C rfl rfl rfl rfl (by rw [hz2]; omega) (by unfold maxLen; omega) (Nat.le_refl _) ?_; intro w2 hown hg; have hb2 := Below.grown (Below.refl w1.heap.size w1) hg (Nat.le_refl _) (by intro k hk; cases hk); have HO2 := Lib.hid hown; have HG2 := Lib.hid hb2; clear hown hg hb2))
  rw [false_row, ← HX0.out] at HO1
  rw [false_row, ← HY0.out] at HO2
  have HO1' := Lib.hid (owns_below HO1.out HG2.out)
  have HB2 := Lib.hid (below_up HG1.out HG2.out)
  clear HO1 HG1 HG2
  generalize w1.heap.size = g2 at HO2 hlt1 ⊢
  have HO2' : Hid (w2.ownsRow w.heap.size 4 1 (.slice (some ⟨g2, 0, none⟩) C C) C ((Y 0).map Value.bool)) := rowLower HO2.out (by omega)
  clear HO2
  go_wp2
  go_loopw [10] (fun kv wr => ∃ k : Nat, k ≤ M ∧ kv = .int .i64 k ∧ Hid (wr.ownsRow w.heap.size 4 1 (.slice (some ⟨w.heap.size, 0, none⟩) R R) R ((X k).map Value.bool)) ∧ Hid (wr.ownsRow w.heap.size 4 1 (.slice (some ⟨g2, 0, none⟩) C C) C ((Y k).map Value.bool)) ∧ Hid (Below w.heap.size w wr)) (fun kv _ => M - (intOf kv).toNat)
  case atStart => exact ⟨0, Nat.zero_le _, rfl, HO1', HO2', HB2⟩
  case round =>
    clear HO1' HO2' HB2
    obtain ⟨k, hk, rfl, O1, O2, B2⟩ := hrel
    by_cases hlt : k < M
    · have HXS := Lib.hid (HX.out k)
      have HYS := Lib.hid (HY.out k)
      have k1 : (k : Int) < (M : Int) := by omega
      have hp : ∀ m : Nat, m ≤ 16 → (1 : Int) ≤ 2 ^ m ∧ (2 : Int) ^ m ≤ 65536 := by decide
      have hp2 := hp k (by omega)
      have hs1 : IntKind.i64.wrap (2 ^ k) = 2 ^ k := by rw [IntKind.wrap_i64]; omega
      clear hp hp2
      by_cases hx : bits .and .i64 bad (2 ^ k) = 0
      · rw [if_pos hx] at HXS HYS
        go_wp2
        go_roundw
        case rel => exact ⟨k + 1, by omega, by go_num, by rw [HXS.out]; exact O1, by rw [HYS.out]; exact O2, B2⟩
        case measure => simp [intOf]; omega
      · rw [if_neg hx] at HXS HYS
        obtain ⟨a1, a2⟩ := HAT.out k hlt
        have D := Lib.hid (item_go (C := C) (k := k) (by omega))
        generalize k / C = x at a1 D HXS
        generalize k % C = y at a2 D HYS
        have lx := HXL.out k
        have ly := HYL.out k
        have f1 := O1.out.frozenAt x
        have f2 := O2.out.frozenAt y
        have hxl : x < (X k).length := by rw [lx]; exact a1
        have hyl : y < (Y k).length := by rw [ly]; exact a2
        have e1 : wr.cell? ⟨w.heap.size, x, none⟩ = some (.bool ((X k)[x])) := by rw [O1.out.cellAt x (by omega), List.getElem?_map, List.getElem?_eq_getElem hxl]; rfl
        have e2 : wr.cell? ⟨g2, y, none⟩ = some (.bool ((Y k)[y])) := by rw [O2.out.cellAt y (by omega), List.getElem?_map, List.getElem?_eq_getElem hyl]; rfl
        generalize (X k)[x] = bx at e1
        generalize (Y k)[y] = byy at e2
        have n1 : ¬ w.heap.size = g2 := by omega
        have n2 : ¬ g2 = w.heap.size := by omega
        have x0 : (0 : Int) ≤ (x : Int) := by omega
        have x1 : (x : Int) < (R : Int) := by omega
        have y0 : (0 : Int) ≤ (y : Int) := by omega
        have y1 : (y : Int) < (C : Int) := by omega
        clear hxl hyl lx ly HXL HYL HX HY HAT
        obtain ⟨d1, d2⟩ := D.out
        go_wp2
        clear d1 d2
        go_roundw
        case rel =>
          have p1 := (O1.out.stored x (.bool true)).1
          have q1 := owns_only O2.out (setCell_only2 wr w.heap.size x (.bool true)) (fun b hb e => by have h : some g2 = some b := hb; cases h; exact n2 e)
          have p2 := owns_only p1 (setCell_only2 (wr.setCell ⟨w.heap.size, x, none⟩ (.bool true)) g2 y (.bool true)) (fun b hb e => by have h : some w.heap.size = some b := hb; cases h; exact n1 e)
          have q2 := (q1.stored y (.bool true)).1
          refine ⟨k + 1, by omega, by go_num, ?_, ?_, ?_⟩
          · unfold Hid
            rw [HXS.out, List.map_set]
            exact p2
          · unfold Hid
            rw [HYS.out, List.map_set]
            exact q2
          · exact Below.setCell (Below.setCell B2.out (p := ⟨w.heap.size, x, none⟩) (Nat.le_refl _) _) (p := ⟨g2, y, none⟩) (Nat.le_of_lt hlt1) _
        case measure => simp [intOf]; omega
    · obtain rfl : k = M := by omega
      have lx := HXL.out k
      have ly := HYL.out k
      go_wp2
      go_ret2
      refine ⟨_, _, rfl, ?_, ?_, ?_, B2.out⟩
      · unfold OwnB; rw [lx]; exact O1.out
      · unfold OwnB; rw [ly]; exact O2.out
      · intro b h1 h2
        have e1 : w.heap.size = b := by simpa [Value.ownBlock] using h1
        have e2 : g2 = b := by simpa [Value.ownBlock] using h2
        omega

/-- What TestArray gives back. -/
def Tests2 (X Y : List Bool) (b : Bool) (w : World) (e : Ending) (w' : World) : Prop :=
  ∃ u v, e = .returned (.tuple #[u, v, .bool b]) ∧ OwnB w' w.heap.size u X ∧ OwnB w' w.heap.size v Y ∧ Sep u v ∧ Below w.heap.size w w'
theorem Tests2.no {X Y : List Bool} {b : Bool} {w w' : World} (hx : X = []) (hy : Y = []) (h : b = false) (hb : Below w.heap.size w w') : Tests2 X Y b w (.returned (.tuple #[.slice none 0 0, .slice none 0 0, .bool false])) w' := by
  subst h hx hy
  exact ⟨_, _, rfl, OwnB.nil _ _, OwnB.nil _ _, Sep.nil _, hb⟩
/-- A product of two numbers of at most four. -/
theorem mul_arr {R C : Nat} (R4 : R ≤ 4) (C4 : C ≤ 4) : R * C ≤ 16 ∧ IntKind.i64.wrap ((R : Int) * (C : Int)) = ((R * C : Nat) : Int) := by
  have h := Nat.mul_le_mul R4 C4
  refine ⟨by omega, ?_⟩
  have e : (R : Int) * (C : Int) = ((R * C : Nat) : Int) := by push_cast; rfl
  rw [e, IntKind.wrap_i64]
  generalize R * C = m at h ⊢
  omega
theorem shl_arr {m : Nat} (h : m ≤ 16) : IntKind.i64.wrap (2 ^ m) = 2 ^ m ∧ IntKind.i64.wrap ((2 : Int) ^ m - 1) = 2 ^ m - 1 ∧ (1 : Int) ≤ 2 ^ m ∧ (2 : Int) ^ m ≤ 65536 := by
  obtain ⟨h1, h2, h3⟩ := pow_in16 h
  refine ⟨h1, ?_, h2, h3⟩
  rw [IntKind.wrap_i64]
  omega

set_option maxRecDepth 100000 in
set_option maxHeartbeats 1600000 in
theorem specTestArray (r c bad : Int) (w : World) :
    Calls Try.prog 13 #[.int .i64 r, .int .i64 c, .int .i64 bad] w (Tests2 (rowL r c bad) (colL r c bad) (okTest r c bad) w) := by
  have CO := Lib.hid (specArrayOk r c w)
  have HX : Hid (rowL r c bad = if okTest r c bad = true then rowR r c bad else []) := rfl
  have HY : Hid (colL r c bad = if okTest r c bad = true then colR r c bad else []) := rfl
  have HB : Hid (okTest r c bad = (okArr r c && badA r c bad)) := rfl
  cases ho : okArr r c with
  | false =>
    rw [ho] at CO
    have HE : Hid (okTest r c bad = false) := by unfold Hid; rw [HB.out, ho]; rfl
    have HE2 : Hid (rowL r c bad = []) := by unfold Hid; rw [HX.out, HE.out]; rfl
    have HE3 : Hid (colL r c bad = []) := by unfold Hid; rw [HY.out, HE.out]; rfl
    clear HX HY HB ho
    go_enter Try.func13, Try.ntmps13
    go_wp2_with fail
    refine CO.out.mono ?_
    rintro e w1 ⟨rfl, rfl⟩
    go_wp2
    go_ret3
    exact Tests2.no HE2.out HE3.out HE.out (Below.refl _ _)
  | true =>
    obtain ⟨⟨r1, r4⟩, c1, c4⟩ := okArr_in ho
    have CI := Lib.hid (fun W => l01In_is bad 0 (2 ^ (r.toNat * c.toNat) - 1) W)
    have HB2 : Hid (okTest r c bad = (decide (0 ≤ bad) && decide (bad ≤ 2 ^ (r.toNat * c.toNat) - 1))) := by unfold Hid; rw [HB.out, ho]; rfl
    rw [ho] at CO
    have hRX : rowR r c bad = rowF r.toNat c.toNat bad (r.toNat * c.toNat) := rfl
    have hCY : colR r c bad = colF c.toNat bad (r.toNat * c.toNat) := rfl
    rw [hRX] at HX
    rw [hCY] at HY
    generalize okTest r c bad = ok at HX HY HB2 ⊢
    generalize rowL r c bad = X at HX ⊢
    generalize colL r c bad = Y at HY ⊢
    obtain ⟨R, hR⟩ : ∃ R : Nat, r.toNat = R := ⟨_, rfl⟩
    obtain ⟨C, hC⟩ : ∃ C : Nat, c.toNat = C := ⟨_, rfl⟩
    have eR : r = (R : Int) := by omega
    have eC : c = (C : Int) := by omega
    subst eR eC
    rw [hR, hC] at HX HY
    rw [hR, hC] at CI HB2
    clear hR hC hRX hCY ho HB
    obtain ⟨m16, hm⟩ := mul_arr (R := R) (C := C) (by omega) (by omega)
    have CT := Lib.hid (specTestA R C (by omega) (by omega) (by omega) bad w)
    unfold Two2 at CT
    generalize rowF R C bad (R * C) = FX at CT HX
    generalize colF C bad (R * C) = FY at CT HY
    generalize R * C = M at m16 hm CI HB2
    obtain ⟨s1, s2, s3, s4⟩ := shl_arr m16
    generalize (decide (0 ≤ bad) && decide (bad ≤ 2 ^ M - 1)) = ib at CI HB2
    have M0 : (0 : Int) ≤ (M : Int) := by omega
    cases ib with
    | false =>
      have HE : Hid (ok = false) := HB2.out
      have HE2 : Hid (X = []) := by unfold Hid; rw [HX.out, HE.out]; rfl
      have HE3 : Hid (Y = []) := by unfold Hid; rw [HY.out, HE.out]; rfl
      clear HX HY
      go_enter Try.func13, Try.ntmps13
      go_wp2_with fail
      refine CO.out.mono ?_
      rintro e w1 ⟨rfl, rfl⟩
      go_wp2_with fail
      refine (CI.out _).mono ?_
      rintro e w1 ⟨rfl, rfl⟩
      go_wp2
      go_ret3
      exact Tests2.no HE2.out HE3.out HE.out (Below.refl _ _)
    | true =>
      have HE : Hid (ok = true) := HB2.out
      have HE2 : Hid (X = FX) := by unfold Hid; rw [HX.out, HE.out]; rfl
      have HE3 : Hid (Y = FY) := by unfold Hid; rw [HY.out, HE.out]; rfl
      clear HX HY
      go_enter Try.func13, Try.ntmps13
      go_wp2_with fail
      refine CO.out.mono ?_
      rintro e w1 ⟨rfl, rfl⟩
      go_wp2_with fail
      refine (CI.out _).mono ?_
      rintro e w1 ⟨rfl, rfl⟩
      go_wp2_with fail
      refine CT.out.mono ?_
      rintro e w2 ⟨u, v, rfl, ou, ov, sp, bb⟩
      have OU := Lib.hid ou
      have OV := Lib.hid ov
      have SP := Lib.hid sp
      have BB := Lib.hid bb
      obtain ⟨gu, nu, cu, rfl⟩ := OU.out.form
      obtain ⟨gv, nv, cv, rfl⟩ := OV.out.form
      clear ou ov sp bb
      go_wp2
      go_ret3
      rw [HE.out]
      exact ⟨_, _, rfl, by rw [HE2.out]; exact OU.out, by rw [HE3.out]; exact OV.out, SP.out, BB.out⟩
end Go.Proofs.Ytljodgdnimiliaa
