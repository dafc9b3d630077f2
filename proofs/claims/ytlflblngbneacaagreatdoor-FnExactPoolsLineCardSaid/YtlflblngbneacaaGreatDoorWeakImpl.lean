/- The contracts of the program's poolsAndBadOk, Weakness and IsSeparable. Conditions: the slice reads as integers, and is short enough to be counted. -/
import Derived.Test.YtlflblngbneacaaGreatDoorCollSets
import Derived.Test.YtlflblngbneacaaGreatDoorWeakPlain
import Derived.Test.YtlflblngbneacaaGreatDoorDisLaws
import Derived.Maps.AppendAt
namespace Go.Proofs.YtlflblngbneacaaGreatDoor
open Go.RowKit

theorem infoLstB : (Tryz.prog.info? 111).map (fun i => (i.zero, i.size, i.bytes)) = some (some (.slice none 0 0), 1, 24) := by kernel_rfl
theorem rowFormB {w : World} {B e s n : Nat} {v : Value} {xs : List Value} (h : w.ownsRow B e s v n xs) : ∃ a m c, v = .slice a m c := by
  rcases h.2 with ⟨rfl, _⟩ | ⟨g, cap, cur, rfl, _⟩
  · exact ⟨_, _, _, rfl⟩
  · exact ⟨_, _, _, rfl⟩
/-- A row of lists of truth values of the call's own; the lists lie in other blocks. -/
def RowsB (w : World) (lo : Nat) (ov : Value) (S : List (List Bool)) (us : List Value) : Prop :=
  us.length = S.length ∧ w.ownsRow lo 111 1 ov S.length us ∧ ∀ i (h : i < S.length) (h' : i < us.length), BoolsAt w us[i] S[i] ∧ Blk (fun b => ov.ownBlock ≠ some b ∧ b < w.heap.size) us[i]
theorem RowsB.below {w w' : World} {lo : Nat} {ov : Value} {S : List (List Bool)} {us : List Value} (h : RowsB w lo ov S us) (hb : Below w.heap.size w w') : RowsB w' lo ov S us :=
  ⟨h.1, owns_below h.2.1 hb, fun i h1 h2 => ⟨(h.2.2 i h1 h2).1.below hb, fun b e => ⟨((h.2.2 i h1 h2).2 b e).1, Nat.lt_of_lt_of_le ((h.2.2 i h1 h2).2 b e).2 hb.size⟩⟩⟩
theorem RowsB.push {w w' : World} {lo : Nat} {ov ov' : Value} {S : List (List Bool)} {us : List Value} (h : RowsB w lo ov S us) {s : List Bool} {u : Value}
    (hg : w.grownBy w' ov.ownBlock) (hown : w'.ownsRow lo 111 1 ov' (S.length + 1) (us ++ [u])) (hat : ov'.ownBlock = ov.ownBlock ∨ ov'.ownBlock = some w.heap.size)
    (hu : BoolsAt w u s) (hbu : Blk (fun b => ov.ownBlock ≠ some b ∧ b < w.heap.size) u) : RowsB w' lo ov' (S ++ [s]) (us ++ [u]) := by
  have T := Only.of_grown hg
  have key : ∀ (x : Value) (l : List Bool), BoolsAt w x l → Blk (fun b => ov.ownBlock ≠ some b ∧ b < w.heap.size) x → BoolsAt w' x l ∧ Blk (fun b => ov'.ownBlock ≠ some b ∧ b < w'.heap.size) x := fun x l hx hb =>
    ⟨hx.only T fun b e => (hb b e).1, fun b e => ⟨by
      have h1 := hb b e
      rcases hat with e' | e'
      · rw [e']; exact h1.1
      · rw [e']; intro e2; simp at e2; omega, Nat.lt_of_lt_of_le (hb b e).2 T.size⟩⟩
  refine ⟨by simp [h.1], by simpa using hown, fun i h1 h2 => ?_⟩
  by_cases e : i < S.length
  · have e' : i < us.length := by rw [h.1]; exact e
    rw [List.getElem_append_left e, List.getElem_append_left e']
    exact key _ _ (h.2.2 i e e').1 (h.2.2 i e e').2
  · have e1 : i = S.length := by simp at h1; omega
    have g1 : (S ++ [s])[i] = s := by rw [List.getElem_append_right (by omega)]; simp [e1]
    have g2 : (us ++ [u])[i] = u := by rw [List.getElem_append_right (by rw [h.1]; omega)]; simp [e1, h.1]
    rw [g1, g2]
    exact key u s hu hbu
/-- The slice value v reads as the lists of S. -/
def ReadsB (w : World) (v : Value) (S : List (List Bool)) : Prop :=
  ∃ a cap, v = .slice a S.length cap ∧ ∀ i (h : i < S.length), ∃ g u, a = some ⟨g, 0, none⟩ ∧ w.cell? ⟨g, i, none⟩ = some u ∧ BoolsAt w u S[i] ∧ g < w.heap.size
theorem ReadsB.below {w w' : World} {v : Value} {S : List (List Bool)} (h : ReadsB w v S) (hb : Below w.heap.size w w') : ReadsB w' v S := by
  obtain ⟨a, cap, rfl, h⟩ := h
  refine ⟨a, cap, rfl, fun i hi => ?_⟩
  obtain ⟨g, u, e, h1, h2, h3⟩ := h i hi
  exact ⟨g, u, e, by rw [hb.cell (p := ⟨g, i, none⟩) h3]; exact h1, h2.below hb, Nat.lt_of_lt_of_le h3 hb.size⟩
theorem RowsB.reads {w : World} {lo : Nat} {ov : Value} {S : List (List Bool)} {us : List Value} (h : RowsB w lo ov S us) : ReadsB w ov S := by
  rcases h.2.1.2 with ⟨h0, hn⟩ | ⟨g, cap, cur, h0, _⟩
  · exact ⟨none, 0, by rw [h0, hn], fun i hi => by omega⟩
  · have h1 := h.2.1
    subst h0
    refine ⟨_, cap, rfl, fun i hi => ?_⟩
    have hi' : i < us.length := by rw [h.1]; exact hi
    exact ⟨g, us[i], rfl, by rw [h1.cellAt i (by omega), List.getElem?_eq_getElem hi'], (h.2.2 i hi hi').1, (h1.lt g rfl).2⟩
/-- The results of the sets of a list. -/
def resS (P : List Int) (Q : List Nat) : List (List Bool) := Q.map fun (q : Nat) => resL P (q : Int)
theorem resS_len (P : List Int) (Q : List Nat) : (resS P Q).length = Q.length := by simp [resS]
theorem resS_take (P : List Int) {Q : List Nat} {i : Nat} (h : i < Q.length) : resS P (Q.take (i + 1)) = resS P (Q.take i) ++ [resL P (Q[i] : Nat)] := by
  unfold resS
  rw [List.take_succ_eq_append_getElem h, List.map_append]
  rfl
theorem rows_cell {w : World} {a : Option Addr} {n c : Nat} {P : List Int} {Q : List Nat} (h : ReadsB w (.slice a n c) (resS P Q)) {i : Nat} (hi : i < Q.length) :
    ∃ g u, a = some ⟨g, 0, none⟩ ∧ w.cell? ⟨g, i, none⟩ = some u ∧ BoolsAt w u (resL P (Q[i] : Nat)) ∧ g < w.heap.size := by
  obtain ⟨a', c', hv, hr⟩ := h
  cases hv
  obtain ⟨g, u, e, h1, h2, h3⟩ := hr i (by rw [resS_len]; exact hi)
  refine ⟨g, u, e, h1, ?_, h3⟩
  simpa [resS] using h2
theorem natL_at {Q : List Nat} {i : Nat} (h : i < (natL Q).length) : (natL Q)[i] = ((Q[i]'(by rw [natL_len] at h; exact h) : Nat) : Int) := by simp [natL]
theorem natL_cell {w : World} {a : Option Addr} {n c : Nat} {Q : List Nat} (h : IntsAt w (.slice a n c) (natL Q)) {i : Nat} (hi : i < Q.length) :
    ∃ b o, a = some ⟨b, o, none⟩ ∧ w.cell? ⟨b, o + i, none⟩ = some (.int .i64 (Q[i] : Nat)) ∧ b < w.heap.size := by
  obtain ⟨a', c', hv, hr⟩ := h
  cases hv
  have hi2 : i < (natL Q).length := by rw [natL_len]; exact hi
  rcases hr with h0 | ⟨b, o, rfl, hc⟩
  · rw [h0] at hi2; simp at hi2
  · have h1 := hc i hi2
    have h2 := World.block_lt_of_cell? w _ h1
    rw [natL_at] at h1
    exact ⟨b, o, rfl, h1, h2⟩

set_option maxHeartbeats 1600000 in
theorem implBadOk (n : Int) (v : Value) (P : List Int) (d : Int) (w : World) (h : IntsAt w v P) (hm : P.length ≤ 1048576) :
    Calls Tryz.prog 99 #[.int .i64 n, v, .int .i64 d] w fun e w' => e = .returned (.bool (okD n P d)) ∧ w = w' := by
  have CP := Lib.hid (implPoolsOk n v P w h (by unfold maxLen; omega))
  have HB : Hid (okD n P d = (poolsB n P && (decide (1 ≤ d) && decide (d ≤ 3)))) := rfl
  obtain ⟨a, c, rfl, -⟩ := h
  generalize okD n P d = r at HB ⊢
  generalize poolsB n P = pb at CP HB
  cases pb with
  | false =>
    have HE : Hid (r = false) := HB.out
    go_enter Tryz.func99, Tryz.ntmps99
    go_wp2_with fail
    refine CP.out.mono ?_
    rintro e w1 ⟨rfl, rfl⟩
    go_wp2
    go_ret
    exact ⟨ret_bool HE.out.symm, rfl⟩
  | true =>
    by_cases h1 : 1 ≤ d
    · have HE : Hid (r = decide (d ≤ 3)) := by unfold Hid; rw [HB.out, decide_eq_true h1]; rfl
      have d1 : decide (1 ≤ d) = true := decide_eq_true h1
      go_enter Tryz.func99, Tryz.ntmps99
      go_wp2_with fail
      refine CP.out.mono ?_
      rintro e w1 ⟨rfl, rfl⟩
      go_wp2
      go_ret
      exact ⟨ret_bool HE.out.symm, rfl⟩
    · have HE : Hid (r = false) := by unfold Hid; rw [HB.out, decide_eq_false h1]; rfl
      have d1 : decide (1 ≤ d) = false := decide_eq_false h1
      go_enter Tryz.func99, Tryz.ntmps99
      go_wp2_with fail
      refine CP.out.mono ?_
      rintro e w1 ⟨rfl, rfl⟩
      go_wp2
      go_ret
      exact ⟨ret_bool HE.out.symm, rfl⟩

theorem implSetsOf (m most : Int) (w : World) : Calls Tryz.prog 125 #[.int .i64 m, .int .i64 most] w fun e w' => e = .returned (.func (.func 150) #[] #[.pointer (some ⟨w.heap.size, 0, none⟩), .pointer (some ⟨w.heap.size + 1, 0, none⟩)]) ∧ w' = (w.alloc (.cells #[.int .i64 m] 3)).alloc (.cells #[.int .i64 most] 3) :=
  (callsIn_wide (n := 4)).1 (setsOf_in Fence.wide 4 trivial rfl m most w)

set_option maxRecDepth 100000 in
set_option maxHeartbeats 6400000 in
theorem implWeak (n : Int) (v : Value) (P : List Int) (d : Int) (w : World) (h : IntsAt w v P) (hm : P.length ≤ 1048576) :
    Calls Tryz.prog 98 #[.int .i64 n, v, .int .i64 d] w (Weaks (weakO n P d) w) := by
  obtain ⟨i0, hi, hz0, hz1, hz2⟩ := info_parts infoLstB
  have CP := Lib.hid (implBadOk n v P d w h hm)
  have H := Lib.hid h
  by_cases hok : okD n P d = true
  · have HR : Hid (weakO n P d = pairsF (pairO P) (setsK d (2 ^ n.toNat))) := weak_pairs hok
    rw [hok] at CP
    have hp : poolsB n P = true := by unfold okD at hok; rw [Bool.and_eq_true] at hok; exact hok.1
    clear hok
    obtain ⟨⟨n1, n10⟩, -, hin⟩ := pools_in hp
    have hN2 : 2 ^ n.toNat ≤ 1024 := Nat.pow_le_pow_right (n := 2) (by decide) (show n.toNat ≤ 10 by omega)
    obtain ⟨N, hN⟩ : ∃ N : Nat, 2 ^ n.toNat = N := ⟨_, rfl⟩
    rw [hN] at HR hN2
    have HM : Hid (∀ x ∈ setsK d N, x ≤ 1023) := fun x hx => by have := sets_le hx; omega
    have hQl : (setsK d N).length ≤ 1024 := by have := setsK_len d N; omega
    have CR : Hid (∀ (x : Nat) W, x ≤ 1023 → IntsAt W v P → Calls Tryz.prog 126 #[v, .int .i64 (x : Nat)] W (ListsB (resL P (x : Nat)) W)) := fun x W hx hW => implResults v P (x : Nat) W hW hm hin (by omega) (by omega)
    have HRL : Hid (∀ bad, (resL P bad).length ≤ 1048576) := fun bad => by rw [resL_len]; exact hm
    -- ahead of the walk: the sets
    have CS := Lib.hid (implSetsOf n d w)
    have F0 := (Boxed.new w 3 (.int .i64 n)).alloc (.cells #[.int .i64 d] 3)
    have F1 := Boxed.new (w.alloc (.cells #[.int .i64 n] 3)) 3 (.int .i64 d)
    have s1 : (w.alloc (.cells #[.int .i64 n] 3)).heap.size = w.heap.size + 1 := by simp
    have B2 := below_up (alloc_below w (.cells #[.int .i64 n] 3)) (alloc_below (w.alloc (.cells #[.int .i64 n] 3)) (.cells #[.int .i64 d] 3))
    rw [s1] at F1
    generalize (w.alloc (.cells #[.int .i64 n] 3)).alloc (.cells #[.int .i64 d] 3) = X at CS F0 F1 B2
    have CC := Lib.hid (implCollSets w.heap.size (w.heap.size + 1) n d n1 n10 N hN X F0 F1)
    have BX := Lib.hid B2
    clear F0 F1 s1 B2 hp hin hN hN2
    obtain ⟨a, c, rfl, -⟩ := h
    generalize weakO n P d = r at HR ⊢
    generalize setsK d N = Q at HR HM hQl CC
    unfold ListsB at CR
    go_enter Tryz.func98, Tryz.ntmps98
    go_wp2_with fail
    refine CP.out.mono ?_
    rintro e w1 ⟨rfl, rfl⟩
    go_wp2_with fail
    refine CS.out.mono ?_
    rintro e w2 ⟨rfl, rfl⟩
    go_wp2_with fail
    refine CC.out.mono ?_
    rintro e w3 ⟨u, rfl, ou, bb⟩
    have SA : Hid (IntsAt w3 u (natL Q)) := ou.reads
    have B3 := Lib.hid (below_up BX.out bb)
    clear ou bb CC CS CP BX
    obtain ⟨sa, sc, hsv, -⟩ := id SA.out
    obtain ⟨nQ, hnQ⟩ : ∃ nQ, Q.length = nQ := ⟨_, rfl⟩
    rw [natL_len, hnQ] at hsv
    rw [hnQ] at hQl
    subst hsv
    have HC : Hid (∀ i (h : i < Q.length), ∃ b o, sa = some ⟨b, o, none⟩ ∧ w3.cell? ⟨b, o + i, none⟩ = some (.int .i64 (Q[i] : Nat)) ∧ b < w3.heap.size) := fun i h => natL_cell SA.out h
    have HNQ := Lib.hid hnQ
    clear hnQ SA
    have R0 : Hid (RowsB w3 w3.heap.size (.slice none 0 0) (resS P (Q.take 0)) []) := ⟨rfl, World.ownsRow_nil _ _ _ _, fun i h1 _ => by simp [resS] at h1⟩
    have A0 := Lib.hid (Below.refl w3.heap.size w3)
    go_wp2
    go_loopw [9, 25] (fun ov iv wr => ∃ (i : Nat) (us : List Value), i ≤ nQ ∧ iv = .int .i64 i ∧ Hid (RowsB wr w3.heap.size ov (resS P (Q.take i)) us) ∧ Hid (Below w3.heap.size w3 wr)) (fun _ iv _ => nQ - (intOf iv).toNat)
    case atStart => exact ⟨0, [], Nat.zero_le _, rfl, R0, A0⟩
    case round =>
      clear R0 A0
      obtain ⟨i, us, hiQ, rfl, R1, A1⟩ := hrel
      by_cases hlt : i < nQ
      · have hil : i < Q.length := by rw [HNQ.out]; exact hlt
        obtain ⟨b, o, rfl, hc, hb⟩ := HC.out i hil
        have e1 : wr.cell? ⟨b, o + i, none⟩ = some (.int .i64 (Q[i] : Nat)) := by rw [A1.out.cell (p := ⟨b, o + i, none⟩) hb]; exact hc
        have HT := Lib.hid (resS_take P hil)
        have CR1 := Lib.hid (CR.out Q[i] wr (HM.out _ (List.getElem_mem hil)) (H.out.below (below_up B3.out A1.out)))
        have hSl : (resS P (Q.take i)).length = i := by rw [resS_len, List.length_take]; omega
        generalize resS P (Q.take i) = S at R1 HT hSl
        generalize Q[i] = q at e1 CR1 HT
        generalize resL P (q : Nat) = rq at CR1 HT
        obtain ⟨oa, on, oc, hov⟩ := rowFormB R1.out.2.1
        subst hov
        have HS := Lib.hid hSl
        have i0' : (0 : Int) ≤ (i : Int) := by omega
        have i1 : (i : Int) < (nQ : Int) := by omega
        clear hc hb hil hSl
        go_wp2_with fail
        refine CR1.out.mono ?_
        rintro e w4 ⟨u, rfl, ou, bb⟩
        obtain ⟨ua, un, uc, rfl⟩ := ou.form
        have BB := Lib.hid bb
        have A3 := Lib.hid (alloc_below w4 (.cells #[.slice ua un uc] 111))
        have R2 := Lib.hid ((R1.out.below bb).below A3.out)
        have O3 : Hid ((w4.alloc (.cells #[.slice ua un uc] 111)).ownsRow w3.heap.size 111 1 (.slice oa on oc) i us) := by have := R2.out.2.1; rw [HS.out] at this; exact this
        have UB := Lib.hid ou.blk
        have UR := Lib.hid (ou.reads.below A3.out)
        have z3 : w3.heap.size ≤ (w4.alloc (.cells #[.slice ua un uc] 111)).heap.size := by have := bb.size; have := A1.out.size; simp; omega
        clear bb ou CR1
        go_wp2_with (at_builtin; refine wpList_append_own_at _ rfl _ _ 155 rfl w3.heap.size 111 i0 (.slice none 0 0) 1 24 Tryz.underlying155 hi hz0 hz1 hz2 rfl (by decide) (.slice oa on oc) i us rfl O3.out ⟨w4.heap.size, 0, none⟩ 1 1 [.slice ua un uc] rfl rfl (cell_one_new _ _ _) (by simp [Value.oneCell']) (by unfold maxLen; omega) (by omega) z3 ?_; intro v5 w5 hown5 hg5 _ hat5; have hg5' : (w4.alloc (.cells #[.slice ua un uc] 111)).grownBy w5 (Value.slice oa on oc).ownBlock := hg5; have HG5 := Lib.hid hg5'; have HO5 := Lib.hid hown5; have HAT5 := Lib.hid hat5; clear hg5 hg5' hown5 hat5)
        have R8 : Hid (RowsB w5 w3.heap.size v5 (S ++ [rq]) (us ++ [.slice ua un uc])) := R2.out.push HG5.out (by rw [HS.out]; exact HO5.out) HAT5.out UR.out (fun k hk => ⟨fun e => by have h1 := (UB.out k hk).1; have h2 := (R1.out.2.1.lt k e).2; omega, by have h1 := (UB.out k hk).2; simp; omega⟩)
        rw [← HT.out] at R8
        have A8 := Lib.hid (Below.grown (below_up (below_up A1.out BB.out) A3.out) HG5.out z3 (fun k hk => by have := (O3.out.lt k hk).1; omega))
        go_wp2
        go_roundw
        case rel => exact ⟨i + 1, us ++ [.slice ua un uc], by omega, by go_num, R8, A8⟩
        case measure => simp [intOf]; omega
      · obtain rfl : i = nQ := by omega
        obtain ⟨oa, on, oc, hov⟩ := rowFormB R1.out.2.1
        subst hov
        have hRW : ReadsB wr (.slice oa on oc) (resS P Q) := by
          have := R1.out.reads
          rwa [List.take_of_length_le (by rw [HNQ.out]; exact Nat.le_refl _)] at this
        have hon : on = i := by
          obtain ⟨a', c', hv, -⟩ := id hRW
          have h1 : on = (resS P Q).length := by cases hv; rfl
          rw [h1, resS_len, HNQ.out]
        subst hon
        have HRW : Hid (∀ k (h : k < Q.length), ∃ g u, oa = some ⟨g, 0, none⟩ ∧ wr.cell? ⟨g, k, none⟩ = some u ∧ BoolsAt wr u (resL P (Q[k] : Nat)) ∧ g < wr.heap.size) := fun k h => rows_cell hRW h
        have HQ0 : Hid (r = pairsF (pairO P) (Q.drop 0)) := by unfold Hid; rw [HR.out, List.drop_zero]
        have BW := Lib.hid (below_up B3.out A1.out)
        have C0 := Lib.hid (Below.refl wr.heap.size wr)
        clear hRW R1 HR CR
        obtain ⟨wo, hwo⟩ : ∃ wo : World, wo = wr := ⟨_, rfl⟩
        subst hwo
        go_wp2
        go_loopw [38] (fun iv wr => ∃ (i : Nat), i ≤ on ∧ iv = .int .i64 i ∧ Hid (r = pairsF (pairO P) (Q.drop i)) ∧ Hid (Below wo.heap.size wo wr)) (fun iv _ => on - (intOf iv).toNat)
        case atStart => exact ⟨0, Nat.zero_le _, rfl, HQ0, C0⟩
        case round =>
          clear HQ0 C0
          obtain ⟨i, hiQ, rfl, HX, C1⟩ := hrel
          by_cases hlt : i < on
          · have hil : i < Q.length := by rw [HNQ.out]; exact hlt
            have HX1 : Hid (r = ((Q.drop (i + 1)).findSome? (pairO P Q[i])).or (pairsF (pairO P) (Q.drop (i + 1)))) := by unfold Hid; rw [HX.out, pairs_at _ hil]
            obtain ⟨t, ht⟩ : ∃ t, pairsF (pairO P) (Q.drop (i + 1)) = t := ⟨_, rfl⟩
            rw [ht] at HX1
            have HT := Lib.hid ht
            have i0' : (0 : Int) ≤ (i : Int) := by omega
            have i1 : (i : Int) < (on : Int) := by omega
            clear ht HX
            go_wp2
            go_loopw [13] (fun jv ws => ∃ (j : Nat), i + 1 ≤ j ∧ j ≤ on ∧ jv = .int .i64 j ∧ Hid (r = ((Q.drop j).findSome? (pairO P Q[i])).or t) ∧ Hid (Below wo.heap.size wo ws)) (fun jv _ => on - (intOf jv).toNat)
            case atStart => exact ⟨i + 1, Nat.le_refl _, by omega, by go_num, HX1, C1⟩
            case round =>
              clear HX1 C1
              obtain ⟨j, hij, hjQ, rfl, HY, C2⟩ := hrel
              by_cases hjlt : j < on
              · have hjl : j < Q.length := by rw [HNQ.out]; exact hjlt
                obtain ⟨b, o, hsa, hci, hb⟩ := HC.out i hil
                obtain ⟨b', o', hsa', hcj, -⟩ := HC.out j hjl
                obtain ⟨g, ui, hoa, hri, hui, hg⟩ := HRW.out i hil
                obtain ⟨g', uj, hoa', hrj, huj, -⟩ := HRW.out j hjl
                subst hsa hoa
                cases hsa'
                cases hoa'
                have HS : Hid (r = (if (resL P (Q[i] : Nat) == resL P (Q[j] : Nat)) = true then some (((Q[i] : Nat) : Int), ((Q[j] : Nat) : Int)) else none).or (((Q.drop (j + 1)).findSome? (pairO P Q[i])).or t)) := by
                  unfold Hid
                  rw [HY.out, find_at _ hjl, Option.or_assoc]
                  rfl
                have e1 : wr.cell? ⟨g, i, none⟩ = some ui := by rw [C2.out.cell (p := ⟨g, i, none⟩) hg]; exact hri
                have e2 : wr.cell? ⟨g, j, none⟩ = some uj := by rw [C2.out.cell (p := ⟨g, j, none⟩) hg]; exact hrj
                have e3 : Hid (∀ W, Below wr.heap.size wr W → W.cell? ⟨b, o + i, none⟩ = some (.int .i64 (Q[i] : Nat)) ∧ W.cell? ⟨b, o + j, none⟩ = some (.int .i64 (Q[j] : Nat))) := fun W hW => by
                  have hBW := A1.out.trans ((C2.out.trans (hW.mono C2.out.size)).mono A1.out.size)
                  exact ⟨by rw [hBW.cell (p := ⟨b, o + i, none⟩) hb]; exact hci, by rw [hBW.cell (p := ⟨b, o + j, none⟩) hb]; exact hcj⟩
                have hli := HRL.out (Q[i] : Nat)
                have HU1 := Lib.hid (hui.below C2.out)
                have HU2 := Lib.hid (huj.below C2.out)
                have HQI : Hid (Q[i] = Q[i]) := rfl
                have HFI : Hid (∀ k, ((Q.drop k).findSome? (pairO P Q[i])) = ((Q.drop k).findSome? (pairO P Q[i]))) := fun _ => rfl
                obtain ⟨F, hF⟩ : ∃ F : Option (Int × Int), (Q.drop (j + 1)).findSome? (pairO P Q[i]) = F := ⟨_, rfl⟩
                rw [hF] at HS
                have HF := Lib.hid hF
                clear hci hcj hri hrj hui huj hb hg HY HQI HFI hF
                generalize Q[i] = qi at HS e3 HU1 hli HF
                generalize Q[j] = qj at HS e3 HU2
                obtain ⟨au, nu, cu, rfl⟩ := HU1.out.form
                obtain ⟨av, nv, cv, rfl⟩ := HU2.out.form
                have CEQ := Lib.hid (fun n => implEqualB _ _ _ _ (wr.drewN n) (HU1.out.below (below_drewN (Below.refl _ _) n)) (HU2.out.below (below_drewN (Below.refl _ _) n)) hli)
                have j0 : (0 : Int) ≤ (j : Int) := by omega
                have j1 : (j : Int) < (on : Int) := by omega
                clear HU1 HU2 hli
                generalize resL P (qi : Nat) = ri at HS CEQ
                generalize resL P (qj : Nat) = rj at HS CEQ
                generalize (ri == rj) = sb at HS CEQ
                cases sb with
                | false =>
                  have HZ : Hid (r = ((Q.drop (j + 1)).findSome? (pairO P qi)).or t) := by unfold Hid; rw [HF.out]; exact HS.out
                  clear HS HF e3
                  go_wp2
                  go_quiet (first | (go_at_call 127; exact Calls.quiet_of (CEQ.out _)) | fail)
                  go_wp2
                  go_roundw
                  case rel => exact ⟨j + 1, by omega, by omega, by go_num, HZ, below_drewN C2.out _⟩
                  case measure => simp [intOf]; omega
                | true =>
                  have HZ : Hid (r = some ((qi : Int), (qj : Int))) := HS.out
                  clear HS HF
                  go_wp2
                  go_quiet (first | (go_at_call 127; exact Calls.quiet_of (CEQ.out _)) | fail)
                  obtain ⟨Y, hY⟩ : ∃ Y, wr.drewN nq = Y := ⟨_, rfl⟩
                  rw [hY]
                  have HYB : Hid (Below wr.heap.size wr Y) := by unfold Hid; rw [← hY]; exact below_drewN (Below.refl _ _) _
                  obtain ⟨f1, f2⟩ := e3.out Y HYB.out
                  have BY := Lib.hid (below_up (below_up BW.out C2.out) HYB.out)
                  have hys : w.heap.size ≤ Y.heap.size := BY.out.size
                  clear hY e1 e2 e3 CEQ
                  go_wp2
                  go_region
                  all_goals
                    go_wp2
                    go_ret2
                    exact Weaks.yes HZ.out (Own.lit2 Y.drew w.heap.size (qi : Int) (qj : Int) (by simpa using hys)) (below_up BY.out.drew (alloc_below Y.drew _))
              · have HZ : Hid (r = pairsF (pairO P) (Q.drop (i + 1))) := by
                  unfold Hid
                  rw [HY.out, find_end _ (by rw [HNQ.out]; omega), HT.out]
                  rfl
                clear HY HT
                go_wp2
                go_roundw
                case rel => exact ⟨i + 1, by omega, by go_num, HZ, C2⟩
                case measure => simp [intOf]; omega
          · have HE : Hid (r = none) := by unfold Hid; rw [HX.out, pairs_end _ (by rw [HNQ.out]; omega)]
            have BE := Lib.hid (below_up BW.out C1.out)
            go_wp2
            go_ret2
            exact Weaks.no HE.out BE.out
  · have hok2 : okD n P d = false := by simpa using hok
    have HE : Hid (weakO n P d = none) := by unfold Hid weakO; rw [if_neg hok]
    rw [hok2] at CP
    obtain ⟨a, c, rfl, -⟩ := h
    generalize weakO n P d = r at HE ⊢
    clear hok hok2
    go_enter Tryz.func98, Tryz.ntmps98
    go_wp2_with fail
    refine CP.out.mono ?_
    rintro e w1 ⟨rfl, rfl⟩
    go_wp2
    go_ret2
    exact Weaks.no HE.out (Below.refl _ _)
end Go.Proofs.YtlflblngbneacaaGreatDoor
