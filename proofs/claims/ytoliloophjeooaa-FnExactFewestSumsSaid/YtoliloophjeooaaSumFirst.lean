/- The contracts of the model's search for detecting pools, FirstDetecting and FewestSums. No condition. -/
import Derived.Test.YtoliloophjeooaaSumMore
import Derived.Test.YtoliloophjeooaaFirstSPlain
import Derived.Test.YtoliloophjeooaaGWei
namespace Go.Proofs.Ytoliloophjeooaa
open Go.RowKit

theorem ownJoinS {w : World} {B i : Nat} {v : Value} (x : List Int) (y : Int) (hi : x.length = i) (h : w.ownsRow B 3 1 v (0 + i + 1) (([] ++ x.map (Value.int .i64)) ++ [.int .i64 y])) : Own w B v (x ++ [y]) := by
  unfold Own
  rw [List.length_append, List.map_append, hi]
  simpa using h
/-- What the search gives back. -/
def FoundS (o : Option (List Nat)) (B : Nat) (w : World) (e : Ending) (w' : World) : Prop :=
  ∃ u, e = .returned (.tuple #[u, .bool o.isSome]) ∧ (∀ L, o = some L → Own w' B u (natL L)) ∧ (∃ a m c, u = .slice a m c) ∧ Below w.heap.size w w'
theorem FoundS.no {B : Nat} {w w' : World} {a : Option Addr} {m c : Nat} (hb : Below w.heap.size w w') : FoundS none B w (.returned (.tuple #[.slice a m c, .bool false])) w' :=
  ⟨_, rfl, fun L h => (by cases h), ⟨_, _, _, rfl⟩, hb⟩
theorem FoundS.yes {B : Nat} {w w' : World} {a : Option Addr} {m c : Nat} {L : List Nat} (ho : Own w' B (.slice a m c) (natL L)) (hb : Below w.heap.size w w') : FoundS (some L) B w (.returned (.tuple #[.slice a m c, .bool true])) w' :=
  ⟨_, rfl, fun L' h => (by cases h; exact ho), ⟨_, _, _, rfl⟩, hb⟩
theorem pow_smallS {k : Nat} (h : k ≤ 10) : IntKind.i64.wrap (2 ^ k) = 2 ^ k ∧ (1 : Int) ≤ 2 ^ k ∧ (2 : Int) ^ k ≤ 1024 := by
  have := two_pow_in k h
  refine ⟨?_, this⟩
  rw [IntKind.wrap_i64]
  omega
theorem natL_pools {n : Int} {Q : List Nat} (n1 : 1 ≤ n) (n10 : n ≤ 10) (hl : Q.length ≤ 12) (hq : ∀ q ∈ Q, q < 2 ^ n.toNat) : poolsB n (natL Q) = true := by
  unfold poolsB itemsB
  rw [decide_eq_true n1, decide_eq_true n10, natL_len, decide_eq_true hl, Bool.and_self, Bool.true_and, Bool.true_and, List.all_eq_true]
  intro p hp
  unfold natL at hp
  rw [List.mem_map] at hp
  obtain ⟨q, h1, rfl⟩ := hp
  have h2 := hq q h1
  have hc : (2 : Int) ^ n.toNat = ((2 ^ n.toNat : Nat) : Int) := by push_cast; rfl
  unfold poolB topI
  rw [decide_eq_true (by omega), decide_eq_true (by omega)]
  rfl
theorem addr_some {w : World} {B : Nat} {v : Value} {l : List Int} (h : Own w B v l) (hl : 0 < l.length) : ∃ ad m c, v = .slice (some ad) m c := by
  rcases h.2 with ⟨_, h0⟩ | ⟨g, cap, cur, rfl, _⟩
  · omega
  · exact ⟨_, _, _, rfl⟩

set_option maxRecDepth 100000 in
set_option maxHeartbeats 6400000 in
theorem specFirstS (n : Int) (n1 : 1 ≤ n) (n10 : n ≤ 10) : ∀ (l : Nat) (Q : List Nat) (v : Value) (B : Nat) (w : World), Own w B v (natL Q) → (∃ ad m c, v = .slice (some ad) m c) → Q.length + l ≤ 12 → (∀ q ∈ Q, q < 2 ^ n.toNat) → B ≤ w.heap.size →
    Calls Try.prog 47 #[.int .i64 n, v, .int .i64 (l : Int)] w (FoundS (searchS n l Q) B w) := by
  intro l
  induction l with
  | zero =>
    intro Q v B w ho ha hm hq hB
    have C := Lib.hid (specDetects n v (natL Q) w ho.reads (natL_pools n1 n10 (by omega) hq))
    have O := Lib.hid ho
    obtain ⟨ad, m, c, rfl⟩ := ha
    have HR : Hid (searchS n 0 Q = if detF (natL Q) (2 ^ n.toNat) = true then some Q else none) := rfl
    generalize detF (natL Q) (2 ^ n.toNat) = s at C HR
    generalize searchS n 0 Q = r at HR ⊢
    rw [Int.natCast_zero]
    cases s with
    | false =>
      have HE : Hid (r = none) := HR.out
      go_enter Try.func47, Try.ntmps47
      go_wp2_with fail
      refine C.out.mono ?_
      rintro e w1 ⟨rfl, bb⟩
      have B1 := Lib.hid bb
      clear bb
      go_wp2
      go_ret2
      rw [HE.out]
      exact FoundS.no B1.out
    | true =>
      have HE : Hid (r = some Q) := HR.out
      go_enter Try.func47, Try.ntmps47
      go_wp2_with fail
      refine C.out.mono ?_
      rintro e w1 ⟨rfl, bb⟩
      have B1 := Lib.hid bb
      have O1 := Lib.hid (O.out.below bb)
      clear bb
      go_wp2
      go_ret2
      rw [HE.out]
      exact FoundS.yes O1.out B1.out
  | succ l ih =>
    intro Q v B w ho ha hm hq hB
    have h := ho.reads
    obtain ⟨i0, hi, hz0, hz1, hz2⟩ := info_parts infoIntA
    have IH := Lib.hid ih
    clear ih
    obtain ⟨mm, hmm⟩ : ∃ m : Nat, n.toNat = m := ⟨_, rfl⟩
    obtain ⟨hs1, -, -⟩ := pow_smallS (k := n.toNat) (by omega)
    obtain ⟨N, hN⟩ : ∃ N : Nat, 2 ^ n.toNat = N := ⟨_, rfl⟩
    have hN2 : (2 : Int) ^ n.toNat = (N : Int) := by rw [← hN]; exact_mod_cast rfl
    have hNb : N ≤ 1024 := by have := pow_smallS (k := n.toNat) (by omega); omega
    rw [hN2] at hs1
    obtain ⟨F, hF⟩ : ∃ F, (fun p => searchS n l (Q ++ [p])) = F := ⟨_, rfl⟩
    have HF : Hid (∀ p, searchS n l (Q ++ [p]) = F p) := fun p => by rw [← hF]
    have HR : Hid (searchS n (l + 1) Q = seekF F (N - fromN Q) (fromN Q)) := by unfold Hid; rw [← hF, ← hN]; rfl
    have HQ := Lib.hid hq
    have H := Lib.hid h
    have HQL := natL_len Q
    obtain ⟨ad, m, c, rfl⟩ := ha
    obtain ⟨a', c', ee, hc⟩ := h
    cases ee
    have HO := Lib.hid (ints_one (natL Q))
    have HL : Hid (((natL Q).map (Value.int .i64)).length = Q.length * 1) := by unfold Hid; rw [List.length_map, natL_len]; omega
    have HC : Hid (∀ j u, ((natL Q).map (Value.int .i64))[j]? = some u → w.cell? (ad.add j) = some u) := fun j u hj => by
      rcases hc with e | ⟨b, off, e, hc⟩
      · rw [e] at hj; simp at hj
      · cases e
        obtain ⟨h1, h2⟩ := List.getElem?_eq_some_iff.1 hj
        rw [List.length_map] at h1
        rw [List.getElem_map] at h2
        rw [← h2, Addr.add_lit]
        exact hc j h1
    have HLast : Hid (0 < Q.length → ∃ b o x, ad = ⟨b, o, none⟩ ∧ w.cell? ⟨b, o + (Q.length - 1), none⟩ = some (.int .i64 ((x : Nat) : Int)) ∧ fromN Q = x + 1 ∧ x ≤ 1023) := fun hpos => by
      rcases hc with e | ⟨b, off, e, hc⟩
      · rw [e] at HQL; simp at HQL; omega
      · cases e
        refine ⟨b, off, Q[Q.length - 1], rfl, ?_, fromN_last hpos, by have := hq _ (List.getElem_mem (show Q.length - 1 < Q.length by omega)); omega⟩
        have := hc (Q.length - 1) (by rw [natL_len]; omega)
        rw [this]
        simp [natL]
    have HNil : Hid (Q.length = 0 → fromN Q = 1) := fromN_nil
    have HW : Hid (∀ p : Nat, p < N → (Q ++ [p]).length + l ≤ 12 ∧ (∀ q ∈ Q ++ [p], q < 2 ^ n.toNat) ∧ natL (Q ++ [p]) = natL Q ++ [(p : Int)]) := fun p hp => by
      refine ⟨by rw [List.length_append, List.length_singleton]; omega, fun q hq' => ?_, natL_snoc Q p⟩
      rw [List.mem_append, List.mem_singleton] at hq'
      rcases hq' with hq' | rfl
      · exact hq q hq'
      · rw [hN]; exact hp
    rw [HQL] at H ⊢
    obtain ⟨k, hk⟩ : ∃ k, Q.length = k := ⟨_, rfl⟩
    have HK := Lib.hid hk
    rw [hk] at H HL HLast HNil hm ⊢
    generalize searchS n (l + 1) Q = r at HR ⊢
    generalize fromN Q = fr at HR HLast HNil
    clear hc hF hq hN HQL hk hmm
    have hl1 : ((l + 1 : Nat) : Int) - 1 = (l : Int) := by omega
    have hl0 : ¬ ((l + 1 : Nat) : Int) = 0 := by omega
    obtain ⟨L, hL⟩ : ∃ L : Int, ((l + 1 : Nat) : Int) = L := ⟨_, rfl⟩
    rw [hL] at hl1 hl0 ⊢
    have hLb : 0 ≤ L ∧ L ≤ 12 := by omega
    have hl2 : (l : Int) = L - 1 := by omega
    obtain ⟨hL0, hL12⟩ := hLb
    have hLz : (L == 0) = false := beq_eq_false_iff_ne.2 hl0
    have IH1 : Hid (∀ (p : Nat) (v : Value) (B' : Nat) (W : World), p < N → Own W B' v (natL Q ++ [(p : Int)]) → B' ≤ W.heap.size → Calls Try.prog 47 #[.int .i64 n, v, .int .i64 (L - 1)] W (FoundS (F p) B' W)) := fun p v B' W hp hv hB' => by
      obtain ⟨h1, h2, h3⟩ := HW.out p hp
      rw [← hl2, ← HF.out p]
      rw [← h3] at hv
      exact IH.out (Q ++ [p]) v B' W hv (addr_some hv (by rw [h3, List.length_append]; simp)) h1 h2 hB'
    clear hl1 hL hl2 IH HW HF HQ ho
    unfold FoundS at IH1
    have HX : Hid ((natL Q).length = k) := by unfold Hid; rw [natL_len]; exact HK.out
    clear HK
    generalize natL Q = X at H HL HC HO IH1 HX
    by_cases hk0 : k = 0
    · subst hk0
      obtain rfl : fr = 1 := HNil.out rfl
      have hfr1 : 1 ≤ 1024 := by omega
      clear HLast HNil
      go_enter Try.func47, Try.ntmps47
      go_wp2
      go_loopw [9] (fun pv wr => ∃ p : Nat, 1 ≤ p ∧ p ≤ 1024 ∧ pv = .int .i64 p ∧ Hid (r = seekF F (N - p) p) ∧ Hid (Below w.heap.size w wr)) (fun pv _ => N - (intOf pv).toNat)
      case atStart => exact ⟨1, Nat.le_refl _, hfr1, by first | rfl | trivial | go_num, HR, Below.refl _ _⟩
      case round =>
        clear HR
        obtain ⟨p, hfp, hp24, rfl, HR, B1⟩ := hrel
        by_cases hlt : p < N
        · have pN : (p : Int) < (N : Int) := by omega
          have HE : Hid (r = (F p).or (seekF F (N - (p + 1)) (p + 1))) := by unfold Hid; rw [HR.out, seekF_step _ hlt]
          have IH2 := Lib.hid (fun v B' W hv hB' => IH1.out p v B' W hlt hv hB')
          clear HR
          generalize F p = fb at HE IH2
          have A1 := Lib.hid (alloc_below wr (.cells #[] 3))
          have O1 : Hid ((wr.alloc (.cells #[] 3)).ownsRow wr.heap.size 3 1 (.slice (some ⟨wr.heap.size, 0, none⟩) 0 0) 0 []) := World.ownsRow_lit (base := wr.heap.size) (e := 3) (size := 1) wr #[] 0 (Nat.le_refl _) (by unfold maxLen; omega) rfl
          have SRC : Hid (∀ j u, (X.map (Value.int .i64))[j]? = some u → (wr.alloc (.cells #[] 3)).cell? (ad.add j) = some u) := fun j u hj => by
            have hc := HC.out j u hj
            have hb := World.block_lt_of_cell? w _ hc
            rw [A1.out.cell (Nat.lt_of_lt_of_le hb B1.out.size), B1.out.cell hb]
            exact hc
          have z1 : wr.heap.size ≤ (wr.alloc (.cells #[] 3)).heap.size := by simp
          go_wp2_with (at_builtin; first
            | (refine wpList_append_own_at _ rfl _ _ 22 rfl wr.heap.size 3 i0 (.int .i64 0) 1 8 Try.underlying22 hi hz0 hz1 hz2 rfl (by decide) (.slice (some ⟨wr.heap.size, 0, none⟩) 0 0) 0 [] rfl O1.out ad 0 c (X.map (Value.int .i64)) rfl HL.out SRC.out HO.out (by unfold maxLen; omega) (by omega) z1 ?_
               intro v1 w1 hown1 hg1 _ hat1
               obtain ⟨a1, n1', c1, hv1⟩ := rowFormI hown1
               subst hv1
               have hg1' : (wr.alloc (.cells #[] 3)).grownBy w1 (Value.slice (some ⟨wr.heap.size, 0, none⟩) 0 0).ownBlock := hg1
               have b1 : Below wr.heap.size wr w1 := Below.grown A1.out hg1' z1 (fun q hq => by have := (O1.out.lt q hq).1; omega)
               have BB1 := Lib.hid b1
               have A2 := Lib.hid (alloc_below w1 (.cells #[.int .i64 (p : Int)] 3))
               have O2 := Lib.hid (owns_below hown1 A2.out)
               have z2 : wr.heap.size ≤ (w1.alloc (.cells #[.int .i64 (p : Int)] 3)).heap.size := by have := b1.size; simp; omega
               clear hg1 hg1' hown1 b1 hat1)
            | (refine wpList_append_own_at _ rfl _ _ 22 rfl wr.heap.size 3 i0 (.int .i64 0) 1 8 Try.underlying22 hi hz0 hz1 hz2 rfl (by decide) (.slice a1 n1' c1) (0 + 0) ([] ++ X.map (Value.int .i64)) rfl O2.out ⟨w1.heap.size, 0, none⟩ 1 1 [.int .i64 (p : Int)] rfl rfl (cell_one_new _ _ _) (by simp [Value.oneCell']) (by unfold maxLen; omega) (by omega) z2 ?_
               intro v2 w2 hown2 hg2 _ hat2
               obtain ⟨a2, n2, c2, hv2⟩ := rowFormI hown2
               subst hv2
               have hg2' : (w1.alloc (.cells #[.int .i64 (p : Int)] 3)).grownBy w2 (Value.slice a1 n1' c1).ownBlock := hg2
               have b2 : Below wr.heap.size wr w2 := Below.grown (below_up BB1.out A2.out) hg2' z2 (fun q hq => by have := (O2.out.lt q hq).1; omega)
               have BB2 := Lib.hid (below_up B1.out b2)
               have V2 := Lib.hid (ownJoinS X (p : Int) HX.out hown2)
               have zz := b2.size
               clear hg2 hg2' hown2 b2 hat2))
          refine (IH2.out _ _ _ V2.out zz).mono ?_
          rintro e w3 ⟨u, rfl, hu, ⟨ua, un, uc, rfl⟩, bb⟩
          have B3 := Lib.hid (below_up BB2.out bb)
          have HU := Lib.hid hu
          have zB : B ≤ wr.heap.size := Nat.le_trans hB B1.out.size
          clear bb hu
          cases fb with
          | some L2 =>
            have HZ : Hid (r = some L2) := HE.out
            clear HE
            go_wp2
            go_ret2
            rw [HZ.out]
            exact FoundS.yes (Own.lower (HU.out L2 rfl) zB) B3.out
          | none =>
            have HZ : Hid (r = seekF F (N - (p + 1)) (p + 1)) := HE.out
            clear HE
            go_wp2
            go_roundw
            case rel => exact ⟨p + 1, by omega, by omega, by go_num, HZ, B3⟩
            case measure => simp [intOf]; omega
        · have HZ : Hid (r = none) := by unfold Hid; rw [HR.out, seekF_end _ _ (by omega)]
          go_wp2
          go_ret2
          rw [HZ.out]
          exact FoundS.no B1.out
    · obtain ⟨b, o, x, rfl, e0, rfl, hx⟩ := HLast.out (by omega)
      have hfr1 : x + 1 ≤ 1024 := by omega
      have hk1 : (0 : Int) < (k : Int) := by omega
      have hk3 : 0 < k := by omega
      have hk4 : decide ((0 : Int) < (k : Int)) = true := decide_eq_true hk1
      have hk2 : ((k : Int) - 1).toNat = k - 1 := by omega
      clear HLast HNil
      go_enter Try.func47, Try.ntmps47
      go_wp2
      clear e0
      go_loopw [9] (fun pv wr => ∃ p : Nat, x + 1 ≤ p ∧ p ≤ 1024 ∧ pv = .int .i64 p ∧ Hid (r = seekF F (N - p) p) ∧ Hid (Below w.heap.size w wr)) (fun pv _ => N - (intOf pv).toNat)
      case atStart => exact ⟨x + 1, Nat.le_refl _, hfr1, by first | rfl | trivial | go_num, HR, Below.refl _ _⟩
      case round =>
        clear HR
        obtain ⟨p, hfp, hp24, rfl, HR, B1⟩ := hrel
        by_cases hlt : p < N
        · have pN : (p : Int) < (N : Int) := by omega
          have HE : Hid (r = (F p).or (seekF F (N - (p + 1)) (p + 1))) := by unfold Hid; rw [HR.out, seekF_step _ hlt]
          have IH2 := Lib.hid (fun v B' W hv hB' => IH1.out p v B' W hlt hv hB')
          clear HR
          generalize F p = fb at HE IH2
          have A1 := Lib.hid (alloc_below wr (.cells #[] 3))
          have O1 : Hid ((wr.alloc (.cells #[] 3)).ownsRow wr.heap.size 3 1 (.slice (some ⟨wr.heap.size, 0, none⟩) 0 0) 0 []) := World.ownsRow_lit (base := wr.heap.size) (e := 3) (size := 1) wr #[] 0 (Nat.le_refl _) (by unfold maxLen; omega) rfl
          have SRC : Hid (∀ j u, (X.map (Value.int .i64))[j]? = some u → (wr.alloc (.cells #[] 3)).cell? ((⟨b, o, none⟩ : Addr).add j) = some u) := fun j u hj => by
            have hc := HC.out j u hj
            have hb := World.block_lt_of_cell? w _ hc
            rw [A1.out.cell (Nat.lt_of_lt_of_le hb B1.out.size), B1.out.cell hb]
            exact hc
          have z1 : wr.heap.size ≤ (wr.alloc (.cells #[] 3)).heap.size := by simp
          go_wp2_with (at_builtin; first
            | (refine wpList_append_own_at _ rfl _ _ 22 rfl wr.heap.size 3 i0 (.int .i64 0) 1 8 Try.underlying22 hi hz0 hz1 hz2 rfl (by decide) (.slice (some ⟨wr.heap.size, 0, none⟩) 0 0) 0 [] rfl O1.out ⟨b, o, none⟩ k c (X.map (Value.int .i64)) rfl HL.out SRC.out HO.out (by unfold maxLen; omega) (by omega) z1 ?_
               intro v1 w1 hown1 hg1 _ hat1
               obtain ⟨a1, n1', c1, hv1⟩ := rowFormI hown1
               subst hv1
               have hg1' : (wr.alloc (.cells #[] 3)).grownBy w1 (Value.slice (some ⟨wr.heap.size, 0, none⟩) 0 0).ownBlock := hg1
               have b1 : Below wr.heap.size wr w1 := Below.grown A1.out hg1' z1 (fun q hq => by have := (O1.out.lt q hq).1; omega)
               have BB1 := Lib.hid b1
               have A2 := Lib.hid (alloc_below w1 (.cells #[.int .i64 (p : Int)] 3))
               have O2 := Lib.hid (owns_below hown1 A2.out)
               have z2 : wr.heap.size ≤ (w1.alloc (.cells #[.int .i64 (p : Int)] 3)).heap.size := by have := b1.size; simp; omega
               clear hg1 hg1' hown1 b1 hat1)
            | (refine wpList_append_own_at _ rfl _ _ 22 rfl wr.heap.size 3 i0 (.int .i64 0) 1 8 Try.underlying22 hi hz0 hz1 hz2 rfl (by decide) (.slice a1 n1' c1) (0 + k) ([] ++ X.map (Value.int .i64)) rfl O2.out ⟨w1.heap.size, 0, none⟩ 1 1 [.int .i64 (p : Int)] rfl rfl (cell_one_new _ _ _) (by simp [Value.oneCell']) (by unfold maxLen; omega) (by omega) z2 ?_
               intro v2 w2 hown2 hg2 _ hat2
               obtain ⟨a2, n2, c2, hv2⟩ := rowFormI hown2
               subst hv2
               have hg2' : (w1.alloc (.cells #[.int .i64 (p : Int)] 3)).grownBy w2 (Value.slice a1 n1' c1).ownBlock := hg2
               have b2 : Below wr.heap.size wr w2 := Below.grown (below_up BB1.out A2.out) hg2' z2 (fun q hq => by have := (O2.out.lt q hq).1; omega)
               have BB2 := Lib.hid (below_up B1.out b2)
               have V2 := Lib.hid (ownJoinS X (p : Int) HX.out hown2)
               have zz := b2.size
               clear hg2 hg2' hown2 b2 hat2))
          refine (IH2.out _ _ _ V2.out zz).mono ?_
          rintro e w3 ⟨u, rfl, hu, ⟨ua, un, uc, rfl⟩, bb⟩
          have B3 := Lib.hid (below_up BB2.out bb)
          have HU := Lib.hid hu
          have zB : B ≤ wr.heap.size := Nat.le_trans hB B1.out.size
          clear bb hu
          cases fb with
          | some L2 =>
            have HZ : Hid (r = some L2) := HE.out
            clear HE
            go_wp2
            go_ret2
            rw [HZ.out]
            exact FoundS.yes (Own.lower (HU.out L2 rfl) zB) B3.out
          | none =>
            have HZ : Hid (r = seekF F (N - (p + 1)) (p + 1)) := HE.out
            clear HE
            go_wp2
            go_roundw
            case rel => exact ⟨p + 1, by omega, by omega, by go_num, HZ, B3⟩
            case measure => simp [intOf]; omega
        · have HZ : Hid (r = none) := by unfold Hid; rw [HR.out, seekF_end _ _ (by omega)]
          go_wp2
          go_ret2
          rw [HZ.out]
          exact FoundS.no B1.out

set_option maxRecDepth 100000 in
set_option maxHeartbeats 1600000 in
theorem specFirstD (n : Int) (w : World) : Calls Try.prog 23 #[.int .i64 n] w (GivesS (firstL n) (firstB n) w) := by
  have CI : Hid (∀ W, Calls Try.prog 35 #[.int .i64 n, .int .i64 1, .int .i64 4] W fun e w' => e = .returned (.bool (firstB n)) ∧ W = w') := fun W => l01In_is n 1 4 W
  by_cases hb : firstB n = true
  · have hn : 1 ≤ n ∧ n ≤ 4 := by unfold firstB at hb; simpa using hb
    obtain ⟨m, rfl⟩ : ∃ m : Nat, n = m := ⟨n.toNat, by omega⟩
    obtain ⟨tn, ts, tl⟩ := tab_is (m := m) (by omega) (by omega)
    have HL : Hid (firstL (m : Int) = natL (tabS m)) := by unfold Hid firstL; rw [if_pos hb, Int.toNat_natCast]
    rw [hb] at CI ⊢
    have CF := Lib.hid (fun (k : Nat) (hk : k ≤ 4) (v : Value) (B : Nat) (W : World) (ho : Own W B v []) ha hB => specFirstS (m : Int) (by omega) (by omega) k [] v B W ho ha (by simp; omega) (fun q h => by simp at h) hB)
    have TN := Lib.hid tn
    have TS := Lib.hid ts
    unfold FoundS at CF
    unfold GivesS
    generalize firstL (m : Int) = L at HL ⊢
    generalize tabS m = T at HL tl TN TS
    have B0 := Lib.hid (Below.refl w.heap.size w)
    have HLA : Hid (∀ W : World, Own (W.alloc (.cells #[] 3)) W.heap.size (.slice (some ⟨W.heap.size, 0, none⟩) 0 0) [] ∧ Below W.heap.size W (W.alloc (.cells #[] 3))) := fun W => ⟨Own.lit W W.heap.size (Nat.le_refl _), alloc_below W _⟩
    clear hb tn ts
    go_enter Try.func23, Try.ntmps23
    go_wp2_with fail
    refine (CI.out _).mono ?_
    rintro e w1 ⟨rfl, rfl⟩
    go_wp2_with fail
    go_loopw [4] (fun kv wr => ∃ k : Nat, k ≤ m ∧ k ≤ T.length ∧ kv = .int .i64 k ∧ Hid (Below w.heap.size w wr)) (fun kv _ => m - (intOf kv).toNat)
    case atStart => exact ⟨0, Nat.zero_le _, Nat.zero_le _, rfl, B0⟩
    case round =>
      clear B0
      obtain ⟨k, hk, hkT, rfl, B2⟩ := hrel
      obtain ⟨o1, b1⟩ := HLA.out wr
      have hbs : w.heap.size ≤ wr.heap.size := B2.out.size
      by_cases hlt : k < m
      · have k1 : (k : Int) < (m : Int) := by omega
        have C1 := Lib.hid (CF.out k (by omega) _ _ _ o1 ⟨_, _, _, rfl⟩ b1.size)
        have B3 := Lib.hid (below_up B2.out b1)
        by_cases hkt : k < T.length
        · have h1 := TN.out k hkt
          rw [h1] at C1
          clear o1 b1
          go_wp2_with fail
          refine C1.out.mono ?_
          rintro e w3 ⟨u, rfl, -, ⟨ua, un, uc, rfl⟩, bb⟩
          have B4 := Lib.hid (below_up B3.out bb)
          clear bb
          go_wp2
          go_roundw
          case rel => exact ⟨k + 1, by omega, by omega, by go_num, B4⟩
          case measure => simp [intOf]; omega
        · have hk2 : k = T.length := by omega
          have h1 := TS.out
          rw [← hk2] at h1
          rw [h1] at C1
          clear o1 b1 hk2
          go_wp2_with fail
          refine C1.out.mono ?_
          rintro e w3 ⟨u, rfl, hu, ⟨ua, un, uc, rfl⟩, bb⟩
          have B4 := Lib.hid (below_up B3.out bb)
          have O4 := Lib.hid (Own.lower (hu T rfl) hbs)
          clear bb hu
          go_wp2
          go_ret2
          exact ⟨_, rfl, by rw [HL.out]; exact O4.out, B4.out⟩
      · have hkm : k = m := by omega
        subst hkm
        have hk2 : k = T.length := by omega
        have C1 := Lib.hid (CF.out k (by omega) _ _ _ o1 ⟨_, _, _, rfl⟩ b1.size)
        have B3 := Lib.hid (below_up B2.out b1)
        have h1 := TS.out
        rw [← hk2] at h1
        rw [h1] at C1
        clear o1 b1 hk2
        go_wp2_with fail
        refine C1.out.mono ?_
        rintro e w3 ⟨u, rfl, hu, ⟨ua, un, uc, rfl⟩, bb⟩
        have B4 := Lib.hid (below_up B3.out bb)
        have O4 := Lib.hid (Own.lower (hu T rfl) hbs)
        clear bb hu
        go_wp2
        go_ret2
        exact ⟨_, rfl, by rw [HL.out]; exact O4.out, B4.out⟩
  · have hb2 : firstB n = false := by simpa using hb
    have HL : Hid (firstL n = []) := by unfold Hid firstL; rw [if_neg hb]
    rw [hb2] at CI ⊢
    generalize firstL n = L at HL ⊢
    unfold GivesS
    clear hb hb2
    go_enter Try.func23, Try.ntmps23
    go_wp2_with fail
    refine (CI.out _).mono ?_
    rintro e w1 ⟨rfl, rfl⟩
    go_wp2
    go_ret2
    exact ⟨_, rfl, by rw [HL.out]; exact Own.nil _ _, Below.refl _ _⟩

set_option maxHeartbeats 1600000 in
theorem specFewS (n : Int) (w : World) : Calls Try.prog 25 #[.int .i64 n] w fun e w' => e = .returned (.int .i64 (fewS n)) ∧ Below w.heap.size w w' := by
  have CF := Lib.hid (specFirstD n w)
  have HF : Hid (fewS n = if firstB n = true then ((firstL n).length : Int) else -1) := by
    unfold Hid fewS firstL
    split
    · rw [natL_len]
    · rfl
  unfold GivesS at CF
  generalize fewS n = r at HF ⊢
  generalize firstL n = L at CF HF
  generalize firstB n = b at CF HF
  go_enter Try.func25, Try.ntmps25
  go_wp2_with fail
  refine CF.out.mono ?_
  rintro e w1 ⟨u, rfl, ou, bb⟩
  have B := Lib.hid bb
  obtain ⟨ua, uc, hu, -⟩ := id ou.reads
  subst hu
  clear ou bb CF
  cases b with
  | false =>
    have HE : Hid (r = -1) := HF.out
    go_wp2
    go_ret
    exact ⟨ret_int HE.out.symm, B.out⟩
  | true =>
    have HE : Hid (r = (L.length : Int)) := HF.out
    go_wp2
    go_ret
    exact ⟨ret_int HE.out.symm, B.out⟩
end Go.Proofs.Ytoliloophjeooaa
