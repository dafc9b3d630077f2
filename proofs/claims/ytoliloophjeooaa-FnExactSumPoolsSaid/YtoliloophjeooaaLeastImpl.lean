/- The contract of the program's leastDetecting. Conditions: a list of the call's own. -/
import Derived.Test.YtoliloophjeooaaSumTellImpl
import Derived.Test.YtoliloophjeooaaSumFirst
import Derived.Test.YtoliloophjeooaaLeastPlain
import Derived.Test.YtoliloophjeooaaAppendHeld
namespace Go.Proofs.Ytoliloophjeooaa
open Go.RowKit

/-- What the search gives back; the list that it was given is as it was. -/
def LeastG (o : Option (List Nat)) (B : Nat) (v : Value) (L : List Int) (w : World) (e : Ending) (w' : World) : Prop :=
  ∃ u, e = .returned (.tuple #[u, .bool o.isSome]) ∧ (∀ L', o = some L' → Own w' B u (natL L')) ∧ (∃ a m c, u = .slice a m c) ∧ Own w' B v L ∧ Only (fun k => v.ownBlock = some k) w w'
theorem LeastG.no {B : Nat} {v : Value} {L : List Int} {w w' : World} {a : Option Addr} {m c : Nat} (ho : Own w' B v L) (hb : Only (fun k => v.ownBlock = some k) w w') : LeastG none B v L w (.returned (.tuple #[.slice a m c, .bool false])) w' :=
  ⟨_, rfl, fun L h => (by cases h), ⟨_, _, _, rfl⟩, ho, hb⟩
theorem LeastG.yes {B : Nat} {v : Value} {L : List Int} {w w' : World} {a : Option Addr} {m c : Nat} {L' : List Nat} (hf : Own w' B (.slice a m c) (natL L')) (ho : Own w' B v L) (hb : Only (fun k => v.ownBlock = some k) w w') : LeastG (some L') B v L w (.returned (.tuple #[.slice a m c, .bool true])) w' :=
  ⟨_, rfl, fun L h => (by cases h; exact hf), ⟨_, _, _, rfl⟩, ho, hb⟩
theorem det_natL {n : Int} {Q : List Nat} (n1 : 1 ≤ n) (n10 : n ≤ 10) (hl : Q.length ≤ 12) (hq : ∀ q ∈ Q, q < 2 ^ n.toNat) : detB n (natL Q) = detF (natL Q) (2 ^ n.toNat) := by
  unfold detB
  rw [natL_pools n1 n10 hl hq, Bool.true_and]

set_option maxRecDepth 100000 in
set_option maxHeartbeats 6400000 in
theorem implLeast (n : Int) (n1 : 1 ≤ n) (n10 : n ≤ 10) : ∀ (l a : Nat) (Q : List Nat) (v : Value) (B : Nat) (w : World), Own w B v (natL Q) → Q.length + l ≤ 12 → (∀ q ∈ Q, q < 2 ^ n.toNat) → a ≤ 2 ^ n.toNat → B ≤ w.heap.size →
    Calls Try.prog 48 #[.int .i64 n, .int .i64 (l : Int), .int .i64 (a : Int), v] w (LeastG (leastF n l a Q) B v (natL Q) w) := by
  intro l
  induction l with
  | zero =>
    intro a Q v B w ho hm hq _ hB
    have C := implDetecting n v (natL Q) w ho.reads (by rw [natL_len]; omega)
    rw [det_natL n1 n10 (by omega) hq] at C
    have O := Lib.hid ho
    have CC := Lib.hid C
    obtain ⟨ad, m, c, rfl⟩ := ho.form
    have HR : Hid (leastF n 0 a Q = if detF (natL Q) (2 ^ n.toNat) = true then some Q else none) := rfl
    clear C ho
    generalize detF (natL Q) (2 ^ n.toNat) = s at CC HR
    generalize leastF n 0 a Q = r at HR ⊢
    rw [Int.natCast_zero]
    cases s with
    | false =>
      have HE : Hid (r = none) := HR.out
      go_enter Try.func48, Try.ntmps48
      go_wp2_with fail
      refine CC.out.mono ?_
      rintro e w1 ⟨rfl, bb⟩
      have B1 := Lib.hid bb
      clear bb
      go_wp2
      go_ret2
      rw [HE.out]
      exact LeastG.no (O.out.below B1.out) (Only.fresh B1.out)
    | true =>
      have HE : Hid (r = some Q) := HR.out
      go_enter Try.func48, Try.ntmps48
      go_wp2_with fail
      refine CC.out.mono ?_
      rintro e w1 ⟨rfl, bb⟩
      have B1 := Lib.hid bb
      clear bb
      go_wp2
      go_ret2
      rw [HE.out]
      exact LeastG.yes (O.out.below B1.out) (O.out.below B1.out) (Only.fresh B1.out)
  | succ l ih =>
    intro a Q v B w ho hm hq ha hB
    obtain ⟨i0, hi, hz0, hz1, hz2⟩ := info_parts infoIntA
    have IH := Lib.hid ih
    clear ih
    obtain ⟨hs1, -, -⟩ := pow_smallS (k := n.toNat) (by omega)
    obtain ⟨N, hN⟩ : ∃ N : Nat, 2 ^ n.toNat = N := ⟨_, rfl⟩
    have hN2 : (2 : Int) ^ n.toNat = (N : Int) := by rw [← hN]; exact_mod_cast rfl
    have hNb : N ≤ 1024 := by have := pow_smallS (k := n.toNat) (by omega); omega
    rw [hN2] at hs1
    rw [hN] at ha
    obtain ⟨F, hF⟩ : ∃ F, (fun p => leastF n l (p + 1) (Q ++ [p])) = F := ⟨_, rfl⟩
    have HF : Hid (∀ p, leastF n l (p + 1) (Q ++ [p]) = F p) := fun p => by rw [← hF]
    have HR : Hid (leastF n (l + 1) a Q = seekF F (N - a) a) := by unfold Hid; rw [← hF, ← hN]; rfl
    have HW : Hid (∀ p : Nat, p < N → (Q ++ [p]).length + l ≤ 12 ∧ (∀ q ∈ Q ++ [p], q < 2 ^ n.toNat) ∧ natL (Q ++ [p]) = natL Q ++ [(p : Int)]) := fun p hp => by
      refine ⟨by rw [List.length_append, List.length_singleton]; omega, fun q hq' => ?_, natL_snoc Q p⟩
      rw [List.mem_append, List.mem_singleton] at hq'
      rcases hq' with hq' | rfl
      · exact hq q hq'
      · rw [hN]; exact hp
    have HXL := natL_len Q
    obtain ⟨k, hk⟩ : ∃ k, Q.length = k := ⟨_, rfl⟩
    rw [hk] at HXL hm
    have HLN := Lib.hid hN
    clear hq hF hk
    have hl1 : ((l + 1 : Nat) : Int) - 1 = (l : Int) := by omega
    obtain ⟨L, hL⟩ : ∃ L : Int, ((l + 1 : Nat) : Int) = L := ⟨_, rfl⟩
    rw [hL] at hl1 ⊢
    have hL0 : 0 < L ∧ L ≤ 12 := by omega
    obtain ⟨hL1, hL12⟩ := hL0
    have hLz : (L == 0) = false := beq_eq_false_iff_ne.2 (by omega)
    have hl2 : (l : Int) = L - 1 := by omega
    have IH1 : Hid (∀ (p : Nat) (v : Value) (W : World), p < N → Own W B v (natL Q ++ [(p : Int)]) → B ≤ W.heap.size → Calls Try.prog 48 #[.int .i64 n, .int .i64 (L - 1), .int .i64 ((p : Int) + 1), v] W (LeastG (F p) B v (natL Q ++ [(p : Int)]) W)) := fun p v W hp hv hB' => by
      obtain ⟨h1, h2, h3⟩ := HW.out p hp
      have := IH.out (p + 1) (Q ++ [p]) v B W (by rw [h3]; exact hv) h1 h2 (by rw [HLN.out]; omega) hB'
      rw [h3, HF.out p, hl2, Int.natCast_add, Int.natCast_one] at this
      exact this
    have HX : Hid ((natL Q).length = k) := HXL
    generalize leastF n (l + 1) a Q = r at HR ⊢
    generalize natL Q = X at IH1 ho HX ⊢
    have O1 := Lib.hid ho
    obtain ⟨av, mv, cv, rfl⟩ := ho.form
    unfold LeastG at IH1
    clear hl1 hL hl2 IH HW HF ho HXL HLN hN
    go_enter Try.func48, Try.ntmps48
    go_wp2
    go_loopw [10] (fun pv wr => ∃ p : Nat, a ≤ p ∧ p ≤ N ∧ pv = .int .i64 p ∧ Hid (r = seekF F (N - p) p) ∧ Hid (Own wr B (.slice av mv cv) X) ∧ Hid (Only (fun k => (Value.slice av mv cv).ownBlock = some k) w wr)) (fun pv _ => N - (intOf pv).toNat)
    case atStart => exact ⟨a, Nat.le_refl _, ha, by first | rfl | trivial | go_num, HR, O1, Lib.hid (Only.refl _ _)⟩
    case round =>
      clear HR O1
      obtain ⟨p, hap, hpN, rfl, HR, O1, T1⟩ := hrel
      by_cases hlt : p < N
      · have pN : (p : Int) < (N : Int) := by omega
        have HE : Hid (r = (F p).or (seekF F (N - (p + 1)) (p + 1))) := by unfold Hid; rw [HR.out, seekF_step _ hlt]
        have IH2 := Lib.hid (fun v W hv hB' => IH1.out p v W hlt hv hB')
        clear HR
        generalize F p = fb at HE IH2
        have A1 := Lib.hid (alloc_below wr (.cells #[.int .i64 (p : Int)] 3))
        have O2 := Lib.hid (O1.out.below A1.out)
        have hown := O2.out
        unfold Own at hown
        rw [HX.out] at hown
        have z1 : B ≤ (wr.alloc (.cells #[.int .i64 (p : Int)] 3)).heap.size := by have := T1.out.size; simp; omega
        go_wp2_with (at_builtin; refine wpList_append_held rfl _ _ 22 rfl B 3 i0 (.int .i64 0) 1 8 Try.underlying22 hi hz0 hz1 hz2 rfl (by decide) (.slice av mv cv) k (X.map (Value.int .i64)) rfl hown ⟨wr.heap.size, 0, none⟩ 1 1 [.int .i64 (p : Int)] rfl rfl (cell_one_new _ _ _) (by simp [Value.oneCell']) (by unfold maxLen; omega) (by omega) z1 ?_; intro v5 w5 hown5 hg5 hat5; obtain ⟨a5, n5, c5, hv5⟩ := rowFormI hown5; subst hv5; have HO5 := Lib.hid hown5; have hg5' : (wr.alloc (.cells #[.int .i64 (p : Int)] 3)).grownBy w5 (Value.slice av mv cv).ownBlock := hg5; have HG5 := Lib.hid hg5'; have HAT := Lib.hid hat5; clear hown5 hg5 hg5' hat5)
        have B5 : Hid (B ≤ w5.heap.size) := Nat.le_trans z1 HG5.out.size
        have V5 : Hid (Own w5 B (.slice a5 n5 c5) (X ++ [(p : Int)])) := by
          unfold Hid Own
          rw [List.length_append, List.length_singleton, HX.out, List.map_append]
          exact HO5.out
        have T5 : Hid (Only (fun k => (Value.slice av mv cv).ownBlock = some k) wr w5) := (Only.fresh A1.out).trans (Only.of_grown HG5.out)
        have s5 : Hid (wr.heap.size ≤ w5.heap.size) := T5.out.size
        clear hown
        go_wp2_with fail
        refine (IH2.out _ _ V5.out B5.out).mono ?_
        rintro e w6 ⟨u, rfl, hfound, ⟨a6, n6, c6, rfl⟩, o6, t6⟩
        have KEEP : Hid (Own w6 B (.slice av mv cv) X ∧ Only (fun k => (Value.slice av mv cv).ownBlock = some k) wr w6) := by
          rcases HAT.out with hat | hat
          · obtain ⟨h1, h2⟩ := hat
            have hat' : (Value.slice a5 n5 c5).ownBlock = some (wr.heap.size + 1) := by rw [h1]; simp
            have o5 : Own w5 B (.slice av mv cv) X := by unfold Own; rw [HX.out]; exact h2
            have hne : Blk (fun k => ¬ (Value.slice a5 n5 c5).ownBlock = some k) (.slice av mv cv) := fun b hb e => by
              have h3 := (O1.out.blk b hb).2
              rw [hat'] at e
              injection e with e
              omega
            exact ⟨o5.only t6 hne, ⟨t6.os.trans T5.out.os, t6.tape.trans T5.out.tape, t6.output.trans T5.out.output, Nat.le_trans T5.out.size t6.size, fun i hi hn =>
              (t6.block i (Nat.lt_of_lt_of_le hi T5.out.size) (fun e => by rw [hat'] at e; injection e with e; omega)).trans (T5.out.block i hi hn)⟩⟩
          · have o6' : w6.ownsRow B 3 1 (.slice a5 n5 c5) (k + 1) (X.map (Value.int .i64) ++ [.int .i64 (p : Int)]) := by
              have := o6
              unfold Own at this
              rw [List.length_append, List.length_singleton, HX.out, List.map_append] at this
              exact this
            obtain ⟨h1, h2⟩ := hat w6 o6'
            refine ⟨by unfold Own; rw [HX.out]; exact h1, T5.out.trans (t6.mono fun k hk => by rw [← h2]; exact hk)⟩
        have HFO := Lib.hid hfound
        have HT : Hid (Only (fun k => (Value.slice av mv cv).ownBlock = some k) w w6) := T1.out.trans KEEP.out.2
        clear hfound o6 t6
        cases fb with
        | none =>
          have HE2 : Hid (r = seekF F (N - (p + 1)) (p + 1)) := HE.out
          go_wp2
          go_roundw
          case rel => exact ⟨p + 1, by omega, by omega, by go_num, HE2, Lib.hid KEEP.out.1, HT⟩
          case measure => simp [intOf]; omega
        | some L' =>
          have HE2 : Hid (r = some L') := HE.out
          go_wp2
          go_ret2
          rw [HE2.out]
          exact LeastG.yes (HFO.out L' rfl) KEEP.out.1 HT.out
      · obtain rfl : p = N := by omega
        have HE2 : Hid (r = none) := by unfold Hid; rw [HR.out, Nat.sub_self]; rfl
        go_wp2
        go_ret2
        rw [HE2.out]
        exact LeastG.no O1.out T1.out
end Go.Proofs.Ytoliloophjeooaa
