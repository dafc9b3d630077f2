/- Several texts in one file; each says what it proves and under which condition. No condition. -/
import Derived.Test.YtlflblngbneacabGreatDoorGSumL
import Derived.Test.YtlflblngbneacabGreatDoorGBase
import Derived.Maps.AppendAt
import Derived.Test.YtlflblngbneacabGreatDoorGTell
/- The program's search for the first list of detecting pools, plainly: it finds the list that the model finds. No condition. -/
namespace Go.Proofs.YtlflblngbneacabGreatDoor
open Go.RowKit

/-- The first list of so many pools more, in ascending order, from a pool on, that detects all sets. -/
def leastF (n : Int) : Nat → Nat → List Nat → Option (List Nat)
  | 0, _, Q => if detF (natL Q) (2 ^ n.toNat) = true then some Q else none
  | l + 1, a, Q => seekF (fun p => leastF n l (p + 1) (Q ++ [p])) (2 ^ n.toNat - a) a
theorem least_none : ∀ n : Nat, n ≤ 3 → ∀ k : Nat, k < (tabS (n + 1)).length → leastF ((n + 1 : Nat) : Int) k 0 [] = none := by decide +kernel
theorem least_some : ∀ n : Nat, n ≤ 3 → leastF ((n + 1 : Nat) : Int) (tabS (n + 1)).length 0 [] = some (tabS (n + 1)) := by decide +kernel
theorem least_is {m : Nat} (h1 : 1 ≤ m) (h4 : m ≤ 4) : (∀ k : Nat, k < (tabS m).length → leastF (m : Int) k 0 [] = none) ∧ leastF (m : Int) (tabS m).length 0 [] = some (tabS m) := by
  obtain ⟨q, rfl⟩ : ∃ q, m = q + 1 := ⟨m - 1, by omega⟩
  exact ⟨least_none q (by omega), least_some q (by omega)⟩
end Go.Proofs.YtlflblngbneacabGreatDoor

/- An append onto a slice of the call's own, behind which the old slice still owns its row, as often as the new one does. No condition of its own. -/
namespace Go.Proofs.YtlflblngbneacabGreatDoor
open Go.RowKit

theorem owns_front {W : World} {base e size n m cap g : Nat} {xs news : List Value} (hl : xs.length = n * size) (h : W.ownsRow base e size (.slice (some ⟨g, 0, none⟩) (n + m) cap) (n + m) (xs ++ news)) : W.ownsRow base e size (.slice (some ⟨g, 0, none⟩) n cap) n xs := by
  refine ⟨hl, ?_⟩
  rcases h.2 with ⟨h0, _⟩ | ⟨g', cap', cur, h0, hb, hg, hn, hc, hs, ht⟩
  · cases h0
  · cases h0
    refine .inr ⟨g, cap, cur, rfl, hb, hg, by omega, hc, hs, ?_⟩
    have h1 := congrArg (List.take (n * size)) ht
    rw [List.take_take, Nat.min_eq_left (Nat.mul_le_mul_right _ (by omega)), ← hl, List.take_left, hl] at h1
    exact h1

theorem run_append_held {P : Program} (w : World) (base : Nat) (t ty e : TypeId) (i : TypeInfo) (z : Value) (size bytes : Nat) (ht : P.underlying t = some (.slice e)) (hi : P.info? e = some i) (hz : i.zero = some z)
    (hsize : i.size = size) (hby : i.bytes = bytes) (hzs : z.cells.size = size) (hsz : 0 < size)
    (v : Value) (n : Nat) (xs : List Value) (hown : w.ownsRow base e size v n xs)
    (a : Addr) (m c : Nat) (news : List Value) (hl : news.length = m * size) (hnews : ∀ j u, news[j]? = some u → w.cell? (a.add j) = some u) (h1 : ∀ u ∈ news, u.oneCell' = true)
    (h63 : n + m ≤ maxLen) (hbytes : (n + m) * bytes ≤ 140737488355328) (hbase : base ≤ w.heap.size) :
    ∃ v' w', (Builtin.append_ #[t, t] ty #[v, .slice (some a) m c]).run P w = .ok v' w' ∧ w'.ownsRow base e size v' (n + m) (xs ++ news) ∧ w.grownBy w' v.ownBlock ∧
      ((v'.ownBlock = some w.heap.size ∧ w'.ownsRow base e size v n xs) ∨ ∀ W : World, W.ownsRow base e size v' (n + m) (xs ++ news) → W.ownsRow base e size v n xs ∧ v'.ownBlock = v.ownBlock) := by
  obtain ⟨v', w', hr, h2, h3, h4, h5⟩ := run_append_own_at (P := P) w base t ty e i z size bytes ht hi hz hsize hby hzs hsz v n xs hown a m c news hl hnews h1 h63 hbytes hbase
  refine ⟨v', w', hr, h2, h3, ?_⟩
  rcases hown.2 with ⟨rfl, rfl⟩ | ⟨g, cap, cur, rfl, hbg, hg, hnc, hcm, hcs, htake⟩
  · have hx : xs = [] := List.eq_nil_of_length_eq_zero (by simpa using hown.1)
    rcases h5 with h5 | h5
    · exact .inr fun W hW => ⟨by rw [hx]; exact World.ownsRow_nil _ _ _ _, h5⟩
    · exact .inl ⟨h5, by rw [hx]; exact World.ownsRow_nil _ _ _ _⟩
  · by_cases hroom : n + m ≤ cap
    · have hfit : n * i.size + news.length ≤ cur.size := by rw [hl, hcs, hsize, ← Nat.add_mul]; exact Nat.mul_le_mul_right _ hroom
      have hr2 := run_append_room (P := P) w t ty e i ht hi g n cap cur hg a m c news (by rw [hsize]; exact hl) hnews h1 hroom hfit
      rw [hr2] at hr
      injection hr with e1 e2
      subst e1
      exact .inr fun W hW => ⟨owns_front hown.1 hW, rfl⟩
    · have holds : ∀ j u, xs[j]? = some u → w.cell? ((⟨g, 0, none⟩ : Addr).add j) = some u := hown.cells (g := g) rfl
      have hr2 := run_append_grow (P := P) w t ty e i z ht hi hz ⟨g, 0, none⟩ n cap xs (by rw [hsize]; exact hown.1) holds a m c news (by rw [hsize]; exact hl) hnews (by omega) (by unfold maxLen at h63; omega) (growslice_fits (by omega) (by rw [hby]; exact hbytes))
      rw [hr2] at hr
      injection hr with e1 e2
      subst e1
      subst e2
      exact .inl ⟨rfl, (show w.drew.ownsRow base e size _ n xs from hown).alloc _⟩

theorem wpList_append_held {P : Program} {w : World} {ops : Array Oper} {rest : List Oper} {o : Oper} {a : Act} {Q : Exit → Act → World → Prop} (hgd : o.guard = none) (s x : Operand) (t : TypeId)
    (ho : o.op = .call { callee := .builtin .append, args := #[s, x], argTypes := #[t, t] })
    (base : Nat) (e : TypeId) (i : TypeInfo) (z : Value) (size bytes : Nat) (ht : P.underlying t = some (.slice e)) (hi : P.info? e = some i) (hz : i.zero = some z)
    (hsize : i.size = size) (hby : i.bytes = bytes) (hzs : z.cells.size = size) (hsz : 0 < size)
    (v : Value) (n : Nat) (xs : List Value) (hs : a.eval s = v) (hown : w.ownsRow base e size v n xs)
    (ad : Addr) (m c : Nat) (news : List Value) (hx : a.eval x = .slice (some ad) m c) (hl : news.length = m * size) (hnews : ∀ j u, news[j]? = some u → w.cell? (ad.add j) = some u) (h1 : ∀ u ∈ news, u.oneCell' = true)
    (h63 : n + m ≤ maxLen) (hbytes : (n + m) * bytes ≤ 140737488355328) (hbase : base ≤ w.heap.size)
    (h : ∀ v' w', w'.ownsRow base e size v' (n + m) (xs ++ news) → w.grownBy w' v.ownBlock → ((v'.ownBlock = some w.heap.size ∧ w'.ownsRow base e size v n xs) ∨ ∀ W : World, W.ownsRow base e size v' (n + m) (xs ++ news) → W.ownsRow base e size v n xs ∧ v'.ownBlock = v.ownBlock) → wpList P ops Q rest (a.put o.dst v') w') :
    wpList P ops Q (o :: rest) a w := by
  refine wpList_plain hgd fun K hK => ?_
  obtain ⟨v', w', hr, h2, h3, h4⟩ := run_append_held (P := P) w base t o.type e i z size bytes ht hi hz hsize hby hzs hsz v n xs hown ad m c news hl hnews h1 h63 hbytes hbase
  unfold Oper.wp execOp
  simp only [ho, resolve, invoke, builtin, Sem.run_bind, Sem.run_pure, Result.andThen_ok, List.map_toArray, List.map_cons, List.map_nil, hs, hx, hr]
  exact hK _ _ (h v' w' h2 h3 h4)
end Go.Proofs.YtlflblngbneacabGreatDoor

/- The contract of the program's leastDetecting. Conditions: a list of the call's own. -/
namespace Go.Proofs.YtlflblngbneacabGreatDoor
open Go.RowKit

/-- What the search gives back; the list that it was given is as it was. -/
def LeastG (o : Option (List Nat)) (B : Nat) (v : Value) (L : List Int) (w : World) (e : Ending) (w' : World) : Prop :=
  ∃ u, e = .returned (.tuple #[u, .bool o.isSome]) ∧ (∀ L', o = some L' → Own w' B u (natL L')) ∧ (∃ a m c, u = .slice a m c) ∧ Own w' B v L ∧ Only (fun k => v.ownBlock = some k) w w'
theorem LeastG.no {B : Nat} {v : Value} {L : List Int} {w w' : World} {a : Option Addr} {m c : Nat} (ho : Own w' B v L) (hb : Only (fun k => v.ownBlock = some k) w w') : LeastG none B v L w (.returned (.tuple #[.slice a m c, .bool false])) w' :=
  ⟨_, rfl, fun L h => (by cases h), ⟨_, _, _, rfl⟩, ho, hb⟩
theorem LeastG.yes {B : Nat} {v : Value} {L : List Int} {w w' : World} {a : Option Addr} {m c : Nat} {L' : List Nat} (hf : Own w' B (.slice a m c) (natL L')) (ho : Own w' B v L) (hb : Only (fun k => v.ownBlock = some k) w w') : LeastG (some L') B v L w (.returned (.tuple #[.slice a m c, .bool true])) w' :=
  ⟨_, rfl, fun L h => (by cases h; exact hf), ⟨_, _, _, rfl⟩, ho, hb⟩
theorem det_natL {n : Int} {Q : List Nat} (n1 : 1 ≤ n) (n10 : n ≤ 10) (hl : Q.length ≤ 12) (hq : ∀ q ∈ Q, q < 2 ^ n.toNat) : detB n (natL Q) = detF (natL Q) (2 ^ n.toNat) := by
  unfold detB
  rw [natL_pools n1 n10 hl hq, Bool.true_and]

set_option maxRecDepth 100000 in
set_option maxHeartbeats 6400000 in
theorem implLeast (n : Int) (n1 : 1 ≤ n) (n10 : n ≤ 10) : ∀ (l a : Nat) (Q : List Nat) (v : Value) (B : Nat) (w : World), Own w B v (natL Q) → Q.length + l ≤ 12 → (∀ q ∈ Q, q < 2 ^ n.toNat) → a ≤ 2 ^ n.toNat → B ≤ w.heap.size →
    Calls Tryz.prog 74 #[.int .i64 n, .int .i64 (l : Int), .int .i64 (a : Int), v] w (LeastG (leastF n l a Q) B v (natL Q) w) := by
  intro l
  induction l with
  | zero =>
    intro a Q v B w ho hm hq _ hB
    have C := implDetecting n v (natL Q) w ho.reads (by rw [natL_len]; omega)
    rw [det_natL n1 n10 (by omega) hq] at C
    have O := Lib.hid ho
    have CC := Lib.hid C
    obtain ⟨ad, m, c, rfl⟩ := ho.form
    have HR : Hid (leastF n 0 a Q = if detF (natL Q) (2 ^ n.toNat) = true then some Q else none) := rfl
    clear C ho
    generalize detF (natL Q) (2 ^ n.toNat) = s at CC HR
    generalize leastF n 0 a Q = r at HR ⊢
    rw [Int.natCast_zero]
    cases s with
    | false =>
      have HE : Hid (r = none) := HR.out
      go_enter Tryz.func74, Tryz.ntmps74
      go_wp2_with fail
      refine CC.out.mono ?_
      rintro e w1 ⟨rfl, bb⟩
      have B1 := Lib.hid bb
      clear bb
      go_wp2
      go_ret2
      rw [HE.out]
      exact LeastG.no (O.out.below B1.out) (Only.fresh B1.out)
    | true =>
      have HE : Hid (r = some Q) := HR.out
      go_enter Tryz.func74, Tryz.ntmps74
      go_wp2_with fail
      refine CC.out.mono ?_
      rintro e w1 ⟨rfl, bb⟩
      have B1 := Lib.hid bb
      clear bb
      go_wp2
      go_ret2
      rw [HE.out]
      exact LeastG.yes (O.out.below B1.out) (O.out.below B1.out) (Only.fresh B1.out)
  | succ l ih =>
    intro a Q v B w ho hm hq ha hB
    obtain ⟨i0, hi, hz0, hz1, hz2⟩ := info_parts infoIntA
    have IH := Lib.hid ih
    clear ih
    obtain ⟨hs1, -, -⟩ := pow_smallS (k := n.toNat) (by omega)
    obtain ⟨N, hN⟩ : ∃ N : Nat, 2 ^ n.toNat = N := ⟨_, rfl⟩
    have hN2 : (2 : Int) ^ n.toNat = (N : Int) := by rw [← hN]; exact_mod_cast rfl
    have hNb : N ≤ 1024 := by have := pow_smallS (k := n.toNat) (by omega); omega
    rw [hN2] at hs1
    rw [hN] at ha
    obtain ⟨F, hF⟩ : ∃ F, (fun p => leastF n l (p + 1) (Q ++ [p])) = F := ⟨_, rfl⟩
    have HF : Hid (∀ p, leastF n l (p + 1) (Q ++ [p]) = F p) := fun p => by rw [← hF]
    have HR : Hid (leastF n (l + 1) a Q = seekF F (N - a) a) := by unfold Hid; rw [← hF, ← hN]; rfl
    have HW : Hid (∀ p : Nat, p < N → (Q ++ [p]).length + l ≤ 12 ∧ (∀ q ∈ Q ++ [p], q < 2 ^ n.toNat) ∧ natL (Q ++ [p]) = natL Q ++ [(p : Int)]) := fun p hp => by
      refine ⟨by rw [List.length_append, List.length_singleton]; omega, fun q hq' => ?_, natL_snoc Q p⟩
      rw [List.mem_append, List.mem_singleton] at hq'
      rcases hq' with hq' | rfl
      · exact hq q hq'
      · rw [hN]; exact hp
    have HXL := natL_len Q
    obtain ⟨k, hk⟩ : ∃ k, Q.length = k := ⟨_, rfl⟩
    rw [hk] at HXL hm
    have HLN := Lib.hid hN
    clear hq hF hk
    have hl1 : ((l + 1 : Nat) : Int) - 1 = (l : Int) := by omega
    obtain ⟨L, hL⟩ : ∃ L : Int, ((l + 1 : Nat) : Int) = L := ⟨_, rfl⟩
    rw [hL] at hl1 ⊢
    have hL0 : 0 < L ∧ L ≤ 12 := by omega
    obtain ⟨hL1, hL12⟩ := hL0
    have hLz : (L == 0) = false := beq_eq_false_iff_ne.2 (by omega)
    have hl2 : (l : Int) = L - 1 := by omega
    have IH1 : Hid (∀ (p : Nat) (v : Value) (W : World), p < N → Own W B v (natL Q ++ [(p : Int)]) → B ≤ W.heap.size → Calls Tryz.prog 74 #[.int .i64 n, .int .i64 (L - 1), .int .i64 ((p : Int) + 1), v] W (LeastG (F p) B v (natL Q ++ [(p : Int)]) W)) := fun p v W hp hv hB' => by
      obtain ⟨h1, h2, h3⟩ := HW.out p hp
      have := IH.out (p + 1) (Q ++ [p]) v B W (by rw [h3]; exact hv) h1 h2 (by rw [HLN.out]; omega) hB'
      rw [h3, HF.out p, hl2, Int.natCast_add, Int.natCast_one] at this
      exact this
    have HX : Hid ((natL Q).length = k) := HXL
    generalize leastF n (l + 1) a Q = r at HR ⊢
    generalize natL Q = X at IH1 ho HX ⊢
    have O1 := Lib.hid ho
    obtain ⟨av, mv, cv, rfl⟩ := ho.form
    unfold LeastG at IH1
    clear hl1 hL hl2 IH HW HF ho HXL HLN hN
    go_enter Tryz.func74, Tryz.ntmps74
    go_wp2
    go_loopw [10] (fun pv wr => ∃ p : Nat, a ≤ p ∧ p ≤ N ∧ pv = .int .i64 p ∧ Hid (r = seekF F (N - p) p) ∧ Hid (Own wr B (.slice av mv cv) X) ∧ Hid (Only (fun k => (Value.slice av mv cv).ownBlock = some k) w wr)) (fun pv _ => N - (intOf pv).toNat)
    case atStart => exact ⟨a, Nat.le_refl _, ha, by first | rfl | trivial | go_num, HR, O1, Lib.hid (Only.refl _ _)⟩
    case round =>
      clear HR O1
      obtain ⟨p, hap, hpN, rfl, HR, O1, T1⟩ := hrel
      by_cases hlt : p < N
      · have pN : (p : Int) < (N : Int) := by omega
        have HE : Hid (r = (F p).or (seekF F (N - (p + 1)) (p + 1))) := by unfold Hid; rw [HR.out, seekF_step _ hlt]
        have IH2 := Lib.hid (fun v W hv hB' => IH1.out p v W hlt hv hB')
        clear HR
        generalize F p = fb at HE IH2
        have A1 := Lib.hid (alloc_below wr (.cells #[.int .i64 (p : Int)] 3))
        have O2 := Lib.hid (O1.out.below A1.out)
        have hown := O2.out
        unfold Own at hown
        rw [HX.out] at hown
        have z1 : B ≤ (wr.alloc (.cells #[.int .i64 (p : Int)] 3)).heap.size := by have := T1.out.size; simp; omega
        go_wp2_with (at_builtin; refine wpList_append_held rfl _ _ 26 rfl B 3 i0 (.int .i64 0) 1 8 Tryz.underlying26 hi hz0 hz1 hz2 rfl (by decide) (.slice av mv cv) k (X.map (Value.int .i64)) rfl hown ⟨wr.heap.size, 0, none⟩ 1 1 [.int .i64 (p : Int)] rfl rfl (cell_one_new _ _ _) (by simp [Value.oneCell']) (by unfold maxLen; omega) (by omega) z1 ?_; intro v5 w5 hown5 hg5 hat5; obtain ⟨a5, n5, c5, hv5⟩ := rowFormI hown5; subst hv5; have HO5 := Lib.hid hown5; have hg5' : (wr.alloc (.cells #[.int .i64 (p : Int)] 3)).grownBy w5 (Value.slice av mv cv).ownBlock := hg5; have HG5 := Lib.hid hg5'; have HAT := Lib.hid hat5; clear hown5 hg5 hg5' hat5)
        have B5 : Hid (B ≤ w5.heap.size) := Nat.le_trans z1 HG5.out.size
        have V5 : Hid (Own w5 B (.slice a5 n5 c5) (X ++ [(p : Int)])) := by
          unfold Hid Own
          rw [List.length_append, List.length_singleton, HX.out, List.map_append]
          exact HO5.out
        have T5 : Hid (Only (fun k => (Value.slice av mv cv).ownBlock = some k) wr w5) := (Only.fresh A1.out).trans (Only.of_grown HG5.out)
        have s5 : Hid (wr.heap.size ≤ w5.heap.size) := T5.out.size
        clear hown
        go_wp2_with fail
        refine (IH2.out _ _ V5.out B5.out).mono ?_
        rintro e w6 ⟨u, rfl, hfound, ⟨a6, n6, c6, rfl⟩, o6, t6⟩
        have KEEP : Hid (Own w6 B (.slice av mv cv) X ∧ Only (fun k => (Value.slice av mv cv).ownBlock = some k) wr w6) := by
          rcases HAT.out with hat | hat
          · obtain ⟨h1, h2⟩ := hat
            have hat' : (Value.slice a5 n5 c5).ownBlock = some (wr.heap.size + 1) := by rw [h1]; simp
            have o5 : Own w5 B (.slice av mv cv) X := by unfold Own; rw [HX.out]; exact h2
            have hne : Blk (fun k => ¬ (Value.slice a5 n5 c5).ownBlock = some k) (.slice av mv cv) := fun b hb e => by
              have h3 := (O1.out.blk b hb).2
              rw [hat'] at e
              injection e with e
              omega
            exact ⟨o5.only t6 hne, ⟨t6.os.trans T5.out.os, t6.tape.trans T5.out.tape, t6.output.trans T5.out.output, Nat.le_trans T5.out.size t6.size, fun i hi hn =>
              (t6.block i (Nat.lt_of_lt_of_le hi T5.out.size) (fun e => by rw [hat'] at e; injection e with e; omega)).trans (T5.out.block i hi hn)⟩⟩
          · have o6' : w6.ownsRow B 3 1 (.slice a5 n5 c5) (k + 1) (X.map (Value.int .i64) ++ [.int .i64 (p : Int)]) := by
              have := o6
              unfold Own at this
              rw [List.length_append, List.length_singleton, HX.out, List.map_append] at this
              exact this
            obtain ⟨h1, h2⟩ := hat w6 o6'
            refine ⟨by unfold Own; rw [HX.out]; exact h1, T5.out.trans (t6.mono fun k hk => by rw [← h2]; exact hk)⟩
        have HFO := Lib.hid hfound
        have HT : Hid (Only (fun k => (Value.slice av mv cv).ownBlock = some k) w w6) := T1.out.trans KEEP.out.2
        clear hfound o6 t6
        cases fb with
        | none =>
          have HE2 : Hid (r = seekF F (N - (p + 1)) (p + 1)) := HE.out
          go_wp2
          go_roundw
          case rel => exact ⟨p + 1, by omega, by omega, by go_num, HE2, Lib.hid KEEP.out.1, HT⟩
          case measure => simp [intOf]; omega
        | some L' =>
          have HE2 : Hid (r = some L') := HE.out
          go_wp2
          go_ret2
          rw [HE2.out]
          exact LeastG.yes (HFO.out L' rfl) KEEP.out.1 HT.out
      · obtain rfl : p = N := by omega
        have HE2 : Hid (r = none) := by unfold Hid; rw [HR.out, Nat.sub_self]; rfl
        go_wp2
        go_ret2
        rw [HE2.out]
        exact LeastG.no O1.out T1.out
end Go.Proofs.YtlflblngbneacabGreatDoor

/- The contracts of the program's FirstDetecting, FewestSums and ExtendDetecting. Conditions: for the last the slice reads as integers. -/
namespace Go.Proofs.YtlflblngbneacabGreatDoor
open Go.RowKit

set_option maxRecDepth 100000 in
set_option maxHeartbeats 3200000 in
theorem implFirst (n : Int) (w : World) : Calls Tryz.prog 24 #[.int .i64 n] w (GivesS (firstL n) (firstB n) w) := by
  by_cases h : 1 ≤ n ∧ n ≤ 4
  · have hb : firstB n = true := by unfold firstB; rw [decide_eq_true h.1, decide_eq_true h.2]; rfl
    have hL : firstL n = natL (tabS n.toNat) := by unfold firstL; rw [if_pos hb]
    rw [hb, hL]
    obtain ⟨n1, n4⟩ := h
    obtain ⟨m, hm⟩ : ∃ m, n.toNat = m := ⟨_, rfl⟩
    have hnm : n = (m : Int) := by omega
    obtain ⟨ht0, ht1⟩ := least_is (m := m) (by omega) (by omega)
    have htl : (tabS m).length ≤ 4 := Nat.le_trans (tab_is (m := m) (by omega) (by omega)).2.2 (by omega)
    rw [hm]
    rw [← hnm] at ht0 ht1
    have CL : Hid (∀ k : Nat, k ≤ 4 → ∀ W, Calls Tryz.prog 74 #[.int .i64 n, .int .i64 (k : Int), .int .i64 0, .slice none 0 0] W (LeastG (leastF n k 0 []) W.heap.size (.slice none 0 0) [] W)) := fun k hk W => by
      have := implLeast n n1 (by omega) k 0 [] (.slice none 0 0) W.heap.size W (Own.nil _ _) (by simp; omega) (fun q hq => by cases hq) (Nat.zero_le _) (Nat.le_refl _)
      rwa [Int.natCast_zero] at this
    have H0 := Lib.hid ht0
    have H1 := Lib.hid ht1
    unfold LeastG at CL
    unfold GivesS
    obtain ⟨T, hT⟩ : ∃ T, (tabS m).length = T := ⟨_, rfl⟩
    rw [hT] at H0 H1 htl
    generalize tabS m = R at H1 ⊢
    generalize leastF n = LF at CL H0 H1
    clear ht0 ht1 hT hb hL hnm hm
    have O0 : Hid (Own w w.heap.size (.slice none 0 0) []) := Own.nil _ _
    have c1 : ¬ n < 1 := by omega
    have c2 : ¬ 4 < n := by omega
    go_enter Tryz.func24, Tryz.ntmps24
    go_wp2
    go_loopw [4, 5, 6] (fun pv fv kv wr => ∃ (k : Nat) (b : Bool), k ≤ T + 1 ∧ kv = .int .i64 k ∧ fv = .bool b ∧ (b = false → k ≤ T) ∧ (∃ a m c, pv = .slice a m c) ∧ Hid (b = true → Own wr w.heap.size pv (natL R)) ∧ Hid (Below w.heap.size w wr)) (fun _ fv kv _ => (T + 1 - (intOf kv).toNat) + (match fv with | .bool false => 1 | _ => 0))
    case atStart => exact ⟨0, false, by omega, rfl, rfl, fun _ => by omega, ⟨_, _, _, rfl⟩, Lib.hid (fun e => by cases e), Lib.hid (Below.refl _ _)⟩
    case round =>
      clear O0
      obtain ⟨k, b, hk, rfl, rfl, hb, ⟨a6, m6, c6, rfl⟩, O1, B1⟩ := hrel
      cases b with
      | true =>
        go_wp2
        go_ret2
        exact ⟨_, rfl, O1.out (by first | rfl | trivial), B1.out⟩
      | false =>
        have hkT := hb rfl
        have CK := Lib.hid (CL.out k (by omega) wr)
        have hs1 := B1.out.size
        clear hb
        go_wp2_with fail
        refine CK.out.mono ?_
        rintro e w2 ⟨u, rfl, hf, ⟨a7, m7, c7, rfl⟩, -, t7⟩
        have B2 : Hid (Below w.heap.size w w2) := below_up B1.out ⟨t7.os, t7.tape, t7.output, t7.size, fun i hi => t7.block i hi (by simp [Value.ownBlock])⟩
        have HF := Lib.hid hf
        clear hf t7 O1
        by_cases he : k = T
        · subst he
          have HE := H1.out
          rw [HE] at HF
          have O2 := Lib.hid (Own.lower (HF.out R rfl) hs1)
          rw [HE]
          go_wp2
          go_roundw
          case rel => exact ⟨k + 1, true, by omega, by go_num, rfl, (fun e => by cases e), ⟨_, _, _, rfl⟩, Lib.hid (fun _ => O2.out), B2⟩
          case measure => simp [intOf]
        · have HE := H0.out k (by omega)
          rw [HE]
          clear HF
          go_wp2
          go_roundw
          case rel => exact ⟨k + 1, false, by omega, by go_num, rfl, fun _ => by omega, ⟨_, _, _, rfl⟩, Lib.hid (fun e => by cases e), B2⟩
          case measure => simp [intOf]; omega
  · have hb : firstB n = false := by unfold firstB; simp; omega
    have hL : firstL n = [] := by unfold firstL; rw [if_neg (by rw [hb]; decide)]
    rw [hb, hL]
    unfold GivesS
    clear hb hL
    by_cases c1 : n < 1
    · go_enter Tryz.func24, Tryz.ntmps24
      go_wp2
      go_ret2
      exact ⟨_, rfl, Own.nil _ _, Below.refl _ _⟩
    · have c2 : 4 < n := by omega
      go_enter Tryz.func24, Tryz.ntmps24
      go_wp2
      go_ret2
      exact ⟨_, rfl, Own.nil _ _, Below.refl _ _⟩

set_option maxHeartbeats 1600000 in
theorem implFewestS (n : Int) (w : World) : Calls Tryz.prog 26 #[.int .i64 n] w fun e w' => e = .returned (.int .i64 (fewS n)) ∧ Below w.heap.size w w' := by
  have CF := Lib.hid (implFirst n w)
  unfold GivesS at CF
  have HL := firstL_len n
  by_cases hb : firstB n = true
  · have HE : Hid (fewS n = ((firstL n).length : Int)) := by unfold Hid fewS firstL; rw [if_pos hb, if_pos hb, natL_len]
    rw [hb] at CF
    generalize firstL n = R at CF HE HL
    generalize fewS n = r at HE ⊢
    clear hb
    go_enter Tryz.func26, Tryz.ntmps26
    go_wp2_with fail
    refine CF.out.mono ?_
    rintro e w2 ⟨u, rfl, o, bb⟩
    obtain ⟨a, c, rfl, -⟩ := o.reads
    have B := Lib.hid bb
    clear o bb
    go_wp2
    go_ret
    exact ⟨ret_int HE.out.symm, B.out⟩
  · have hb2 : firstB n = false := by simpa using hb
    have HE : Hid (fewS n = -1) := by unfold Hid fewS; rw [if_neg hb]
    rw [hb2] at CF
    generalize firstL n = R at CF HL
    generalize fewS n = r at HE ⊢
    clear hb hb2
    go_enter Tryz.func26, Tryz.ntmps26
    go_wp2_with fail
    refine CF.out.mono ?_
    rintro e w2 ⟨u, rfl, o, bb⟩
    obtain ⟨a, m, c, rfl⟩ := o.form
    have B := Lib.hid bb
    clear o bb
    go_wp2
    go_ret
    exact ⟨ret_int HE.out.symm, B.out⟩
end Go.Proofs.YtlflblngbneacabGreatDoor

/- The contract of the program's DecodeSums. Conditions: the slices read as integers and are short enough to be counted. -/
namespace Go.Proofs.YtlflblngbneacabGreatDoor
open Go.RowKit

end Go.Proofs.YtlflblngbneacabGreatDoor
