/- The contracts of the model's IsDisjunct, Weakness and IsSeparable. Condition: the slice reads as integers. -/
import Derived.Test.YtaoigfopnndicaaDisPlain
import Derived.Test.YtaoigfopnndicaaSetsSpec
namespace Go.Proofs.Ytaoigfopnndicaa
open Go.RowKit

set_option maxHeartbeats 1600000 in
theorem specFree (v : Value) (P : List Int) (item set : Int) (w : World) (h : IntsAt w v P) (hm : P.length ≤ maxLen) :
    Calls Try.prog 45 #[v, .int .i64 item, .int .i64 set] w fun e w' => e = .returned (.bool (freeB P item set)) ∧ w = w' := by
  have HE : Hid (freeB P item set = P.any fun p => bits .and .i64 p item != 0 && bits .and .i64 p set == 0) := rfl
  obtain ⟨a, c, rfl, h⟩ := h
  have H := Lib.hid h
  unfold maxLen at hm
  clear h
  generalize freeB P item set = r at HE ⊢
  obtain ⟨m, hmm⟩ : ∃ m, P.length = m := ⟨_, rfl⟩
  rw [hmm] at hm ⊢
  have HN := Lib.hid hmm
  clear hmm
  go_enter Try.func45, Try.ntmps45
  go_wp2
  go_loopw [11] (fun iv wr => ∃ i : Nat, i ≤ m ∧ iv = .int .i64 i ∧ wr = w ∧ Hid (((P.take i).any fun p => bits .and .i64 p item != 0 && bits .and .i64 p set == 0) = false)) (fun iv _ => m - (intOf iv).toNat)
  case atStart => exact ⟨0, Nat.zero_le _, rfl, rfl, by unfold Hid; simp⟩
  case round =>
    obtain ⟨i, hi, rfl, rfl, HT⟩ := hrel
    by_cases hlt : i < m
    · have hil : i < P.length := by rw [HN.out]; exact hlt
      rcases H.out with h0 | ⟨b, o, rfl, hc⟩
      · rw [h0] at hil; simp at hil
      have e0 := hc i hil
      obtain ⟨p, hp⟩ : ∃ p, P[i] = p := ⟨_, rfl⟩
      rw [hp] at e0
      have HTS : Hid (((P.take (i + 1)).any fun p => bits .and .i64 p item != 0 && bits .and .i64 p set == 0) = (bits .and .i64 p item != 0 && bits .and .i64 p set == 0)) := by unfold Hid; rw [List.take_succ_eq_append_getElem hil, List.any_append, HT.out, hp]; simp
      have HNO : Hid ((bits .and .i64 p item != 0 && bits .and .i64 p set == 0) = true → r = true) := fun hb => by
        rw [HE.out, List.any_eq_true]
        exact ⟨P[i], List.getElem_mem hil, by rw [hp]; exact hb⟩
      have i0 : (0 : Int) ≤ (i : Int) := by omega
      have i1 : (i : Int) < (m : Int) := by omega
      clear hc hil hp HT
      by_cases hx : bits .and .i64 p item = 0
      · have hb : (bits .and .i64 p item != 0 && bits .and .i64 p set == 0) = false := by rw [hx]; rfl
        have HS : Hid (((P.take (i + 1)).any fun p => bits .and .i64 p item != 0 && bits .and .i64 p set == 0) = false) := by unfold Hid; rw [HTS.out, hb]
        clear HTS HNO
        go_wp2
        go_roundw
        case rel => exact ⟨i + 1, by omega, by go_num, by first | rfl | trivial, HS⟩
        case measure => simp [intOf]; omega
      · cases hb : (bits .and .i64 p item != 0 && bits .and .i64 p set == 0) with
        | false =>
          have HS : Hid (((P.take (i + 1)).any fun p => bits .and .i64 p item != 0 && bits .and .i64 p set == 0) = false) := by unfold Hid; rw [HTS.out, hb]
          clear HTS HNO
          go_wp2
          go_roundw
          case rel => exact ⟨i + 1, by omega, by go_num, by first | rfl | trivial, HS⟩
          case measure => simp [intOf]; omega
        | true =>
          have HF : Hid (r = true) := HNO.out hb
          clear HTS HNO
          go_wp2
          go_ret
          exact ⟨ret_bool HF.out.symm, rfl⟩
    · obtain rfl : i = m := by omega
      have HF : Hid (r = false) := by
        have := HT.out
        rw [List.take_of_length_le (by rw [HN.out]; omega)] at this
        unfold Hid
        rw [HE.out, this]
      go_wp2
      go_ret
      exact ⟨ret_bool HF.out.symm, rfl⟩

theorem pow_small {k : Nat} (h : k ≤ 10) : IntKind.i64.wrap (2 ^ k) = 2 ^ k ∧ (1 : Int) ≤ 2 ^ k ∧ (2 : Int) ^ k ≤ 1024 := by
  have := two_pow_in k h
  refine ⟨?_, this⟩
  rw [IntKind.wrap_i64]
  omega

set_option maxRecDepth 100000 in
set_option maxHeartbeats 3200000 in
theorem specIsDisjunct (n : Int) (v : Value) (P : List Int) (d : Int) (w : World) (h : IntsAt w v P) (hm : P.length ≤ maxLen) :
    Calls Try.prog 16 #[.int .i64 n, v, .int .i64 d] w fun e w' => e = .returned (.bool (disR n P d)) ∧ w = w' := by
  have CP := Lib.hid (specPoolsOk n v P w h hm)
  have CI := Lib.hid (fun W => l01In_is d 1 3 W)
  have CC := Lib.hid (fun s hs W => specCount s hs W)
  have CF := Lib.hid (fun item set => specFree v P item set w h hm)
  have HR : Hid (disR n P d = ((poolsB n P && (decide (1 ≤ d) && decide (d ≤ 3))) && allFrom (fun k => allFrom (disAt P d k) (2 ^ n.toNat) 0) n.toNat 0)) := rfl
  have HI : Hid (poolsB n P = true → 1 ≤ n ∧ n ≤ 10) := fun hp => (pools_in hp).1
  have HD : Hid (∀ k s, disAt P d k s = !((bits .and .i64 (s : Int) (2 ^ k) == 0 && decide (cntI s ≤ d)) && !freeB P (2 ^ k) s)) := fun _ _ => rfl
  obtain ⟨a, c, rfl, -⟩ := h
  clear hm
  generalize disR n P d = r at HR ⊢
  generalize poolsB n P = pb at CP HR HI
  generalize (decide (1 ≤ d) && decide (d ≤ 3)) = ib at CI HR
  generalize disAt P d = D at HR HD
  cases pb with
  | false =>
    have HE : Hid (r = false) := HR.out
    go_enter Try.func16, Try.ntmps16
    go_wp2_with fail
    refine CP.out.mono ?_
    rintro e w1 ⟨rfl, rfl⟩
    go_wp2
    go_ret
    exact ⟨ret_bool HE.out.symm, rfl⟩
  | true =>
    cases ib with
    | false =>
      have HE : Hid (r = false) := HR.out
      go_enter Try.func16, Try.ntmps16
      go_wp2_with fail
      refine CP.out.mono ?_
      rintro e w1 ⟨rfl, rfl⟩
      go_wp2_with fail
      refine (CI.out _).mono ?_
      rintro e w2 ⟨rfl, rfl⟩
      go_wp2
      go_ret
      exact ⟨ret_bool HE.out.symm, rfl⟩
    | true =>
      obtain ⟨n1, n10⟩ := HI.out rfl
      obtain ⟨m, rfl⟩ : ∃ m : Nat, n = m := ⟨n.toNat, by omega⟩
      obtain ⟨hs1, -, -⟩ := pow_small (k := m) (by omega)
      obtain ⟨N, hN⟩ : ∃ N : Nat, 2 ^ m = N := ⟨_, rfl⟩
      have hN2 : (2 : Int) ^ m = (N : Int) := by rw [← hN]; exact_mod_cast rfl
      have hNb : N ≤ 1024 := by have := pow_small (k := m) (by omega); omega
      obtain ⟨F, hF⟩ : ∃ F, (fun k => allFrom (D k) N 0) = F := ⟨_, rfl⟩
      have HF : Hid (∀ k, F k = allFrom (D k) N 0) := fun k => by rw [← hF]
      have HE : Hid (r = allFrom F (m - 0) 0) := by
        unfold Hid
        rw [HR.out, Int.toNat_natCast, hN, hF]
        rfl
      rw [hN2] at hs1
      clear HR HI hN hF
      go_enter Try.func16, Try.ntmps16
      go_wp2_with fail
      refine CP.out.mono ?_
      rintro e w1 ⟨rfl, rfl⟩
      go_wp2_with fail
      refine (CI.out _).mono ?_
      rintro e w2 ⟨rfl, rfl⟩
      clear CP CI
      go_wp2
      go_loopw [7] (fun kv wr => ∃ k : Nat, k ≤ m ∧ kv = .int .i64 k ∧ wr = w ∧ Hid (r = allFrom F (m - k) k)) (fun kv _ => m - (intOf kv).toNat)
      case atStart => exact ⟨0, Nat.zero_le _, rfl, rfl, HE⟩
      case round =>
        clear HE
        obtain ⟨k, hk, rfl, rfl, HE⟩ := hrel
        by_cases hlt : k < m
        · obtain ⟨t, ht⟩ : ∃ t, allFrom F (m - (k + 1)) (k + 1) = t := ⟨_, rfl⟩
          have HT := Lib.hid ht
          have HE2 : Hid (r = (allFrom (D k) (N - 0) 0 && t)) := by
            unfold Hid
            rw [HE.out, allFrom_step _ hlt, HF.out, ht]
            rfl
          have km : (k : Int) < (m : Int) := by omega
          obtain ⟨q1, q2, q3⟩ := pow_small (k := k) (by omega)
          clear HE ht
          go_wp2
          go_loopw [8] (fun sv wr' => ∃ s : Nat, s ≤ N ∧ sv = .int .i64 s ∧ wr' = wr ∧ Hid (r = (allFrom (D k) (N - s) s && t))) (fun sv _ => N - (intOf sv).toNat)
          case atStart => exact ⟨0, Nat.zero_le _, rfl, rfl, HE2⟩
          case round =>
            clear HE2
            obtain ⟨s, hs, rfl, rfl, HE⟩ := hrel
            by_cases hls : s < N
            · have sN : (s : Int) < (N : Int) := by omega
              have HS : Hid (r = (!((bits .and .i64 (s : Int) (2 ^ k) == 0 && decide (cntI s ≤ d)) && !freeB P (2 ^ k) s) && (allFrom (D k) (N - (s + 1)) (s + 1) && t))) := by
                unfold Hid
                rw [HE.out, allFrom_step _ hls, HD.out, Bool.and_assoc]
              have CC1 := Lib.hid (CC.out (s : Int) (by omega))
              have CF1 := Lib.hid (CF.out (2 ^ k) (s : Int))
              clear HE
              generalize cntI (s : Int) = cs at CC1 HS
              generalize freeB P (2 ^ k) (s : Int) = fb at CF1 HS
              by_cases hx : bits .and .i64 (s : Int) (2 ^ k) = 0
              · have hx2 : (bits .and .i64 (s : Int) (2 ^ k) == 0) = true := by rw [hx]; rfl
                rw [hx2, Bool.true_and] at HS
                by_cases hc : cs ≤ d
                · rw [decide_eq_true hc, Bool.true_and] at HS
                  cases fb with
                  | false =>
                    have HZ : Hid (r = false) := HS.out
                    clear HS HT
                    go_wp2_with fail
                    refine (CC1.out _).mono ?_
                    rintro e w3 ⟨rfl, rfl⟩
                    go_wp2_with fail
                    refine CF1.out.mono ?_
                    rintro e w4 ⟨rfl, rfl⟩
                    go_wp2
                    go_ret
                    exact ⟨ret_bool HZ.out.symm, rfl⟩
                  | true =>
                    have HZ : Hid (r = (allFrom (D k) (N - (s + 1)) (s + 1) && t)) := HS.out
                    clear HS HT
                    go_wp2_with fail
                    refine (CC1.out _).mono ?_
                    rintro e w3 ⟨rfl, rfl⟩
                    go_wp2_with fail
                    refine CF1.out.mono ?_
                    rintro e w4 ⟨rfl, rfl⟩
                    go_wp2
                    go_roundw
                    case rel => exact ⟨s + 1, by omega, by go_num, by first | rfl | trivial, HZ⟩
                    case measure => simp [intOf]; omega
                · rw [decide_eq_false hc, Bool.false_and] at HS
                  have HZ : Hid (r = (allFrom (D k) (N - (s + 1)) (s + 1) && t)) := HS.out
                  clear HS HT
                  go_wp2_with fail
                  refine (CC1.out _).mono ?_
                  rintro e w3 ⟨rfl, rfl⟩
                  go_wp2
                  go_roundw
                  case rel => exact ⟨s + 1, by omega, by go_num, by first | rfl | trivial, HZ⟩
                  case measure => simp [intOf]; omega
              · have hx2 : (bits .and .i64 (s : Int) (2 ^ k) == 0) = false := beq_eq_false_iff_ne.2 hx
                rw [hx2, Bool.false_and, Bool.false_and] at HS
                have HZ : Hid (r = (allFrom (D k) (N - (s + 1)) (s + 1) && t)) := HS.out
                clear HS HT
                go_wp2
                go_roundw
                case rel => exact ⟨s + 1, by omega, by go_num, by first | rfl | trivial, HZ⟩
                case measure => simp [intOf]; omega
            · have HZ : Hid (r = allFrom F (m - (k + 1)) (k + 1)) := by
                unfold Hid
                rw [HE.out, allFrom_end _ _ (by omega), HT.out, Bool.true_and]
              clear HE HT
              go_wp2
              go_roundw
              case rel => exact ⟨k + 1, by omega, by go_num, by first | rfl | trivial, HZ⟩
              case measure => simp [intOf]; omega
        · have HZ : Hid (r = true) := by unfold Hid; rw [HE.out, allFrom_end _ _ (by omega)]
          go_wp2
          go_ret
          exact ⟨ret_bool HZ.out.symm, rfl⟩

theorem Own.lit2 (X : World) (B : Nat) (a b : Int) (hB : B ≤ X.heap.size) : Own (X.alloc (.cells #[.int .i64 a, .int .i64 b] 3)) B (.slice (some ⟨X.heap.size, 0, none⟩) 2 2) [a, b] :=
  World.ownsRow_lit (base := B) (e := 3) (size := 1) X #[.int .i64 a, .int .i64 b] 2 hB (by unfold maxLen; omega) rfl
/-- What a function that looks for two sets gives back. -/
def Weaks (o : Option (Int × Int)) (w : World) (e : Ending) (w' : World) : Prop :=
  ∃ u, e = .returned (.tuple #[u, .bool o.isSome]) ∧ Own w' w.heap.size u (weakL o) ∧ Below w.heap.size w w'
theorem Weaks.no {o : Option (Int × Int)} {w w' : World} (h : o = none) (hb : Below w.heap.size w w') : Weaks o w (.returned (.tuple #[.slice none 0 0, .bool false])) w' := by
  subst h
  exact ⟨_, rfl, Own.nil _ _, hb⟩
theorem Weaks.yes {o : Option (Int × Int)} {w w' : World} {a b : Int} {u : Value} (h : o = some (a, b)) (ho : Own w' w.heap.size u [a, b]) (hb : Below w.heap.size w w') : Weaks o w (.returned (.tuple #[u, .bool true])) w' := by
  subst h
  exact ⟨_, rfl, ho, hb⟩

set_option maxRecDepth 100000 in
set_option maxHeartbeats 3200000 in
theorem specWeakness (n : Int) (v : Value) (P : List Int) (d : Int) (w : World) (h : IntsAt w v P) (hm : P.length ≤ 1048576) :
    Calls Try.prog 19 #[.int .i64 n, v, .int .i64 d] w (Weaks (weakO n P d) w) := by
  have CP := Lib.hid (specPoolsOk n v P w h (by unfold maxLen; omega))
  have CI := Lib.hid (fun W => l01In_is d 1 3 W)
  have CC := Lib.hid (fun s hs W => specCount s hs W)
  have CT := Lib.hid (fun bad W hW => specTest v P bad W hW hm)
  have CS := Lib.hid (fun va vb A B W ha hb h1 => specSame va vb A B W ha hb h1)
  have HRL : Hid (∀ bad, (resL P bad).length ≤ maxLen) := fun bad => by rw [resL_len]; unfold maxLen; omega
  have HR : Hid (weakO n P d = if (poolsB n P && (decide (1 ≤ d) && decide (d ≤ 3))) = true then seekF (weakA P d (2 ^ n.toNat)) (2 ^ n.toNat) 0 else none) := rfl
  have HI : Hid (poolsB n P = true → 1 ≤ n ∧ n ≤ 10) := fun hp => (pools_in hp).1
  have HG : Hid (∀ N a, weakA P d N a = if cntI (a : Int) ≤ d then seekF (sameAt P d a) (N - (a + 1)) (a + 1) else none) := fun _ _ => rfl
  have HD : Hid (∀ a b, sameAt P d a b = if (decide (cntI (b : Int) ≤ d) && (resL P a == resL P b)) = true then some ((a : Int), (b : Int)) else none) := fun _ _ => rfl
  have H := Lib.hid h
  obtain ⟨a0, c, rfl, -⟩ := h
  clear hm
  unfold ListsB at CT
  generalize hr : weakO n P d = r at HR ⊢
  clear hr
  generalize poolsB n P = pb at CP HR HI
  generalize (decide (1 ≤ d) && decide (d ≤ 3)) = ib at CI HR
  generalize weakA P d = G at HR HG
  generalize sameAt P d = D at HG HD
  cases pb with
  | false =>
    have HE : Hid (r = none) := HR.out
    go_enter Try.func19, Try.ntmps19
    go_wp2_with fail
    refine CP.out.mono ?_
    rintro e w1 ⟨rfl, rfl⟩
    go_wp2
    go_ret2
    exact Weaks.no HE.out (Below.refl _ _)
  | true =>
    cases ib with
    | false =>
      have HE : Hid (r = none) := HR.out
      go_enter Try.func19, Try.ntmps19
      go_wp2_with fail
      refine CP.out.mono ?_
      rintro e w1 ⟨rfl, rfl⟩
      go_wp2_with fail
      refine (CI.out _).mono ?_
      rintro e w2 ⟨rfl, rfl⟩
      go_wp2
      go_ret2
      exact Weaks.no HE.out (Below.refl _ _)
    | true =>
      obtain ⟨n1, n10⟩ := HI.out rfl
      obtain ⟨m, rfl⟩ : ∃ m : Nat, n = m := ⟨n.toNat, by omega⟩
      obtain ⟨hs1, -, -⟩ := pow_small (k := m) (by omega)
      obtain ⟨N, hN⟩ : ∃ N : Nat, 2 ^ m = N := ⟨_, rfl⟩
      have hN2 : (2 : Int) ^ m = (N : Int) := by rw [← hN]; exact_mod_cast rfl
      have hNb : N ≤ 1024 := by have := pow_small (k := m) (by omega); omega
      have HE : Hid (r = seekF (G N) (N - 0) 0) := by
        unfold Hid
        rw [HR.out, Int.toNat_natCast, hN]
        rfl
      have HG2 := Lib.hid (HG.out N)
      rw [hN2] at hs1
      clear HR HI hN HG
      go_enter Try.func19, Try.ntmps19
      go_wp2_with fail
      refine CP.out.mono ?_
      rintro e w1 ⟨rfl, rfl⟩
      go_wp2_with fail
      refine (CI.out _).mono ?_
      rintro e w2 ⟨rfl, rfl⟩
      clear CP CI
      go_wp2
      go_loopw [8] (fun av wr => ∃ a : Nat, a ≤ N ∧ av = .int .i64 a ∧ Hid (Below w.heap.size w wr) ∧ Hid (r = seekF (G N) (N - a) a)) (fun av _ => N - (intOf av).toNat)
      case atStart => exact ⟨0, Nat.zero_le _, rfl, Below.refl _ _, HE⟩
      case round =>
        clear HE
        obtain ⟨a, ha, rfl, B1, HE⟩ := hrel
        by_cases hlt : a < N
        · obtain ⟨t, ht⟩ : ∃ t, seekF (G N) (N - (a + 1)) (a + 1) = t := ⟨_, rfl⟩
          have HT := Lib.hid ht
          have HE1 : Hid (r = (if cntI (a : Int) ≤ d then seekF (D a) (N - (a + 1)) (a + 1) else none).or t) := by
            unfold Hid
            rw [HE.out, seekF_step _ hlt, HG2.out, ht]
          have aN : (a : Int) < (N : Int) := by omega
          have CC1 := Lib.hid (CC.out (a : Int) (by omega))
          have HDA := Lib.hid (HD.out a)
          clear HE ht
          generalize cntI (a : Int) = ca at CC1 HE1
          by_cases hc : ca ≤ d
          · rw [if_pos hc] at HE1
            go_wp2_with fail
            refine (CC1.out _).mono ?_
            rintro e w3 ⟨rfl, rfl⟩
            clear CC1
            go_wp2
            go_loopw [9] (fun bv ws => ∃ b : Nat, a + 1 ≤ b ∧ b ≤ N ∧ bv = .int .i64 b ∧ Hid (Below w.heap.size w ws) ∧ Hid (r = (seekF (D a) (N - b) b).or t)) (fun bv _ => N - (intOf bv).toNat)
            case atStart => exact ⟨a + 1, Nat.le_refl _, by omega, by go_num, B1, HE1⟩
            case round =>
              clear HE1 B1
              obtain ⟨b, hab, hb, rfl, B2, HE⟩ := hrel
              by_cases hlb : b < N
              · have bN : (b : Int) < (N : Int) := by omega
                have HS : Hid (r = (if (decide (cntI (b : Int) ≤ d) && (resL P a == resL P b)) = true then some ((a : Int), (b : Int)) else none).or ((seekF (D a) (N - (b + 1)) (b + 1)).or t)) := by
                  unfold Hid
                  rw [HE.out, seekF_step _ hlb, HDA.out, Option.or_assoc]
                have CC2 := Lib.hid (CC.out (b : Int) (by omega))
                have CTA := Lib.hid (CT.out (a : Int))
                have CTB := Lib.hid (CT.out (b : Int))
                have RLA := Lib.hid (HRL.out (a : Int))
                clear HE
                generalize cntI (b : Int) = cb at CC2 HS
                generalize resL P (a : Int) = ra at CTA HS RLA
                generalize resL P (b : Int) = rb at CTB HS
                by_cases hcb : cb ≤ d
                · rw [decide_eq_true hcb, Bool.true_and] at HS
                  go_wp2_with fail
                  refine (CC2.out _).mono ?_
                  rintro e w4 ⟨rfl, rfl⟩
                  go_wp2_with fail
                  refine (CTA.out _ (H.out.below B2.out)).mono ?_
                  rintro e w5 ⟨ua, rfl, oa, bb⟩
                  obtain ⟨ga, na, qa, rfl⟩ := oa.form
                  have B3 := Lib.hid (below_up B2.out bb)
                  have OA := Lib.hid oa
                  clear bb oa B2
                  go_wp2_with fail
                  refine (CTB.out _ (H.out.below B3.out)).mono ?_
                  rintro e w6 ⟨ub, rfl, ob, bb⟩
                  obtain ⟨gb, nb, qb, rfl⟩ := ob.form
                  have B4 := Lib.hid (below_up B3.out bb)
                  have OA2 := Lib.hid (OA.out.below bb).reads
                  have OB := Lib.hid ob.reads
                  clear bb ob B3 OA
                  have CS1 := Lib.hid (CS.out _ _ ra rb _ OA2.out OB.out RLA.out)
                  clear OA2 OB RLA
                  generalize (ra == rb) = sb at CS1 HS
                  go_wp2_with fail
                  refine CS1.out.mono ?_
                  rintro e w7 ⟨rfl, rfl⟩
                  have hbs : w.heap.size ≤ w6.heap.size := B4.out.size
                  cases sb with
                  | false =>
                    have HZ : Hid (r = (seekF (D a) (N - (b + 1)) (b + 1)).or t) := HS.out
                    clear HS
                    go_wp2
                    go_roundw
                    case rel => exact ⟨b + 1, by omega, by omega, by go_num, B4, HZ⟩
                    case measure => simp [intOf]; omega
                  | true =>
                    have HZ : Hid (r = some ((a : Int), (b : Int))) := HS.out
                    have O5 := Lib.hid (Own.lit2 w6 w.heap.size a b hbs)
                    have B5 := Lib.hid (below_up B4.out (alloc_below w6 (.cells #[.int .i64 (a : Int), .int .i64 (b : Int)] 3)))
                    clear HS
                    go_wp2
                    go_ret2
                    exact Weaks.yes HZ.out O5.out B5.out
                · rw [decide_eq_false hcb, Bool.false_and] at HS
                  have HZ : Hid (r = (seekF (D a) (N - (b + 1)) (b + 1)).or t) := HS.out
                  clear HS
                  go_wp2_with fail
                  refine (CC2.out _).mono ?_
                  rintro e w4 ⟨rfl, rfl⟩
                  go_wp2
                  go_roundw
                  case rel => exact ⟨b + 1, by omega, by omega, by go_num, B2, HZ⟩
                  case measure => simp [intOf]; omega
              · have HZ : Hid (r = seekF (G N) (N - (a + 1)) (a + 1)) := by
                  unfold Hid
                  rw [HE.out, seekF_end _ _ (by omega), HT.out]
                  rfl
                clear HE HT
                go_wp2
                go_roundw
                case rel => exact ⟨a + 1, by omega, by go_num, B2, HZ⟩
                case measure => simp [intOf]; omega
          · rw [if_neg hc] at HE1
            have HZ : Hid (r = seekF (G N) (N - (a + 1)) (a + 1)) := by
              unfold Hid
              rw [HE1.out, HT.out]
              rfl
            have hc2 : d < ca := by omega
            clear HE1 HT
            go_wp2_with fail
            refine (CC1.out _).mono ?_
            rintro e w3 ⟨rfl, rfl⟩
            go_wp2
            go_roundw
            case rel => exact ⟨a + 1, by omega, by go_num, B1, HZ⟩
            case measure => simp [intOf]; omega
        · have HZ : Hid (r = none) := by unfold Hid; rw [HE.out, seekF_end _ _ (by omega)]
          go_wp2
          go_ret2
          exact Weaks.no HZ.out B1.out

set_option maxHeartbeats 1600000 in
theorem specIsSeparable (n : Int) (v : Value) (P : List Int) (d : Int) (w : World) (h : IntsAt w v P) (hm : P.length ≤ 1048576) :
    Calls Try.prog 23 #[.int .i64 n, v, .int .i64 d] w fun e w' => e = .returned (.bool (sepR n P d)) ∧ Below w.heap.size w w' := by
  have CP := Lib.hid (fun W hW => specPoolsOk n v P W hW (by unfold maxLen; omega))
  have CI := Lib.hid (fun W => l01In_is d 1 3 W)
  have CW := Lib.hid (specWeakness n v P d w h hm)
  have HR : Hid (sepR n P d = ((poolsB n P && (decide (1 ≤ d) && decide (d ≤ 3))) && !(weakO n P d).isSome)) := rfl
  have H := Lib.hid h
  obtain ⟨a0, c, rfl, -⟩ := h
  clear hm
  unfold Weaks at CW
  generalize sepR n P d = r at HR ⊢
  generalize weakL (weakO n P d) = L at CW
  generalize (weakO n P d).isSome = o at CW HR
  generalize poolsB n P = pb at CP HR
  generalize (decide (1 ≤ d) && decide (d ≤ 3)) = ib at CI HR
  go_enter Try.func23, Try.ntmps23
  go_wp2_with fail
  refine CW.out.mono ?_
  rintro e w1 ⟨u, rfl, ou, bb⟩
  have B1 := Lib.hid bb
  clear bb ou
  cases pb with
  | false =>
    have HE : Hid (r = false) := HR.out
    go_wp2_with fail
    refine (CP.out _ (H.out.below B1.out)).mono ?_
    rintro e w2 ⟨rfl, rfl⟩
    go_wp2
    go_ret
    exact ⟨ret_bool HE.out.symm, B1.out⟩
  | true =>
    cases ib with
    | false =>
      have HE : Hid (r = false) := HR.out
      go_wp2_with fail
      refine (CP.out _ (H.out.below B1.out)).mono ?_
      rintro e w2 ⟨rfl, rfl⟩
      go_wp2_with fail
      refine (CI.out _).mono ?_
      rintro e w3 ⟨rfl, rfl⟩
      go_wp2
      go_ret
      exact ⟨ret_bool HE.out.symm, B1.out⟩
    | true =>
      have HE : Hid (r = !o) := HR.out
      go_wp2_with fail
      refine (CP.out _ (H.out.below B1.out)).mono ?_
      rintro e w2 ⟨rfl, rfl⟩
      go_wp2_with fail
      refine (CI.out _).mono ?_
      rintro e w3 ⟨rfl, rfl⟩
      go_wp2
      go_ret
      exact ⟨ret_bool HE.out.symm, B1.out⟩
end Go.Proofs.Ytaoigfopnndicaa
