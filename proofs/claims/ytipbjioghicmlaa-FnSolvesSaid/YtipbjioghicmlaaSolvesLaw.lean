/- The walk of the law FnSolves round the contracts of the program's functions and of the model's draws: it returns true for every code. Condition: the code reads as bytes. -/
import Derived.Test.YtipbjioghicmlaaPlanFacts
import Derived.Test.YtipbjioghicmlaaFollowLaw
import Derived.Test.YtipbjioghicmlaaCur
namespace Go.Proofs.Ytipbjioghicmlaa
open Go.RowKit

set_option maxHeartbeats 800000 in
theorem lawsSame (u v : Value) (A B : List Int) (w : World) (h1 : IntsAt w u A) (h2 : IntsAt w v B) (m1 : A.length ≤ 1048576) (m2 : B.length ≤ 1048576) :
    Calls Try.prog 24 #[u, v] w fun e w' => e = .returned (.bool (decide (A = B))) ∧ w = w' := by
  obtain ⟨a1, c1, rfl, h1⟩ := h1
  obtain ⟨a2, c2, rfl, h2⟩ := h2
  have H1 : Hid (∀ i (h : i < A.length), ∃ b o, a1 = some ⟨b, o, none⟩ ∧ w.cell? ⟨b, o + i, none⟩ = some (.int .i64 A[i])) := by
    intro i hi
    rcases h1 with rfl | ⟨b, o, rfl, hc⟩
    · simp at hi
    · exact ⟨b, o, rfl, hc i hi⟩
  have H2 : Hid (∀ i (h : i < B.length), ∃ b o, a2 = some ⟨b, o, none⟩ ∧ w.cell? ⟨b, o + i, none⟩ = some (.int .i64 B[i])) := by
    intro i hi
    rcases h2 with rfl | ⟨b, o, rfl, hc⟩
    · simp at hi
    · exact ⟨b, o, rfl, hc i hi⟩
  clear h1 h2
  by_cases hl : A.length = B.length
  · have HX : Hid (∀ k, k ≤ A.length → decide (A = B) = decide (A.drop k = B.drop k ∧ A.take k = B.take k)) := fun k _ => by
      congr 1
      refine propext ⟨fun h => by rw [h]; exact ⟨rfl, rfl⟩, fun h => ?_⟩
      rw [← List.take_append_drop k A, h.1, h.2, List.take_append_drop]
    obtain ⟨r, hr⟩ : ∃ r, decide (A = B) = r := ⟨_, rfl⟩
    have HR := Lib.hid hr
    rw [hr]
    clear hr
    obtain ⟨n, hn⟩ : ∃ n, A.length = n := ⟨_, rfl⟩
    have hm : B.length = n := by omega
    have HN := Lib.hid hn
    have HM := Lib.hid hm
    rw [hn] at m1 ⊢
    rw [hm]
    clear hn hm hl m2
    have hne : ((n : Int) != (n : Int)) = false := by simp
    go_enter Try.func24, Try.ntmps24
    go_wp2
    go_loop [5, 6, 14] (fun _ _ i => ∃ k : Nat, k ≤ n ∧ i = .int .i64 k ∧ Hid (A.take k = B.take k)) (fun _ _ i => n - (intOf i).toNat)
    case atStart => exact ⟨0, Nat.zero_le _, rfl, by simp [Hid]⟩
    case round =>
      obtain ⟨k, hk, rfl, HF⟩ := hrel
      by_cases hlt : k < n
      · have k1 : k < A.length := by rw [HN.out]; exact hlt
        have k2 : k < B.length := by rw [HM.out]; exact hlt
        obtain ⟨b, o, rfl, e0⟩ := H1.out k k1
        obtain ⟨b', o', rfl, e1⟩ := H2.out k k2
        have hst : A.take (k + 1) = A.take k ++ [A[k]] := List.take_succ_eq_append_getElem k1
        have hsu : B.take (k + 1) = B.take k ++ [B[k]] := List.take_succ_eq_append_getElem k2
        have hno : A[k] ≠ B[k] → r = false := fun h => by
          rw [← HR.out]
          refine decide_eq_false fun e => h ?_
          subst e; rfl
        obtain ⟨x, hx⟩ : ∃ x, A[k] = x := ⟨_, rfl⟩
        obtain ⟨y, hy⟩ : ∃ y, B[k] = y := ⟨_, rfl⟩
        rw [hx] at e0 hst hno
        rw [hy] at e1 hsu hno
        have i0 : (0 : Int) ≤ (k : Int) := by omega
        have i1 : (k : Int) < (n : Int) := by omega
        clear hx hy k1 k2 hne
        by_cases hxy : x = y
        · subst hxy
          have HF2 : Hid (A.take (k + 1) = B.take (k + 1)) := by unfold Hid; rw [hst, hsu, HF.out]
          clear hst hsu hno
          go_wp2
          go_round
          case rel => exact ⟨k + 1, by omega, by go_num, HF2⟩
          case measure => simp [intOf]; omega
        · have hne : (x != y) = true := by simp [hxy]
          have HF2 := Lib.hid (hno hxy)
          clear hst hsu hno
          go_wp2
          go_ret
          exact ⟨ret_bool HF2.out.symm, rfl⟩
      · have HF2 : Hid (r = true) := by
          unfold Hid
          rw [← HR.out]
          have := HF.out
          rw [List.take_of_length_le (by rw [HN.out]; omega), List.take_of_length_le (by rw [HM.out]; omega)] at this
          exact decide_eq_true this
        clear hne
        go_wp2
        go_ret
        exact ⟨ret_bool HF2.out.symm, rfl⟩
  · have HE : Hid (decide (A = B) = false) := decide_eq_false fun e => hl (by rw [e])
    generalize decide (A = B) = r at HE ⊢
    clear H1 H2
    generalize A.length = n1 at *
    generalize B.length = n2 at *
    have hne : ((n1 : Int) != (n2 : Int)) = true := by simp; omega
    go_enter Try.func24, Try.ntmps24
    go_wp2
    go_ret
    exact ⟨ret_bool HE.out.symm, rfl⟩


theorem pow20 {i : Nat} (h : i ≤ 20) : 3 ^ i ≤ 3486784401 := by
  have := Nat.pow_le_pow_right (show 0 < 3 by decide) h
  have e : (3 : Nat) ^ 20 = 3486784401 := by decide
  omega
set_option maxHeartbeats 800000 in
theorem lawsPower (k : Int) (w : World) (h0 : 0 ≤ k) (h1 : k ≤ 1000) : Calls Try.prog 23 #[.int .i64 k] w fun e w' => e = .returned (.int .i64 ((3 ^ (min k 20).toNat : Nat) : Int)) ∧ w = w' := by
  obtain ⟨r, hr⟩ : ∃ r : Nat, 3 ^ (min k 20).toNat = r := ⟨_, rfl⟩
  have HR := Lib.hid hr
  rw [hr]
  clear hr
  go_enter Try.func23, Try.ntmps23
  go_wp2
  go_loop [3, 4] (fun nv iv => ∃ (i p : Nat), i ≤ 20 ∧ (i : Int) ≤ k ∧ iv = .int .i64 i ∧ nv = .int .i64 p ∧ p ≤ 3486784401 ∧ Hid (p = 3 ^ i)) (fun _ iv => 20 - (intOf iv).toNat)
  case atStart => exact ⟨0, 1, by omega, by omega, rfl, rfl, by omega, rfl⟩
  case round =>
    obtain ⟨i, p, i20, ik, rfl, rfl, hp, HP⟩ := hrel
    have i0 : (0 : Int) ≤ (i : Int) := by omega
    by_cases hik : (i : Int) < k
    · by_cases hi : (i : Int) < 20
      · have hq : 3 * p ≤ 3486784401 := by
          have := pow20 (i := i + 1) (by omega)
          rw [Nat.pow_succ, ← HP.out] at this
          omega
        have HP2 : Hid (3 * p = 3 ^ (i + 1)) := by unfold Hid; rw [Nat.pow_succ, ← HP.out]; omega
        go_wp2
        go_round
        case rel => exact ⟨i + 1, 3 * p, by omega, by omega, by go_num, by go_num, hq, HP2⟩
        case measure => simp [intOf]; omega
      · have HE : Hid (p = r) := by unfold Hid; rw [← HR.out, HP.out, show (min k 20).toNat = i by omega]
        go_wp2
        go_ret
        exact ⟨ret_int (by rw [HE.out]), rfl⟩
    · have HE : Hid (p = r) := by unfold Hid; rw [← HR.out, HP.out, show (min k 20).toNat = i by omega]
      go_wp2
      go_ret
      exact ⟨ret_int (by rw [HE.out]), rfl⟩

/-- The contract of the model's draw of a problem. -/
def MakesProb : Prop :=
  ∀ (W w : World) (a : Option Addr) (len cap : Nat), BytesAt W a len → Below W.heap.size W w → len ≤ 1048576 →
    Calls Try.prog 12 #[.slice a len cap] w fun e w' => ∃ n h l z, e = .returned (probV n h l z) ∧ probB n h l = true ∧ 2 ≤ n ∧ n ≤ 8 ∧ Below w.heap.size w w'
/-- The contract of the model's draw of a plan. -/
def MakesPlan : Prop :=
  ∀ (W w : World) (a : Option Addr) (len cap : Nat) (n : Int), BytesAt W a len → Below W.heap.size W w → len ≤ 1048576 → 2 ≤ n → n ≤ 13 →
    Calls Try.prog 13 #[.slice a len cap, .int .i64 20, .int .i64 n] w fun e w' => ∃ v P, e = .returned v ∧ NodesAt w' v P ∧ P.length + sumP P ≤ 1048576 ∧ planB P n = true ∧ P ≠ [] ∧ Below w.heap.size w w'
theorem wf_small {n : Int} (h0 : -1000 ≤ n) (h1 : n ≤ 1000) : wfI n := by
  simp [wfI, Lit.wf, IntKind.min, IntKind.max, IntKind.signed, IntKind.bits]; omega
theorem pow_cases {P : List ND} {n : Int} {h l z : Bool} (hs : solvesB P n h l z = true) (m : Nat) (hm : m = (casesL n h l z).length) : (m : Int) ≤ ((3 ^ (min (depthI P) 20).toNat : Nat) : Int) := by
  have h1 := solves_deep hs
  have h2 := cases_len n h l z
  have h3 := (depthF_range P P.length 0).1
  rcases Int.lt_or_le 20 (depthI P) with h4 | h4
  · have e : (min (depthI P) 20).toNat = 20 := by omega
    rw [e]
    have : (3 : Nat) ^ 20 = 3486784401 := by decide
    omega
  · have e : (min (depthI P) 20).toNat = (depthI P).toNat := by omega
    rw [e]
    omega

set_option maxRecDepth 100000 in
set_option maxHeartbeats 6400000 in
theorem lawSolves (MPb : MakesProb) (MPl : MakesPlan)
    (OK : ∀ (P : List ND) (m : Int), P.length + sumP P ≤ 1048576 → wfI m → PlanOkIs 19 P m)
    (SO : ∀ (P : List ND) (n : Int) (h l z : Bool), P.length + sumP P ≤ 1048576 → wfI n → SolvesForIs 21 P n h l z)
    (FI : ∀ (P : List ND) (n : Int) (h l z : Bool), P.length + sumP P ≤ 1048576 → wfI n → FindsCoinIs 22 P n h l z)
    (DE : ∀ (P : List ND) (m : Int), P.length + sumP P ≤ 1048576 → wfI m → PlanDepthIs 14 P m)
    (FO : ∀ (P : List ND) (m c : Int), P.length + sumP P ≤ 1048576 → wfI m → wfI c → FollowIs 17 P m c)
    (w : World) (a : Option Addr) (len cap : Nat) (hB : BytesAt w a len) (hlm : len ≤ maxLen) :
    Calls Try.prog 4 #[.slice a len cap] w fun e w' => e = .returned (.bool true) ∧ Below w.heap.size w w' := by
  unfold maxLen at hlm
  by_cases hbig : (1048576 : Int) < (len : Int)
  · go_enter Try.func4, Try.ntmps4
    go_wp2
    go_ret
    exact ⟨rfl, Below.refl _ _⟩
  have hl : len ≤ 1048576 := by omega
  have C1 := Lib.hid (MPb w w a len cap hB (Below.refl _ _) hl)
  have C2 := Lib.hid (fun W n h h1 h2 => MPl w W a len cap n hB h hl h1 h2)
  have HOK := Lib.hid OK
  have HSO := Lib.hid SO
  have HFI := Lib.hid FI
  have HDE := Lib.hid DE
  have HFO := Lib.hid FO
  clear MPb MPl OK SO FI DE FO hB hl
  go_enter Try.func4, Try.ntmps4
  go_wp2_with fail
  refine C1.out.mono ?_
  rintro e w1 ⟨n, h, l, z, rfl, hp, n2, n8, b1⟩
  unfold probV
  have HP := Lib.hid hp
  have B1 := Lib.hid b1
  have al := alloc_below w1 (.cells #[.int .i64 n, .bool h, .bool l, .bool z] 24)
  have V1 := Lib.hid (ProbAt.new w1 24 n h l z)
  have BX := Lib.hid (below_up b1 al)
  clear b1 al hp
  generalize hX1 : w1.alloc (.cells #[.int .i64 n, .bool h, .bool l, .bool z] 24) = X1 at V1 BX
  obtain ⟨e0, e1, e2, e3, -⟩ := V1.out
  go_wp2_with fail
  clear e0 e1 e2 e3
  refine (C2.out _ _ BX.out (by omega) (by omega)).mono ?_
  rintro e w2 ⟨v, P, rfl, hN, hsz, hv, hne, b2⟩
  obtain ⟨av, cv, rfl⟩ := hN.form
  have B2 := Lib.hid (below_up BX.out b2)
  have V2 := Lib.hid (V1.out.below b2)
  have N2 := Lib.hid hN
  have HV := Lib.hid hv
  have wn : wfI n := wf_small (by omega) (by omega)
  have IOK := Lib.hid (HOK.out P n hsz wn)
  have ISO := Lib.hid (HSO.out P n h l z hsz wn)
  have IFI := Lib.hid (HFI.out P n h l z hsz wn)
  have IDE := Lib.hid (HDE.out P n hsz wn)
  have IFO : Hid (∀ c, c ∈ casesL n h l z → FollowIs 17 P n c) := fun c hc => HFO.out P n c hsz wn (wf_small (by have := cases_in hc; omega) (by have := cases_in hc; omega))
  have ICA := Lib.hid (fun W => implCasesOf n h l z W)
  unfold PlanOkIs at IOK
  unfold SolvesForIs probV at ISO
  unfold FindsCoinIs probV at IFI
  unfold PlanDepthIs at IDE
  unfold Lists probV at ICA
  clear b2 hN hsz hne hv wn hX1 V1 BX B1 C1 C2 HOK HSO HFI HDE HFO
  have HDEP : Hid (depthR P n = depthI P) := by unfold Hid depthR; rw [HV.out, if_pos rfl]
  have hdr := depthF_range P P.length 0
  have hd0 : 0 ≤ depthI P := hdr.1
  have hd1 : depthI P ≤ 60 := by have := (plan_size HV.out).1; have := hdr.2; unfold depthI; omega
  clear hdr
  rw [HDEP.out] at IDE
  rw [HV.out] at IOK
  have HLN : Hid (0 < (casesL n h l z).length) := List.length_pos_iff.2 (cases_some HP.out)
  have HL27 := Lib.hid (cases_len n h l z)
  have HFS : Hid (solvesB P n h l z = true → findsB P n h l z = true) := solves_finds
  have HPW : Hid (solvesB P n h l z = true → ∀ m : Nat, m = (casesL n h l z).length → (m : Int) ≤ ((3 ^ (min (depthI P) 20).toNat : Nat) : Int)) := fun hs m hm => pow_cases hs m hm
  have HSV : Hid (solvesB P n h l z = pairsF (sameF P) [] ((casesL n h l z).take (casesL n h l z).length)) := by
    unfold Hid solvesB goodB
    rw [HP.out, HV.out, List.take_length]; rfl
  have HFW : Hid (∀ c ∈ casesL n h l z, fokB P n c = true ∧ fwR P n c = followL P c) := fun c hc => by
    have hcc := cases_coins hc
    have hf : fokB P n c = true := by
      unfold fokB
      rw [HV.out, decide_eq_true hcc.1, decide_eq_true hcc.2]; rfl
    exact ⟨hf, by unfold fwR; rw [if_pos hf]⟩
  have HF60 : Hid (∀ c, (followL P c).length ≤ 60) := fun c => followL_len HV.out c
  generalize casesL n h l z = L at ICA IFO HLN HL27 HPW HSV HFW
  generalize solvesB P n h l z = s at ISO HFS HPW HSV
  generalize findsB P n h l z = fd at IFI HFS
  obtain ⟨e0, e1, e2, e3, -⟩ := V2.out
  go_wp2_with fail
  clear e0 e1 e2 e3
  refine (ICA.out _).mono ?_
  rintro e w3 ⟨vl, rfl, ol, b3⟩
  have B3 := Lib.hid (below_up B2.out b3)
  have V3 := Lib.hid (V2.out.below b3)
  have N3 := Lib.hid (N2.out.below b3)
  have hcp := row_cap ol
  have L3 := Lib.hid (IntsAt.of_lists ol)
  obtain ⟨al, cl, rfl, hc⟩ := L3.out
  have HCAP : Hid (L.length ≤ cl) := hcp _ _ _ rfl
  have HC : Hid (∀ i (h : i < L.length), ∃ b o, al = some ⟨b, o, none⟩ ∧ w3.cell? ⟨b, o + i, none⟩ = some (.int .i64 L[i])) := by
    intro i hi
    rcases hc with rfl | ⟨b, o, rfl, hc⟩
    · simp at hi
    · exact ⟨b, o, rfl, hc i hi⟩
  clear b3 ol hc hcp
  obtain ⟨e0, e1, e2, e3, -⟩ := V3.out
  go_wp2_with fail
  clear e0 e1 e2 e3
  refine (ISO.out _ _ N3.out).mono ?_
  rintro e w4 ⟨rfl, b4⟩
  have B4 := Lib.hid (below_up B3.out b4)
  have V4 := Lib.hid (V3.out.below b4)
  have N4 := Lib.hid (N3.out.below b4)
  have D4 := Lib.hid b4
  clear b4
  obtain ⟨e0, e1, e2, e3, -⟩ := V4.out
  go_wp2_with fail
  clear e0 e1 e2 e3
  refine (IFI.out _ _ N4.out).mono ?_
  rintro e w5 ⟨rfl, b5⟩
  have B5 := Lib.hid (below_up B4.out b5)
  have V5 := Lib.hid (V4.out.below b5)
  have N5 := Lib.hid (N4.out.below b5)
  have D5 := Lib.hid (below_up D4.out b5)
  clear b5
  obtain ⟨nl, hn⟩ : ∃ nl, L.length = nl := ⟨_, rfl⟩
  have hcap : nl ≤ cl := by rw [← hn]; exact HCAP.out
  have hnl : 0 < nl := by rw [← hn]; exact HLN.out
  have hnl27 : nl ≤ 27 := by rw [← hn]; exact HL27.out
  rw [hn] at HSV L3 ⊢
  have HN := Lib.hid hn
  clear hn
  have k0 : ((nl : Int) == 0) = false := beq_eq_false_iff_ne.2 (by omega)
  cases s with
  | false =>
    have HSF : Hid (false = pairsF (sameF P) [] (L.take nl)) := HSV.out
    clear HSV HPW HFS IDE IFI
    obtain ⟨e0, e1, e2, e3, -⟩ := V5.out
    go_wp2_with fail
    clear e0 e1 e2 e3
    refine (IOK.out _ _ N5.out).mono ?_
    rintro e w6 ⟨rfl, b6⟩
    have B6 := Lib.hid (below_up B5.out b6)
    have V6 := Lib.hid (V5.out.below b6)
    have N6 := Lib.hid (N5.out.below b6)
    have D6 := Lib.hid (below_up D5.out b6)
    clear b6
    go_wp2
    go_loopw [8, 9, 10, 12, 13, 14, 15, 16, 66] (fun dv _ _ _ _ _ _ _ i wr => ∃ (k : Nat) (t : Bool), k ≤ nl ∧ i = .int .i64 k ∧ dv = .bool t ∧ Hid (t = pairsF (sameF P) [] (L.take k)) ∧ Below w3.heap.size w3 wr ∧ Hid (Below w.heap.size w wr) ∧ Hid (ProbAt wr w1.heap.size n h l z) ∧ Hid (NodesAt wr (.slice av P.length cv) P)) (fun _ _ _ _ _ _ _ _ i _ => nl - (intOf i).toNat)
    case atStart => exact ⟨0, true, Nat.zero_le _, rfl, rfl, rfl, D6.out, B6, V6, N6⟩
    case round =>
      clear B6 V6 N6 D6
      obtain ⟨k, t, hk, rfl, rfl, HT, hb, HB, HV2, HN2⟩ := hrel
      have HB3 := Lib.hid hb
      clear hb
      by_cases hlt : k < nl
      · have hkl : k < L.length := by rw [HN.out]; exact hlt
        obtain ⟨b, o, rfl, e0⟩ := HC.out k hkl
        have hbl := World.block_lt_of_cell? w3 _ e0
        have hfx := IFO.out L[k] (List.getElem_mem hkl)
        have hwx := HFW.out L[k] (List.getElem_mem hkl)
        have hx60 := HF60.out L[k]
        have HSN : Hid (pairsF (sameF P) [] (L.take (k + 1)) = (pairsF (sameF P) [] (L.take k) && rowB (sameF P) L[k] (L.take k))) := by
          unfold Hid; rw [List.take_succ_eq_append_getElem hkl, pairsF_snoc, List.nil_append]
        obtain ⟨x, hx⟩ : ∃ x, L[k] = x := ⟨_, rfl⟩
        rw [hx] at e0 hfx hwx hx60 HSN
        have e1 : wr.cell? ⟨b, o + k, none⟩ = some (.int .i64 x) := by rw [HB3.out.cell (p := ⟨b, o + k, none⟩) hbl]; exact e0
        unfold FollowIs Follows at hfx
        rw [hwx.1, hwx.2] at hfx
        have HFX := Lib.hid hfx
        have i0 : (0 : Int) ≤ (k : Int) := by omega
        have i1 : (k : Int) < (nl : Int) := by omega
        have i2 : ¬ (cl : Int) < (k : Int) := by omega
        have i3 : k ≤ cl := by omega
        clear e0 hbl hx hkl hfx hwx
        go_wp2
        clear e1
        go_loopw [8, 12, 13, 14, 15, 16, 75] (fun dv _ _ _ _ _ jv wr => ∃ (j : Nat) (t : Bool), j ≤ k ∧ jv = .int .i64 j ∧ dv = .bool t ∧ Hid (t = (pairsF (sameF P) [] (L.take k) && rowB (sameF P) x ((L.take k).take j))) ∧ Below w3.heap.size w3 wr ∧ Hid (Below w.heap.size w wr) ∧ Hid (ProbAt wr w1.heap.size n h l z) ∧ Hid (NodesAt wr (.slice av P.length cv) P)) (fun _ _ _ _ _ _ jv _ => k - (intOf jv).toNat)
        case atStart => exact ⟨0, t, Nat.zero_le _, rfl, rfl, by unfold Hid; rw [HT.out]; simp [rowB], HB3.out, HB, HV2, HN2⟩
        case round =>
          clear HT HB3 HB HV2 HN2
          obtain ⟨j, t, hj, rfl, rfl, HT, hb, HB, HV2, HN2⟩ := hrel
          have HB3 := Lib.hid hb
          clear hb
          by_cases hjk : j < k
          · have hjl : j < L.length := by rw [HN.out]; omega
            obtain ⟨b', o', hbb, e0⟩ := HC.out j hjl
            cases hbb
            have hbl := World.block_lt_of_cell? w3 _ e0
            have hfy := IFO.out L[j] (List.getElem_mem hjl)
            have hwy := HFW.out L[j] (List.getElem_mem hjl)
            have hy60 := HF60.out L[j]
            have hjt : j < (L.take k).length := by simp; omega
            have hgt : (L.take k)[j] = L[j] := by simp
            have HRN : Hid (rowB (sameF P) x ((L.take k).take (j + 1)) = (rowB (sameF P) x ((L.take k).take j) && !(sameF P x L[j]))) := by
              unfold Hid rowB
              rw [List.take_succ_eq_append_getElem hjt, List.all_append, hgt]; simp
            obtain ⟨y, hy⟩ : ∃ y, L[j] = y := ⟨_, rfl⟩
            rw [hy] at e0 hfy hwy hy60 HRN
            have e1 : wr.cell? ⟨b, o + j, none⟩ = some (.int .i64 y) := by rw [HB3.out.cell (p := ⟨b, o + j, none⟩) hbl]; exact e0
            unfold FollowIs Follows at hfy
            rw [hwy.1, hwy.2] at hfy
            have HFY := Lib.hid hfy
            have j0 : (0 : Int) ≤ (j : Int) := by omega
            have j1 : (j : Int) < (k : Int) := by omega
            clear e0 hbl hy hjl hfy hjt hgt hwy
            obtain ⟨f0, f1, f2, f3, -⟩ := HV2.out
            go_wp2_with fail
            clear f0 f1 f2 f3
            refine (HFX.out _ _ HN2.out).mono ?_
            rintro e w9 ⟨ux, rfl, ox, b9⟩
            obtain ⟨ax, nx, cx, rfl⟩ := ox.form
            have RX := Lib.hid ox.reads
            have B9 := Lib.hid (below_up HB.out b9)
            have D9 := Lib.hid (HB3.out.trans (b9.mono HB3.out.size))
            have V9 := Lib.hid (HV2.out.below b9)
            have N9 := Lib.hid (HN2.out.below b9)
            clear ox b9
            obtain ⟨f0, f1, f2, f3, -⟩ := V9.out
            go_wp2_with fail
            clear f0 f1 f2 f3
            refine (HFY.out _ _ N9.out).mono ?_
            rintro e wa ⟨uy, rfl, oy, ba⟩
            obtain ⟨ay, ny, cy, rfl⟩ := oy.form
            have RY := Lib.hid oy.reads
            have RXa := Lib.hid (RX.out.below ba)
            have Ba := Lib.hid (below_up B9.out ba)
            have Da := Lib.hid (D9.out.trans (ba.mono D9.out.size))
            have Va := Lib.hid (V9.out.below ba)
            have Na := Lib.hid (N9.out.below ba)
            have SM := Lib.hid (lawsSame _ _ _ _ wa RXa.out RY.out (by omega) (by omega))
            have HSM : Hid (sameF P x y = decide (followL P x = followL P y)) := rfl
            generalize decide (followL P x = followL P y) = tt at SM HSM
            clear oy ba
            cases t with
            | false =>
              have HT2 : Hid (false = (pairsF (sameF P) [] (L.take k) && rowB (sameF P) x ((L.take k).take (j + 1)))) := by
                unfold Hid; rw [HRN.out, ← Bool.and_assoc, ← HT.out]; rfl
              go_wp2
              go_roundw
              case rel => exact ⟨j + 1, false, by omega, by go_num, rfl, HT2, Da.out, Ba, Va, Na⟩
              case measure => simp [intOf]; omega
            | true =>
              have HT2 : Hid ((!tt) = (pairsF (sameF P) [] (L.take k) && rowB (sameF P) x ((L.take k).take (j + 1)))) := by
                unfold Hid; rw [HRN.out, ← Bool.and_assoc, ← HT.out, HSM.out]; rfl
              go_wp2_with fail
              refine SM.out.mono ?_
              rintro e wb ⟨rfl, rfl⟩
              go_wp2
              go_roundw
              case rel => exact ⟨j + 1, !tt, by omega, by go_num, rfl, HT2, Da.out, Ba, Va, Na⟩
              case measure => simp [intOf]; omega
          · have HT2 : Hid (t = pairsF (sameF P) [] (L.take (k + 1))) := by
              unfold Hid
              rw [HT.out, HSN.out, List.take_of_length_le (i := j) (by simp; omega)]
            go_wp2
            go_roundw
            case rel => exact ⟨k + 1, t, by omega, by go_num, rfl, HT2, HB3.out, HB, HV2, HN2⟩
            case measure => simp [intOf]; omega
      · have HTE : Hid (t = false) := by
          unfold Hid
          obtain rfl : k = nl := by omega
          rw [HT.out, ← HSF.out]
        have hte := HTE.out
        subst hte
        go_wp2
        go_ret
        exact ⟨rfl, HB.out⟩
  | true =>
    have HSF : Hid (true = pairsF (sameF P) [] (L.take nl)) := HSV.out
    have HPL := HPW.out rfl nl HN.out.symm
    have hfd := HFS.out rfl
    subst hfd
    have PW := Lib.hid (fun W => lawsPower (depthI P) W hd0 (by omega))
    obtain ⟨pw, hpw⟩ : ∃ pw : Nat, 3 ^ (min (depthI P) 20).toNat = pw := ⟨_, rfl⟩
    rw [hpw] at HPL PW
    have hnp : decide (pw < nl) = false := decide_eq_false (by omega)
    have HPL2 := Lib.hid HPL
    generalize depthI P = dp at IDE PW hd0 hd1 hpw
    clear HSV HPW HFS IFI hpw HDEP HPL
    obtain ⟨e0, e1, e2, e3, -⟩ := V5.out
    go_wp2_with fail
    clear e0 e1 e2 e3
    refine (IOK.out _ _ N5.out).mono ?_
    rintro e w6 ⟨rfl, b6⟩
    have B6 := Lib.hid (below_up B5.out b6)
    have V6 := Lib.hid (V5.out.below b6)
    have N6 := Lib.hid (N5.out.below b6)
    have D6 := Lib.hid (below_up D5.out b6)
    clear b6
    obtain ⟨e0, e1, e2, e3, -⟩ := V6.out
    go_wp2_with fail
    clear e0 e1 e2 e3
    refine (IDE.out _ _ N6.out).mono ?_
    rintro e w7 ⟨rfl, b7⟩
    have B7 := Lib.hid (below_up B6.out b7)
    have V7 := Lib.hid (V6.out.below b7)
    have N7 := Lib.hid (N6.out.below b7)
    have D7 := Lib.hid (below_up D6.out b7)
    clear b7
    go_wp2_with fail
    refine (PW.out _).mono ?_
    rintro e w8 ⟨rfl, rfl⟩
    go_wp2
    clear PW IDE IOK hd0 hd1
    go_loopw [8, 9, 10, 12, 13, 14, 15, 16, 66] (fun dv _ _ _ _ _ _ _ i wr => ∃ (k : Nat) (t : Bool), k ≤ nl ∧ i = .int .i64 k ∧ dv = .bool t ∧ Hid (t = pairsF (sameF P) [] (L.take k)) ∧ Below w3.heap.size w3 wr ∧ Hid (Below w.heap.size w wr) ∧ Hid (ProbAt wr w1.heap.size n h l z) ∧ Hid (NodesAt wr (.slice av P.length cv) P)) (fun _ _ _ _ _ _ _ _ i _ => nl - (intOf i).toNat)
    case atStart => exact ⟨0, true, Nat.zero_le _, rfl, rfl, rfl, D7.out, B7, V7, N7⟩
    case round =>
      clear B7 V7 N7 D7
      obtain ⟨k, t, hk, rfl, rfl, HT, hb, HB, HV2, HN2⟩ := hrel
      have HB3 := Lib.hid hb
      clear hb
      by_cases hlt : k < nl
      · have hkl : k < L.length := by rw [HN.out]; exact hlt
        obtain ⟨b, o, rfl, e0⟩ := HC.out k hkl
        have hbl := World.block_lt_of_cell? w3 _ e0
        have hfx := IFO.out L[k] (List.getElem_mem hkl)
        have hwx := HFW.out L[k] (List.getElem_mem hkl)
        have hx60 := HF60.out L[k]
        have HSN : Hid (pairsF (sameF P) [] (L.take (k + 1)) = (pairsF (sameF P) [] (L.take k) && rowB (sameF P) L[k] (L.take k))) := by
          unfold Hid; rw [List.take_succ_eq_append_getElem hkl, pairsF_snoc, List.nil_append]
        obtain ⟨x, hx⟩ : ∃ x, L[k] = x := ⟨_, rfl⟩
        rw [hx] at e0 hfx hwx hx60 HSN
        have e1 : wr.cell? ⟨b, o + k, none⟩ = some (.int .i64 x) := by rw [HB3.out.cell (p := ⟨b, o + k, none⟩) hbl]; exact e0
        unfold FollowIs Follows at hfx
        rw [hwx.1, hwx.2] at hfx
        have HFX := Lib.hid hfx
        have i0 : (0 : Int) ≤ (k : Int) := by omega
        have i1 : (k : Int) < (nl : Int) := by omega
        have i2 : ¬ (cl : Int) < (k : Int) := by omega
        have i3 : k ≤ cl := by omega
        clear e0 hbl hx hkl hfx hwx
        go_wp2
        clear e1
        go_loopw [8, 12, 13, 14, 15, 16, 75] (fun dv _ _ _ _ _ jv wr => ∃ (j : Nat) (t : Bool), j ≤ k ∧ jv = .int .i64 j ∧ dv = .bool t ∧ Hid (t = (pairsF (sameF P) [] (L.take k) && rowB (sameF P) x ((L.take k).take j))) ∧ Below w3.heap.size w3 wr ∧ Hid (Below w.heap.size w wr) ∧ Hid (ProbAt wr w1.heap.size n h l z) ∧ Hid (NodesAt wr (.slice av P.length cv) P)) (fun _ _ _ _ _ _ jv _ => k - (intOf jv).toNat)
        case atStart => exact ⟨0, t, Nat.zero_le _, rfl, rfl, by unfold Hid; rw [HT.out]; simp [rowB], HB3.out, HB, HV2, HN2⟩
        case round =>
          clear HT HB3 HB HV2 HN2
          obtain ⟨j, t, hj, rfl, rfl, HT, hb, HB, HV2, HN2⟩ := hrel
          have HB3 := Lib.hid hb
          clear hb
          by_cases hjk : j < k
          · have hjl : j < L.length := by rw [HN.out]; omega
            obtain ⟨b', o', hbb, e0⟩ := HC.out j hjl
            cases hbb
            have hbl := World.block_lt_of_cell? w3 _ e0
            have hfy := IFO.out L[j] (List.getElem_mem hjl)
            have hwy := HFW.out L[j] (List.getElem_mem hjl)
            have hy60 := HF60.out L[j]
            have hjt : j < (L.take k).length := by simp; omega
            have hgt : (L.take k)[j] = L[j] := by simp
            have HRN : Hid (rowB (sameF P) x ((L.take k).take (j + 1)) = (rowB (sameF P) x ((L.take k).take j) && !(sameF P x L[j]))) := by
              unfold Hid rowB
              rw [List.take_succ_eq_append_getElem hjt, List.all_append, hgt]; simp
            obtain ⟨y, hy⟩ : ∃ y, L[j] = y := ⟨_, rfl⟩
            rw [hy] at e0 hfy hwy hy60 HRN
            have e1 : wr.cell? ⟨b, o + j, none⟩ = some (.int .i64 y) := by rw [HB3.out.cell (p := ⟨b, o + j, none⟩) hbl]; exact e0
            unfold FollowIs Follows at hfy
            rw [hwy.1, hwy.2] at hfy
            have HFY := Lib.hid hfy
            have j0 : (0 : Int) ≤ (j : Int) := by omega
            have j1 : (j : Int) < (k : Int) := by omega
            clear e0 hbl hy hjl hfy hjt hgt hwy
            obtain ⟨f0, f1, f2, f3, -⟩ := HV2.out
            go_wp2_with fail
            clear f0 f1 f2 f3
            refine (HFX.out _ _ HN2.out).mono ?_
            rintro e w9 ⟨ux, rfl, ox, b9⟩
            obtain ⟨ax, nx, cx, rfl⟩ := ox.form
            have RX := Lib.hid ox.reads
            have B9 := Lib.hid (below_up HB.out b9)
            have D9 := Lib.hid (HB3.out.trans (b9.mono HB3.out.size))
            have V9 := Lib.hid (HV2.out.below b9)
            have N9 := Lib.hid (HN2.out.below b9)
            clear ox b9
            obtain ⟨f0, f1, f2, f3, -⟩ := V9.out
            go_wp2_with fail
            clear f0 f1 f2 f3
            refine (HFY.out _ _ N9.out).mono ?_
            rintro e wa ⟨uy, rfl, oy, ba⟩
            obtain ⟨ay, ny, cy, rfl⟩ := oy.form
            have RY := Lib.hid oy.reads
            have RXa := Lib.hid (RX.out.below ba)
            have Ba := Lib.hid (below_up B9.out ba)
            have Da := Lib.hid (D9.out.trans (ba.mono D9.out.size))
            have Va := Lib.hid (V9.out.below ba)
            have Na := Lib.hid (N9.out.below ba)
            have SM := Lib.hid (lawsSame _ _ _ _ wa RXa.out RY.out (by omega) (by omega))
            have HSM : Hid (sameF P x y = decide (followL P x = followL P y)) := rfl
            generalize decide (followL P x = followL P y) = tt at SM HSM
            clear oy ba
            cases t with
            | false =>
              have HT2 : Hid (false = (pairsF (sameF P) [] (L.take k) && rowB (sameF P) x ((L.take k).take (j + 1)))) := by
                unfold Hid; rw [HRN.out, ← Bool.and_assoc, ← HT.out]; rfl
              go_wp2
              go_roundw
              case rel => exact ⟨j + 1, false, by omega, by go_num, rfl, HT2, Da.out, Ba, Va, Na⟩
              case measure => simp [intOf]; omega
            | true =>
              have HT2 : Hid ((!tt) = (pairsF (sameF P) [] (L.take k) && rowB (sameF P) x ((L.take k).take (j + 1)))) := by
                unfold Hid; rw [HRN.out, ← Bool.and_assoc, ← HT.out, HSM.out]; rfl
              go_wp2_with fail
              refine SM.out.mono ?_
              rintro e wb ⟨rfl, rfl⟩
              go_wp2
              go_roundw
              case rel => exact ⟨j + 1, !tt, by omega, by go_num, rfl, HT2, Da.out, Ba, Va, Na⟩
              case measure => simp [intOf]; omega
          · have HT2 : Hid (t = pairsF (sameF P) [] (L.take (k + 1))) := by
              unfold Hid
              rw [HT.out, HSN.out, List.take_of_length_le (i := j) (by simp; omega)]
            go_wp2
            go_roundw
            case rel => exact ⟨k + 1, t, by omega, by go_num, rfl, HT2, HB3.out, HB, HV2, HN2⟩
            case measure => simp [intOf]; omega
      · have HTE : Hid (t = true) := by
          unfold Hid
          obtain rfl : k = nl := by omega
          rw [HT.out, ← HSF.out]
        have hte := HTE.out
        subst hte
        go_wp2
        go_ret
        exact ⟨rfl, HB.out⟩
end Go.Proofs.Ytipbjioghicmlaa
