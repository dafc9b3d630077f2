/- The walk of the law FnPlans round the contracts of the program's functions and of the model's draws: it returns true for every code. Condition: the code reads as bytes. -/
import Derived.Test.YtipbjioghicmlaaSolvesLaw
import Derived.Test.YtipbjioghicmlaaWeighLaw
import Derived.Test.YtipbjioghicmlaaOutFacts
namespace Go.Proofs.Ytipbjioghicmlaa
open Go.RowKit

/-! ### the greatest value -/
/-- The greatest of a number and a function's values. -/
def mostF (f : Int → Int) : List Int → Int → Int
  | [], q => q
  | c :: r, q => mostF f r (max q (f c))
theorem mostF_spec (f : Int → Int) : ∀ (l : List Int) (q : Int), q ≤ mostF f l q ∧ (∀ x ∈ l, f x ≤ mostF f l q) ∧ (mostF f l q = q ∨ ∃ x ∈ l, mostF f l q = f x)
  | [], _ => ⟨Int.le_refl _, fun _ h => absurd h (by simp), .inl rfl⟩
  | c :: r, q => by
    obtain ⟨h1, h2, h3⟩ := mostF_spec f r (max q (f c))
    unfold mostF
    refine ⟨by omega, fun x hx => ?_, ?_⟩
    · rw [List.mem_cons] at hx
      rcases hx with rfl | hx
      · omega
      · exact h2 x hx
    · rcases h3 with h3 | ⟨x, hx, h3⟩
      · rcases Int.le_total q (f c) with h | h
        · exact .inr ⟨c, by simp, by omega⟩
        · exact .inl (by omega)
      · exact .inr ⟨x, by simp [hx], h3⟩
theorem worst_most {P : List ND} {n : Int} {h l z : Bool} (hg : goodB P n h l z = true) (hne : casesL n h l z ≠ []) :
    worstR P n h l z ∈ casesL n h l z ∧ mostF (costI P) (casesL n h l z) 0 = costI P (worstR P n h l z) := by
  have e : worstR P n h l z = worstF (costI P) (casesL n h l z) (-1) 0 := by unfold worstR; rw [hg, if_pos rfl]
  rw [e]
  have c0 : ∀ x, 0 ≤ costI P x := fun x => by unfold costI; omega
  obtain ⟨m1, m2, m3⟩ := mostF_spec (costI P) (casesL n h l z) 0
  rcases worstF_spec (costI P) (casesL n h l z) (-1) 0 with ⟨_, h1⟩ | ⟨h1, _, h3⟩
  · obtain ⟨c, hc⟩ := List.exists_mem_of_ne_nil _ hne
    have := h1 c hc
    have := c0 c
    omega
  · refine ⟨h1, ?_⟩
    have h4 := m2 _ h1
    have h5 := c0 (worstF (costI P) (casesL n h l z) (-1) 0)
    rcases m3 with m3 | ⟨x, hx, m3⟩
    · omega
    · have := h3 x hx; omega
theorem follow_some {P : List ND} (c : Int) (hne : P ≠ []) : 0 < (followL P c).length := by
  have h0 : 0 < P.length := List.length_pos_iff.2 hne
  obtain ⟨g, hg⟩ : ∃ g, P.length = g + 1 := ⟨P.length - 1, by omega⟩
  have := followF_step P c g 0 h0
  unfold followL
  rw [hg]
  rw [show ((0 : Nat) : Int) = 0 from rfl] at this
  rw [this]
  simp
/-- What holds behind one step of a followed plan. -/
theorem follow_at {P : List ND} {m c : Int} (hv : planB P m = true) {A : List Int} {i f : Nat} {p : Int} (hi : i < A.length) (hp : p = -1 ∨ 0 ≤ p ∧ p < (P.length : Int) ∧ P.length ≤ p.toNat + f) (h : A.drop i = followF P c f p) :
    ∃ (k g : Nat) (hk : k < P.length), p = (k : Int) ∧ A[i] = outcI P[k].L P[k].R c ∧ outI P[k].L P[k].R c = A[i] ∧ A.drop (i + 1) = followF P c g (nextI P[k] A[i]) ∧
      ((nextI P[k] A[i] = -1 ∧ A.length = i + 1) ∨ (0 ≤ nextI P[k] A[i] ∧ nextI P[k] A[i] < (P.length : Int) ∧ P.length ≤ (nextI P[k] A[i]).toNat + g ∧ i + 1 < A.length)) := by
  rw [List.drop_eq_getElem_cons hi] at h
  rcases hp with rfl | ⟨p0, p1, p2⟩
  · rw [followF_end _ _ _ _ (by decide)] at h; cases h
  · obtain ⟨k, rfl⟩ : ∃ k : Nat, p = (k : Int) := ⟨p.toNat, by omega⟩
    have hk : k < P.length := by omega
    obtain ⟨g, rfl⟩ : ∃ g, f = g + 1 := ⟨f - 1, by omega⟩
    rw [followF_step P c g k hk] at h
    simp only [List.cons.injEq] at h
    obtain ⟨h1, h2⟩ := h
    have hwm : outI P[k].L P[k].R c = outcI P[k].L P[k].R c := by
      refine outI_valid13 ?_ c
      have hn := plan_node hv k hk
      simp only [nodeB, Bool.and_eq_true] at hn
      exact weigh_up hn.1
    refine ⟨k, g, hk, rfl, h1, by rw [hwm, h1], by rw [h1]; exact h2, ?_⟩
    have hnx := next_in hv k hk A[i]
    rw [← h1] at h2
    rcases hnx with e | ⟨e1, e2⟩
    · refine .inl ⟨e, ?_⟩
      rw [e, followF_end _ _ _ _ (by decide)] at h2
      have := congrArg List.length h2
      simp at this
      omega
    · refine .inr ⟨by omega, e2, by omega, ?_⟩
      have := congrArg List.length h2
      obtain ⟨k', hk'⟩ : ∃ k' : Nat, nextI P[k] A[i] = (k' : Int) := ⟨(nextI P[k] A[i]).toNat, by omega⟩
      obtain ⟨g', rfl⟩ : ∃ g', g = g' + 1 := ⟨g - 1, by omega⟩
      rw [hk', followF_step P c g' k' (by omega)] at this
      simp at this
      omega

set_option maxRecDepth 100000 in
set_option maxHeartbeats 6400000 in
theorem lawPlans (MPb : MakesProb) (MPl : MakesPlan)
    (OK : ∀ (P : List ND) (m : Int), P.length + sumP P ≤ 1048576 → wfI m → PlanOkIs 19 P m)
    (WO : ∀ (P : List ND) (n : Int) (h l z : Bool), P.length + sumP P ≤ 1048576 → wfI n → WorstCaseIs 15 P n h l z)
    (TC : ∀ (P : List ND) (n : Int) (h l z : Bool), P.length + sumP P ≤ 1048576 → wfI n → TotalCostIs 20 P n h l z)
    (DE : ∀ (P : List ND) (m : Int), P.length + sumP P ≤ 1048576 → wfI m → PlanDepthIs 14 P m)
    (FO : ∀ (P : List ND) (m c : Int), P.length + sumP P ≤ 1048576 → wfI m → wfI c → FollowIs 17 P m c)
    (OU : ∀ (L R : List Int) (n : Int), L.length ≤ 1048576 → R.length ≤ 1048576 → -9223372036854775808 ≤ n → n ≤ 9223372036854775807 → OutIs 18 L R n)
    (w : World) (a : Option Addr) (len cap : Nat) (hB : BytesAt w a len) (hlm : len ≤ maxLen) :
    Calls Try.prog 3 #[.slice a len cap] w fun e w' => e = .returned (.bool true) ∧ Below w.heap.size w w' := by
  unfold maxLen at hlm
  by_cases hbig : (1048576 : Int) < (len : Int)
  · go_enter Try.func3, Try.ntmps3
    go_wp2
    go_ret
    exact ⟨rfl, Below.refl _ _⟩
  have hl : len ≤ 1048576 := by omega
  have C1 := Lib.hid (MPb w w a len cap hB (Below.refl _ _) hl)
  have C2 := Lib.hid (fun W n h h1 h2 => MPl w W a len cap n hB h hl h1 h2)
  have HOK := Lib.hid OK
  have HWO := Lib.hid WO
  have HTC := Lib.hid TC
  have HOU := Lib.hid OU
  have HDE := Lib.hid DE
  have HFO := Lib.hid FO
  clear MPb MPl OK WO TC OU DE FO hB hl
  go_enter Try.func3, Try.ntmps3
  go_wp2_with fail
  refine C1.out.mono ?_
  rintro e w1 ⟨n, h, l, z, rfl, hp, n2, n8, b1⟩
  unfold probV
  have HP := Lib.hid hp
  have B1 := Lib.hid b1
  have al := alloc_below w1 (.cells #[.int .i64 n, .bool h, .bool l, .bool z] 24)
  have V1 := Lib.hid (ProbAt.new w1 24 n h l z)
  have BX := Lib.hid (below_up b1 al)
  clear b1 al hp
  generalize hX1 : w1.alloc (.cells #[.int .i64 n, .bool h, .bool l, .bool z] 24) = X1 at V1 BX
  obtain ⟨e0, e1, e2, e3, -⟩ := V1.out
  go_wp2_with fail
  clear e0 e1 e2 e3
  refine (C2.out _ _ BX.out (by omega) (by omega)).mono ?_
  rintro e w2 ⟨v, P, rfl, hN, hsz, hv, hne, b2⟩
  obtain ⟨av, cv, rfl⟩ := hN.form
  have B2 := Lib.hid (below_up BX.out b2)
  have V2 := Lib.hid (V1.out.below b2)
  have N2 := Lib.hid hN
  have HV := Lib.hid hv
  have wn : wfI n := wf_small (by omega) (by omega)
  have IOK := Lib.hid (HOK.out P n hsz wn)
  have IWO := Lib.hid (HWO.out P n h l z hsz wn)
  have ITC := Lib.hid (HTC.out P n h l z hsz wn)
  have HLS := Lib.hid (SzP.lists hsz)
  have HNE := Lib.hid hne
  have IDE := Lib.hid (HDE.out P n hsz wn)
  have IFO : Hid (∀ c, c ∈ casesL n h l z → FollowIs 17 P n c) := fun c hc => HFO.out P n c hsz wn (wf_small (by have := cases_in hc; omega) (by have := cases_in hc; omega))
  have ICA := Lib.hid (fun W => implCasesOf n h l z W)
  unfold PlanOkIs at IOK
  unfold WorstCaseIs probV at IWO
  unfold TotalCostIs probV at ITC
  unfold PlanDepthIs at IDE
  unfold Lists probV at ICA
  clear b2 hN hsz hne hv wn hX1 V1 BX B1 C1 C2 HOK HWO HTC HDE HFO
  have HDEP : Hid (depthR P n = depthI P) := by unfold Hid depthR; rw [HV.out, if_pos rfl]
  rw [HDEP.out] at IDE
  rw [HV.out] at IOK
  have HG : goodB P n h l z = true := by unfold goodB; rw [HP.out, HV.out]; rfl
  have hcs := cases_some (z := z) HP.out
  obtain ⟨hwi, hwm⟩ := worst_most HG hcs
  rw [HG] at IWO
  have hct : costR P n h l z = sumF (costI P) (casesL n h l z) := by unfold costR; rw [HG, if_pos rfl]
  rw [hct] at ITC
  have HWI := Lib.hid hwi
  have HWM := Lib.hid hwm
  have HFW : Hid (∀ c ∈ casesL n h l z, fokB P n c = true ∧ fwR P n c = followL P c) := fun c hc => by
    have hcc := cases_coins hc
    have hf : fokB P n c = true := by
      unfold fokB
      rw [HV.out, decide_eq_true hcc.1, decide_eq_true hcc.2]; rfl
    exact ⟨hf, by unfold fwR; rw [if_pos hf]⟩
  have HC13 : Hid (∀ c ∈ casesL n h l z, -13 ≤ c ∧ c ≤ 13) := fun c hc => cases_in hc
  have HL27 := Lib.hid (cases_len n h l z)
  have HF60 : Hid (∀ c, 0 < (followL P c).length ∧ (followL P c).length ≤ 60 ∧ ((followL P c).length : Int) ≤ depthI P) := fun c => ⟨follow_some c HNE.out, followL_len HV.out c, followF_depth P c P.length 0⟩
  clear hcs hwi hwm hct HG HDEP
  generalize worstR P n h l z = wc at IWO HWI HWM
  generalize casesL n h l z = L at ICA IFO HL27 HFW HC13 ITC HWI HWM
  generalize hdp : depthI P = dp at IDE HF60
  clear hdp
  obtain ⟨tc, htc⟩ : ∃ tc, sumF (costI P) L = tc := ⟨_, rfl⟩
  have HTC2 := Lib.hid htc
  rw [htc] at ITC
  clear htc
  obtain ⟨e0, e1, e2, e3, -⟩ := V2.out
  go_wp2_with fail
  clear e0 e1 e2 e3
  refine (IDE.out _ _ N2.out).mono ?_
  rintro e w3 ⟨rfl, b3⟩
  have B3 := Lib.hid (below_up B2.out b3)
  have V3 := Lib.hid (V2.out.below b3)
  have N3 := Lib.hid (N2.out.below b3)
  clear b3
  obtain ⟨e0, e1, e2, e3, -⟩ := V3.out
  go_wp2_with fail
  clear e0 e1 e2 e3
  refine (IWO.out _ _ N3.out).mono ?_
  rintro e w4 ⟨rfl, b4⟩
  have B4 := Lib.hid (below_up B3.out b4)
  have V4 := Lib.hid (V3.out.below b4)
  have N4 := Lib.hid (N3.out.below b4)
  clear b4
  obtain ⟨e0, e1, e2, e3, -⟩ := V4.out
  go_wp2_with fail
  clear e0 e1 e2 e3
  refine (ICA.out _).mono ?_
  rintro e w5 ⟨vl, rfl, ol, b5⟩
  have B5 := Lib.hid (below_up B4.out b5)
  have V5 := Lib.hid (V4.out.below b5)
  have N5 := Lib.hid (N4.out.below b5)
  have L5 := Lib.hid (IntsAt.of_lists ol)
  obtain ⟨al, cl, rfl, hc⟩ := L5.out
  have HC : Hid (∀ i (h : i < L.length), ∃ b o, al = some ⟨b, o, none⟩ ∧ w5.cell? ⟨b, o + i, none⟩ = some (.int .i64 L[i])) := by
    intro i hi
    rcases hc with rfl | ⟨b, o, rfl, hc⟩
    · simp at hi
    · exact ⟨b, o, rfl, hc i hi⟩
  clear b5 ol hc
  obtain ⟨nl, hn⟩ : ∃ nl, L.length = nl := ⟨_, rfl⟩
  have hnl27 : nl ≤ 27 := by rw [← hn]; exact HL27.out
  rw [hn] at L5 ⊢
  have HN := Lib.hid hn
  clear hn L5
  go_wp2
  go_loopw [8, 9, 11, 12, 13, 14, 15, 16, 17, 42] (fun sv mv _ _ _ _ _ _ _ i wr => ∃ (k : Nat) (s q : Int), k ≤ nl ∧ i = .int .i64 k ∧ sv = .int .i64 s ∧ mv = .int .i64 q ∧ 0 ≤ s ∧ s ≤ 60 * (k : Int) ∧ 0 ≤ q ∧ q ≤ 60 ∧ Hid (s = sumF (costI P) (L.take k)) ∧ Hid (mostF (costI P) (L.drop k) q = costI P wc) ∧ Below w5.heap.size w5 wr ∧ Hid (Below w.heap.size w wr) ∧ Hid (ProbAt wr w1.heap.size n h l z) ∧ Hid (NodesAt wr (.slice av P.length cv) P)) (fun _ _ _ _ _ _ _ _ _ i _ => nl - (intOf i).toNat)
  case atStart => exact ⟨0, 0, 0, Nat.zero_le _, rfl, rfl, rfl, by omega, by omega, by omega, by omega, by simp [Hid, sumF], HWM, Below.refl _ _, B5, V5, N5⟩
  case round =>
    clear HWM B5 V5 N5
    obtain ⟨k, s, q, hk, rfl, rfl, rfl, s0, s1, q0, q1, HS, HM, hb, HB, HV2, HN2⟩ := hrel
    have HB5 := Lib.hid hb
    clear hb
    by_cases hlt : k < nl
    · have hkl : k < L.length := by rw [HN.out]; exact hlt
      obtain ⟨b, o, rfl, e0⟩ := HC.out k hkl
      have hbl := World.block_lt_of_cell? w5 _ e0
      have hfx := IFO.out L[k] (List.getElem_mem hkl)
      have hwx := HFW.out L[k] (List.getElem_mem hkl)
      have h13 := HC13.out L[k] (List.getElem_mem hkl)
      obtain ⟨hx0, hx60, hxd⟩ := HF60.out L[k]
      have hsu := sumF_take (costI P) hkl
      have hmo : mostF (costI P) (L.drop k) q = mostF (costI P) (L.drop (k + 1)) (max q (costI P L[k])) := by rw [List.drop_eq_getElem_cons hkl]; rfl
      obtain ⟨x, hx⟩ : ∃ x, L[k] = x := ⟨_, rfl⟩
      rw [hx] at e0 hfx hwx h13 hx0 hx60 hxd hsu hmo
      have e1 : wr.cell? ⟨b, o + k, none⟩ = some (.int .i64 x) := by rw [HB5.out.cell (p := ⟨b, o + k, none⟩) hbl]; exact e0
      unfold FollowIs Follows at hfx
      rw [hwx.1, hwx.2] at hfx
      have HFX := Lib.hid hfx
      have HSU := Lib.hid hsu
      have HMO := Lib.hid hmo
      have HCI : Hid (costI P x = ((followL P x).length : Int)) := rfl
      have HA0 : Hid ((followL P x).drop 0 = followF P x P.length 0) := rfl
      have HOX : Hid (∀ L R : List Int, L.length ≤ 1048576 → R.length ≤ 1048576 → OutIs 18 L R x) := fun L R h1 h2 => HOU.out L R x h1 h2 (by omega) (by omega)
      have HFA : Hid (∀ {A : List Int} {i f : Nat} {p : Int} (hi : i < A.length), (p = -1 ∨ 0 ≤ p ∧ p < (P.length : Int) ∧ P.length ≤ p.toNat + f) → A.drop i = followF P x f p → ∃ (k g : Nat) (hk : k < P.length), p = (k : Int) ∧ A[i] = outcI P[k].L P[k].R x ∧ outI P[k].L P[k].R x = A[i] ∧ A.drop (i + 1) = followF P x g (nextI P[k] A[i]) ∧
        ((nextI P[k] A[i] = -1 ∧ A.length = i + 1) ∨ (0 ≤ nextI P[k] A[i] ∧ nextI P[k] A[i] < (P.length : Int) ∧ P.length ≤ (nextI P[k] A[i]).toNat + g ∧ i + 1 < A.length))) := fun hi hp h => follow_at HV.out hi hp h
      have hP0 : 0 < P.length := List.length_pos_iff.2 HNE.out
      generalize costI P x = cx at HCI HSU HMO
      generalize followL P x = A at HFX HCI HA0 hx0 hx60 hxd
      have i0 : (0 : Int) ≤ (k : Int) := by omega
      have i1 : (k : Int) < (nl : Int) := by omega
      clear e0 hbl hx hkl hfx hwx hsu hmo h13
      obtain ⟨f0, f1, f2, f3, -⟩ := HV2.out
      go_wp2_with fail
      clear f0 f1 f2 f3 e1
      refine (HFX.out _ _ HN2.out).mono ?_
      rintro e w9 ⟨ux, rfl, ox, b9⟩
      have RX := ox.reads
      obtain ⟨ax, c9, rfl, hc9⟩ := RX
      have HCA : Hid (∀ i (h : i < A.length), ∃ b o, ax = some ⟨b, o, none⟩ ∧ w9.cell? ⟨b, o + i, none⟩ = some (.int .i64 A[i])) := by
        intro i hi
        rcases hc9 with rfl | ⟨b, o, rfl, hc⟩
        · simp at hi
        · exact ⟨b, o, rfl, hc i hi⟩
      have B9 := Lib.hid (below_up HB.out b9)
      have D9 := Lib.hid (HB5.out.trans (b9.mono HB5.out.size))
      have V9 := Lib.hid (HV2.out.below b9)
      have N9 := Lib.hid (HN2.out.below b9)
      clear ox b9 hc9
      obtain ⟨na, hna⟩ : ∃ na, A.length = na := ⟨_, rfl⟩
      have HNA := Lib.hid hna
      have hci := HCI.out
      rw [hna] at hx0 hx60 hxd hci ⊢
      subst hci
      clear hna HCI HB HB5 HV2 HN2
      have z0 : ((na : Int) == 0) = false := beq_eq_false_iff_ne.2 (by omega)
      have z1 : ¬ dp < (na : Int) := by omega
      go_wp2
      clear z0 z1
      go_loopw [14, 15, 16, 17, 69] (fun pv _ _ _ iv wr => ∃ (i f : Nat) (p : Int), i ≤ na ∧ iv = .int .i64 i ∧ pv = .int .i64 p ∧ (p = -1 ∨ 0 ≤ p ∧ p < (P.length : Int) ∧ P.length ≤ p.toNat + f) ∧ Hid (A.drop i = followF P x f p) ∧ Below w9.heap.size w9 wr ∧ Hid (Below w.heap.size w wr) ∧ Hid (ProbAt wr w1.heap.size n h l z) ∧ Hid (NodesAt wr (.slice av P.length cv) P)) (fun _ _ _ _ iv _ => na - (intOf iv).toNat)
      case atStart => exact ⟨0, P.length, 0, Nat.zero_le _, rfl, rfl, .inr ⟨by omega, by omega, by omega⟩, HA0, Below.refl _ _, B9, V9, N9⟩
      case round =>
        clear HA0 B9 V9 N9
        obtain ⟨i, f, p, hi, rfl, rfl, hp, HAF, hb, HB, HV2, HN2⟩ := hrel
        have HB9 := Lib.hid hb
        clear hb
        by_cases hin : i < na
        · have hil : i < A.length := by rw [HNA.out]; exact hin
          obtain ⟨bx, ox, rfl, e0⟩ := HCA.out i hil
          have hbl := World.block_lt_of_cell? w9 _ e0
          obtain ⟨j, g, hj, rfl, hxo, hou, hdn, hnx⟩ := HFA.out hil hp HAF.out
          obtain ⟨a', c', hv', hcell⟩ := HN2.out
          have hjn : j < P.length := hj
          obtain ⟨b2, o2, ul, ur, hbb, h5, hL, hR⟩ := hcell j hj
          have hds := HLS.out P[j] (List.getElem_mem hj)
          have hrg := outcI_range P[j].L P[j].R x
          rw [← hxo] at hrg
          rw [HNA.out] at hnx
          obtain ⟨y, hy⟩ : ∃ y, A[i] = y := ⟨_, rfl⟩
          rw [hy] at e0 hou hdn hnx hrg
          have e1 : wr.cell? ⟨bx, ox + i, none⟩ = some (.int .i64 y) := by rw [HB9.out.cell (p := ⟨bx, ox + i, none⟩) hbl]; exact e0
          obtain ⟨d, hd⟩ : ∃ d, P[j] = d := ⟨_, rfl⟩
          rw [hd] at h5 hL hR hds hou hdn hnx
          have hoc := HOX.out d.L d.R hds.1 hds.2
          unfold OutIs at hoc
          rw [hou] at hoc
          have HOC := Lib.hid hoc
          have HDN := Lib.hid hdn
          have hav : av = some ⟨b2, o2, none⟩ := by
            have : av = a' := by simpa using congrArg (fun v => match v with | .slice a _ _ => a | _ => none) hv'
            rw [this, hbb]
          subst hav
          obtain ⟨xl, ml, yl, rfl⟩ := hL.form
          obtain ⟨xr, mr, yr, rfl⟩ := hR.form
          have HH := Lib.hid h5
          have HLL := Lib.hid hL
          have HRR := Lib.hid hR
          have j0 : (0 : Int) ≤ (i : Int) := by omega
          have j1 : (i : Int) < (na : Int) := by omega
          have t0 : (0 : Int) ≤ (j : Int) := by omega
          have t1 : (j : Int) < (P.length : Int) := by omega
          clear e0 hbl hil hy hxo hou hdn hd hoc hv' hcell hbb h5 hL hR hds hj HAF
          obtain ⟨g0, g1, -⟩ := HH.out
          go_wp2_with fail
          clear g0 g1 e1
          refine (HOC.out _ _ _ HLL.out HRR.out).mono ?_
          rintro e wa ⟨rfl, ba⟩
          have Ba := Lib.hid (below_up HB.out ba)
          have Da := Lib.hid (HB9.out.trans (ba.mono HB9.out.size))
          have Va := Lib.hid (HV2.out.below ba)
          have Na := Lib.hid (HN2.out.below ba)
          have Ha := Lib.hid (HH.out.below ba)
          clear ba
          have Wb := Lib.hid (alloc_below wa (.cells #[.slice xl ml yl, .slice xr mr yr, .int .i64 d.a, .int .i64 d.b, .int .i64 d.c] 39))
          have F5 := Lib.hid (Five.new wa 39 (.slice xl ml yl) (.slice xr mr yr) d.a d.b d.c)
          generalize hX : wa.alloc (.cells #[.slice xl ml yl, .slice xr mr yr, .int .i64 d.a, .int .i64 d.b, .int .i64 d.c] 39) = X at Wb F5
          have Bx := Lib.hid (below_up Ba.out Wb.out)
          have Dx := Lib.hid (Da.out.trans (Wb.out.mono Da.out.size))
          have Vx := Lib.hid (Va.out.below Wb.out)
          have Nx := Lib.hid (Na.out.below Wb.out)
          obtain ⟨g0, g1, g2, g3, g4, -⟩ := Ha.out
          obtain ⟨f0, f1, f2, f3, f4, -⟩ := F5.out
          obtain ⟨hr0, hr1⟩ := hrg
          rcases (show y = -1 ∨ y = 0 ∨ y = 1 by omega) with rfl | rfl | rfl
          · have hnx' : (d.a = -1 ∧ na = i + 1) ∨ (0 ≤ d.a ∧ d.a < (P.length : Int) ∧ P.length ≤ d.a.toNat + g ∧ i + 1 < na) := hnx
            have HD2 : Hid (A.drop (i + 1) = followF P x g d.a) := HDN.out
            clear hnx
            generalize d.a = p' at *
            rcases hnx' with ⟨rfl, hl⟩ | ⟨p0, p1, p2, hl⟩
            · have hie : ((i : Int) == (na : Int) - 1) = true := by simp; omega
              clear hl
              go_wp2
              go_roundw
              case rel => exact ⟨i + 1, g, -1, by omega, by go_num, rfl, .inl rfl, HD2, Dx.out, Bx, Vx, Nx⟩
              case measure => simp [intOf]; omega
            · have hie : ((i : Int) == (na : Int) - 1) = false := beq_eq_false_iff_ne.2 (by omega)
              have hpn : ¬ p' < 0 := by omega
              go_wp2
              go_roundw
              case rel => exact ⟨i + 1, g, p', by omega, by go_num, rfl, .inr ⟨p0, p1, p2⟩, HD2, Dx.out, Bx, Vx, Nx⟩
              case measure => simp [intOf]; omega
          · have hnx' : (d.b = -1 ∧ na = i + 1) ∨ (0 ≤ d.b ∧ d.b < (P.length : Int) ∧ P.length ≤ d.b.toNat + g ∧ i + 1 < na) := hnx
            have HD2 : Hid (A.drop (i + 1) = followF P x g d.b) := HDN.out
            clear hnx
            generalize d.b = p' at *
            rcases hnx' with ⟨rfl, hl⟩ | ⟨p0, p1, p2, hl⟩
            · have hie : ((i : Int) == (na : Int) - 1) = true := by simp; omega
              clear hl
              go_wp2
              go_roundw
              case rel => exact ⟨i + 1, g, -1, by omega, by go_num, rfl, .inl rfl, HD2, Dx.out, Bx, Vx, Nx⟩
              case measure => simp [intOf]; omega
            · have hie : ((i : Int) == (na : Int) - 1) = false := beq_eq_false_iff_ne.2 (by omega)
              have hpn : ¬ p' < 0 := by omega
              go_wp2
              go_roundw
              case rel => exact ⟨i + 1, g, p', by omega, by go_num, rfl, .inr ⟨p0, p1, p2⟩, HD2, Dx.out, Bx, Vx, Nx⟩
              case measure => simp [intOf]; omega
          · have hnx' : (d.c = -1 ∧ na = i + 1) ∨ (0 ≤ d.c ∧ d.c < (P.length : Int) ∧ P.length ≤ d.c.toNat + g ∧ i + 1 < na) := hnx
            have HD2 : Hid (A.drop (i + 1) = followF P x g d.c) := HDN.out
            clear hnx
            generalize d.c = p' at *
            rcases hnx' with ⟨rfl, hl⟩ | ⟨p0, p1, p2, hl⟩
            · have hie : ((i : Int) == (na : Int) - 1) = true := by simp; omega
              clear hl
              go_wp2
              go_roundw
              case rel => exact ⟨i + 1, g, -1, by omega, by go_num, rfl, .inl rfl, HD2, Dx.out, Bx, Vx, Nx⟩
              case measure => simp [intOf]; omega
            · have hie : ((i : Int) == (na : Int) - 1) = false := beq_eq_false_iff_ne.2 (by omega)
              have hpn : ¬ p' < 0 := by omega
              go_wp2
              go_roundw
              case rel => exact ⟨i + 1, g, p', by omega, by go_num, rfl, .inr ⟨p0, p1, p2⟩, HD2, Dx.out, Bx, Vx, Nx⟩
              case measure => simp [intOf]; omega
        · have HB5 := Lib.hid (D9.out.trans (HB9.out.mono D9.out.size))
          have HS2 : Hid (s + (na : Int) = sumF (costI P) (L.take (k + 1))) := by unfold Hid; rw [HSU.out, ← HS.out]
          have HN3 : Hid (NodesAt wr (.slice av P.length cv) P) := HN2
          by_cases hq : q < (na : Int)
          · have HM2 : Hid (mostF (costI P) (L.drop (k + 1)) (na : Int) = costI P wc) := by unfold Hid; rw [← HM.out, HMO.out, show max q (na : Int) = (na : Int) by omega]
            go_wp2
            go_roundw
            case rel => exact ⟨k + 1, s + (na : Int), (na : Int), by omega, by go_num, by go_num, by go_num, by omega, by omega, by omega, by omega, HS2, HM2, HB5.out, HB, HV2, HN3⟩
            case measure => simp [intOf]; omega
          · have HM2 : Hid (mostF (costI P) (L.drop (k + 1)) q = costI P wc) := by unfold Hid; rw [← HM.out, HMO.out, show max q (na : Int) = q by omega]
            go_wp2
            go_roundw
            case rel => exact ⟨k + 1, s + (na : Int), q, by omega, by go_num, by go_num, by go_num, by omega, by omega, by omega, by omega, HS2, HM2, HB5.out, HB, HV2, HN3⟩
            case measure => simp [intOf]; omega
    · obtain rfl : k = nl := by omega
      have hse : s = tc := by rw [HS.out, ← HTC2.out, List.take_of_length_le (by rw [HN.out]; omega)]
      subst hse
      have hqe : q = costI P wc := by
        rw [← HM.out, List.drop_of_length_le (by rw [HN.out]; omega)]; rfl
      have hfx := IFO.out wc HWI.out
      have hwx := HFW.out wc HWI.out
      unfold FollowIs Follows at hfx
      rw [hwx.1, hwx.2] at hfx
      have HFX := Lib.hid hfx
      obtain ⟨-, -, hxd⟩ := HF60.out wc
      have hcl : costI P wc = ((followL P wc).length : Int) := rfl
      rw [hcl] at hqe
      subst hqe
      generalize followL P wc = A at HFX hxd q0 q1
      clear hfx hwx hcl HM HS
      obtain ⟨f0, f1, f2, f3, -⟩ := HV2.out
      go_wp2_with fail
      clear f0 f1 f2 f3
      refine (HFX.out _ _ HN2.out).mono ?_
      rintro e w9 ⟨ux, rfl, ox, b9⟩
      obtain ⟨ax, c9, rfl, -⟩ := ox.reads
      have B9 := Lib.hid (below_up HB.out b9)
      have V9 := Lib.hid (HV2.out.below b9)
      have N9 := Lib.hid (HN2.out.below b9)
      clear ox b9
      generalize A.length = na at hxd q0 q1 ⊢
      obtain ⟨f0, f1, f2, f3, -⟩ := V9.out
      go_wp2_with fail
      clear f0 f1 f2 f3
      refine (IOK.out _ _ N9.out).mono ?_
      rintro e wa ⟨rfl, ba⟩
      have Ba := Lib.hid (below_up B9.out ba)
      have Va := Lib.hid (V9.out.below ba)
      have Na := Lib.hid (N9.out.below ba)
      clear ba
      obtain ⟨f0, f1, f2, f3, -⟩ := Va.out
      go_wp2_with fail
      clear f0 f1 f2 f3
      refine (ITC.out _ _ Na.out).mono ?_
      rintro e wb ⟨rfl, bb⟩
      have Bb := Lib.hid (below_up Ba.out bb)
      clear bb
      go_wp2
      go_ret
      exact ⟨by simp, Bb.out⟩
end Go.Proofs.Ytipbjioghicmlaa
