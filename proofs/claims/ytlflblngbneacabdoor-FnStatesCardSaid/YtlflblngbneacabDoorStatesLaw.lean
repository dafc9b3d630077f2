/- The walk of FnStates, round the contract of the program's FormatState. No other condition. -/
import Derived.Test.YtlflblngbneacabDoorPickMade
import Derived.Test.YtlflblngbneacabDoorStateMade
import Derived.Test.YtlflblngbneacabDoorAfterImpl
import Derived.Test.YtlflblngbneacabDoorGClass
import Derived.Test.YtlflblngbneacabDoorGBounds
import Derived.Test.YtlflblngbneacabDoorFmtWeighSpec
namespace Go.Proofs.YtlflblngbneacabDoor
open Go.RowKit

theorem list4_some (s : SD) : (listB s.list).toList.isEmpty = false := by
  rw [ByteArray.toList_eq]
  unfold listB joinB SD.list
  simp [Lib.join, List.intercalate, comma]
theorem pick_num4 {s : SD} {p : PD} (h : pickB s p = true ∨ p = zeroP) : ∀ y ∈ p.list, I64 y := by
  intro y hy
  rcases h with h | rfl
  · unfold pickB at h
    simp only [Bool.and_eq_true, List.all_eq_true] at h
    have := cntB_iff.1 (h.2.1 y hy)
    unfold I64
    omega
  · have : y = 0 := by simpa [zeroP, PD.list] using hy
    subst this
    unfold I64
    omega
/-- What AfterPick leaves behind outcome x. -/
def tS (s : SD) (p : PD) (x : Int) : SD := (afterO s p x).getD zeroS
def accS (T : Int → SD) (k : Int) : Int :=
  if k ≤ -1 then 0 else if k ≤ 0 then countS (T (-1)) else if k ≤ 1 then countS (T (-1)) + countS (T 0) else countS (T (-1)) + countS (T 0) + countS (T 1)
theorem accS_next {T : Int → SD} {k : Int} (h0 : -1 ≤ k) (h1 : k ≤ 1) : accS T (k + 1) = accS T k + countS (T k) := by
  have : k = -1 ∨ k = 0 ∨ k = 1 := by omega
  rcases this with rfl | rfl | rfl <;> simp [accS]
theorem tS_ok {s : SD} {p : PD} {x : Int} (h : pickB s p = true) (h0 : -1 ≤ x) (h1 : x ≤ 1) : afterO s p x = some (afterS s p x) := by
  unfold afterO
  rw [h, decide_eq_true h0, decide_eq_true h1]
  rfl
theorem tS_no {s : SD} {p : PD} {x : Int} (h : pickB s p = false) : afterO s p x = none := by
  unfold afterO
  rw [h]
  rfl
theorem after_sum {s : SD} {p : PD} {x : Int} (h : pickB s p = true) : (0 ≤ (afterS s p x).b ∧ 0 ≤ (afterS s p x).h ∧ 0 ≤ (afterS s p x).l ∧ 0 ≤ (afterS s p x).g) ∧ (afterS s p x).b + (afterS s p x).h + (afterS s p x).l + (afterS s p x).g = s.b + s.h + s.l + s.g := by
  have h1 := after_in (x := x) (pick_in h).1 (pick_in h).2
  refine ⟨⟨h1.1, h1.2.1, h1.2.2.1, h1.2.2.2.1⟩, ?_⟩
  unfold afterS goodS
  split
  · simp only []; omega
  · split
    · simp only []; omega
    · simp only []; omega
theorem accS_in {T : Int → SD} (h : ∀ x, -1 ≤ x → x ≤ 1 → 0 ≤ countS (T x) ∧ countS (T x) ≤ 52) (k : Int) : 0 ≤ accS T k ∧ accS T k ≤ 156 := by
  have h1 := h (-1) (by omega) (by omega)
  have h2 := h 0 (by omega) (by omega)
  have h3 := h 1 (by omega) (by omega)
  unfold accS
  split
  · omega
  · split
    · omega
    · split <;> omega
/-- Four numbers that are coins. -/
def FourIn (r : SD) : Prop := (0 ≤ r.b ∧ r.b ≤ 13) ∧ (0 ≤ r.h ∧ r.h ≤ 13) ∧ (0 ≤ r.l ∧ r.l ≤ 13) ∧ 0 ≤ r.g ∧ r.g ≤ 13
theorem FourIn.count {r : SD} (h : FourIn r) : 0 ≤ countS r ∧ countS r ≤ 52 := by
  obtain ⟨h1, h2, h3, h4⟩ := h
  unfold countS
  omega

set_option maxRecDepth 100000 in
set_option maxHeartbeats 16000000 in
theorem walkStates (w : World) (a : Option Addr) (len cap : Nat) (hB : BytesAt w a len)
    (CFS : ∀ s : SD, stateB s = true → ∀ W, Below w.heap.size w W → Calls Tryd.prog 34 #[stateV s] W fun e w' => e = .returned (.string (listB s.list)) ∧ Below W.heap.size W w') :
    Calls Tryd.prog 6 #[.slice a len cap] w fun e w' => e = .returned (.bool true) ∧ Below w.heap.size w w' := by
  by_cases hbig : (1048576 : Int) < (len : Int)
  · go_enter Tryd.func6, Tryd.ntmps6
    go_wp2
    go_ret
    exact ⟨rfl, Below.refl _ _⟩
  have hl : len ≤ 1048576 := by omega
  have C1 := Lib.hid (specMakeState w w a len cap hB (Below.refl _ _) hl)
  have CP := Lib.hid (fun V t h ht => specMakePick1 w V a len cap 20 t hB h hl (by omega) (by omega) ht)
  have HCF := Lib.hid CFS
  clear hB CFS
  go_enter Tryd.func6, Tryd.ntmps6
  go_wp2_with fail
  refine C1.out.mono ?_
  rintro e w1 ⟨s, rfl, hs, -, b1⟩
  have CC : Hid (∀ W, Calls Tryd.prog 30 #[stateV s] W fun e w' => e = .returned (.int .i64 (countS s)) ∧ Below W.heap.size W w') := fun W => by
    have := implCountCases s W
    unfold casesS at this
    rwa [hs] at this
  have CO : Hid (∀ W, Calls Tryd.prog 33 #[stateV s] W fun e w' => e = .returned (.bool true) ∧ Below W.heap.size W w') := fun W => by
    have := implStateOk s W
    rwa [hs] at this
  have CF := Lib.hid (HCF.out s hs)
  have CP1 := Lib.hid (fun V h => CP.out V s h hs)
  have HE := list4_some s
  generalize listB s.list = tx at CF HE
  have HC0 := count_in hs
  obtain ⟨⟨sb0, sb1⟩, ⟨sh0, sh1⟩, ⟨sl0, sl1⟩, ⟨sg0, sg1⟩, -⟩ := stateB_in hs
  have P2 := StateAt.new w1 49 s
  have A2 := alloc_below w1 (.cells #[.int .i64 s.b, .int .i64 s.h, .int .i64 s.l, .int .i64 s.g] 49)
  generalize hX2 : w1.alloc (.cells #[.int .i64 s.b, .int .i64 s.h, .int .i64 s.l, .int .i64 s.g] 49) = X2 at P2 A2
  have PX := Lib.hid P2
  have BX := Lib.hid (below_up b1 A2)
  have HS := Lib.hid hs
  clear P2 A2 b1 HCF CP C1 hbig hl hs
  unfold stateV at CP1 CC CO CF ⊢
  obtain ⟨e0, e1, e2, e3, -⟩ := PX.out
  go_wp2_with fail
  refine (CP1.out _ BX.out).mono ?_
  rintro e w3 ⟨p, rfl, hp, bb⟩
  have HPN := Lib.hid (pick_num4 hp)
  have CK := Lib.hid (fun V => implPickOk s p HPN.out V)
  have CA := Lib.hid (fun x V => implAfterPick s p x HPN.out V)
  have HTS : Hid (pickB s p = true → ∀ x, -1 ≤ x → x ≤ 1 → afterO s p x = some (afterS s p x) ∧ (0 ≤ (afterS s p x).b ∧ 0 ≤ (afterS s p x).h ∧ 0 ≤ (afterS s p x).l ∧ 0 ≤ (afterS s p x).g) ∧ (afterS s p x).b + (afterS s p x).h + (afterS s p x).l + (afterS s p x).g = s.b + s.h + s.l + s.g) := fun h x h0 h1 => ⟨tS_ok h h0 h1, after_sum h⟩
  have HTN : Hid (pickB s p = false → ∀ x, afterO s p x = none) := fun h x => tS_no h
  have HCS : Hid (accS (afterS s p) 2 = countS s) := by have := after_counts s p; unfold Hid accS; simp; omega
  have A4 := alloc_below w3 (.cells #[.int .i64 p.bl, .int .i64 p.br, .int .i64 p.hl, .int .i64 p.hr, .int .i64 p.ll, .int .i64 p.lr, .int .i64 p.gl, .int .i64 p.gr] 52)
  have Q4 := Lib.hid (PickAt.new w3 52 p)
  have P4 := Lib.hid ((PX.out.below bb).below A4)
  have B4 := Lib.hid (below_up (below_up BX.out bb) A4)
  unfold pickV at CK CA ⊢
  unfold stateV at CK CA
  generalize hX4 : w3.alloc (.cells #[.int .i64 p.bl, .int .i64 p.br, .int .i64 p.hl, .int .i64 p.hr, .int .i64 p.ll, .int .i64 p.lr, .int .i64 p.gl, .int .i64 p.gr] 52) = X4 at Q4 P4 B4
  clear bb A4 hp hX2 e0 e1 e2 e3 PX BX CP1
  obtain ⟨e0, e1, e2, e3, -⟩ := P4.out
  go_wp2_with fail
  refine (CC.out _).mono ?_
  rintro e w5 ⟨rfl, bb⟩
  have P5 := Lib.hid (P4.out.below bb)
  have Q5 := Lib.hid (Q4.out.below bb)
  have B5 := Lib.hid (below_up B4.out bb)
  clear bb hX4 e0 e1 e2 e3 P4 Q4 B4 CC
  obtain ⟨e0, e1, e2, e3, -⟩ := P5.out
  obtain ⟨q0, q1, q2, q3, q4, q5, q6, q7, -⟩ := Q5.out
  go_wp2_with fail
  refine (CK.out _).mono ?_
  rintro e w6 ⟨rfl, bb⟩
  have P6 := Lib.hid (P5.out.below bb)
  have Q6 := Lib.hid (Q5.out.below bb)
  have B6 := Lib.hid (below_up B5.out bb)
  clear bb e0 e1 e2 e3 q0 q1 q2 q3 q4 q5 q6 q7 P5 Q5 B5 CK
  obtain ⟨cs, hcs⟩ : ∃ cs, countS s = cs := ⟨_, rfl⟩
  rw [hcs] at HC0 HCS ⊢
  have HSM : (s.b + s.h + s.l + s.g != s.b + s.h + s.l + s.g) = false := by simp
  have hce : (cs == cs) = true := by simp
  clear hcs
  obtain ⟨ok, hok⟩ : ∃ ok, pickB s p = ok := ⟨_, rfl⟩
  rw [hok] at HTS HTN ⊢
  obtain ⟨T, HT, HA2⟩ : ∃ T : Int → SD, Hid (∀ x, -1 ≤ x → x ≤ 1 → (∀ V, Calls Tryd.prog 32 #[.agg #[.int .i64 s.b, .int .i64 s.h, .int .i64 s.l, .int .i64 s.g], .agg #[.int .i64 p.bl, .int .i64 p.br, .int .i64 p.hl, .int .i64 p.hr, .int .i64 p.ll, .int .i64 p.lr, .int .i64 p.gl, .int .i64 p.gr], .int .i64 x] V fun e w' => e = .returned (.tuple #[.agg #[.int .i64 (T x).b, .int .i64 (T x).h, .int .i64 (T x).l, .int .i64 (T x).g], .bool ok]) ∧ Below V.heap.size V w') ∧ FourIn (T x) ∧ (ok = true → (T x).b + (T x).h + (T x).l + (T x).g = s.b + s.h + s.l + s.g)) ∧ Hid (ok = true → accS T 2 = cs) := by
    cases ok with
    | false =>
      refine ⟨fun _ => zeroS, fun x h0 h1 => ⟨fun V => ?_, by unfold FourIn zeroS; simp, fun h => by simp at h⟩, fun h => by simp at h⟩
      have := CA.out x V
      rw [HTN.out rfl x] at this
      exact this
    | true =>
      have hin := stateB_in HS.out
      refine ⟨afterS s p, fun x h0 h1 => ⟨fun V => ?_, ?_, fun _ => (HTS.out rfl x h0 h1).2.2⟩, fun _ => HCS.out⟩
      · have := CA.out x V
        rw [(HTS.out rfl x h0 h1).1] at this
        exact this
      · obtain ⟨-, ⟨g0, g1, g2, g3⟩, g4⟩ := HTS.out rfl x h0 h1
        unfold FourIn
        omega
  have HIN := Lib.hid (fun k => accS_in (T := T) (fun x h0 h1 => (HT.out x h0 h1).2.1.count) k)
  clear hok HTS HTN HCS CA HS HPN
  obtain ⟨e0, e1, e2, e3, -⟩ := P6.out
  go_wp2_with fail
  clear e0 e1 e2 e3
  go_loopw [8, 9] (fun sv xv wr => ∃ k : Int, -1 ≤ k ∧ k ≤ 2 ∧ xv = .int .i64 k ∧ sv = .int .i64 (accS T k) ∧ Hid (StateAt wr w1.heap.size s) ∧ Hid (PickAt wr w3.heap.size p) ∧ Hid (Below w.heap.size w wr)) (fun _ xv _ => (2 - intOf xv).toNat)
  case atStart => exact ⟨-1, by omega, by omega, rfl, rfl, P6, Q6, B6⟩
  case round =>
    clear P6 Q6 B6
    obtain ⟨k, k0, k2, rfl, rfl, P7, Q7, B7⟩ := hrel
    by_cases hk : k ≤ 1
    · have CA1 := Lib.hid (HT.out k k0 hk).1
      obtain ⟨⟨b0, b1⟩, ⟨h0, h1⟩, ⟨l0, l1⟩, g0, g1⟩ := (HT.out k k0 hk).2.1
      have hsum := (HT.out k k0 hk).2.2
      have hacc := accS_next (T := T) k0 hk
      obtain ⟨u0, u1⟩ := HIN.out k
      have HNX : Hid (accS T (k + 1) = accS T k + (2 * (T k).b + (T k).h + (T k).l)) := hacc
      generalize accS T k = u at u0 u1 HNX ⊢
      generalize T k = r at CA1 b0 b1 h0 h1 l0 l1 g0 g1 hsum HNX
      have hne : ok = true → (r.b + r.h + r.l + r.g != s.b + s.h + s.l + s.g) = false := fun h => by rw [hsum h]; simp
      obtain ⟨e0, e1, e2, e3, -⟩ := P7.out
      obtain ⟨q0, q1, q2, q3, q4, q5, q6, q7, -⟩ := Q7.out
      clear hsum hacc
      go_wp2_with fail
      refine (CA1.out _).mono ?_
      rintro e w8 ⟨rfl, bb⟩
      have A9 := alloc_below w8 (.cells #[.int .i64 r.b, .int .i64 r.h, .int .i64 r.l, .int .i64 r.g] 49)
      have R9 := Lib.hid (StateAt.new w8 49 r)
      have P9 := Lib.hid ((P7.out.below bb).below A9)
      have Q9 := Lib.hid ((Q7.out.below bb).below A9)
      have B9 := Lib.hid (below_up (below_up B7.out bb) A9)
      generalize hX9 : w8.alloc (.cells #[.int .i64 r.b, .int .i64 r.h, .int .i64 r.l, .int .i64 r.g] 49) = X9 at R9 P9 Q9 B9
      clear bb A9 e0 e1 e2 e3 q0 q1 q2 q3 q4 q5 q6 q7 P7 Q7 B7 CA1
      obtain ⟨f0, f1, f2, f3, -⟩ := R9.out
      cases ok
      · clear hne
        go_wp2_with fail
        go_roundw
        case rel => exact ⟨k + 1, by omega, by omega, by go_num, by rw [HNX.out]; go_num, P9, Q9, B9⟩
        case measure => simp [intOf]; omega
      · replace hne := hne rfl
        go_wp2_with fail
        go_roundw
        case rel => exact ⟨k + 1, by omega, by omega, by go_num, by rw [HNX.out]; go_num, P9, Q9, B9⟩
        case measure => simp [intOf]; omega
    · obtain rfl : k = 2 := by omega
      have HU := HA2.out
      obtain ⟨u0, u1⟩ := HIN.out 2
      generalize accS T 2 = u at HU u0 u1 ⊢
      obtain ⟨c0, c1⟩ := HC0
      have hge : ¬ cs < 0 := by omega
      obtain ⟨e0, e1, e2, e3, -⟩ := P7.out
      cases ok
      · clear HU
        go_wp2_with fail
        refine (CO.out _).mono ?_
        rintro e w8 ⟨rfl, bb⟩
        have P8 := Lib.hid (P7.out.below bb)
        have B8 := Lib.hid (below_up B7.out bb)
        clear bb e0 e1 e2 e3 P7 B7 CO
        obtain ⟨e0, e1, e2, e3, -⟩ := P8.out
        go_wp2_with fail
        refine (CF.out _ B8.out).mono ?_
        rintro e w9 ⟨rfl, bb⟩
        have B9 := Lib.hid (below_up B8.out bb)
        clear bb e0 e1 e2 e3 P8 B8 CF
        go_wp2
        go_ret
        exact ⟨rfl, B9.out⟩
      · obtain rfl := HU rfl
        go_wp2_with fail
        refine (CO.out _).mono ?_
        rintro e w8 ⟨rfl, bb⟩
        have P8 := Lib.hid (P7.out.below bb)
        have B8 := Lib.hid (below_up B7.out bb)
        clear bb e0 e1 e2 e3 P7 B7 CO
        obtain ⟨e0, e1, e2, e3, -⟩ := P8.out
        go_wp2_with fail
        refine (CF.out _ B8.out).mono ?_
        rintro e w9 ⟨rfl, bb⟩
        have B9 := Lib.hid (below_up B8.out bb)
        clear bb e0 e1 e2 e3 P8 B8 CF
        go_wp2
        go_ret
        exact ⟨rfl, B9.out⟩
end Go.Proofs.YtlflblngbneacabDoor
