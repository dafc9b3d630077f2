/- The contracts of the model's and the program's CasesLeft, and the walk of its law. Conditions: the slice reads as picks, the numbers of which are Go integers. -/
import Derived.Test.YtbkhmlkicafheaaPlayLaw
import Derived.Test.YtbkhmlkicafheaaPlayImpl
namespace Go.Proofs.Ytbkhmlkicafheaa
open Go.RowKit

theorem casesLeft_of (s : SD) (P : List PD) : casesLeftI s P = if (playR s P).isSome = true then countS (lastR (playR s P)) else -1 := by
  unfold casesLeftI
  cases playR s P <;> rfl
theorem last_valid {s : SD} {P : List PD} (h : (playR s P).isSome = true) : stateB (lastR (playR s P)) = true := by
  unfold playR at h ⊢
  split at h
  · rename_i hc
    rw [if_pos hc]
    rw [Bool.and_eq_true] at hc
    cases hp : playO s P with
    | none => rw [hp] at h; cases h
    | some r => exact (playO_valid hc.1 hp).1
  · cases h
def CasesLeftIs (f : FuncId) (s : SD) (P : List PD) : Prop := ∀ W v, PicksAt W v P → Calls Try.prog f #[stateV s, v] W fun e w' => e = .returned (.int .i64 (casesLeftI s P)) ∧ Below W.heap.size W w'

set_option maxRecDepth 100000 in
set_option maxHeartbeats 3200000 in
theorem specCasesLeft (s : SD) (P : List PD) : CasesLeftIs 31 s P := by
  intro w v hv
  have C : Hid (∀ W v, PicksAt W v P → Calls Try.prog 22 #[stateV s, v] W (Plays (playR s P) W)) := fun W v h => specPlay s v P W h
  have HC := Lib.hid (casesLeft_of s P)
  have CN : Hid ((playR s P).isSome = true → ∀ W, Calls Try.prog 62 #[stateV (lastR (playR s P))] W fun e w' => e = .returned (.int .i64 (countS (lastR (playR s P)))) ∧ Below W.heap.size W w') := fun h W => specCountOf _ (last_valid h) W
  generalize casesLeftI s P = r at HC ⊢
  unfold Plays at C
  generalize (playR s P).isSome = ok at C HC CN
  generalize lastR (playR s P) = t at C HC CN
  generalize outsR (playR s P) = F at C
  have P0 := StateAt.new w 32 s
  have B0 := alloc_below w (.cells #[.int .i64 s.b, .int .i64 s.h, .int .i64 s.l, .int .i64 s.g] 32)
  have H0 := Lib.hid (hv.below B0)
  obtain ⟨a0, k0, rfl, -⟩ := hv
  generalize hX0 : w.alloc (.cells #[.int .i64 s.b, .int .i64 s.h, .int .i64 s.l, .int .i64 s.g] 32) = X0 at P0 B0 H0
  have B1 := Lib.hid B0
  obtain ⟨e0, e1, e2, e3, -⟩ := P0
  unfold stateV at C CN ⊢
  generalize P.length = n at H0 ⊢
  clear B0
  go_enter Try.func31, Try.ntmps31
  go_wp2_with fail
  refine (C.out _ _ H0.out).mono ?_
  rintro e w1 ⟨u, rfl, o1, bb⟩
  obtain ⟨g1, n1, q1, rfl⟩ := o1.form
  have S2 := StateAt.new w1 32 t
  have aa := alloc_below w1 (.cells #[.int .i64 t.b, .int .i64 t.h, .int .i64 t.l, .int .i64 t.g] 32)
  have B2 := Lib.hid (below_up (below_up B1.out bb) aa)
  generalize hX2 : w1.alloc (.cells #[.int .i64 t.b, .int .i64 t.h, .int .i64 t.l, .int .i64 t.g] 32) = X2 at S2 B2
  clear hX0 e0 e1 e2 e3 bb aa o1 H0 B1 C
  obtain ⟨f0, f1, f2, f3, -⟩ := S2
  cases ok with
  | false =>
    have HE : Hid (r = -1) := HC.out
    clear HC CN
    go_wp2
    go_ret
    exact ⟨ret_int HE.out.symm, B2.out⟩
  | true =>
    have HE : Hid (r = countS t) := HC.out
    have CN2 := Lib.hid (CN.out rfl)
    clear HC CN
    generalize countS t = m at HE CN2
    go_wp2_with fail
    refine (CN2.out _).mono ?_
    rintro e w3 ⟨rfl, bb⟩
    have B3 := Lib.hid (below_up B2.out bb)
    clear bb
    go_wp2
    go_ret
    exact ⟨ret_int HE.out.symm, B3.out⟩

set_option maxRecDepth 100000 in
set_option maxHeartbeats 3200000 in
theorem implCasesLeft (s : SD) (P : List PD) (hn : ∀ p ∈ P, ∀ y ∈ p.list, I64 y) : CasesLeftIs 32 s P := by
  intro w v hv
  have C : Hid (∀ W v, PicksAt W v P → Calls Try.prog 24 #[stateV s, v] W (Plays (playR s P) W)) := fun W v h => implPlay s v P W h hn
  have HC := Lib.hid (casesLeft_of s P)
  have CN : Hid ((playR s P).isSome = true → ∀ W, Calls Try.prog 36 #[stateV (lastR (playR s P))] W fun e w' => e = .returned (.int .i64 (countS (lastR (playR s P)))) ∧ Below W.heap.size W w') := fun h W => by
    have := implCountCases (lastR (playR s P)) W
    unfold casesS at this
    rwa [last_valid h] at this
  generalize casesLeftI s P = r at HC ⊢
  unfold Plays at C
  generalize (playR s P).isSome = ok at C HC CN
  generalize lastR (playR s P) = t at C HC CN
  generalize outsR (playR s P) = F at C
  have P0 := StateAt.new w 32 s
  have B0 := alloc_below w (.cells #[.int .i64 s.b, .int .i64 s.h, .int .i64 s.l, .int .i64 s.g] 32)
  have H0 := Lib.hid (hv.below B0)
  obtain ⟨a0, k0, rfl, -⟩ := hv
  generalize hX0 : w.alloc (.cells #[.int .i64 s.b, .int .i64 s.h, .int .i64 s.l, .int .i64 s.g] 32) = X0 at P0 B0 H0
  have B1 := Lib.hid B0
  obtain ⟨e0, e1, e2, e3, -⟩ := P0
  unfold stateV at C CN ⊢
  generalize P.length = n at H0 ⊢
  clear B0 hn
  go_enter Try.func32, Try.ntmps32
  go_wp2_with fail
  refine (C.out _ _ H0.out).mono ?_
  rintro e w1 ⟨u, rfl, o1, bb⟩
  obtain ⟨g1, n1, q1, rfl⟩ := o1.form
  have S2 := StateAt.new w1 32 t
  have aa := alloc_below w1 (.cells #[.int .i64 t.b, .int .i64 t.h, .int .i64 t.l, .int .i64 t.g] 32)
  have B2 := Lib.hid (below_up (below_up B1.out bb) aa)
  generalize hX2 : w1.alloc (.cells #[.int .i64 t.b, .int .i64 t.h, .int .i64 t.l, .int .i64 t.g] 32) = X2 at S2 B2
  clear hX0 e0 e1 e2 e3 bb aa o1 H0 B1 C
  obtain ⟨f0, f1, f2, f3, -⟩ := S2
  cases ok with
  | false =>
    have HE : Hid (r = -1) := HC.out
    clear HC CN
    go_wp2
    go_ret
    exact ⟨ret_int HE.out.symm, B2.out⟩
  | true =>
    have HE : Hid (r = countS t) := HC.out
    have CN2 := Lib.hid (CN.out rfl)
    clear HC CN
    generalize countS t = m at HE CN2
    go_wp2_with fail
    refine (CN2.out _).mono ?_
    rintro e w3 ⟨rfl, bb⟩
    have B3 := Lib.hid (below_up B2.out bb)
    clear bb
    go_wp2
    go_ret
    exact ⟨ret_int HE.out.symm, B3.out⟩

set_option maxRecDepth 100000 in
set_option maxHeartbeats 6400000 in
theorem lawCasesLeft (s : SD) (w : World) (v : Value) (P : List PD) (cp : PicksAt w v P) (cm : P.length ≤ maxLen) (IM : CasesLeftIs 32 s P) :
    Calls Try.prog 7 #[stateV s, v] w fun e w' => e = .returned (.bool true) ∧ Below w.heap.size w w' := by
  have SZ := Lib.hid (fun W h => szPicks v P W h cm)
  have H0 := Lib.hid cp
  have T := Lib.hid (toStateL s)
  have P0 := Lib.hid (StateAt.new w 27 s)
  have B0 := Lib.hid (alloc_below w (.cells #[.int .i64 s.b, .int .i64 s.h, .int .i64 s.l, .int .i64 s.g] 27))
  obtain ⟨a0, k0, rfl, -⟩ := cp
  have IP := Lib.hid IM
  have SP := Lib.hid (specCasesLeft s P)
  unfold CasesLeftIs at IP SP
  generalize casesLeftI s P = t at SP IP
  clear cm IM
  generalize hX0 : w.alloc (.cells #[.int .i64 s.b, .int .i64 s.h, .int .i64 s.l, .int .i64 s.g] 27) = X0 at P0 B0
  unfold stateV at T SP IP ⊢
  go_enter Try.func7, Try.ntmps7
  go_wp2_with fail
  refine (SZ.out _ (H0.out.below B0.out)).mono ?_
  rintro e w1 ⟨r, rfl, hr, bb⟩
  have B1 := Lib.hid (below_up B0.out bb)
  have P1 := Lib.hid (P0.out.below bb)
  clear bb hX0 P0 B0
  by_cases hneg : r < 0
  · go_wp2
    go_ret
    exact ⟨rfl, B1.out⟩
  · obtain ⟨r0, r1, hsz⟩ : 0 ≤ r ∧ r ≤ 1048576 ∧ P.length ≤ 1048576 := by
      unfold SzK at hr
      rcases hr with h | h
      · omega
      · exact h
    have TP := Lib.hid (fun W h => toPicks (.slice a0 P.length k0) P W h hsz)
    have EQ := Lib.hid (fun W a b h h' => eqPicks a b P W h h' hsz)
    clear hr hsz r1
    generalize P.length = n at H0 TP SZ
    obtain ⟨e0, e1, e2, e3, -⟩ := P1.out
    go_wp2_with fail
    refine (T.out _).mono ?_
    rintro e w2 ⟨rfl, bb⟩
    have B2 := Lib.hid (below_up B1.out bb)
    have P2 := Lib.hid (P1.out.below bb)
    clear bb e0 e1 e2 e3 P1 B1
    go_wp2_with fail
    refine (TP.out _ (H0.out.below B2.out)).mono ?_
    rintro e w3 ⟨u3, rfl, o3, bb⟩
    obtain ⟨g3, n3, q3, rfl⟩ := o3.form
    have B3 := Lib.hid (below_up B2.out bb)
    have P3 := Lib.hid (P2.out.below bb)
    have R3 := Lib.hid o3.reads
    clear o3 bb P2 B2
    go_wp2_with fail
    refine (SP.out _ _ R3.out).mono ?_
    rintro e w4 ⟨rfl, bb⟩
    have B4 := Lib.hid (below_up B3.out bb)
    have P4 := Lib.hid (P3.out.below bb)
    clear bb R3 P3 B3
    go_wp2_with fail
    refine (TP.out _ (H0.out.below B4.out)).mono ?_
    rintro e w6 ⟨u6, rfl, o6, bb⟩
    obtain ⟨g6, n6, q6, rfl⟩ := o6.form
    have X6 := Lib.hid o6.reads
    have B6 := Lib.hid (below_up B4.out bb)
    have P6 := Lib.hid (P4.out.below bb)
    clear o6 bb B4 P4
    obtain ⟨e0, e1, e2, e3, -⟩ := P6.out
    go_wp2_with fail
    refine (T.out _).mono ?_
    rintro e w7 ⟨rfl, bb⟩
    have B7 := Lib.hid (below_up B6.out bb)
    have X7 := Lib.hid (X6.out.below bb)
    clear bb e0 e1 e2 e3 P6 B6 X6
    go_wp2_with fail
    refine (IP.out _ _ X7.out).mono ?_
    rintro e w8 ⟨rfl, bb⟩
    have B8 := Lib.hid (below_up B7.out bb)
    have X8 := Lib.hid (X7.out.below bb)
    clear bb B7 X7
    go_wp2_with fail
    refine (TP.out _ (H0.out.below B8.out)).mono ?_
    rintro e wD ⟨uD, rfl, oD, bb⟩
    obtain ⟨gD, nD, qD, rfl⟩ := oD.form
    have BD := Lib.hid (below_up B8.out bb)
    have XD := Lib.hid (X8.out.below bb)
    have YD := Lib.hid oD.reads
    clear bb B8 X8 oD
    go_wp2_with fail
    refine (EQ.out _ _ _ XD.out YD.out).mono ?_
    rintro e wE ⟨rfl, bb⟩
    have BE := Lib.hid (below_up BD.out bb)
    clear bb
    go_wp2
    go_ret
    exact ⟨rfl, BE.out⟩
end Go.Proofs.Ytbkhmlkicafheaa
