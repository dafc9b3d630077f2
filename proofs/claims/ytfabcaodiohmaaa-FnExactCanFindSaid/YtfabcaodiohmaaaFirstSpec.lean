/- The contract of the model's search for the first pick, round the contract of the search with one weighing fewer; and with it the search itself, by induction. Conditions: a valid state, at most three weighings. -/
import Derived.Test.YtfabcaodiohmaaaLightsSpec
namespace Go.Proofs.Ytfabcaodiohmaaa
open Go.RowKit

theorem opt_split {α : Type} (t : Option α) (z : α) : ∃ g ok, t.getD z = g ∧ t.isSome = ok ∧ (ok = true → t = some g) ∧ (ok = false → t = none) := by
  cases t with
  | none => exact ⟨z, false, rfl, rfl, fun h => (Bool.false_ne_true h).elim, fun _ => rfl⟩
  | some g => exact ⟨g, true, rfl, rfl, fun _ => rfl, fun h => (Bool.false_ne_true h.symm).elim⟩

set_option maxRecDepth 100000 in
set_option maxHeartbeats 6400000 in
theorem specFirst (j : Nat) (hj : j ≤ 2) (K : Int) (hK : K = (j : Int) + 1) (can : SD → Bool) (HCAN : CanIs j can) (s : SD) (hs : SIn s) (w : World) :
    Calls Try.prog 39 #[stateV s, .int .i64 K] w fun e w' => e = .returned (.tuple #[pickV ((firstP can (3 ^ j) s).getD zeroP), .bool (firstP can (3 ^ j) s).isSome]) ∧ Below w.heap.size w w' := by
  have hb0 : 0 ≤ s.b ∧ s.b ≤ 13 ∧ 0 ≤ s.h ∧ s.h ≤ 13 := by have := hs; unfold SIn sumS at this; omega
  obtain ⟨NB, hNB⟩ : ∃ N, N = s.b.toNat + 1 := ⟨_, rfl⟩
  obtain ⟨NH, hNH⟩ : ∃ N, N = s.h.toNat + 1 := ⟨_, rfl⟩
  have hNb : s.b = (NB : Int) - 1 := by omega
  have hNh : s.h = (NH : Int) - 1 := by omega
  have CL := Lib.hid (fun (a b c d : Nat) (h : a + b < NB) (h' : c + d < NH) W => specLights j hj K hK can HCAN s ⟨(a : Int), (b : Int), (c : Int), (d : Int), 0, 0, 0, 0⟩ hs
    ⟨by show (0 : Int) ≤ (a : Int); omega, by show (0 : Int) ≤ (b : Int); omega, by show (0 : Int) ≤ (c : Int); omega, by show (0 : Int) ≤ (d : Int); omega, by show (a : Int) + (b : Int) ≤ s.b; omega, by show (c : Int) + (d : Int) ≤ s.h; omega⟩ rfl rfl W)
  obtain ⟨f4, h4⟩ : ∃ f4 : Nat → Nat → Nat → Nat → Option PD, f4 = fun (a b c d : Nat) => lightsP can (3 ^ j) s ⟨(a : Int), (b : Int), (c : Int), (d : Int), 0, 0, 0, 0⟩ := ⟨_, rfl⟩
  obtain ⟨f3, h3⟩ : ∃ f3 : Nat → Nat → Nat → Option PD, f3 = fun (a b c : Nat) => firstFrom (f4 a b c) (NH - c) 0 := ⟨_, rfl⟩
  obtain ⟨f2, h2⟩ : ∃ f2 : Nat → Nat → Option PD, f2 = fun (a b : Nat) => firstFrom (f3 a b) NH 0 := ⟨_, rfl⟩
  obtain ⟨f1, h1⟩ : ∃ f1 : Nat → Option PD, f1 = fun (a : Nat) => firstFrom (f2 a) (NB - a) 0 := ⟨_, rfl⟩
  have HR0 : Hid (firstP can (3 ^ j) s = firstFrom f1 (NB - 0) 0) := by
    rw [h1, h2, h3, h4, hNB, hNH]; rfl
  have H4 : Hid (∀ a b c d : Nat, lightsP can (3 ^ j) s ⟨(a : Int), (b : Int), (c : Int), (d : Int), 0, 0, 0, 0⟩ = f4 a b c d) := fun a b c d => by rw [h4]
  have H3 : Hid (∀ a b c, f3 a b c = firstFrom (f4 a b c) (NH - c - 0) 0) := fun a b c => by rw [h3]; rfl
  have H2 : Hid (∀ a b, f2 a b = firstFrom (f3 a b) (NH - 0) 0) := fun a b => by rw [h2]; rfl
  have H1 : Hid (∀ a, f1 a = firstFrom (f2 a) (NB - a - 0) 0) := fun a => by rw [h1]; rfl
  generalize firstP can (3 ^ j) s = r at HR0 ⊢
  have HB := Lib.hid hNb
  have HH := Lib.hid hNh
  have hNB14 : NB ≤ 14 := by omega
  have hNH14 : NH ≤ 14 := by omega
  clear h1 h2 h3 h4 hNB hNH hNb hNh hs hb0 HCAN hK
  have P0 := StateAt.new w 25 s
  have B0 := alloc_below w (.cells #[.int .i64 s.b, .int .i64 s.h, .int .i64 s.l, .int .i64 s.g] 25)
  have s0 : (w.alloc (.cells #[.int .i64 s.b, .int .i64 s.h, .int .i64 s.l, .int .i64 s.g] 25)).heap.size = w.heap.size + 1 := by simp
  generalize hX0 : w.alloc (.cells #[.int .i64 s.b, .int .i64 s.h, .int .i64 s.l, .int .i64 s.g] 25) = X0 at P0 B0 s0
  have Q1 := EightVar.new X0 32 zeroP
  have B1 := alloc_below X0 (.cells #[.int .i64 0, .int .i64 0, .int .i64 0, .int .i64 0, .int .i64 0, .int .i64 0, .int .i64 0, .int .i64 0] 32)
  have s1 : (X0.alloc (.cells #[.int .i64 0, .int .i64 0, .int .i64 0, .int .i64 0, .int .i64 0, .int .i64 0, .int .i64 0, .int .i64 0] 32)).heap.size = w.heap.size + 2 := by simp [s0]
  rw [s0] at Q1
  have BX := Lib.hid (below_up B0 B1)
  have P1 := Lib.hid (P0.below B1)
  change EightVar (X0.alloc (.cells #[.int .i64 0, .int .i64 0, .int .i64 0, .int .i64 0, .int .i64 0, .int .i64 0, .int .i64 0, .int .i64 0] 32)) _ _ at Q1
  generalize hX1 : X0.alloc (.cells #[.int .i64 0, .int .i64 0, .int .i64 0, .int .i64 0, .int .i64 0, .int .i64 0, .int .i64 0, .int .i64 0] 32) = X1 at Q1 P1 BX s1
  have R1 := Lib.hid Q1
  have S1 := Lib.hid s1
  clear P0 B0 B1 Q1 s1
  unfold stateV at CL ⊢
  unfold pickV at CL ⊢
  go_enter Try.func39, Try.ntmps39
  go_wp2
  go_loopw [6] (fun iv wr => ∃ a : Nat, a ≤ NB ∧ iv = .int .i64 a ∧ Hid (r = firstFrom f1 (NB - a) a) ∧ Hid (Below X1.heap.size X1 wr)) (fun iv _ => NB - (intOf iv).toNat)
  case atStart => exact ⟨0, by omega, rfl, HR0, Below.refl _ _⟩
  case round =>
    clear HR0
    obtain ⟨a, haN, rfl, HR, BW⟩ := hrel
    have PW := Lib.hid (P1.out.below BW.out)
    by_cases hlt : a < NB
    · obtain ⟨ra, hra⟩ : ∃ ra, firstFrom f1 (NB - (a + 1)) (a + 1) = ra := ⟨_, rfl⟩
      have HRA := Lib.hid hra
      have HR1 : Hid (r = (firstFrom (f2 a) (NB - a - 0) 0).or ra) := by
        unfold Hid; rw [HR.out, firstFrom_step _ hlt, H1.out, hra]
      clear HR hra
      have hle : ((a : Int) ≤ s.b) := by rw [HB.out]; omega
      obtain ⟨e0, e1, e2, e3, -⟩ := PW.out
      go_wp2
      clear e0 e1 e2 e3 hle PW
      go_loopw [7] (fun iv ws => ∃ b : Nat, a + b ≤ NB ∧ iv = .int .i64 b ∧ Hid (r = (firstFrom (f2 a) (NB - a - b) b).or ra) ∧ Hid (Below X1.heap.size X1 ws)) (fun iv _ => NB - (intOf iv).toNat)
      case atStart => exact ⟨0, by omega, rfl, HR1, BW⟩
      case round =>
        clear HR1 BW
        obtain ⟨b, hbN, rfl, HR, BW⟩ := hrel
        have PW := Lib.hid (P1.out.below BW.out)
        have hwab : IntKind.i64.wrap ((a : Int) + (b : Int)) = (a : Int) + (b : Int) := by rw [IntKind.wrap_i64]; omega
        by_cases hlt2 : a + b < NB
        · obtain ⟨rb, hrb⟩ : ∃ rb, (firstFrom (f2 a) (NB - a - (b + 1)) (b + 1)).or ra = rb := ⟨_, rfl⟩
          have HRB := Lib.hid hrb
          have HR1 : Hid (r = (firstFrom (f3 a b) (NH - 0) 0).or rb) := by
            unfold Hid; rw [HR.out, firstFrom_step _ (by omega), H2.out, Option.or_assoc, hrb]
          clear HR hrb
          have hle : ((a : Int) + (b : Int) ≤ s.b) := by rw [HB.out]; omega
          obtain ⟨e0, e1, e2, e3, -⟩ := PW.out
          go_wp2
          clear e0 e1 e2 e3 hle PW hwab
          go_loopw [8] (fun iv ws => ∃ c : Nat, c ≤ NH ∧ iv = .int .i64 c ∧ Hid (r = (firstFrom (f3 a b) (NH - c) c).or rb) ∧ Hid (Below X1.heap.size X1 ws)) (fun iv _ => NH - (intOf iv).toNat)
          case atStart => exact ⟨0, by omega, rfl, HR1, BW⟩
          case round =>
            clear HR1 BW
            obtain ⟨c, hcN, rfl, HR, BW⟩ := hrel
            have PW := Lib.hid (P1.out.below BW.out)
            by_cases hlt3 : c < NH
            · obtain ⟨rc, hrc⟩ : ∃ rc, (firstFrom (f3 a b) (NH - (c + 1)) (c + 1)).or rb = rc := ⟨_, rfl⟩
              have HRC := Lib.hid hrc
              have HR1 : Hid (r = (firstFrom (f4 a b c) (NH - c - 0) 0).or rc) := by
                unfold Hid; rw [HR.out, firstFrom_step _ hlt3, H3.out, Option.or_assoc, hrc]
              clear HR hrc
              have hle : ((c : Int) ≤ s.h) := by rw [HH.out]; omega
              obtain ⟨e0, e1, e2, e3, -⟩ := PW.out
              go_wp2
              clear e0 e1 e2 e3 hle PW
              go_loopw [9] (fun iv ws => ∃ d : Nat, c + d ≤ NH ∧ iv = .int .i64 d ∧ Hid (r = (firstFrom (f4 a b c) (NH - c - d) d).or rc) ∧ Hid (Below X1.heap.size X1 ws)) (fun iv _ => NH - (intOf iv).toNat)
              case atStart => exact ⟨0, by omega, rfl, HR1, BW⟩
              case round =>
                clear HR1 BW
                obtain ⟨d, hdN, rfl, HR, BW⟩ := hrel
                have PW := Lib.hid (P1.out.below BW.out)
                have hwcd : IntKind.i64.wrap ((c : Int) + (d : Int)) = (c : Int) + (d : Int) := by rw [IntKind.wrap_i64]; omega
                by_cases hlt4 : c + d < NH
                · have CLx := CL.out a b c d hlt2 hlt4
                  have h4 := H4.out a b c d
                  rw [h4] at CLx
                  clear h4
                  have HR1 : Hid (r = (f4 a b c d).or ((firstFrom (f4 a b c) (NH - c - (d + 1)) (d + 1)).or rc)) := by
                    unfold Hid; rw [HR.out, firstFrom_step _ (by omega), Option.or_assoc]
                  clear HR
                  generalize f4 a b c d = t at HR1 CLx
                  obtain ⟨g, ok, hg, hok, hsome, hnone⟩ := opt_split t zeroP
                  rw [hg, hok] at CLx
                  have CLx := Lib.hid CLx
                  have HS := Lib.hid hsome
                  have HE := Lib.hid hnone
                  clear hg hok hsome hnone
                  have hle : ((c : Int) + (d : Int) ≤ s.h) := by rw [HH.out]; omega
                  obtain ⟨e0, e1, e2, e3, elt⟩ := PW.out
                  clear PW
                  go_wp2_with fail
                  refine (CLx.out _).mono ?_
                  rintro e w3 ⟨rfl, b3⟩
                  clear e0 e1 e2 e3 elt hle hwcd
                  have B3 := Lib.hid (below_up BW.out b3)
                  have hw3 : X1.heap.size ≤ w3.heap.size := B3.out.size
                  rw [S1.out] at hw3
                  have b4 := alloc_below w3 (.cells #[.int .i64 0, .int .i64 0, .int .i64 0, .int .i64 0, .int .i64 0, .int .i64 0, .int .i64 0, .int .i64 0] 32)
                  have q4 := EightVar.new w3 32 zeroP
                  have B4 := Lib.hid (below_up B3.out b4)
                  have R4 := Lib.hid (R1.out.below B4.out)
                  change EightVar (w3.alloc (.cells #[.int .i64 0, .int .i64 0, .int .i64 0, .int .i64 0, .int .i64 0, .int .i64 0, .int .i64 0, .int .i64 0] 32)) _ _ at q4
                  generalize hX4 : w3.alloc (.cells #[.int .i64 0, .int .i64 0, .int .i64 0, .int .i64 0, .int .i64 0, .int .i64 0, .int .i64 0, .int .i64 0] 32) = X4 at b4 q4 R4 B4
                  have hne1 : ¬ (w.heap.size + 1 = w3.heap.size) := by omega
                  have hne2 : ¬ (w3.heap.size = w.heap.size + 1) := by omega
                  have B5 := Lib.hid (below_fill B4.out (b := w3.heap.size) (by rw [S1.out]; exact hw3) g)
                  obtain ⟨⟨q0, q1, q2, q3, q4, q5, q6, q7, ql⟩, f0, f1', f2', f3', f4', f5, f6, f7⟩ := q4
                  clear B3 b3 b4 BW
                  have HW3 := Lib.hid hw3
                  clear hw3
                  cases ok with
                  | true =>
                    have HF : Hid (r = some g) := by unfold Hid; rw [HR1.out, HS.out rfl]; rfl
                    clear HR1 HS HE
                    obtain ⟨⟨r0, r1, r2, r3, r4, r5, r6, r7, rl⟩, g0, g1, g2, g3, g4, g5, g6, g7⟩ := R4.out
                    go_wp2
                    refine bodyPost_ret (v := .tuple #[.agg #[.int .i64 g.bl, .int .i64 g.br, .int .i64 g.hl, .int .i64 g.hr, .int .i64 g.ll, .int .i64 g.lr, .int .i64 g.gl, .int .i64 g.gr], .bool true]) (by simp [results, Try.results39, go_sem, r0, r1, r2, r3, r4, r5, r6, r7]) rfl ⟨?_, ?_⟩
                    · rw [HF.out]; rfl
                    · exact below_fill (below_up BX.out B5.out) (b := w.heap.size + 1) (by omega) g
                  | false =>
                    have HF : Hid (r = (firstFrom (f4 a b c) (NH - c - (d + 1)) (d + 1)).or rc) := by
                      unfold Hid; rw [HR1.out, HE.out rfl]; rfl
                    clear HR1 HS HE
                    go_wp2
                    go_roundw
                    case rel => exact ⟨d + 1, by omega, by go_num, HF, B5⟩
                    case measure => simp [intOf]; omega
                · have HF : Hid (r = (firstFrom (f3 a b) (NH - (c + 1)) (c + 1)).or rb) := by
                    unfold Hid; rw [HR.out, firstFrom_end _ (by omega), HRC.out]; rfl
                  clear HR
                  have hle : ¬ ((c : Int) + (d : Int) ≤ s.h) := by rw [HH.out]; omega
                  obtain ⟨e0, e1, e2, e3, -⟩ := PW.out
                  go_wp2
                  clear e0 e1 e2 e3 hle
                  go_roundw
                  case rel => exact ⟨c + 1, by omega, by go_num, HF, BW⟩
                  case measure => simp [intOf]; omega
            · have HF : Hid (r = (firstFrom (f2 a) (NB - a - (b + 1)) (b + 1)).or ra) := by
                unfold Hid; rw [HR.out, firstFrom_end _ (by omega), HRB.out]; rfl
              clear HR
              have hle : ¬ ((c : Int) ≤ s.h) := by rw [HH.out]; omega
              obtain ⟨e0, e1, e2, e3, -⟩ := PW.out
              go_wp2
              clear e0 e1 e2 e3 hle
              go_roundw
              case rel => exact ⟨b + 1, by omega, by go_num, HF, BW⟩
              case measure => simp [intOf]; omega
        · have HF : Hid (r = firstFrom f1 (NB - (a + 1)) (a + 1)) := by
            unfold Hid; rw [HR.out, firstFrom_end _ (by omega), HRA.out]; rfl
          clear HR
          have hle : ¬ ((a : Int) + (b : Int) ≤ s.b) := by rw [HB.out]; omega
          obtain ⟨e0, e1, e2, e3, -⟩ := PW.out
          go_wp2
          clear e0 e1 e2 e3 hle
          go_roundw
          case rel => exact ⟨a + 1, by omega, by go_num, HF, BW⟩
          case measure => simp [intOf]; omega
    · have HF : Hid (r = none) := by unfold Hid; rw [HR.out, firstFrom_end _ (by omega)]
      clear HR
      have hle : ¬ ((a : Int) ≤ s.b) := by rw [HB.out]; omega
      obtain ⟨e0, e1, e2, e3, -⟩ := PW.out
      obtain ⟨⟨r0, r1, r2, r3, r4, r5, r6, r7, rl⟩, g0, g1, g2, g3, g4, g5, g6, g7⟩ := R1.out.below BW.out
      go_wp2
      refine bodyPost_ret (v := .tuple #[.agg #[.int .i64 0, .int .i64 0, .int .i64 0, .int .i64 0, .int .i64 0, .int .i64 0, .int .i64 0, .int .i64 0], .bool false]) (by simp [results, Try.results39, go_sem, r0, r1, r2, r3, r4, r5, r6, r7]) rfl ⟨?_, ?_⟩
      · rw [HF.out]; rfl
      · exact below_fill (below_up BX.out BW.out) (b := w.heap.size + 1) (by omega) zeroP
end Go.Proofs.Ytfabcaodiohmaaa
