/- Several texts in one file; each says what it proves and under which condition. No condition. -/
import Derived.Test.YtlflblngbneacaaGreatDoorGBase
import Derived.Test.YtlflblngbneacaaGreatDoorGWei
import Derived.Deep.QuietTactic
import Derived.BigQuiet
import Derived.Deep.RegionLaw
import Derived.Deep.RegionHeld3
/- States of coins and picks, plainly: which are valid, how many cases there are, what is left behind a pick; and how they lie in memory. No condition. -/
namespace Go.Proofs.YtlflblngbneacaaGreatDoor
open Go.RowKit

/-- A state of coins. -/
structure SD where
  b : Int
  h : Int
  l : Int
  g : Int
/-- A pick of coins. -/
structure PD where
  bl : Int
  br : Int
  hl : Int
  hr : Int
  ll : Int
  lr : Int
  gl : Int
  gr : Int
def SD.list (s : SD) : List Int := [s.b, s.h, s.l, s.g]
def PD.list (p : PD) : List Int := [p.bl, p.br, p.hl, p.hr, p.ll, p.lr, p.gl, p.gr]
def stateV (s : SD) : Value := .agg #[.int .i64 s.b, .int .i64 s.h, .int .i64 s.l, .int .i64 s.g]
def pickV (p : PD) : Value := .agg #[.int .i64 p.bl, .int .i64 p.br, .int .i64 p.hl, .int .i64 p.hr, .int .i64 p.ll, .int .i64 p.lr, .int .i64 p.gl, .int .i64 p.gr]
/-- A number of coins. -/
def cntB (x : Int) : Bool := decide (0 ≤ x) && decide (x ≤ 13)
def sumS (s : SD) : Int := s.b + s.h + s.l + s.g
def stateB (s : SD) : Bool := s.list.all cntB && (decide (1 ≤ sumS s) && decide (sumS s ≤ 13))
def countS (s : SD) : Int := 2 * s.b + s.h + s.l
def leftP (p : PD) : Int := p.bl + p.hl + p.ll + p.gl
def rightP (p : PD) : Int := p.br + p.hr + p.lr + p.gr
def pickB (s : SD) (p : PD) : Bool :=
  stateB s && (p.list.all cntB && (decide (leftP p = rightP p) && (decide (0 < leftP p) && (decide (p.bl + p.br ≤ s.b) && (decide (p.hl + p.hr ≤ s.h) && (decide (p.ll + p.lr ≤ s.l) && decide (p.gl + p.gr ≤ s.g)))))))
/-- The state with the good coins that it lacks to be as many as before. -/
def goodS (s : SD) (b h l : Int) : SD := ⟨b, h, l, s.b + s.h + s.l + s.g - b - h - l⟩
def afterS (s : SD) (p : PD) (x : Int) : SD :=
  if x = 1 then goodS s 0 (p.bl + p.hl) (p.br + p.lr)
  else if x = -1 then goodS s 0 (p.br + p.hr) (p.bl + p.ll)
  else goodS s (s.b - p.bl - p.br) (s.h - p.hl - p.hr) (s.l - p.ll - p.lr)
theorem cntB_iff {x : Int} : cntB x = true ↔ 0 ≤ x ∧ x ≤ 13 := by unfold cntB; simp

/-- A state's four cells lie in block b. -/
def StateAt (w : World) (b : Nat) (s : SD) : Prop :=
  w.cell? ⟨b, 0, none⟩ = some (.int .i64 s.b) ∧ w.cell? ⟨b, 1, none⟩ = some (.int .i64 s.h) ∧ w.cell? ⟨b, 2, none⟩ = some (.int .i64 s.l) ∧ w.cell? ⟨b, 3, none⟩ = some (.int .i64 s.g) ∧ b < w.heap.size
theorem StateAt.below {w w' : World} {b : Nat} {s : SD} (h : StateAt w b s) (hb : Below w.heap.size w w') : StateAt w' b s := by
  obtain ⟨e0, e1, e2, e3, hlt⟩ := h
  refine ⟨?_, ?_, ?_, ?_, Nat.lt_of_lt_of_le hlt hb.size⟩
  · rw [hb.cell (p := ⟨b, 0, none⟩) hlt]; exact e0
  · rw [hb.cell (p := ⟨b, 1, none⟩) hlt]; exact e1
  · rw [hb.cell (p := ⟨b, 2, none⟩) hlt]; exact e2
  · rw [hb.cell (p := ⟨b, 3, none⟩) hlt]; exact e3
theorem StateAt.new (w : World) (ty : TypeId) (s : SD) : StateAt (w.alloc (.cells #[.int .i64 s.b, .int .i64 s.h, .int .i64 s.l, .int .i64 s.g] ty)) w.heap.size s := by
  refine ⟨?_, ?_, ?_, ?_, ?_⟩ <;> simp
/-- A pick's eight cells lie in block b. -/
def PickAt (w : World) (b : Nat) (p : PD) : Prop :=
  w.cell? ⟨b, 0, none⟩ = some (.int .i64 p.bl) ∧ w.cell? ⟨b, 1, none⟩ = some (.int .i64 p.br) ∧ w.cell? ⟨b, 2, none⟩ = some (.int .i64 p.hl) ∧ w.cell? ⟨b, 3, none⟩ = some (.int .i64 p.hr) ∧
  w.cell? ⟨b, 4, none⟩ = some (.int .i64 p.ll) ∧ w.cell? ⟨b, 5, none⟩ = some (.int .i64 p.lr) ∧ w.cell? ⟨b, 6, none⟩ = some (.int .i64 p.gl) ∧ w.cell? ⟨b, 7, none⟩ = some (.int .i64 p.gr) ∧ b < w.heap.size
theorem PickAt.below {w w' : World} {b : Nat} {p : PD} (h : PickAt w b p) (hb : Below w.heap.size w w') : PickAt w' b p := by
  obtain ⟨e0, e1, e2, e3, e4, e5, e6, e7, hlt⟩ := h
  refine ⟨?_, ?_, ?_, ?_, ?_, ?_, ?_, ?_, Nat.lt_of_lt_of_le hlt hb.size⟩
  · rw [hb.cell (p := ⟨b, 0, none⟩) hlt]; exact e0
  · rw [hb.cell (p := ⟨b, 1, none⟩) hlt]; exact e1
  · rw [hb.cell (p := ⟨b, 2, none⟩) hlt]; exact e2
  · rw [hb.cell (p := ⟨b, 3, none⟩) hlt]; exact e3
  · rw [hb.cell (p := ⟨b, 4, none⟩) hlt]; exact e4
  · rw [hb.cell (p := ⟨b, 5, none⟩) hlt]; exact e5
  · rw [hb.cell (p := ⟨b, 6, none⟩) hlt]; exact e6
  · rw [hb.cell (p := ⟨b, 7, none⟩) hlt]; exact e7
theorem PickAt.new (w : World) (ty : TypeId) (p : PD) : PickAt (w.alloc (.cells #[.int .i64 p.bl, .int .i64 p.br, .int .i64 p.hl, .int .i64 p.hr, .int .i64 p.ll, .int .i64 p.lr, .int .i64 p.gl, .int .i64 p.gr] ty)) w.heap.size p := by
  refine ⟨?_, ?_, ?_, ?_, ?_, ?_, ?_, ?_, ?_⟩ <;> simp
end Go.Proofs.YtlflblngbneacaaGreatDoor

/- The contracts of the model's StateOk and CountCases. No condition. -/
namespace Go.Proofs.YtlflblngbneacaaGreatDoor
open Go.RowKit

set_option maxHeartbeats 1600000 in
theorem toStateL (s : SD) (w : World) : Calls Tryz.prog 14 #[stateV s] w fun e w' => e = .returned (stateV s) ∧ Below w.heap.size w w' := by
  unfold stateV
  go_enter Tryz.func14, Tryz.ntmps14
  go_wp2
  refine bodyPost_ret (v := .agg #[.int .i64 s.b, .int .i64 s.h, .int .i64 s.l, .int .i64 s.g]) (by simp [results, Tryz.results14, go_sem]) rfl ⟨rfl, (((Below.refl _ _).alloc (Nat.le_refl _) _).alloc (by simp) _).alloc (by simp; omega) _⟩

/-- A literal row's cells. -/
theorem lit_cells (W : World) (b : Nat) (hb : W.heap.size = b) (l : List Int) (hl : l.length ≤ 100) : ∀ j (h : j < l.length), (W.alloc (.cells (l.map (Value.int .i64)).toArray 3)).cell? ⟨b, j, none⟩ = some (.int .i64 l[j]) := by
  intro j h
  have o := World.ownsRow_lit (base := 0) (e := 3) (size := 1) W (l.map (Value.int .i64)).toArray l.length (Nat.zero_le _) (by unfold maxLen; omega) (by simp)
  rw [hb] at o
  have c := o.cellAt j (by omega)
  rw [c]
  simp [h]

/-- What the numbers of coins up to j are. -/
def Upj (l : List Int) (j : Nat) : Prop := ∀ i (h : i < l.length), i < j → cntB l[i] = true
theorem upj_succ {l : List Int} {j : Nat} (h : Upj l j) (hj : j < l.length) (hc : cntB l[j] = true) : Upj l (j + 1) := fun i hi hlt => by
  by_cases e : i = j
  · subst e; exact hc
  · exact h i hi (by omega)
theorem upj_all {l : List Int} (h : Upj l l.length) : l.all cntB = true := by
  rw [List.all_eq_true]
  intro x hx
  obtain ⟨i, hi, rfl⟩ := List.mem_iff_getElem.1 hx
  exact h i hi hi
theorem not_all {l : List Int} {j : Nat} (hj : j < l.length) (hc : ¬ cntB l[j] = true) : l.all cntB = false := by
  rw [Bool.eq_false_iff]
  intro e
  rw [List.all_eq_true] at e
  exact hc (e _ (List.getElem_mem hj))

set_option maxHeartbeats 1600000 in
theorem specStateOk (s : SD) (w : World) : Calls Tryz.prog 24 #[stateV s] w fun e w' => e = .returned (.bool (stateB s)) ∧ Below w.heap.size w w' := by
  have C := Lib.hid (fun n lo W => l01In_is n lo 13 W)
  have P0 := StateAt.new w 36 s
  have A0 := alloc_below w (.cells #[.int .i64 s.b, .int .i64 s.h, .int .i64 s.l, .int .i64 s.g] 36)
  have s0 : (w.alloc (.cells #[.int .i64 s.b, .int .i64 s.h, .int .i64 s.l, .int .i64 s.g] 36)).heap.size = w.heap.size + 1 := by simp
  have hc := lit_cells (w.alloc (.cells #[.int .i64 s.b, .int .i64 s.h, .int .i64 s.l, .int .i64 s.g] 36)) (w.heap.size + 1) s0 s.list (by simp [SD.list])
  have A1 := alloc_below (w.alloc (.cells #[.int .i64 s.b, .int .i64 s.h, .int .i64 s.l, .int .i64 s.g] 36)) (.cells (s.list.map (Value.int .i64)).toArray 3)
  have P1 := Lib.hid (P0.below A1)
  have B1 := Lib.hid (below_up A0 A1)
  have HC := Lib.hid hc
  clear P0 A0 A1 s0 hc
  have HB : Hid (stateB s = (s.list.all cntB && (decide (1 ≤ sumS s) && decide (sumS s ≤ 13)))) := rfl
  have hl4 : s.list.length = 4 := rfl
  unfold stateV
  go_enter Tryz.func24, Tryz.ntmps24
  go_wp2
  generalize hX : (w.alloc (.cells #[.int .i64 s.b, .int .i64 s.h, .int .i64 s.l, .int .i64 s.g] 36)).alloc (.cells #[.int .i64 s.b, .int .i64 s.h, .int .i64 s.l, .int .i64 s.g] 3) = X
  have P1 : Hid (StateAt X w.heap.size s) := by rw [← hX]; exact P1.out
  have B1 : Hid (Below w.heap.size w X) := by rw [← hX]; exact B1.out
  have HC : Hid (∀ j (h : j < s.list.length), X.cell? ⟨w.heap.size + 1, j, none⟩ = some (.int .i64 s.list[j])) := by rw [← hX]; exact HC.out
  clear hX
  go_loopw [15] (fun jv wr => ∃ j : Nat, j ≤ 4 ∧ jv = .int .i64 j ∧ wr = X ∧ Hid (Upj s.list j)) (fun jv _ => 4 - (intOf jv).toNat)
  case atStart => exact ⟨0, by omega, rfl, rfl, fun i _ h => by omega⟩
  case round =>
    obtain ⟨j, hj, rfl, rfl, HU⟩ := hrel
    by_cases hlt : j < 4
    · have e1 := HC.out j (by omega)
      obtain ⟨c, hcc⟩ : ∃ c, s.list[j]'(by omega) = c := ⟨_, rfl⟩
      rw [hcc] at e1
      have k0 : (0 : Int) ≤ (j : Int) := by omega
      have k1 : (j : Int) < 4 := by omega
      have HCB : Hid ((decide (0 ≤ c) && decide (c ≤ 13)) = cntB (s.list[j]'(by omega))) := by unfold Hid; rw [hcc]; rfl
      clear hcc
      by_cases hcb : cntB (s.list[j]'(by omega)) = true
      · have HU2 := Lib.hid (upj_succ HU.out (by omega) hcb)
        rw [hcb] at HCB
        clear hcb
        go_wp2_with fail
        refine (C.out c 0 _).mono ?_
        rintro e w2 ⟨rfl, rfl⟩
        rw [HCB.out]
        go_wp2
        go_roundw
        case rel => exact ⟨j + 1, by omega, by go_num, by first | rfl | trivial, HU2⟩
        case measure => simp [intOf]; omega
      · have HE : Hid (stateB s = false) := by unfold Hid; rw [HB.out, not_all (by omega) hcb]; rfl
        rw [Bool.eq_false_iff.2 hcb] at HCB
        clear hcb
        go_wp2_with fail
        refine (C.out c 0 _).mono ?_
        rintro e w2 ⟨rfl, rfl⟩
        rw [HCB.out]
        go_wp2
        go_ret
        exact ⟨ret_bool HE.out.symm, B1.out⟩
    · obtain rfl : j = 4 := by omega
      have ha := upj_all (l := s.list) HU.out
      have HE : Hid (stateB s = (decide (1 ≤ sumS s) && decide (sumS s ≤ 13))) := by unfold Hid; rw [HB.out, ha]; rfl
      have b0 := cntB_iff.1 (HU.out 0 (by omega) (by omega))
      have b1 := cntB_iff.1 (HU.out 1 (by omega) (by omega))
      have b2 := cntB_iff.1 (HU.out 2 (by omega) (by omega))
      have b3 := cntB_iff.1 (HU.out 3 (by omega) (by omega))
      simp only [SD.list, List.getElem_cons_zero, List.getElem_cons_succ] at b0 b1 b2 b3
      obtain ⟨e0, e1, e2, e3, e4⟩ := P1.out
      have v1 : IntKind.i64.wrap (s.b + s.h) = s.b + s.h := by rw [IntKind.wrap_i64]; omega
      have v2 : IntKind.i64.wrap (s.b + s.h + s.l) = s.b + s.h + s.l := by rw [IntKind.wrap_i64]; omega
      have v3 : IntKind.i64.wrap (s.b + s.h + s.l + s.g) = s.b + s.h + s.l + s.g := by rw [IntKind.wrap_i64]; omega
      go_wp2_with fail
      refine (C.out _ 1 _).mono ?_
      rintro e w2 ⟨rfl, rfl⟩
      go_wp2
      go_ret
      exact ⟨ret_bool HE.out.symm, B1.out⟩

/-- How many cases a state has, as the program answers. -/
def casesS (s : SD) : Int := if stateB s = true then countS s else -1
theorem stateB_in {s : SD} (h : stateB s = true) : (0 ≤ s.b ∧ s.b ≤ 13) ∧ (0 ≤ s.h ∧ s.h ≤ 13) ∧ (0 ≤ s.l ∧ s.l ≤ 13) ∧ (0 ≤ s.g ∧ s.g ≤ 13) ∧ 1 ≤ s.b + s.h + s.l + s.g ∧ s.b + s.h + s.l + s.g ≤ 13 := by
  unfold stateB sumS SD.list cntB at h
  simp only [List.all_cons, List.all_nil, Bool.and_eq_true, decide_eq_true_eq, Bool.and_true] at h
  omega

set_option maxHeartbeats 1600000 in
theorem specCountOf (s : SD) (h : stateB s = true) (w : World) : Calls Tryz.prog 54 #[stateV s] w fun e w' => e = .returned (.int .i64 (countS s)) ∧ Below w.heap.size w w' := by
  obtain ⟨b0, b1, b2, b3, -, -⟩ := stateB_in h
  have P0 := StateAt.new w 36 s
  have B0 := Lib.hid (alloc_below w (.cells #[.int .i64 s.b, .int .i64 s.h, .int .i64 s.l, .int .i64 s.g] 36))
  have v0 : IntKind.i64.wrap (2 * s.b) = 2 * s.b := by rw [IntKind.wrap_i64]; omega
  have v1 : IntKind.i64.wrap (2 * s.b + s.h) = 2 * s.b + s.h := by rw [IntKind.wrap_i64]; omega
  have v2 : IntKind.i64.wrap (2 * s.b + s.h + s.l) = 2 * s.b + s.h + s.l := by rw [IntKind.wrap_i64]; omega
  generalize hX : w.alloc (.cells #[.int .i64 s.b, .int .i64 s.h, .int .i64 s.l, .int .i64 s.g] 36) = X at P0 B0
  obtain ⟨e0, e1, e2, e3, e4⟩ := P0
  unfold stateV
  go_enter Tryz.func54, Tryz.ntmps54
  go_wp2
  go_ret
  exact ⟨rfl, B0.out⟩

set_option maxHeartbeats 1600000 in
theorem specCountCases (s : SD) (w : World) : Calls Tryz.prog 27 #[stateV s] w fun e w' => e = .returned (.int .i64 (casesS s)) ∧ Below w.heap.size w w' := by
  have C := Lib.hid (specStateOk s)
  have D := Lib.hid (fun h W => specCountOf s h W)
  have HE : Hid (casesS s = if stateB s = true then countS s else -1) := rfl
  have P0 := StateAt.new w 36 s
  have B0 := Lib.hid (alloc_below w (.cells #[.int .i64 s.b, .int .i64 s.h, .int .i64 s.l, .int .i64 s.g] 36))
  generalize hX : w.alloc (.cells #[.int .i64 s.b, .int .i64 s.h, .int .i64 s.l, .int .i64 s.g] 36) = X at P0 B0
  obtain ⟨e0, e1, e2, e3, e4⟩ := P0
  have P1 : Hid (StateAt X w.heap.size s) := ⟨e0, e1, e2, e3, e4⟩
  generalize stateB s = t at C D HE
  unfold stateV at C D ⊢
  cases t with
  | true =>
    have HE1 : Hid (casesS s = countS s) := by unfold Hid; rw [HE.out]; rfl
    go_enter Tryz.func27, Tryz.ntmps27
    go_wp2_with fail
    refine (C.out _).mono ?_
    rintro e w1 ⟨rfl, b1⟩
    have B1 := Lib.hid (below_up B0.out b1)
    clear e0 e1 e2 e3 e4
    obtain ⟨e0, e1, e2, e3, e4⟩ := P1.out.below b1
    clear b1
    go_wp2_with fail
    refine (D.out (by first | rfl | trivial) _).mono ?_
    rintro e w2 ⟨rfl, b2⟩
    have B2 := Lib.hid (below_up B1.out b2)
    go_wp2
    go_ret
    exact ⟨ret_int HE1.out.symm, B2.out⟩
  | false =>
    have HE1 : Hid (casesS s = -1) := by unfold Hid; rw [HE.out]; rfl
    go_enter Tryz.func27, Tryz.ntmps27
    go_wp2_with fail
    refine (C.out _).mono ?_
    rintro e w1 ⟨rfl, b1⟩
    have B1 := Lib.hid (below_up B0.out b1)
    go_wp2
    go_ret
    exact ⟨ret_int HE1.out.symm, B1.out⟩
end Go.Proofs.YtlflblngbneacaaGreatDoor

/- The contract of the model's PickOk. No condition. -/
namespace Go.Proofs.YtlflblngbneacaaGreatDoor
open Go.RowKit

/-- The numbers of a pick are numbers of coins. -/
def PickIn (p : PD) : Prop := (0 ≤ p.bl ∧ p.bl ≤ 13) ∧ (0 ≤ p.br ∧ p.br ≤ 13) ∧ (0 ≤ p.hl ∧ p.hl ≤ 13) ∧ (0 ≤ p.hr ∧ p.hr ≤ 13) ∧ (0 ≤ p.ll ∧ p.ll ≤ 13) ∧ (0 ≤ p.lr ∧ p.lr ≤ 13) ∧ (0 ≤ p.gl ∧ p.gl ≤ 13) ∧ (0 ≤ p.gr ∧ p.gr ≤ 13)
theorem pickIn_of {p : PD} (h : p.list.all cntB = true) : PickIn p := by
  unfold PD.list cntB at h
  simp only [List.all_cons, List.all_nil, Bool.and_eq_true, decide_eq_true_eq, Bool.and_true] at h
  unfold PickIn
  omega

set_option maxHeartbeats 1600000 in
theorem specSides (p : PD) (h : PickIn p) (w : World) : Calls Tryz.prog 184 #[pickV p] w fun e w' => e = .returned (.tuple #[.int .i64 (leftP p), .int .i64 (rightP p)]) ∧ Below w.heap.size w w' := by
  obtain ⟨h0, h1, h2, h3, h4, h5, h6, h7⟩ := h
  have P0 := PickAt.new w 139 p
  have B0 := Lib.hid (alloc_below w (.cells #[.int .i64 p.bl, .int .i64 p.br, .int .i64 p.hl, .int .i64 p.hr, .int .i64 p.ll, .int .i64 p.lr, .int .i64 p.gl, .int .i64 p.gr] 139))
  generalize hX : w.alloc (.cells #[.int .i64 p.bl, .int .i64 p.br, .int .i64 p.hl, .int .i64 p.hr, .int .i64 p.ll, .int .i64 p.lr, .int .i64 p.gl, .int .i64 p.gr] 139) = X at P0 B0
  obtain ⟨e0, e1, e2, e3, e4, e5, e6, e7, e8⟩ := P0
  have v0 : IntKind.i64.wrap (p.bl + p.hl) = p.bl + p.hl := by rw [IntKind.wrap_i64]; omega
  have v1 : IntKind.i64.wrap (p.bl + p.hl + p.ll) = p.bl + p.hl + p.ll := by rw [IntKind.wrap_i64]; omega
  have v2 : IntKind.i64.wrap (p.bl + p.hl + p.ll + p.gl) = p.bl + p.hl + p.ll + p.gl := by rw [IntKind.wrap_i64]; omega
  have v3 : IntKind.i64.wrap (p.br + p.hr) = p.br + p.hr := by rw [IntKind.wrap_i64]; omega
  have v4 : IntKind.i64.wrap (p.br + p.hr + p.lr) = p.br + p.hr + p.lr := by rw [IntKind.wrap_i64]; omega
  have v5 : IntKind.i64.wrap (p.br + p.hr + p.lr + p.gr) = p.br + p.hr + p.lr + p.gr := by rw [IntKind.wrap_i64]; omega
  unfold pickV
  go_enter Tryz.func184, Tryz.ntmps184
  go_wp2
  go_quiet (fail)
  go_wp2
  go_ret2
  exact ⟨rfl, below_drewN B0.out _⟩

end Go.Proofs.YtlflblngbneacaaGreatDoor

/- The walks of the exact laws of StateOk and CountCases round the contracts of the program's functions: each returns true for every argument. No condition. -/
namespace Go.Proofs.YtlflblngbneacaaGreatDoor
open Go.RowKit

/-- The contracts of functions of a state, and of a state and a pick. -/
def StateOkIs (f : FuncId) (s : SD) : Prop := ∀ W, Calls Tryz.prog f #[stateV s] W fun e w' => e = .returned (.bool (stateB s)) ∧ Below W.heap.size W w'
def CountCasesIs (f : FuncId) (s : SD) : Prop := ∀ W, Calls Tryz.prog f #[stateV s] W fun e w' => e = .returned (.int .i64 (casesS s)) ∧ Below W.heap.size W w'
def PickOkIs (f : FuncId) (s : SD) (p : PD) : Prop := ∀ W, Calls Tryz.prog f #[stateV s, pickV p] W fun e w' => e = .returned (.bool (pickB s p)) ∧ Below W.heap.size W w'

end Go.Proofs.YtlflblngbneacaaGreatDoor

/- The walk of the exact law of PickOk round the contract of the program's function: it returns true for every argument. No condition. -/
namespace Go.Proofs.YtlflblngbneacaaGreatDoor
open Go.RowKit

theorem StateAt.drewT {w : World} {b : Nat} {s : SD} (h : StateAt w b s) : StateAt w.drew b s := h.below (Below.refl _ _).drew
theorem PickAt.drewT {w : World} {b : Nat} {p : PD} (h : PickAt w b p) : PickAt w.drew b p := h.below (Below.refl _ _).drew

end Go.Proofs.YtlflblngbneacaaGreatDoor

/- The search for a pick, plainly: the first success in a row of tries, completed picks, the first pick that fits, whether a case can be found. No condition. -/
namespace Go.Proofs.YtlflblngbneacaaGreatDoor
open Go.RowKit

/-- The first success among n tries from the i-th on. -/
def firstFrom {α : Type} (f : Nat → Option α) : Nat → Nat → Option α
  | 0, _ => none
  | n + 1, i => (f i).or (firstFrom f n (i + 1))
theorem firstFrom_step {α : Type} (f : Nat → Option α) {n i : Nat} (h : i < n) : firstFrom f (n - i) i = (f i).or (firstFrom f (n - (i + 1)) (i + 1)) := by
  rw [show n - i = (n - (i + 1)) + 1 by omega]; rfl
theorem firstFrom_end {α : Type} (f : Nat → Option α) {n i : Nat} (h : n ≤ i) : firstFrom f (n - i) i = none := by
  rw [show n - i = 0 by omega]; rfl
/-- A pick that has no good coins is completed with as few good coins as possible; and whether there are enough. -/
def goodsP (p : PD) : PD := if leftP p < rightP p then { p with gl := rightP p - leftP p } else { p with gr := leftP p - rightP p }
def goodsB (s : SD) (p : PD) : Bool := decide ((goodsP p).gl + (goodsP p).gr ≤ s.g) && decide (0 < leftP p + rightP p)
/-- Whether a pick leaves states that are small enough and can be told. -/
def fitB (can : SD → Bool) (m : Int) (s : SD) (p : PD) : Bool :=
  ([0, 1, -1].all fun x => decide (countS (afterS s p x) ≤ m)) && ([0, 1, -1].all fun x => can (afterS s p x))
def tryP (can : SD → Bool) (m : Int) (s : SD) (p : PD) : Option PD := if (goodsB s p && fitB can m s (goodsP p)) = true then some (goodsP p) else none
def lightsP (can : SD → Bool) (m : Int) (s : SD) (p : PD) : Option PD :=
  firstFrom (fun a => firstFrom (fun b => tryP can m s { p with ll := a, lr := b }) (s.l.toNat + 1 - a) 0) (s.l.toNat + 1) 0
def firstP (can : SD → Bool) (m : Int) (s : SD) : Option PD :=
  firstFrom (fun a => firstFrom (fun b => firstFrom (fun c => firstFrom (fun d => lightsP can m s ⟨a, b, c, d, 0, 0, 0, 0⟩) (s.h.toNat + 1 - c) 0) (s.h.toNat + 1) 0) (s.b.toNat + 1 - a) 0) (s.b.toNat + 1) 0
/-- Whether the case of a valid state can be found with k weighings. -/
def canS : Nat → SD → Bool
  | 0, s => decide (countS s ≤ 1)
  | k + 1, s => decide (countS s ≤ 1) || (decide (countS s ≤ 3 ^ (k + 1)) && (firstP (canS k) (3 ^ k) s).isSome)
def findB (s : SD) (k : Int) : Bool := stateB s && ((decide (0 ≤ k) && decide (k ≤ 3)) && canS k.toNat s)
def fewestI (s : SD) : Int := if findB s 0 = true then 0 else if findB s 1 = true then 1 else if findB s 2 = true then 2 else if findB s 3 = true then 3 else -1
def pickO (s : SD) (k : Int) : Option PD := if (stateB s && (decide (1 ≤ k) && decide (k ≤ 3))) = true then firstP (canS (k.toNat - 1)) (3 ^ (k.toNat - 1)) s else none
def zeroP : PD := ⟨0, 0, 0, 0, 0, 0, 0, 0⟩
/-- What a state with as many coins in all may hold. -/
def SIn (s : SD) : Prop := 0 ≤ s.b ∧ 0 ≤ s.h ∧ 0 ≤ s.l ∧ 0 ≤ s.g ∧ 1 ≤ sumS s ∧ sumS s ≤ 13
theorem stateB_iff {s : SD} : stateB s = true ↔ SIn s := by
  unfold stateB SIn sumS SD.list cntB
  simp only [List.all_cons, List.all_nil, Bool.and_eq_true, decide_eq_true_eq, Bool.and_true]
  omega
/-- The coins of a pick that are not good, within a state. -/
def PIn (s : SD) (p : PD) : Prop := 0 ≤ p.bl ∧ 0 ≤ p.br ∧ 0 ≤ p.hl ∧ 0 ≤ p.hr ∧ 0 ≤ p.ll ∧ 0 ≤ p.lr ∧ p.bl + p.br ≤ s.b ∧ p.hl + p.hr ≤ s.h ∧ p.ll + p.lr ≤ s.l
theorem after_in {s : SD} {p : PD} {x : Int} (hs : SIn s) (hp : PIn s p) : SIn (afterS s p x) := by
  unfold SIn PIn sumS at *
  unfold afterS goodS
  split
  · simp only []; omega
  · split
    · simp only []; omega
    · simp only []; omega
theorem after_goods (s : SD) (p : PD) (x : Int) : afterS s (goodsP p) x = afterS s p x := by
  unfold goodsP
  split <;> rfl
end Go.Proofs.YtlflblngbneacaaGreatDoor

/- The contracts of the helpers of the model's search: powers of three, the state behind a pick, a completed pick. Conditions: a valid state, a pick within it. -/
namespace Go.Proofs.YtlflblngbneacaaGreatDoor
open Go.RowKit

set_option maxHeartbeats 1600000 in
theorem specPower (k : Nat) (hk : k ≤ 3) (w : World) : Calls Tryz.prog 117 #[.int .i64 k] w fun e w' => e = .returned (.int .i64 ((3 : Int) ^ k)) ∧ w = w' := by
  go_enter Tryz.func117, Tryz.ntmps117
  go_wp2
  go_loopw [3, 4] (fun nv iv wr => ∃ i : Nat, i ≤ k ∧ iv = .int .i64 i ∧ nv = .int .i64 ((3 : Int) ^ i) ∧ wr = w) (fun _ iv _ => k - (intOf iv).toNat)
  case atStart => exact ⟨0, Nat.zero_le _, rfl, rfl, rfl⟩
  case round =>
    obtain ⟨i, hik, rfl, rfl, rfl⟩ := hrel
    by_cases hlt : i < k
    · have i1 : (i : Int) < (k : Int) := by omega
      have hp : (3 : Int) * 3 ^ i = 3 ^ (i + 1) := by rw [Int.pow_succ]; omega
      have hw : IntKind.i64.wrap ((3 : Int) * 3 ^ i) = 3 ^ (i + 1) := by
        rw [hp, IntKind.wrap_i64]
        rcases (show i = 0 ∨ i = 1 ∨ i = 2 by omega) with rfl | rfl | rfl <;> decide
      have HP := Lib.hid hp
      clear hp
      go_wp2
      go_roundw
      case rel => exact ⟨i + 1, by omega, by go_num, by first | rfl | trivial, by first | rfl | trivial⟩
      case measure => simp [intOf]; omega
    · obtain rfl : i = k := by omega
      go_wp2
      go_ret
      exact ⟨rfl, rfl⟩

set_option maxRecDepth 100000 in
set_option maxHeartbeats 6400000 in
theorem specAfter (s : SD) (p : PD) (x : Int) (hs : SIn s) (hp : PIn s p) (w : World) :
    Calls Tryz.prog 185 #[stateV s, pickV p, .int .i64 x] w fun e w' => e = .returned (stateV (afterS s p x)) ∧ Below w.heap.size w w' := by
  unfold SIn sumS at hs
  unfold PIn at hp
  have P0 := StateAt.new w 36 s
  have B0 := alloc_below w (.cells #[.int .i64 s.b, .int .i64 s.h, .int .i64 s.l, .int .i64 s.g] 36)
  have s0 : (w.alloc (.cells #[.int .i64 s.b, .int .i64 s.h, .int .i64 s.l, .int .i64 s.g] 36)).heap.size = w.heap.size + 1 := by simp
  generalize hX0 : w.alloc (.cells #[.int .i64 s.b, .int .i64 s.h, .int .i64 s.l, .int .i64 s.g] 36) = X0 at P0 B0 s0
  have Q0 := PickAt.new X0 139 p
  have B1 := alloc_below X0 (.cells #[.int .i64 p.bl, .int .i64 p.br, .int .i64 p.hl, .int .i64 p.hr, .int .i64 p.ll, .int .i64 p.lr, .int .i64 p.gl, .int .i64 p.gr] 139)
  have s1 : (X0.alloc (.cells #[.int .i64 p.bl, .int .i64 p.br, .int .i64 p.hl, .int .i64 p.hr, .int .i64 p.ll, .int .i64 p.lr, .int .i64 p.gl, .int .i64 p.gr] 139)).heap.size = w.heap.size + 2 := by simp [s0]
  generalize hX1 : X0.alloc (.cells #[.int .i64 p.bl, .int .i64 p.br, .int .i64 p.hl, .int .i64 p.hr, .int .i64 p.ll, .int .i64 p.lr, .int .i64 p.gl, .int .i64 p.gr] 139) = X1 at Q0 B1 s1
  rw [s0] at Q0
  have BX := Lib.hid (below_up B0 B1)
  obtain ⟨e0, e1, e2, e3, elt⟩ := P0.below B1
  obtain ⟨q0, q1, q2, q3, q4, q5, q6, q7, qlt⟩ := Q0
  clear P0 B0 B1
  have hor : x = 1 ∨ x = -1 ∨ (x ≠ 1 ∧ x ≠ -1) := by omega
  unfold stateV pickV
  have HB : Hid (∀ o o', Below w.heap.size w ((X1.alloc o).alloc o')) := fun o o' => below_up (below_up BX.out (alloc_below X1 o)) (alloc_below _ o')
  rcases hor with rfl | rfl | ⟨hx1, hx2⟩
  · have HA : Hid (afterS s p 1 = ⟨0, p.bl + p.hl, p.br + p.lr, s.b + s.h + s.l + s.g - (p.bl + p.hl) - (p.br + p.lr)⟩) := by unfold Hid afterS goodS; rw [if_pos rfl]; simp
    go_enter Tryz.func185, Tryz.ntmps185
    go_wp2
    refine bodyPost_ret (v := .agg #[.int .i64 (0), .int .i64 (p.bl + p.hl), .int .i64 (p.br + p.lr), .int .i64 (s.b + s.h + s.l + s.g - (p.bl + p.hl) - (p.br + p.lr))]) (by simp only [← s1]; simp [results, Tryz.results185, go_sem]) rfl ⟨?_, HB.out _ _⟩
    rw [HA.out]
  · have HA : Hid (afterS s p (-1) = ⟨0, p.br + p.hr, p.bl + p.ll, s.b + s.h + s.l + s.g - (p.br + p.hr) - (p.bl + p.ll)⟩) := by unfold Hid afterS goodS; rw [if_neg (by omega), if_pos rfl]; simp
    go_enter Tryz.func185, Tryz.ntmps185
    go_wp2
    refine bodyPost_ret (v := .agg #[.int .i64 (0), .int .i64 (p.br + p.hr), .int .i64 (p.bl + p.ll), .int .i64 (s.b + s.h + s.l + s.g - (p.br + p.hr) - (p.bl + p.ll))]) (by simp only [← s1]; simp [results, Tryz.results185, go_sem]) rfl ⟨?_, HB.out _ _⟩
    rw [HA.out]
  · have HA : Hid (afterS s p x = ⟨s.b - p.bl - p.br, s.h - p.hl - p.hr, s.l - p.ll - p.lr, s.b + s.h + s.l + s.g - (s.b - p.bl - p.br) - (s.h - p.hl - p.hr) - (s.l - p.ll - p.lr)⟩) := by unfold Hid afterS goodS; rw [if_neg hx1, if_neg hx2]
    have g1 : (x == 1) = false := by simpa using hx1
    have g2 : (x == -1) = false := by simpa using hx2
    clear hx1 hx2
    go_enter Tryz.func185, Tryz.ntmps185
    go_wp2
    refine bodyPost_ret (v := .agg #[.int .i64 (s.b - p.bl - p.br), .int .i64 (s.h - p.hl - p.hr), .int .i64 (s.l - p.ll - p.lr), .int .i64 (s.b + s.h + s.l + s.g - (s.b - p.bl - p.br) - (s.h - p.hl - p.hr) - (s.l - p.ll - p.lr))]) (by simp only [← s1]; simp [results, Tryz.results185, go_sem]) rfl ⟨?_, HB.out _ _⟩
    rw [HA.out]

end Go.Proofs.YtlflblngbneacaaGreatDoor

/- The contract of the model's AfterPick. No condition. -/
namespace Go.Proofs.YtlflblngbneacaaGreatDoor
open Go.RowKit

def zeroS : SD := ⟨0, 0, 0, 0⟩
/-- The state after a weighing, if the pick and the outcome are valid. -/
def afterO (s : SD) (p : PD) (x : Int) : Option SD := if (pickB s p && (decide (-1 ≤ x) && decide (x ≤ 1))) = true then some (afterS s p x) else none
theorem pick_in {s : SD} {p : PD} (h : pickB s p = true) : SIn s ∧ PIn s p := by
  unfold pickB PD.list at h
  simp only [List.all_cons, List.all_nil, Bool.and_eq_true, decide_eq_true_eq, Bool.and_true, cntB_iff] at h
  refine ⟨stateB_iff.1 h.1, ?_⟩
  unfold PIn
  omega
/-- A state's four cells lie in block b and may be written. -/
def FourVar (w : World) (b : Nat) (s : SD) : Prop :=
  StateAt w b s ∧ w.frozen? ⟨b, 0, none⟩ = false ∧ w.frozen? ⟨b, 1, none⟩ = false ∧ w.frozen? ⟨b, 2, none⟩ = false ∧ w.frozen? ⟨b, 3, none⟩ = false
theorem FourVar.below {w w' : World} {b : Nat} {s : SD} (h : FourVar w b s) (hb : Below w.heap.size w w') : FourVar w' b s := by
  have hlt : b < w.heap.size := h.1.2.2.2.2
  obtain ⟨hp, f0, f1, f2, f3⟩ := h
  refine ⟨hp.below hb, ?_, ?_, ?_, ?_⟩
  · rw [hb.frozen (p := ⟨b, 0, none⟩) hlt]; exact f0
  · rw [hb.frozen (p := ⟨b, 1, none⟩) hlt]; exact f1
  · rw [hb.frozen (p := ⟨b, 2, none⟩) hlt]; exact f2
  · rw [hb.frozen (p := ⟨b, 3, none⟩) hlt]; exact f3
theorem FourVar.new (w : World) (ty : TypeId) (s : SD) : FourVar (w.alloc (.cells #[.int .i64 s.b, .int .i64 s.h, .int .i64 s.l, .int .i64 s.g] ty)) w.heap.size s := by
  refine ⟨StateAt.new w ty s, ?_, ?_, ?_, ?_⟩ <;> simp
theorem below_fill4 {B : Nat} {a w : World} (h : Below B a w) {b : Nat} (hb : B ≤ b) (q : SD) : Below B a ((((w.setCell ⟨b, 0, none⟩ (.int .i64 q.b)).setCell ⟨b, 1, none⟩ (.int .i64 q.h)).setCell ⟨b, 2, none⟩ (.int .i64 q.l)).setCell ⟨b, 3, none⟩ (.int .i64 q.g)) := by
  exact ((((h.setCell hb _).setCell hb _).setCell hb _).setCell hb _)

end Go.Proofs.YtlflblngbneacaaGreatDoor
