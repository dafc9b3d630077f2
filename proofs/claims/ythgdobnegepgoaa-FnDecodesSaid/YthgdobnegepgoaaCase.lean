/- The contracts of ProblemOk, CaseOk and CoinOf, in the model and in the program: each returns what the document's chapter says. Condition: a number of coins that fits Go's int, and a case that does. -/
import Derived.Test.YthgdobnegepgoaaProg
import Derived.Test.YthgdobnegepgoaaPlain
import Derived.WalkKit
import Derived.IntWalk
import Derived.BigQuiet
import Derived.Deep.QuietTactic
import Derived.Deep.RegionHeld3
import Derived.Deep.RegionWith
import Derived.Lib.Hide
namespace Go.Proofs.Ythgdobnegepgoaa
open Go.RowKit

/-- Whether a problem of n coins is valid. -/
def probB (n : Int) (h l : Bool) : Bool := (decide (1 ≤ n) && decide (n ≤ 13)) && (h || l)
/-- Whether a number is the case of some problem. -/
def inB (c : Int) : Bool := decide (-13 ≤ c) && decide (c ≤ 13)
/-- Whether c is a case of the problem. -/
def caseB (n : Int) (h l z : Bool) (c : Int) : Bool := probB n h l && (if 0 < c then h && decide (c ≤ n) else if c < 0 then l && decide (-n ≤ c) else z)
/-- The coin of a case. -/
def coinI (c : Int) : Int := if inB c = true then (if c < 0 then -c else c) else 0

/-- A problem as a value. -/
def probV (n : Int) (h l z : Bool) : Value := .agg #[.int .i64 n, .bool h, .bool l, .bool z]

theorem below_of {W X w1 : World} (h : Below W.heap.size W X) (hb : Below X.heap.size X w1) : Below W.heap.size W w1 := h.trans (hb.mono h.size)

theorem l01In_is (n lo hi : Int) (w : World) : Calls Try.prog 51 #[.int .i64 n, .int .i64 lo, .int .i64 hi] w fun e w' => e = .returned (.bool (decide (lo ≤ n) && decide (n ≤ hi))) ∧ w = w' := by
  by_cases h1 : lo ≤ n
  · have HD : Hid ((decide (lo ≤ n) && decide (n ≤ hi)) = decide (n ≤ hi)) := by unfold Hid; simp [h1]
    go_enter Try.func51, Try.ntmps51
    go_wp2
    go_ret
    exact ⟨ret_bool HD.out.symm, rfl⟩
  · have HD : Hid ((decide (lo ≤ n) && decide (n ≤ hi)) = false) := by unfold Hid; simp [h1]
    go_enter Try.func51, Try.ntmps51
    go_wp2
    go_ret
    exact ⟨ret_bool HD.out.symm, rfl⟩

theorem specIn (c : Int) (w : World) : Calls Try.prog 85 #[.int .i64 c] w fun e w' => e = .returned (.bool (inB c)) ∧ w = w' := by
  have C := Lib.hid (l01In_is c (-13) 13)
  have HD : Hid (inB c = (decide (-13 ≤ c) && decide (c ≤ 13))) := rfl
  generalize (decide (-13 ≤ c) && decide (c ≤ 13)) = b at C HD
  go_enter Try.func85, Try.ntmps85
  go_wp2_with fail
  refine (C.out _).mono ?_
  rintro e w1 ⟨rfl, rfl⟩
  go_wp2
  go_ret
  exact ⟨ret_bool HD.out.symm, rfl⟩

set_option maxHeartbeats 800000 in
theorem specProblemOk (n : Int) (h l z : Bool) (w : World) : Calls Try.prog 76 #[probV n h l z] w fun e w' => e = .returned (.bool (probB n h l)) ∧ Below w.heap.size w w' := by
  have C := Lib.hid (l01In_is n 1 13)
  have HD : Hid (probB n h l = ((decide (1 ≤ n) && decide (n ≤ 13)) && (h || l))) := rfl
  generalize (decide (1 ≤ n) && decide (n ≤ 13)) = b at C HD
  unfold probV
  cases b <;> cases h <;> cases l
  all_goals
    go_enter Try.func76, Try.ntmps76
    go_wp2_with fail
    refine (C.out _).mono ?_
    rintro e w1 ⟨rfl, rfl⟩
    go_wp2
    go_ret
    exact ⟨ret_bool HD.out.symm, (Below.refl _ _).alloc (Nat.le_refl _) _⟩

set_option maxHeartbeats 800000 in
theorem implProblemOk (n : Int) (h l z : Bool) (w : World) : Calls Try.prog 80 #[probV n h l z] w fun e w' => e = .returned (.bool (probB n h l)) ∧ Below w.heap.size w w' := by
  have HD : Hid (probB n h l = ((decide (1 ≤ n) && decide (n ≤ 13)) && (h || l))) := rfl
  unfold probV
  cases h1 : decide (1 ≤ n) <;> cases h2 : decide (n ≤ 13) <;> cases h <;> cases l
  all_goals
    rw [h1, h2] at HD
    go_enter Try.func80, Try.ntmps80
    go_wp2
    go_ret
    exact ⟨ret_bool HD.out.symm, (Below.refl _ _).alloc (Nat.le_refl _) _⟩

/-- A problem's four cells lie in block b. -/
def ProbAt (w : World) (b : Nat) (n : Int) (h l z : Bool) : Prop :=
  w.cell? ⟨b, 0, none⟩ = some (.int .i64 n) ∧ w.cell? ⟨b, 1, none⟩ = some (.bool h) ∧ w.cell? ⟨b, 2, none⟩ = some (.bool l) ∧ w.cell? ⟨b, 3, none⟩ = some (.bool z) ∧ b < w.heap.size
theorem ProbAt.belowN {w w' : World} {b B : Nat} {n : Int} {h l z : Bool} (hp : ProbAt w b n h l z) (hb : Below B w w') (hlt : b < B) : ProbAt w' b n h l z := by
  obtain ⟨e0, e1, e2, e3, hlt0⟩ := hp
  refine ⟨?_, ?_, ?_, ?_, Nat.lt_of_lt_of_le hlt0 hb.size⟩
  · rw [hb.cell (p := ⟨b, 0, none⟩) hlt]; exact e0
  · rw [hb.cell (p := ⟨b, 1, none⟩) hlt]; exact e1
  · rw [hb.cell (p := ⟨b, 2, none⟩) hlt]; exact e2
  · rw [hb.cell (p := ⟨b, 3, none⟩) hlt]; exact e3
theorem ProbAt.below {w w' : World} {b : Nat} {n : Int} {h l z : Bool} (hp : ProbAt w b n h l z) (hb : Below w.heap.size w w') : ProbAt w' b n h l z := hp.belowN hb hp.2.2.2.2
theorem ProbAt.new (w : World) (ty : TypeId) (n : Int) (h l z : Bool) : ProbAt (w.alloc (.cells #[.int .i64 n, .bool h, .bool l, .bool z] ty)) w.heap.size n h l z := by
  refine ⟨?_, ?_, ?_, ?_, ?_⟩ <;> simp

theorem bcellC {W w1 : World} (hb : Below W.heap.size W w1) : ∀ b o, b < W.heap.size → w1.cell? ⟨b, o, none⟩ = W.cell? ⟨b, o, none⟩ :=
  fun b o h => hb.cell (p := ⟨b, o, none⟩) h

theorem probB_bounds {n : Int} {h l : Bool} (hp : probB n h l = true) : 1 ≤ n ∧ n ≤ 13 := by
  simp only [probB, Bool.and_eq_true, decide_eq_true_eq] at hp
  exact hp.1

set_option maxHeartbeats 1600000 in
theorem specCaseOk (n c : Int) (h l z : Bool) (w : World) (c0 : -9223372036854775808 ≤ c) (c1 : c ≤ 9223372036854775807) : Calls Try.prog 77 #[probV n h l z, .int .i64 c] w fun e w' => e = .returned (.bool (caseB n h l z c)) ∧ Below w.heap.size w w' := by
  have C := Lib.hid (fun W => specProblemOk n h l z W)
  have HD : Hid (caseB n h l z c = (probB n h l && (if 0 < c then h && decide (c ≤ n) else if c < 0 then l && decide (-n ≤ c) else z))) := rfl
  have HP := Lib.hid (@probB_bounds n h l)
  generalize probB n h l = b at C HD HP
  unfold probV
  cases b
  · go_enter Try.func77, Try.ntmps77
    go_wp2_with fail
    refine (C.out _).mono ?_
    rintro e w1 ⟨rfl, hb1⟩
    have HB := Lib.hid hb1
    clear hb1
    go_wp2
    go_ret
    exact ⟨ret_bool (by rw [HD.out]; rfl), below_of ((Below.refl _ _).alloc (Nat.le_refl _) _) HB.out⟩
  · obtain ⟨n1, n2⟩ := HP.out rfl
    rcases Int.lt_trichotomy c 0 with hc | hc | hc
    · have HE : Hid (caseB n h l z c = (l && decide (-n ≤ c))) := by unfold Hid; rw [HD.out, if_neg (by omega), if_pos hc]; rfl
      clear HD
      cases hd : decide (-n ≤ c) <;> cases l
      all_goals
        rw [hd] at HE
        go_enter Try.func77, Try.ntmps77
        go_wp2_with fail
        refine (C.out _).mono ?_
        rintro e w1 ⟨rfl, hb1⟩
        have hc1 := bcellC hb1
        have hs1 := hb1.size
        have HB := Lib.hid hb1
        clear hb1
        go_wp2
        go_ret
        exact ⟨ret_bool HE.out.symm, below_of ((Below.refl _ _).alloc (Nat.le_refl _) _) HB.out⟩
    · subst hc
      have HE : Hid (caseB n h l z 0 = z) := by unfold Hid; rw [HD.out]; rfl
      clear HD
      go_enter Try.func77, Try.ntmps77
      go_wp2_with fail
      refine (C.out _).mono ?_
      rintro e w1 ⟨rfl, hb1⟩
      have hc1 := bcellC hb1
      have hs1 := hb1.size
      have HB := Lib.hid hb1
      clear hb1
      go_wp2
      go_ret
      exact ⟨ret_bool HE.out.symm, below_of ((Below.refl _ _).alloc (Nat.le_refl _) _) HB.out⟩
    · have HE : Hid (caseB n h l z c = (h && decide (c ≤ n))) := by unfold Hid; rw [HD.out, if_pos hc]; rfl
      clear HD
      cases hd : decide (c ≤ n) <;> cases h
      all_goals
        rw [hd] at HE
        go_enter Try.func77, Try.ntmps77
        go_wp2_with fail
        refine (C.out _).mono ?_
        rintro e w1 ⟨rfl, hb1⟩
        have hc1 := bcellC hb1
        have hs1 := hb1.size
        have HB := Lib.hid hb1
        clear hb1
        go_wp2
        go_ret
        exact ⟨ret_bool HE.out.symm, below_of ((Below.refl _ _).alloc (Nat.le_refl _) _) HB.out⟩

set_option maxHeartbeats 800000 in
theorem toProb (n : Int) (h l z : Bool) (w : World) : Calls Try.prog 31 #[probV n h l z] w fun e w' => e = .returned (probV n h l z) ∧ Below w.heap.size w w' := by
  unfold probV
  go_enter Try.func31, Try.ntmps31
  go_wp2
  refine bodyPost_ret (v := .agg #[.int .i64 n, .bool h, .bool l, .bool z]) (by simp [results, Try.results31, go_sem]) rfl ⟨rfl, (((Below.refl _ _).alloc (Nat.le_refl _) _).alloc (by simp) _).alloc (by simp; omega) _⟩
end Go.Proofs.Ythgdobnegepgoaa
