/- The contracts of the program's method 'in' and of CaseOk: each returns whether the number is a case of the problem. Condition: a case that fits Go's int. -/
import Derived.Test.YtlflblngbneacabGreatDoorGBase
namespace Go.Proofs.YtlflblngbneacabGreatDoor
open Go.RowKit

theorem coinI_cases {n c : Int} {h l z : Bool} (hp : probB n h l = true) (hi : inB c = true) (hg : decide (n < coinI c) = false) : caseB n h l z c = (if kindI c = 1 then h else if kindI c = 2 then l else z) := by
  have hg' : ¬ n < coinI c := by simpa using hg
  unfold coinI at hg'
  rw [if_pos hi] at hg'
  unfold caseB kindI
  rw [hp, Bool.true_and]
  rcases Int.lt_trichotomy c 0 with hc | hc | hc
  · rw [if_neg (by omega), if_pos hc, if_neg (by omega), if_pos hc]
    rw [if_pos hc] at hg'
    have h1 : decide (-n ≤ c) = true := decide_eq_true (by omega)
    rw [h1, Bool.and_true]; simp; omega
  · subst hc; simp
  · rw [if_pos hc, if_pos hc]
    rw [if_neg (by omega)] at hg'
    have h1 : decide (c ≤ n) = true := decide_eq_true (by omega)
    rw [h1, Bool.and_true, if_pos rfl]

theorem coinI_out {n c : Int} {h l z : Bool} (hp : probB n h l = true) (hg : decide (n < coinI c) = true) : caseB n h l z c = false := by
  have hg' : n < coinI c := by simpa using hg
  have hb := probB_bounds hp
  unfold coinI at hg'
  unfold caseB
  rw [hp, Bool.true_and]
  split at hg'
  · rcases Int.lt_trichotomy c 0 with hc | hc | hc
    · rw [if_neg (by omega), if_pos hc]
      rw [if_pos hc] at hg'
      simp
      omega
    · subst hc
      simp at hg'
      omega
    · rw [if_pos hc]
      rw [if_neg (by omega)] at hg'
      simp
      omega
  · omega

theorem inB_out {n c : Int} {h l z : Bool} (hp : probB n h l = true) (hi : inB c = false) : caseB n h l z c = false := by
  have hb := probB_bounds hp
  have hc : c < -13 ∨ 13 < c := by simp [inB] at hi; omega
  unfold caseB
  rw [hp, Bool.true_and]
  rcases hc with hc | hc
  · rw [if_neg (by omega), if_pos (by omega)]; simp; omega
  · rw [if_pos (by omega)]; simp; omega

set_option maxHeartbeats 1600000 in
theorem implIn (n c : Int) (h l z : Bool) (w : World) (c0 : -9223372036854775808 ≤ c) (c1 : c ≤ 9223372036854775807) : Calls Tryz.prog 101 #[.int .i64 c, probV n h l z] w fun e w' => e = .returned (.bool (caseB n h l z c)) ∧ Below w.heap.size w w' := by
  have C := Lib.hid (fun W => implProblemOk n h l z W)
  have K := Lib.hid (fun W => implKnown c W)
  have D := Lib.hid (fun W => implKind c W)
  have O := Lib.hid (fun W => implCoin c W c0 c1)
  have HD : Hid (probB n h l = false → caseB n h l z c = false) := fun h => by unfold caseB; rw [h]; rfl
  have HI := Lib.hid (@inB_out n c h l z)
  have HO := Lib.hid (@coinI_out n c h l z)
  have HC := Lib.hid (@coinI_cases n c h l z)
  have hk : kindI c = 0 ∨ kindI c = 1 ∨ kindI c = 2 := by unfold kindI; (repeat' split) <;> simp
  generalize probB n h l = b at C HD HI HO HC
  generalize inB c = i at K HI HC
  generalize coinI c = o at O HO HC
  generalize kindI c = k at D hk HC
  generalize caseB n h l z c = r at HD HI HO HC ⊢
  unfold probV
  cases b
  · obtain rfl := HD.out rfl
    clear HD HI HO HC
    go_enter Tryz.func101, Tryz.ntmps101
    go_wp2_with fail
    first | (go_region_with (first | (go_at_call 136; refine (C.out _).mono ?_; rintro e w1 ⟨rfl, hb1⟩; have HB := Lib.hid hb1; clear hb1) | fail)) | fail
    all_goals
      go_wp2
      go_ret
      exact ⟨rfl, below_of ((Below.refl _ _).alloc (Nat.le_refl _) _) (below_of ((Below.refl _ _).drew) HB.out)⟩
  · cases i
    · obtain rfl := HI.out rfl rfl
      clear HD HI HO HC
      go_enter Tryz.func101, Tryz.ntmps101
      go_wp2_with fail
      first | (go_region_with (first | (go_at_call 136; refine (C.out _).mono ?_; rintro e w1 ⟨rfl, hb1⟩; have hc1 := bcellC hb1; have hs1 := hb1.size; have HB := Lib.hid hb1; clear hb1) | (go_at_call 95; refine (K.out _).mono ?_; rintro e w2 ⟨rfl, rfl⟩) | fail)) | fail
      all_goals
        go_wp2
        go_ret
        exact ⟨rfl, below_of ((Below.refl _ _).alloc (Nat.le_refl _) _) (below_of ((Below.refl _ _).drew) HB.out)⟩
    · cases hd : decide (n < o)
      · have HE := Lib.hid (HC.out rfl rfl hd)
        clear HD HI HO HC
        have HK := Lib.hid hk
        clear hk
        go_enter Tryz.func101, Tryz.ntmps101
        go_wp2_with fail
        first | (go_region_with (first | (go_at_call 136; refine (C.out _).mono ?_; rintro e w1 ⟨rfl, hb1⟩; have hc1 := bcellC hb1; have hs1 := hb1.size; have HB := Lib.hid hb1; clear hb1) | (go_at_call 95; refine (K.out _).mono ?_; rintro e w2 ⟨rfl, rfl⟩) | (go_at_call 96; refine (O.out _).mono ?_; rintro e w2 ⟨rfl, rfl⟩) | fail)) | fail
        all_goals
          go_wp2_with fail
          refine (D.out _).mono ?_
          rintro e w2 ⟨rfl, rfl⟩
          rcases HK.out with rfl | rfl | rfl
          all_goals
            go_wp2
            go_ret
            exact ⟨ret_bool HE.out.symm, below_of ((Below.refl _ _).alloc (Nat.le_refl _) _) (below_of ((Below.refl _ _).drew) HB.out)⟩
      · obtain rfl := HO.out rfl hd
        clear HD HI HO HC hk
        go_enter Tryz.func101, Tryz.ntmps101
        go_wp2_with fail
        first | (go_region_with (first | (go_at_call 136; refine (C.out _).mono ?_; rintro e w1 ⟨rfl, hb1⟩; have hc1 := bcellC hb1; have hs1 := hb1.size; have HB := Lib.hid hb1; clear hb1) | (go_at_call 95; refine (K.out _).mono ?_; rintro e w2 ⟨rfl, rfl⟩) | (go_at_call 96; refine (O.out _).mono ?_; rintro e w2 ⟨rfl, rfl⟩) | fail)) | fail
        all_goals
          go_wp2
          go_ret
          exact ⟨rfl, below_of ((Below.refl _ _).alloc (Nat.le_refl _) _) (below_of ((Below.refl _ _).drew) HB.out)⟩

theorem implCaseOk (n c : Int) (h l z : Bool) (w : World) (c0 : -9223372036854775808 ≤ c) (c1 : c ≤ 9223372036854775807) : Calls Tryz.prog 56 #[probV n h l z, .int .i64 c] w fun e w' => e = .returned (.bool (caseB n h l z c)) ∧ Below w.heap.size w w' := by
  have C := Lib.hid (fun W => implIn n c h l z W c0 c1)
  generalize caseB n h l z c = b at C ⊢
  unfold probV
  go_enter Tryz.func56, Tryz.ntmps56
  go_wp2_with fail
  refine (C.out _).mono ?_
  rintro e w1 ⟨rfl, hb1⟩
  have HB := Lib.hid hb1
  clear hb1
  go_wp2
  go_ret
  exact ⟨rfl, below_of ((Below.refl _ _).alloc (Nat.le_refl _) _) HB.out⟩
end Go.Proofs.YtlflblngbneacabGreatDoor
