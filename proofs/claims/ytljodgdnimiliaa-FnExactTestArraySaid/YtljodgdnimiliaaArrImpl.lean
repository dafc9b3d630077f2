/- The contracts of the program's ArrayOk, arrayOf, arrayResultsOk, positiveItems, countPositive, TestArray, SuspectsOf, IsClear and CountArrayTests. Conditions: the slices read as truth values. -/
import Derived.Test.YtljodgdnimiliaaArrPools
import Derived.Test.YtljodgdnimiliaaArrLaws
import Derived.Test.YtljodgdnimiliaaPoolsImpl
import Derived.Test.YtljodgdnimiliaaGWei
import Derived.Deep.DeepCutAuto
import Derived.Deep.OwnRows
import Derived.RegionTactic
import Derived.ChangeAlike
namespace Go.Proofs.Ytljodgdnimiliaa
open Go.RowKit

set_option maxHeartbeats 800000 in
theorem implArrayOk (r c : Int) (w : World) : Calls Try.prog 12 #[.int .i64 r, .int .i64 c] w fun e w' => e = .returned (.bool (okArr r c)) ∧ w = w' := by
  have HB : Hid (okArr r c = ((decide (1 ≤ r) && decide (r ≤ 4)) && (decide (1 ≤ c) && decide (c ≤ 4)))) := rfl
  generalize okArr r c = b at HB ⊢
  by_cases k1 : 1 ≤ r
  · by_cases k2 : r ≤ 4
    · by_cases k3 : 1 ≤ c
      · have HE : Hid (b = decide (c ≤ 4)) := by unfold Hid; rw [HB.out, decide_eq_true k1, decide_eq_true k2, decide_eq_true k3]; rfl
        go_enter Try.func12, Try.ntmps12
        go_wp2
        go_ret
        exact ⟨ret_bool HE.out.symm, rfl⟩
      · have HE : Hid (b = false) := by unfold Hid; rw [HB.out, decide_eq_true k1, decide_eq_true k2, decide_eq_false k3]; rfl
        go_enter Try.func12, Try.ntmps12
        go_wp2
        go_ret
        exact ⟨ret_bool HE.out.symm, rfl⟩
    · have HE : Hid (b = false) := by unfold Hid; rw [HB.out, decide_eq_true k1, decide_eq_false k2]; rfl
      go_enter Try.func12, Try.ntmps12
      go_wp2
      go_ret
      exact ⟨ret_bool HE.out.symm, rfl⟩
  · have HE : Hid (b = false) := by unfold Hid; rw [HB.out, decide_eq_false k1]; rfl
    go_enter Try.func12, Try.ntmps12
    go_wp2
    go_ret
    exact ⟨ret_bool HE.out.symm, rfl⟩

/-- What arrayOf gives back: the pools of the rows and of the columns. -/
def ArrayGives (R C : Nat) (w : World) (e : Ending) (w' : World) : Prop :=
  ∃ gr gc, e = .returned (.agg #[.slice (some ⟨gr, 0, none⟩) R R, .slice (some ⟨gc, 0, none⟩) C C]) ∧ IntsAt w' (.slice (some ⟨gr, 0, none⟩) R R) (rpL R C) ∧ IntsAt w' (.slice (some ⟨gc, 0, none⟩) C C) (cpL R C) ∧ Below w.heap.size w w'
/-- What the loops of arrayOf keep: the variable, the two rows of sets, the result's variable. -/
structure ArrAt (w0 w : World) (b gr gc R C k : Nat) : Prop where
  var : VarAt w b (.slice (some ⟨gr, 0, none⟩) R R) (.slice (some ⟨gc, 0, none⟩) C C)
  row : w.rowIs gr 3 R (fun i => .int .i64 (rpF C i k))
  col : w.rowIs gc 3 C (fun i => .int .i64 (cpF C i k))
  res : VarAt w w0.heap.size (.slice none 0 0) (.slice none 0 0)
  far : gr ≠ gc ∧ b ≠ gr ∧ b ≠ gc ∧ w0.heap.size < gr ∧ w0.heap.size < gc ∧ w0.heap.size < b
  bel : Below w0.heap.size w0 w

theorem VarAt.only2 {X X' : World} {b g : Nat} {x y : Value} (h : VarAt X b x y) (o : Only (fun k => k = g) X X') (hn : b ≠ g) : VarAt X' b x y :=
  ⟨h.1.only o hn, by rw [World.frozen?_of_block (w := X) (a := ⟨b, 0, none⟩) (o.block b h.1.2.2 hn)]; exact h.2.1, by rw [World.frozen?_of_block (w := X) (a := ⟨b, 1, none⟩) (o.block b h.1.2.2 hn)]; exact h.2.2⟩
theorem born_brc (w : World) (R C : Nat) : ArrAt w ((((w.alloc (.cells #[.slice none 0 0, .slice none 0 0] 41)).alloc (.cells #[.slice (some ⟨w.heap.size + 1 + 1, 0, none⟩) R R, .slice (some ⟨w.heap.size + 1 + 1 + 1, 0, none⟩) C C] 41)).alloc (.cells (madeCells #[.int .i64 0] R) 3)).alloc (.cells (madeCells #[.int .i64 0] C) 3)).drew (w.heap.size + 1) (w.heap.size + 1 + 1) (w.heap.size + 1 + 1 + 1) R C 0 := by
  have v := (((VarAt.new (w.alloc (.cells #[.slice none 0 0, .slice none 0 0] 41)) 41 (.slice (some ⟨w.heap.size + 1 + 1, 0, none⟩) R R) (.slice (some ⟨w.heap.size + 1 + 1 + 1, 0, none⟩) C C)).alloc (.cells (madeCells #[.int .i64 0] R) 3)).alloc (.cells (madeCells #[.int .i64 0] C) 3))
  have r := ((World.rowIs_made ((w.alloc (.cells #[.slice none 0 0, .slice none 0 0] 41)).alloc (.cells #[.slice (some ⟨w.heap.size + 1 + 1, 0, none⟩) R R, .slice (some ⟨w.heap.size + 1 + 1 + 1, 0, none⟩) C C] 41)) (.int .i64 0) R 3).alloc (.cells (madeCells #[.int .i64 0] C) 3))
  have c := (World.rowIs_made (((w.alloc (.cells #[.slice none 0 0, .slice none 0 0] 41)).alloc (.cells #[.slice (some ⟨w.heap.size + 1 + 1, 0, none⟩) R R, .slice (some ⟨w.heap.size + 1 + 1 + 1, 0, none⟩) C C] 41)).alloc (.cells (madeCells #[.int .i64 0] R) 3)) (.int .i64 0) C 3)
  have z := (((VarAt.new w 41 (.slice none 0 0) (.slice none 0 0)).alloc (.cells #[.slice (some ⟨w.heap.size + 1 + 1, 0, none⟩) R R, .slice (some ⟨w.heap.size + 1 + 1 + 1, 0, none⟩) C C] 41)).alloc (.cells (madeCells #[.int .i64 0] R) 3)).alloc (.cells (madeCells #[.int .i64 0] C) 3)
  have bb : Below w.heap.size w ((((w.alloc (.cells #[.slice none 0 0, .slice none 0 0] 41)).alloc (.cells #[.slice (some ⟨w.heap.size + 1 + 1, 0, none⟩) R R, .slice (some ⟨w.heap.size + 1 + 1 + 1, 0, none⟩) C C] 41)).alloc (.cells (madeCells #[.int .i64 0] R) 3)).alloc (.cells (madeCells #[.int .i64 0] C) 3)) := ((((Below.refl _ w).alloc (Nat.le_refl _) _).alloc (by simp) _).alloc (by simp; omega) _).alloc (by simp; omega) _
  simp only [World.size_alloc] at v r c
  exact ⟨v.drew, r.drew, c.drew, z.drew, by omega, bb.drew⟩

theorem born_bcr (w : World) (R C : Nat) : ArrAt w ((((w.alloc (.cells #[.slice none 0 0, .slice none 0 0] 41)).alloc (.cells #[.slice (some ⟨w.heap.size + 1 + 1 + 1, 0, none⟩) R R, .slice (some ⟨w.heap.size + 1 + 1, 0, none⟩) C C] 41)).alloc (.cells (madeCells #[.int .i64 0] C) 3)).alloc (.cells (madeCells #[.int .i64 0] R) 3)).drew (w.heap.size + 1) (w.heap.size + 1 + 1 + 1) (w.heap.size + 1 + 1) R C 0 := by
  have v := (((VarAt.new (w.alloc (.cells #[.slice none 0 0, .slice none 0 0] 41)) 41 (.slice (some ⟨w.heap.size + 1 + 1 + 1, 0, none⟩) R R) (.slice (some ⟨w.heap.size + 1 + 1, 0, none⟩) C C)).alloc (.cells (madeCells #[.int .i64 0] C) 3)).alloc (.cells (madeCells #[.int .i64 0] R) 3))
  have r := (World.rowIs_made (((w.alloc (.cells #[.slice none 0 0, .slice none 0 0] 41)).alloc (.cells #[.slice (some ⟨w.heap.size + 1 + 1 + 1, 0, none⟩) R R, .slice (some ⟨w.heap.size + 1 + 1, 0, none⟩) C C] 41)).alloc (.cells (madeCells #[.int .i64 0] C) 3)) (.int .i64 0) R 3)
  have c := ((World.rowIs_made ((w.alloc (.cells #[.slice none 0 0, .slice none 0 0] 41)).alloc (.cells #[.slice (some ⟨w.heap.size + 1 + 1 + 1, 0, none⟩) R R, .slice (some ⟨w.heap.size + 1 + 1, 0, none⟩) C C] 41)) (.int .i64 0) C 3).alloc (.cells (madeCells #[.int .i64 0] R) 3))
  have z := (((VarAt.new w 41 (.slice none 0 0) (.slice none 0 0)).alloc (.cells #[.slice (some ⟨w.heap.size + 1 + 1 + 1, 0, none⟩) R R, .slice (some ⟨w.heap.size + 1 + 1, 0, none⟩) C C] 41)).alloc (.cells (madeCells #[.int .i64 0] C) 3)).alloc (.cells (madeCells #[.int .i64 0] R) 3)
  have bb : Below w.heap.size w ((((w.alloc (.cells #[.slice none 0 0, .slice none 0 0] 41)).alloc (.cells #[.slice (some ⟨w.heap.size + 1 + 1 + 1, 0, none⟩) R R, .slice (some ⟨w.heap.size + 1 + 1, 0, none⟩) C C] 41)).alloc (.cells (madeCells #[.int .i64 0] C) 3)).alloc (.cells (madeCells #[.int .i64 0] R) 3)) := ((((Below.refl _ w).alloc (Nat.le_refl _) _).alloc (by simp) _).alloc (by simp; omega) _).alloc (by simp; omega) _
  simp only [World.size_alloc] at v r c
  exact ⟨v.drew, r.drew, c.drew, z.drew, by omega, bb.drew⟩

theorem born_rbc (w : World) (R C : Nat) : ArrAt w ((((w.alloc (.cells #[.slice none 0 0, .slice none 0 0] 41)).alloc (.cells (madeCells #[.int .i64 0] R) 3)).alloc (.cells #[.slice (some ⟨w.heap.size + 1, 0, none⟩) R R, .slice (some ⟨w.heap.size + 1 + 1 + 1, 0, none⟩) C C] 41)).alloc (.cells (madeCells #[.int .i64 0] C) 3)).drew (w.heap.size + 1 + 1) (w.heap.size + 1) (w.heap.size + 1 + 1 + 1) R C 0 := by
  have v := ((VarAt.new ((w.alloc (.cells #[.slice none 0 0, .slice none 0 0] 41)).alloc (.cells (madeCells #[.int .i64 0] R) 3)) 41 (.slice (some ⟨w.heap.size + 1, 0, none⟩) R R) (.slice (some ⟨w.heap.size + 1 + 1 + 1, 0, none⟩) C C)).alloc (.cells (madeCells #[.int .i64 0] C) 3))
  have r := (((World.rowIs_made (w.alloc (.cells #[.slice none 0 0, .slice none 0 0] 41)) (.int .i64 0) R 3).alloc (.cells #[.slice (some ⟨w.heap.size + 1, 0, none⟩) R R, .slice (some ⟨w.heap.size + 1 + 1 + 1, 0, none⟩) C C] 41)).alloc (.cells (madeCells #[.int .i64 0] C) 3))
  have c := (World.rowIs_made (((w.alloc (.cells #[.slice none 0 0, .slice none 0 0] 41)).alloc (.cells (madeCells #[.int .i64 0] R) 3)).alloc (.cells #[.slice (some ⟨w.heap.size + 1, 0, none⟩) R R, .slice (some ⟨w.heap.size + 1 + 1 + 1, 0, none⟩) C C] 41)) (.int .i64 0) C 3)
  have z := (((VarAt.new w 41 (.slice none 0 0) (.slice none 0 0)).alloc (.cells (madeCells #[.int .i64 0] R) 3)).alloc (.cells #[.slice (some ⟨w.heap.size + 1, 0, none⟩) R R, .slice (some ⟨w.heap.size + 1 + 1 + 1, 0, none⟩) C C] 41)).alloc (.cells (madeCells #[.int .i64 0] C) 3)
  have bb : Below w.heap.size w ((((w.alloc (.cells #[.slice none 0 0, .slice none 0 0] 41)).alloc (.cells (madeCells #[.int .i64 0] R) 3)).alloc (.cells #[.slice (some ⟨w.heap.size + 1, 0, none⟩) R R, .slice (some ⟨w.heap.size + 1 + 1 + 1, 0, none⟩) C C] 41)).alloc (.cells (madeCells #[.int .i64 0] C) 3)) := ((((Below.refl _ w).alloc (Nat.le_refl _) _).alloc (by simp) _).alloc (by simp; omega) _).alloc (by simp; omega) _
  simp only [World.size_alloc] at v r c
  exact ⟨v.drew, r.drew, c.drew, z.drew, by omega, bb.drew⟩

theorem born_rcb (w : World) (R C : Nat) : ArrAt w ((((w.alloc (.cells #[.slice none 0 0, .slice none 0 0] 41)).alloc (.cells (madeCells #[.int .i64 0] R) 3)).alloc (.cells (madeCells #[.int .i64 0] C) 3)).alloc (.cells #[.slice (some ⟨w.heap.size + 1, 0, none⟩) R R, .slice (some ⟨w.heap.size + 1 + 1, 0, none⟩) C C] 41)).drew (w.heap.size + 1 + 1 + 1) (w.heap.size + 1) (w.heap.size + 1 + 1) R C 0 := by
  have v := (VarAt.new (((w.alloc (.cells #[.slice none 0 0, .slice none 0 0] 41)).alloc (.cells (madeCells #[.int .i64 0] R) 3)).alloc (.cells (madeCells #[.int .i64 0] C) 3)) 41 (.slice (some ⟨w.heap.size + 1, 0, none⟩) R R) (.slice (some ⟨w.heap.size + 1 + 1, 0, none⟩) C C))
  have r := (((World.rowIs_made (w.alloc (.cells #[.slice none 0 0, .slice none 0 0] 41)) (.int .i64 0) R 3).alloc (.cells (madeCells #[.int .i64 0] C) 3)).alloc (.cells #[.slice (some ⟨w.heap.size + 1, 0, none⟩) R R, .slice (some ⟨w.heap.size + 1 + 1, 0, none⟩) C C] 41))
  have c := ((World.rowIs_made ((w.alloc (.cells #[.slice none 0 0, .slice none 0 0] 41)).alloc (.cells (madeCells #[.int .i64 0] R) 3)) (.int .i64 0) C 3).alloc (.cells #[.slice (some ⟨w.heap.size + 1, 0, none⟩) R R, .slice (some ⟨w.heap.size + 1 + 1, 0, none⟩) C C] 41))
  have z := (((VarAt.new w 41 (.slice none 0 0) (.slice none 0 0)).alloc (.cells (madeCells #[.int .i64 0] R) 3)).alloc (.cells (madeCells #[.int .i64 0] C) 3)).alloc (.cells #[.slice (some ⟨w.heap.size + 1, 0, none⟩) R R, .slice (some ⟨w.heap.size + 1 + 1, 0, none⟩) C C] 41)
  have bb : Below w.heap.size w ((((w.alloc (.cells #[.slice none 0 0, .slice none 0 0] 41)).alloc (.cells (madeCells #[.int .i64 0] R) 3)).alloc (.cells (madeCells #[.int .i64 0] C) 3)).alloc (.cells #[.slice (some ⟨w.heap.size + 1, 0, none⟩) R R, .slice (some ⟨w.heap.size + 1 + 1, 0, none⟩) C C] 41)) := ((((Below.refl _ w).alloc (Nat.le_refl _) _).alloc (by simp) _).alloc (by simp; omega) _).alloc (by simp; omega) _
  simp only [World.size_alloc] at v r c
  exact ⟨v.drew, r.drew, c.drew, z.drew, by omega, bb.drew⟩

theorem born_cbr (w : World) (R C : Nat) : ArrAt w ((((w.alloc (.cells #[.slice none 0 0, .slice none 0 0] 41)).alloc (.cells (madeCells #[.int .i64 0] C) 3)).alloc (.cells #[.slice (some ⟨w.heap.size + 1 + 1 + 1, 0, none⟩) R R, .slice (some ⟨w.heap.size + 1, 0, none⟩) C C] 41)).alloc (.cells (madeCells #[.int .i64 0] R) 3)).drew (w.heap.size + 1 + 1) (w.heap.size + 1 + 1 + 1) (w.heap.size + 1) R C 0 := by
  have v := ((VarAt.new ((w.alloc (.cells #[.slice none 0 0, .slice none 0 0] 41)).alloc (.cells (madeCells #[.int .i64 0] C) 3)) 41 (.slice (some ⟨w.heap.size + 1 + 1 + 1, 0, none⟩) R R) (.slice (some ⟨w.heap.size + 1, 0, none⟩) C C)).alloc (.cells (madeCells #[.int .i64 0] R) 3))
  have r := (World.rowIs_made (((w.alloc (.cells #[.slice none 0 0, .slice none 0 0] 41)).alloc (.cells (madeCells #[.int .i64 0] C) 3)).alloc (.cells #[.slice (some ⟨w.heap.size + 1 + 1 + 1, 0, none⟩) R R, .slice (some ⟨w.heap.size + 1, 0, none⟩) C C] 41)) (.int .i64 0) R 3)
  have c := (((World.rowIs_made (w.alloc (.cells #[.slice none 0 0, .slice none 0 0] 41)) (.int .i64 0) C 3).alloc (.cells #[.slice (some ⟨w.heap.size + 1 + 1 + 1, 0, none⟩) R R, .slice (some ⟨w.heap.size + 1, 0, none⟩) C C] 41)).alloc (.cells (madeCells #[.int .i64 0] R) 3))
  have z := (((VarAt.new w 41 (.slice none 0 0) (.slice none 0 0)).alloc (.cells (madeCells #[.int .i64 0] C) 3)).alloc (.cells #[.slice (some ⟨w.heap.size + 1 + 1 + 1, 0, none⟩) R R, .slice (some ⟨w.heap.size + 1, 0, none⟩) C C] 41)).alloc (.cells (madeCells #[.int .i64 0] R) 3)
  have bb : Below w.heap.size w ((((w.alloc (.cells #[.slice none 0 0, .slice none 0 0] 41)).alloc (.cells (madeCells #[.int .i64 0] C) 3)).alloc (.cells #[.slice (some ⟨w.heap.size + 1 + 1 + 1, 0, none⟩) R R, .slice (some ⟨w.heap.size + 1, 0, none⟩) C C] 41)).alloc (.cells (madeCells #[.int .i64 0] R) 3)) := ((((Below.refl _ w).alloc (Nat.le_refl _) _).alloc (by simp) _).alloc (by simp; omega) _).alloc (by simp; omega) _
  simp only [World.size_alloc] at v r c
  exact ⟨v.drew, r.drew, c.drew, z.drew, by omega, bb.drew⟩

theorem born_crb (w : World) (R C : Nat) : ArrAt w ((((w.alloc (.cells #[.slice none 0 0, .slice none 0 0] 41)).alloc (.cells (madeCells #[.int .i64 0] C) 3)).alloc (.cells (madeCells #[.int .i64 0] R) 3)).alloc (.cells #[.slice (some ⟨w.heap.size + 1 + 1, 0, none⟩) R R, .slice (some ⟨w.heap.size + 1, 0, none⟩) C C] 41)).drew (w.heap.size + 1 + 1 + 1) (w.heap.size + 1 + 1) (w.heap.size + 1) R C 0 := by
  have v := (VarAt.new (((w.alloc (.cells #[.slice none 0 0, .slice none 0 0] 41)).alloc (.cells (madeCells #[.int .i64 0] C) 3)).alloc (.cells (madeCells #[.int .i64 0] R) 3)) 41 (.slice (some ⟨w.heap.size + 1 + 1, 0, none⟩) R R) (.slice (some ⟨w.heap.size + 1, 0, none⟩) C C))
  have r := ((World.rowIs_made ((w.alloc (.cells #[.slice none 0 0, .slice none 0 0] 41)).alloc (.cells (madeCells #[.int .i64 0] C) 3)) (.int .i64 0) R 3).alloc (.cells #[.slice (some ⟨w.heap.size + 1 + 1, 0, none⟩) R R, .slice (some ⟨w.heap.size + 1, 0, none⟩) C C] 41))
  have c := (((World.rowIs_made (w.alloc (.cells #[.slice none 0 0, .slice none 0 0] 41)) (.int .i64 0) C 3).alloc (.cells (madeCells #[.int .i64 0] R) 3)).alloc (.cells #[.slice (some ⟨w.heap.size + 1 + 1, 0, none⟩) R R, .slice (some ⟨w.heap.size + 1, 0, none⟩) C C] 41))
  have z := (((VarAt.new w 41 (.slice none 0 0) (.slice none 0 0)).alloc (.cells (madeCells #[.int .i64 0] C) 3)).alloc (.cells (madeCells #[.int .i64 0] R) 3)).alloc (.cells #[.slice (some ⟨w.heap.size + 1 + 1, 0, none⟩) R R, .slice (some ⟨w.heap.size + 1, 0, none⟩) C C] 41)
  have bb : Below w.heap.size w ((((w.alloc (.cells #[.slice none 0 0, .slice none 0 0] 41)).alloc (.cells (madeCells #[.int .i64 0] C) 3)).alloc (.cells (madeCells #[.int .i64 0] R) 3)).alloc (.cells #[.slice (some ⟨w.heap.size + 1 + 1, 0, none⟩) R R, .slice (some ⟨w.heap.size + 1, 0, none⟩) C C] 41)) := ((((Below.refl _ w).alloc (Nat.le_refl _) _).alloc (by simp) _).alloc (by simp; omega) _).alloc (by simp; omega) _
  simp only [World.size_alloc] at v r c
  exact ⟨v.drew, r.drew, c.drew, z.drew, by omega, bb.drew⟩

theorem ArrAt.put {w0 w : World} {b gr gc R C i j : Nat} (h : ArrAt w0 w b gr gc R C (i * C + j)) (hj : j < C) :
    ArrAt w0 ((w.setCell ⟨gr, i, none⟩ (.int .i64 (orI (rpF C i (i * C + j)) (2 ^ (i * C + j))))).setCell ⟨gc, j, none⟩ (.int .i64 (orI (cpF C j (i * C + j)) (2 ^ (i * C + j))))) b gr gc R C (i * C + (j + 1)) := by
  obtain ⟨f1, f2, f3, f4, f5, f6⟩ := h.far
  have hd : (i * C + j) / C = i := by rw [Nat.mul_comm, Nat.mul_add_div (by omega), Nat.div_eq_of_lt hj]; omega
  have hm : (i * C + j) % C = j := by rw [Nat.mul_comm, Nat.mul_add_mod, Nat.mod_eq_of_lt hj]
  have hr : ∀ x, rpF C x (i * C + (j + 1)) = if x = i then orI (rpF C x (i * C + j)) (2 ^ (i * C + j)) else rpF C x (i * C + j) := fun x => by
    rw [← Nat.add_assoc, rpF, hd]
  have hc : ∀ x, cpF C x (i * C + (j + 1)) = if x = j then orI (cpF C x (i * C + j)) (2 ^ (i * C + j)) else cpF C x (i * C + j) := fun x => by
    rw [← Nat.add_assoc, cpF, hm]
  have o1 := setCell_only2 w gr i (.int .i64 (orI (rpF C i (i * C + j)) (2 ^ (i * C + j))))
  have o2 := setCell_only2 (w.setCell ⟨gr, i, none⟩ (.int .i64 (orI (rpF C i (i * C + j)) (2 ^ (i * C + j))))) gc j (.int .i64 (orI (cpF C j (i * C + j)) (2 ^ (i * C + j))))
  refine ⟨(h.var.only2 o1 f2).only2 o2 f3, ?_, ?_, (h.res.only2 o1 (by omega)).only2 o2 (by omega), h.far, (h.bel.setCell (p := ⟨gr, i, none⟩) (Nat.le_of_lt f4) _).setCell (p := ⟨gc, j, none⟩) (Nat.le_of_lt f5) _⟩
  · refine ((h.row.set i _).setOther f1 _).congr fun x hx => ?_
    rw [hr x]
    by_cases hxi : x = i
    · subst hxi; simp
    · rw [if_neg hxi, if_neg hxi]
  · refine ((h.col.setOther (Ne.symm f1) _).set j _).congr fun x hx => ?_
    rw [hc x]
    by_cases hxj : x = j
    · subst hxj; simp
    · rw [if_neg hxj, if_neg hxj]

set_option maxRecDepth 100000 in
set_option maxHeartbeats 1600000 in
theorem implArrayOf (R C : Nat) (R4 : R ≤ 4) (C1 : 1 ≤ C) (C4 : C ≤ 4) (w : World) :
    Calls Try.prog 34 #[.int .i64 (R : Int), .int .i64 (C : Int)] w (ArrayGives R C w) := by
  have hmR := run_make_row' (P := Try.prog) 39 3 (.int .i64 0) 8 Try.underlying39 infoIntA rfl .i64 .i64 R (by omega) (by omega)
  have hmC := run_make_row' (P := Try.prog) 39 3 (.int .i64 0) 8 Try.underlying39 infoIntA rfl .i64 .i64 C (by omega) (by omega)
  go_enter Try.func34, Try.ntmps34
  go_upto_region 1 with fail
  go_cut [5] (fun v5 wx => ∃ b gr gc : Nat, v5 = .pointer (some ⟨b, 0, none⟩) ∧ Hid (ArrAt w wx b gr gc R C 0))
  case first =>
    go_region
    all_goals (go_wp2_with fail)
    all_goals go_meet
    all_goals first
      | exact ⟨_, _, _, rfl, Lib.hid (born_brc w R C)⟩
      | exact ⟨_, _, _, rfl, Lib.hid (born_bcr w R C)⟩
      | exact ⟨_, _, _, rfl, Lib.hid (born_rbc w R C)⟩
      | exact ⟨_, _, _, rfl, Lib.hid (born_rcb w R C)⟩
      | exact ⟨_, _, _, rfl, Lib.hid (born_cbr w R C)⟩
      | exact ⟨_, _, _, rfl, Lib.hid (born_crb w R C)⟩
  case rest =>
    clear hmR hmC
    obtain ⟨b, gr, gc, rfl, HA⟩ := hcut
    go_wp2_with fail
    go_loopw [15] (fun iv wr => ∃ i : Nat, i ≤ R ∧ iv = .int .i64 i ∧ Hid (ArrAt w wr b gr gc R C (i * C))) (fun iv _ => R - (intOf iv).toNat)
    case atStart => exact ⟨0, Nat.zero_le _, rfl, by rw [Nat.zero_mul]; exact HA⟩
    case round =>
      clear HA
      obtain ⟨i, hi, rfl, HA⟩ := hrel
      by_cases hlt : i < R
      · have i1 : (i : Int) < (R : Int) := by omega
        go_wp2_with fail
        go_loopw [19] (fun jv ws => ∃ j : Nat, j ≤ C ∧ jv = .int .i64 j ∧ Hid (ArrAt w ws b gr gc R C (i * C + j))) (fun jv _ => C - (intOf jv).toNat)
        case atStart => exact ⟨0, Nat.zero_le _, rfl, HA⟩
        case round =>
          clear HA
          obtain ⟨j, hj, rfl, HA⟩ := hrel
          by_cases hlj : j < C
          · have j1 : (j : Int) < (C : Int) := by omega
            have HP := Lib.hid (HA.out.put (i := i) hlj)
            obtain ⟨v, r, c, z, f, bb⟩ := HA.out
            have e0 := r.cell hlt
            have e1 := c.cell hlj
            have g0 := r.frozen i
            have g1 := c.frozen j
            obtain ⟨⟨v0, v1, -⟩, -⟩ := v
            obtain ⟨n1, n3, n5, -⟩ := f
            have n2 : ¬ gc = gr := fun h => n1 h.symm
            have n4 : ¬ gr = b := fun h => n3 h.symm
            clear r c z bb HA
            have m1 : IntKind.i64.wrap ((i : Int) * (C : Int)) = ((i * C : Nat) : Int) := (mul_arr (R := i) (C := C) (by omega) C4).2
            have m2 : IntKind.i64.wrap (((i * C : Nat) : Int) + (j : Int)) = ((i * C + j : Nat) : Int) := by
              have := (mul_arr (R := i) (C := C) (by omega) C4).1
              rw [IntKind.wrap_i64]
              omega
            have m3 : i * C + j ≤ 16 := by
              have h5 := (mul_arr (R := i + 1) (C := C) (by omega) C4).1
              rw [Nat.succ_mul] at h5
              omega
            generalize hk : i * C + j = k at m2 m3 HP e0 e1
            generalize hq : i * C = q at m1 m2 HP
            clear hk hq
            obtain ⟨s1, -, -, -⟩ := shl_arr m3
            have k0 : (0 : Int) ≤ (k : Int) := by omega
            unfold orI at HP
            go_wp2
            go_roundw
            case rel => exact ⟨j + 1, by omega, by go_num, HP⟩
            case measure => simp [intOf]; omega
          · obtain rfl : j = C := by omega
            go_wp2
            go_roundw
            case rel => exact ⟨i + 1, by omega, by go_num, by rw [Nat.succ_mul]; exact HA⟩
            case measure => simp [intOf]; omega
      · obtain rfl : i = R := by omega
        obtain ⟨v, r, c, z, f, bb⟩ := HA.out
        obtain ⟨⟨v0, v1, -⟩, -⟩ := v
        have zz := Lib.hid ((z.set0 (.slice (some ⟨gr, 0, none⟩) i i)).set1 (.slice (some ⟨gc, 0, none⟩) C C))
        obtain ⟨⟨z0, z1, -⟩, y0, y1⟩ := z
        go_wp2
        obtain ⟨⟨q0, q1, -⟩, -⟩ := zz.out
        have r2 := (r.setOther (a := ⟨w.heap.size, 0, none⟩) (by simp; omega) (.slice (some ⟨gr, 0, none⟩) i i)).setOther (a := ⟨w.heap.size, 1, none⟩) (by simp; omega) (.slice (some ⟨gc, 0, none⟩) C C)
        have c2 := (c.setOther (a := ⟨w.heap.size, 0, none⟩) (by simp; omega) (.slice (some ⟨gr, 0, none⟩) i i)).setOther (a := ⟨w.heap.size, 1, none⟩) (by simp; omega) (.slice (some ⟨gc, 0, none⟩) C C)
        have b2 := (bb.setCell (p := ⟨w.heap.size, 0, none⟩) (Nat.le_refl _) (.slice (some ⟨gr, 0, none⟩) i i)).setCell (p := ⟨w.heap.size, 1, none⟩) (Nat.le_refl _) (.slice (some ⟨gc, 0, none⟩) C C)
        refine bodyPost_ret (v := .agg #[.slice (some ⟨gr, 0, none⟩) i i, .slice (some ⟨gc, 0, none⟩) C C]) ?_ rfl ?_
        · simp [results, Try.results34, go_sem, q0, q1]
        unfold ArrayGives
        refine ⟨gr, gc, rfl, ?_, ?_, b2⟩
        · refine ⟨_, _, by rw [rpL_len], .inr ⟨gr, 0, rfl, fun x hx => ?_⟩⟩
          rw [rpL_len] at hx
          rw [Nat.zero_add, r2.cell hx]
          simp [rpL]
        · refine ⟨_, _, by rw [cpL_len], .inr ⟨gc, 0, rfl, fun x hx => ?_⟩⟩
          rw [cpL_len] at hx
          rw [Nat.zero_add, c2.cell hx]
          simp [cpL]

theorem fitA_split (r c : Int) (X Y : List Bool) : fitA r c X Y = (okArr r c && (decide ((X.length : Int) = r) && decide ((Y.length : Int) = c))) := rfl
set_option maxHeartbeats 800000 in
theorem implFits (r c : Int) (X Y : List Bool) (vX vY : Value) (w : World) (hX : BoolsAt w vX X) (hY : BoolsAt w vY Y) :
    Calls Try.prog 37 #[.int .i64 r, .int .i64 c, vX, vY] w fun e w' => e = .returned (.bool (fitA r c X Y)) ∧ w = w' := by
  have CO := Lib.hid (implArrayOk r c w)
  have HB := Lib.hid (fitA_split r c X Y)
  obtain ⟨a, ca, rfl, -⟩ := hX
  obtain ⟨b, cb, rfl, -⟩ := hY
  generalize fitA r c X Y = t at HB ⊢
  generalize X.length = m at HB ⊢
  generalize Y.length = n at HB ⊢
  generalize okArr r c = ok at CO HB
  cases ok with
  | false =>
    have HE : Hid (t = false) := HB.out
    go_enter Try.func37, Try.ntmps37
    go_wp2_with fail
    refine CO.out.mono ?_
    rintro e w1 ⟨rfl, rfl⟩
    go_wp2
    go_ret
    exact ⟨ret_bool HE.out.symm, rfl⟩
  | true =>
    by_cases hm : (m : Int) = r
    · have HE : Hid (t = decide ((n : Int) = c)) := by unfold Hid; rw [HB.out, decide_eq_true hm]; rfl
      subst hm
      go_enter Try.func37, Try.ntmps37
      go_wp2_with fail
      refine CO.out.mono ?_
      rintro e w1 ⟨rfl, rfl⟩
      go_wp2
      go_ret
      exact ⟨ret_bool HE.out.symm, rfl⟩
    · have HE : Hid (t = false) := by unfold Hid; rw [HB.out, decide_eq_false hm]; rfl
      have hm2 : ((m : Int) == r) = false := by rw [beq_eq_false_iff_ne]; exact hm
      go_enter Try.func37, Try.ntmps37
      go_wp2_with fail
      refine CO.out.mono ?_
      rintro e w1 ⟨rfl, rfl⟩
      go_wp2
      go_ret
      exact ⟨ret_bool HE.out.symm, rfl⟩

set_option maxHeartbeats 1600000 in
theorem implPosItems (P : List Int) (L : List Bool) (vP vL : Value) (w : World) (hP : IntsAt w vP P) (hL : BoolsAt w vL L) (hl : L.length = P.length) (hs : P.length ≤ 16) :
    Calls Try.prog 38 #[vP, vL] w fun e w' => e = .returned (.int .i64 (posF P L P.length)) ∧ w = w' := by
  obtain ⟨a, ca, rfl, hP⟩ := hP
  obtain ⟨b, cb, rfl, hL⟩ := hL
  have HF : Hid (∀ k, posF P L (k + 1) = if L.getD k false = true then orI (posF P L k) (P.getD k 0) else posF P L k) := fun _ => rfl
  have HF0 : Hid (posF P L 0 = 0) := rfl
  have HP := Lib.hid hP
  have HL := Lib.hid hL
  generalize posF P L = F at HF HF0 ⊢
  have HM := Lib.hid hl
  obtain ⟨m, hm⟩ : ∃ m, P.length = m := ⟨_, rfl⟩
  have HN := Lib.hid hm
  rw [hl, hm]
  rw [hm] at hs
  clear hP hL hl hm
  go_enter Try.func38, Try.ntmps38
  go_wp2
  go_loopw [5, 10] (fun ov iv wr => ∃ i : Nat, i ≤ m ∧ iv = .int .i64 i ∧ ov = .int .i64 (F i) ∧ wr = w) (fun _ iv _ => m - (intOf iv).toNat)
  case atStart => exact ⟨0, Nat.zero_le _, rfl, by rw [HF0.out], rfl⟩
  case round =>
    obtain ⟨i, hi, rfl, rfl, rfl⟩ := hrel
    by_cases hlt : i < m
    · have h1 : i < P.length := by rw [HN.out]; exact hlt
      have h2 : i < L.length := by rw [HM.out]; exact h1
      have HS := Lib.hid (HF.out i)
      rw [List.getD_eq_getElem?_getD, List.getD_eq_getElem?_getD, List.getElem?_eq_getElem h1, List.getElem?_eq_getElem h2, Option.getD_some, Option.getD_some] at HS
      rcases HP.out with h0 | ⟨x, o, rfl, hc⟩
      · rw [h0] at h1; simp at h1
      rcases HL.out with h0 | ⟨y, o2, rfl, hd⟩
      · rw [h0] at h2; simp at h2
      have e0 := hc i h1
      have e1 := hd i h2
      have i1 : (i : Int) < (m : Int) := by omega
      have i0 : (0 : Int) ≤ (i : Int) := by omega
      generalize P[i] = p at e0 HS
      generalize L[i] = l at e1 HS
      clear hc hd h1 h2
      cases l with
      | true =>
        have HS2 : Hid (F (i + 1) = bits .or .i64 (F i) p) := HS.out
        generalize F i = f at HS2 ⊢
        go_wp2
        go_roundw
        case rel => exact ⟨i + 1, by omega, by go_num, by rw [HS2.out], by first | rfl | trivial⟩
        case measure => simp [intOf]; omega
      | false =>
        have HS2 : Hid (F (i + 1) = F i) := HS.out
        generalize F i = f at HS2 ⊢
        go_wp2
        go_roundw
        case rel => exact ⟨i + 1, by omega, by go_num, by rw [HS2.out], by first | rfl | trivial⟩
        case measure => simp [intOf]; omega
    · obtain rfl : i = m := by omega
      go_wp2
      go_ret
      exact ⟨rfl, rfl⟩

set_option maxHeartbeats 1600000 in
theorem implCntPos (L : List Bool) (vL : Value) (w : World) (hL : BoolsAt w vL L) (hs : L.length ≤ 1048576) :
    Calls Try.prog 40 #[vL] w fun e w' => e = .returned (.int .i64 (trueF L L.length)) ∧ w = w' := by
  obtain ⟨b, cb, rfl, hL⟩ := hL
  have HF : Hid (∀ k, trueF L (k + 1) = if L.getD k false = true then trueF L k + 1 else trueF L k) := fun _ => rfl
  have HF0 : Hid (trueF L 0 = 0) := rfl
  have HFI := Lib.hid (trueF_in L)
  have HL := Lib.hid hL
  generalize trueF L = F at HF HF0 HFI ⊢
  obtain ⟨m, hm⟩ : ∃ m, L.length = m := ⟨_, rfl⟩
  have HN := Lib.hid hm
  rw [hm]
  rw [hm] at hs
  clear hL hm
  go_enter Try.func40, Try.ntmps40
  go_wp2
  go_loopw [3, 8] (fun ov iv wr => ∃ i : Nat, i ≤ m ∧ iv = .int .i64 i ∧ ov = .int .i64 (F i) ∧ wr = w) (fun _ iv _ => m - (intOf iv).toNat)
  case atStart => exact ⟨0, Nat.zero_le _, rfl, by rw [HF0.out], rfl⟩
  case round =>
    obtain ⟨i, hi, rfl, rfl, rfl⟩ := hrel
    by_cases hlt : i < m
    · have h2 : i < L.length := by rw [HN.out]; exact hlt
      have HS := Lib.hid (HF.out i)
      rw [List.getD_eq_getElem?_getD, List.getElem?_eq_getElem h2, Option.getD_some] at HS
      rcases HL.out with h0 | ⟨y, o2, rfl, hd⟩
      · rw [h0] at h2; simp at h2
      have e1 := hd i h2
      have i1 : (i : Int) < (m : Int) := by omega
      have i0 : (0 : Int) ≤ (i : Int) := by omega
      have hf := HFI.out i
      generalize L[i] = l at e1 HS
      clear hd h2
      cases l with
      | true =>
        have HS2 : Hid (F (i + 1) = F i + 1) := HS.out
        generalize F i = f at HS2 hf ⊢
        have hw : IntKind.i64.wrap (f + 1) = f + 1 := by rw [IntKind.wrap_i64]; omega
        clear hf
        go_wp2
        go_roundw
        case rel => exact ⟨i + 1, by omega, by go_num, by rw [HS2.out], by first | rfl | trivial⟩
        case measure => simp [intOf]; omega
      | false =>
        have HS2 : Hid (F (i + 1) = F i) := HS.out
        generalize F i = f at HS2 hf ⊢
        clear hf
        go_wp2
        go_roundw
        case rel => exact ⟨i + 1, by omega, by go_num, by rw [HS2.out], by first | rfl | trivial⟩
        case measure => simp [intOf]; omega
    · obtain rfl : i = m := by omega
      go_wp2
      go_ret
      exact ⟨rfl, rfl⟩
end Go.Proofs.Ytljodgdnimiliaa
