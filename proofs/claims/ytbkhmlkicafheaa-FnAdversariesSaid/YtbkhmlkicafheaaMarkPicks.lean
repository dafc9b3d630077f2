/- The contract of the law's marking of a row of picks of its own: it writes that row alone. Condition: the row is the call's own and short enough to be counted. -/
import Derived.Test.YtbkhmlkicafheaaToPicks
import Derived.Test.YtbkhmlkicafheaaMarkNodes
namespace Go.Proofs.Ytbkhmlkicafheaa
open Go.RowKit

/-- A row of picks of the call's own that lies between two blocks. -/
def OwnKs (w : World) (lo hi : Nat) (v : Value) (P : List PD) : Prop := ∃ g f, v = .slice (some ⟨g, 0, none⟩) P.length P.length ∧ lo ≤ g ∧ g < hi ∧ OwnR w g P.length P.length f P
theorem OwnPs.all {w : World} {lo : Nat} {v : Value} {P : List PD} (h : OwnPs w lo v P) : OwnKs w lo w.heap.size v P := by
  obtain ⟨g, f, e, hg, hk⟩ := h
  exact ⟨g, f, e, hg, hk.cells.1, hk⟩
theorem OwnKs.below {w w' : World} {lo hi : Nat} {v : Value} {P : List PD} (h : OwnKs w lo hi v P) (hb : Below w.heap.size w w') : OwnKs w' lo hi v P := by
  obtain ⟨g, f, e, hg, hh, hk⟩ := h
  exact ⟨g, f, e, hg, hh, hk.below hb⟩
theorem OwnKs.reads {w : World} {lo hi : Nat} {v : Value} {P : List PD} (h : OwnKs w lo hi v P) : PicksAt w v P := by
  obtain ⟨g, f, e, hg, hh, hk⟩ := h
  exact OwnPs.reads ⟨g, f, e, hg, hk⟩
theorem OwnPs.form {w : World} {lo : Nat} {v : Value} {P : List PD} (h : OwnPs w lo v P) : ∃ g n c, v = .slice (some ⟨g, 0, none⟩) n c := by
  obtain ⟨g, f, e, -, -⟩ := h
  exact ⟨g, _, _, e⟩

set_option maxRecDepth 100000 in
set_option maxHeartbeats 800000 in
theorem markPicks (lo hi : Nat) (v : Value) (P : List PD) (w : World) (h : OwnKs w lo hi v P) (hs : P.length ≤ 1048576) :
    Calls Try.prog 28 #[v, .int .i64 1] w fun e w' => ∃ r, e = .returned (.int .i64 r) ∧ 0 ≤ r ∧ Only (fun k => lo ≤ k ∧ k < hi) w w' := by
  obtain ⟨g, f, rfl, hlo, hgw, hk⟩ := h
  have HR := Lib.hid hk.cells
  have HT : Hid (lo ≤ g ∧ g < hi) := ⟨hlo, hgw⟩
  clear hk hlo hgw
  generalize P.length = n at hs HR ⊢
  go_enter Try.func28, Try.ntmps28
  go_wp2
  go_loopw [1, 5] (fun kv i wr => ∃ (j : Nat) (q : Int) (f : Nat → Value), j ≤ n ∧ i = .int .i64 j ∧ kv = .int .i64 q ∧ q = 1 + 8 * (j : Int) ∧ Hid (Cells wr g (n * 8) f) ∧ Hid (Only (fun k => lo ≤ k ∧ k < hi) w wr)) (fun _ i _ => n - (intOf i).toNat)
  case atStart => exact ⟨0, 1, f, Nat.zero_le _, rfl, rfl, by simp, HR, Only.refl _ _⟩
  case round =>
    clear HR
    obtain ⟨j, q, f, hj, rfl, rfl, hq, HR, HO⟩ := hrel
    by_cases hlt : j < n
    · have HST : Hid (∀ u0 u1 u2 u3 u4 u5 u6 u7, ∃ f', Cells ((((((((wr.setCell ⟨g, j * 8, none⟩ u0).setCell ⟨g, j * 8 + 1, none⟩ u1).setCell ⟨g, j * 8 + 2, none⟩ u2).setCell ⟨g, j * 8 + 3, none⟩ u3).setCell ⟨g, j * 8 + 4, none⟩ u4).setCell ⟨g, j * 8 + 5, none⟩ u5).setCell ⟨g, j * 8 + 6, none⟩ u6).setCell ⟨g, j * 8 + 7, none⟩ u7) g (n * 8) f') := fun u0 u1 u2 u3 u4 u5 u6 u7 => ⟨_, (((((((HR.out.set (j * 8) (by omega) u0).set (j * 8 + 1) (by omega) u1).set (j * 8 + 2) (by omega) u2).set (j * 8 + 3) (by omega) u3).set (j * 8 + 4) (by omega) u4).set (j * 8 + 5) (by omega) u5).set (j * 8 + 6) (by omega) u6).set (j * 8 + 7) (by omega) u7⟩
      have HOT : Hid (∀ u0 u1 u2 u3 u4 u5 u6 u7, Only (fun k => lo ≤ k ∧ k < hi) w ((((((((wr.setCell ⟨g, j * 8, none⟩ u0).setCell ⟨g, j * 8 + 1, none⟩ u1).setCell ⟨g, j * 8 + 2, none⟩ u2).setCell ⟨g, j * 8 + 3, none⟩ u3).setCell ⟨g, j * 8 + 4, none⟩ u4).setCell ⟨g, j * 8 + 5, none⟩ u5).setCell ⟨g, j * 8 + 6, none⟩ u6).setCell ⟨g, j * 8 + 7, none⟩ u7)) := fun u0 u1 u2 u3 u4 u5 u6 u7 => (((((((HO.out.setCell HT.out (j * 8) u0).setCell HT.out (j * 8 + 1) u1).setCell HT.out (j * 8 + 2) u2).setCell HT.out (j * 8 + 3) u3).setCell HT.out (j * 8 + 4) u4).setCell HT.out (j * 8 + 5) u5).setCell HT.out (j * 8 + 6) u6).setCell HT.out (j * 8 + 7) u7
      have c0 := (HR.out.2 (j * 8) (by omega)).1
      have z0 := (HR.out.2 (j * 8) (by omega)).2
      have c1 := (HR.out.2 (j * 8 + 1) (by omega)).1
      have z1 := (HR.out.2 (j * 8 + 1) (by omega)).2
      have c2 := (HR.out.2 (j * 8 + 2) (by omega)).1
      have z2 := (HR.out.2 (j * 8 + 2) (by omega)).2
      have c3 := (HR.out.2 (j * 8 + 3) (by omega)).1
      have z3 := (HR.out.2 (j * 8 + 3) (by omega)).2
      have c4 := (HR.out.2 (j * 8 + 4) (by omega)).1
      have z4 := (HR.out.2 (j * 8 + 4) (by omega)).2
      have c5 := (HR.out.2 (j * 8 + 5) (by omega)).1
      have z5 := (HR.out.2 (j * 8 + 5) (by omega)).2
      have c6 := (HR.out.2 (j * 8 + 6) (by omega)).1
      have z6 := (HR.out.2 (j * 8 + 6) (by omega)).2
      have c7 := (HR.out.2 (j * 8 + 7) (by omega)).1
      have z7 := (HR.out.2 (j * 8 + 7) (by omega)).2
      have q0 : 1 ≤ q := by omega
      have q1 : q ≤ 10000000 := by omega
      have HQ : Hid (q + 8 = 1 + 8 * ((j + 1 : Nat) : Int)) := by unfold Hid; omega
      have i0 : (0 : Int) ≤ (j : Int) := by omega
      have i1 : (j : Int) < (n : Int) := by omega
      clear hq
      go_wp2
      go_roundw
      case rel =>
        exact ⟨j + 1, _, _, by omega, by go_num, rfl, by have := HQ.out; omega, Lib.hid (HST.out _ _ _ _ _ _ _ _).choose_spec, Lib.hid (HOT.out _ _ _ _ _ _ _ _)⟩
      case measure => simp [intOf]; omega
    · have q0 : 0 ≤ q := by omega
      go_wp2
      go_ret
      exact ⟨q, rfl, q0, HO.out⟩
end Go.Proofs.Ytbkhmlkicafheaa
