/- Rows of picks that grow by append, and the law's own power of three. No condition. -/
import Derived.Test.YtbkhmlkicafheaaPicks
import Derived.Test.YtbkhmlkicafheaaToPicks
import Derived.Test.YtbkhmlkicafheaaBoundSpec
namespace Go.Proofs.Ytbkhmlkicafheaa
open Go.RowKit

def cellsP : List PD → List Value
  | [] => []
  | p :: t => .int .i64 p.bl :: .int .i64 p.br :: .int .i64 p.hl :: .int .i64 p.hr :: .int .i64 p.ll :: .int .i64 p.lr :: .int .i64 p.gl :: .int .i64 p.gr :: cellsP t
theorem cellsP_len : ∀ P : List PD, (cellsP P).length = P.length * 8
  | [] => rfl
  | p :: t => by simp [cellsP, cellsP_len t]; omega
theorem cellsP_app : ∀ (a b : List PD), cellsP (a ++ b) = cellsP a ++ cellsP b
  | [], _ => rfl
  | p :: t, b => by simp [cellsP, cellsP_app t b]
theorem cellsP_at : ∀ {P : List PD} (i : Nat) (h : i < P.length), (cellsP P)[i * 8]? = some (.int .i64 P[i].bl) ∧ (cellsP P)[i * 8 + 1]? = some (.int .i64 P[i].br) ∧ (cellsP P)[i * 8 + 2]? = some (.int .i64 P[i].hl) ∧ (cellsP P)[i * 8 + 3]? = some (.int .i64 P[i].hr) ∧ (cellsP P)[i * 8 + 4]? = some (.int .i64 P[i].ll) ∧ (cellsP P)[i * 8 + 5]? = some (.int .i64 P[i].lr) ∧ (cellsP P)[i * 8 + 6]? = some (.int .i64 P[i].gl) ∧ (cellsP P)[i * 8 + 7]? = some (.int .i64 P[i].gr)
  | p :: t, 0, _ => ⟨rfl, rfl, rfl, rfl, rfl, rfl, rfl, rfl⟩
  | p :: t, i + 1, h => by
    have := cellsP_at (P := t) i (by simpa using h)
    rw [show (i + 1) * 8 = i * 8 + 8 by omega]
    simpa [cellsP] using this
/-- A row of picks of the call's own, from block lo on. -/
def RowP (w : World) (lo : Nat) (v : Value) (P : List PD) : Prop := w.ownsRow lo 34 8 v P.length (cellsP P)
theorem RowP.below {w w' : World} {lo : Nat} {v : Value} {P : List PD} (h : RowP w lo v P) (hb : Below w.heap.size w w') : RowP w' lo v P := owns_below h hb
theorem RowP.reads {w : World} {lo : Nat} {v : Value} {P : List PD} (hr : RowP w lo v P) : PicksAt w v P := by
  rcases hr.2 with ⟨h0, hn⟩ | ⟨g, cap, cur, h0, _, _, hcp, _⟩
  · exact ⟨none, 0, by rw [h0, hn], fun i h => by omega⟩
  · subst h0
    refine ⟨_, cap, rfl, fun i h => ?_⟩
    obtain ⟨c0, c1, c2, c3, c4, c5, c6, c7⟩ := cellsP_at i h
    refine ⟨g, 0, rfl, ?_⟩
    rw [Nat.zero_add]
    exact ⟨by rw [hr.cellAt _ (by omega)]; exact c0, by rw [hr.cellAt _ (by omega)]; exact c1, by rw [hr.cellAt _ (by omega)]; exact c2, by rw [hr.cellAt _ (by omega)]; exact c3, by rw [hr.cellAt _ (by omega)]; exact c4, by rw [hr.cellAt _ (by omega)]; exact c5, by rw [hr.cellAt _ (by omega)]; exact c6, by rw [hr.cellAt _ (by omega)]; exact c7, (hr.lt g rfl).2⟩
theorem cell_eight_new (w : World) (a b c d e f g h : Value) (t : TypeId) : ∀ j u, [a, b, c, d, e, f, g, h][j]? = some u → (w.alloc (.cells #[a, b, c, d, e, f, g, h] t)).cell? ((⟨w.heap.size, 0, none⟩ : Addr).add j) = some u := by
  intro j u hj
  match j, hj with
  | 0, hj => simp at hj; subst hj; simp [Addr.add]
  | 1, hj => simp at hj; subst hj; simp [Addr.add]
  | 2, hj => simp at hj; subst hj; simp [Addr.add]
  | 3, hj => simp at hj; subst hj; simp [Addr.add]
  | 4, hj => simp at hj; subst hj; simp [Addr.add]
  | 5, hj => simp at hj; subst hj; simp [Addr.add]
  | 6, hj => simp at hj; subst hj; simp [Addr.add]
  | 7, hj => simp at hj; subst hj; simp [Addr.add]
  | j + 8, hj => simp at hj

set_option maxHeartbeats 1600000 in
theorem powerL (k : Nat) (hk : k ≤ 13) (w : World) : Calls Try.prog 46 #[.int .i64 k] w fun e w' => e = .returned (.int .i64 ((3 : Int) ^ k)) ∧ w = w' := by
  go_enter Try.func46, Try.ntmps46
  go_wp2
  go_loopw [3, 4] (fun nv iv wr => ∃ i : Nat, i ≤ k ∧ iv = .int .i64 i ∧ nv = .int .i64 ((3 : Int) ^ i) ∧ wr = w) (fun _ iv _ => k - (intOf iv).toNat)
  case atStart => exact ⟨0, Nat.zero_le _, rfl, rfl, rfl⟩
  case round =>
    obtain ⟨i, hik, rfl, rfl, rfl⟩ := hrel
    by_cases hlt : i < k
    · have i1 : (i : Int) < (k : Int) := by omega
      have b1 : decide ((i : Int) < (k : Int)) = true := decide_eq_true i1
      have b2 : decide ((i : Int) < 20) = true := decide_eq_true (by omega)
      have hp : (3 : Int) * 3 ^ i = 3 ^ (i + 1) := by rw [Int.pow_succ]; omega
      have hw : IntKind.i64.wrap ((3 : Int) * 3 ^ i) = 3 ^ (i + 1) := by
        rw [hp, IntKind.wrap_i64]
        have := pow_in (i + 1) (by omega)
        omega
      have HP := Lib.hid hp
      clear hp
      go_wp2
      go_roundw
      case rel => exact ⟨i + 1, by omega, by go_num, by first | rfl | trivial, by first | rfl | trivial⟩
      case measure => simp [intOf]; omega
    · obtain rfl : i = k := by omega
      have b1 : decide ((i : Int) < (i : Int)) = false := decide_eq_false (by omega)
      go_wp2
      go_ret
      exact ⟨rfl, rfl⟩
end Go.Proofs.Ytbkhmlkicafheaa
