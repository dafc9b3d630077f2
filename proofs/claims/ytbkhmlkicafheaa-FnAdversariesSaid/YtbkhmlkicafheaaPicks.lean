/- The contracts of the law's own helpers on rows of picks: the size, and that a row equals itself; what reads as picks. Condition: the row reads as picks and is short enough to be counted. -/
import Derived.Test.YtbkhmlkicafheaaGFinds
import Derived.Test.YtbkhmlkicafheaaGWei
import Derived.Deep.RegionHeld3
namespace Go.Proofs.Ytbkhmlkicafheaa
open Go.RowKit

/-- Eight cells of a pick lie in block b from place o on. -/
def EightAt (w : World) (b o : Nat) (p : PD) : Prop := w.cell? ⟨b, o, none⟩ = some (.int .i64 p.bl) ∧ w.cell? ⟨b, o + 1, none⟩ = some (.int .i64 p.br) ∧ w.cell? ⟨b, o + 2, none⟩ = some (.int .i64 p.hl) ∧ w.cell? ⟨b, o + 3, none⟩ = some (.int .i64 p.hr) ∧ w.cell? ⟨b, o + 4, none⟩ = some (.int .i64 p.ll) ∧ w.cell? ⟨b, o + 5, none⟩ = some (.int .i64 p.lr) ∧ w.cell? ⟨b, o + 6, none⟩ = some (.int .i64 p.gl) ∧ w.cell? ⟨b, o + 7, none⟩ = some (.int .i64 p.gr) ∧ b < w.heap.size
theorem EightAt.below {w w' : World} {b o : Nat} {p : PD} (h : EightAt w b o p) (hb : Below w.heap.size w w') : EightAt w' b o p := by
  obtain ⟨e0, e1, e2, e3, e4, e5, e6, e7, hlt⟩ := h
  refine ⟨?_, ?_, ?_, ?_, ?_, ?_, ?_, ?_, Nat.lt_of_lt_of_le hlt hb.size⟩
  · rw [hb.cell (p := ⟨b, o, none⟩) hlt]; exact e0
  · rw [hb.cell (p := ⟨b, o + 1, none⟩) hlt]; exact e1
  · rw [hb.cell (p := ⟨b, o + 2, none⟩) hlt]; exact e2
  · rw [hb.cell (p := ⟨b, o + 3, none⟩) hlt]; exact e3
  · rw [hb.cell (p := ⟨b, o + 4, none⟩) hlt]; exact e4
  · rw [hb.cell (p := ⟨b, o + 5, none⟩) hlt]; exact e5
  · rw [hb.cell (p := ⟨b, o + 6, none⟩) hlt]; exact e6
  · rw [hb.cell (p := ⟨b, o + 7, none⟩) hlt]; exact e7
theorem EightAt.cells {w : World} {b o : Nat} {p : PD} (h : EightAt w b o p) : w.cell? ⟨b, o, none⟩ = some (.int .i64 p.bl) ∧ w.cell? ⟨b, o + 1, none⟩ = some (.int .i64 p.br) ∧ w.cell? ⟨b, o + 2, none⟩ = some (.int .i64 p.hl) ∧ w.cell? ⟨b, o + 3, none⟩ = some (.int .i64 p.hr) ∧ w.cell? ⟨b, o + 4, none⟩ = some (.int .i64 p.ll) ∧ w.cell? ⟨b, o + 5, none⟩ = some (.int .i64 p.lr) ∧ w.cell? ⟨b, o + 6, none⟩ = some (.int .i64 p.gl) ∧ w.cell? ⟨b, o + 7, none⟩ = some (.int .i64 p.gr) ∧ b < w.heap.size := h
theorem EightAt.drewT {w : World} {b o : Nat} {p : PD} (h : EightAt w b o p) : EightAt w.drew b o p := h.below (Below.refl _ _).drew
/-- The slice value v reads as the picks of P in the world w. -/
def PicksAt (w : World) (v : Value) (P : List PD) : Prop :=
  ∃ a cap, v = .slice a P.length cap ∧ ∀ i (h : i < P.length), ∃ b off, a = some ⟨b, off, none⟩ ∧ EightAt w b (off + i * 8) P[i]
theorem PicksAt.below {w w' : World} {v : Value} {P : List PD} (h : PicksAt w v P) (hb : Below w.heap.size w w') : PicksAt w' v P := by
  obtain ⟨a, cap, rfl, h⟩ := h
  refine ⟨a, cap, rfl, fun i hi => ?_⟩
  obtain ⟨b, off, e, h1⟩ := h i hi
  exact ⟨b, off, e, h1.below hb⟩
/-- What the size of a row says. -/
def SzK (P : List PD) (r : Int) : Prop := r < 0 ∨ 0 ≤ r ∧ r ≤ 1048576 ∧ P.length ≤ 1048576

set_option maxHeartbeats 1600000 in
theorem szPicks (v : Value) (P : List PD) (w : World) (h : PicksAt w v P) (hm : P.length ≤ maxLen) :
    Calls Try.prog 21 #[v, .int .i64 1048576] w fun e w' => ∃ r, e = .returned (.int .i64 r) ∧ SzK P r ∧ Below w.heap.size w w' := by
  obtain ⟨a, c, rfl, -⟩ := h
  unfold SzK
  generalize P.length = n at hm ⊢
  unfold maxLen at hm
  by_cases hlt : 1048576 - (n : Int) < 0
  · go_enter Try.func21, Try.ntmps21
    go_wp2
    go_ret
    exact ⟨-1, rfl, .inl (by omega), Below.refl _ _⟩
  · go_enter Try.func21, Try.ntmps21
    go_wp2
    go_ret
    exact ⟨_, rfl, .inr ⟨by omega, by omega, by omega⟩, Below.refl _ _⟩

set_option maxHeartbeats 1600000 in
theorem eqPicks (v1 v2 : Value) (P : List PD) (w : World) (h1 : PicksAt w v1 P) (h2 : PicksAt w v2 P) (hm : P.length ≤ 1048576) :
    Calls Try.prog 27 #[v1, v2] w fun e w' => e = .returned (.bool true) ∧ Below w.heap.size w w' := by
  obtain ⟨a1, c1, rfl, h1⟩ := h1
  obtain ⟨a2, c2, rfl, h2⟩ := h2
  have H1 := Lib.hid h1
  have H2 := Lib.hid h2
  clear h1 h2
  obtain ⟨n, hn⟩ : ∃ n, P.length = n := ⟨_, rfl⟩
  rw [hn] at hm ⊢
  have HN := Lib.hid hn
  clear hn
  have hne : ((n : Int) != (n : Int)) = false := by simp
  go_enter Try.func27, Try.ntmps27
  go_wp2
  clear hne
  go_loopw [5] (fun i wr => ∃ k : Nat, k ≤ n ∧ i = .int .i64 k ∧ Below w.heap.size w wr) (fun i _ => n - (intOf i).toNat)
  case atStart => exact ⟨0, Nat.zero_le _, rfl, Below.refl _ _⟩
  case round =>
    obtain ⟨k, hk, rfl, hb⟩ := hrel
    have HB := Lib.hid hb
    clear hb
    by_cases hlt : k < n
    · have hkl : k < P.length := by rw [HN.out]; exact hlt
      obtain ⟨b, o, rfl, g1⟩ := H1.out k hkl
      obtain ⟨b', o', rfl, g2⟩ := H2.out k hkl
      obtain ⟨p, hx⟩ : ∃ p, P[k] = p := ⟨_, rfl⟩
      rw [hx] at g1 g2
      have C := Lib.hid (eqPickL p)
      unfold pickV at C
      have F1 := Lib.hid (g1.below HB.out)
      have F2 := Lib.hid (g2.below HB.out)
      have i0 : (0 : Int) ≤ (k : Int) := by omega
      have i1 : (k : Int) < (n : Int) := by omega
      clear g1 g2 hx hkl
      obtain ⟨e0, e1, e2, e3, e4, e5, e6, e7, -⟩ := F1.out
      obtain ⟨f0, f1, f2, f3, f4, f5, f6, f7, -⟩ := F2.out
      go_wp2_with fail
      go_region_held3 (fun w' => (w'.cell? ⟨b, o + k * 8, none⟩ = some (.int .i64 p.bl) ∧ w'.cell? ⟨b, o + k * 8 + 1, none⟩ = some (.int .i64 p.br) ∧ w'.cell? ⟨b, o + k * 8 + 2, none⟩ = some (.int .i64 p.hl) ∧ w'.cell? ⟨b, o + k * 8 + 3, none⟩ = some (.int .i64 p.hr) ∧ w'.cell? ⟨b, o + k * 8 + 4, none⟩ = some (.int .i64 p.ll) ∧ w'.cell? ⟨b, o + k * 8 + 5, none⟩ = some (.int .i64 p.lr) ∧ w'.cell? ⟨b, o + k * 8 + 6, none⟩ = some (.int .i64 p.gl) ∧ w'.cell? ⟨b, o + k * 8 + 7, none⟩ = some (.int .i64 p.gr) ∧ b < w'.heap.size) ∧ (w'.cell? ⟨b', o' + k * 8, none⟩ = some (.int .i64 p.bl) ∧ w'.cell? ⟨b', o' + k * 8 + 1, none⟩ = some (.int .i64 p.br) ∧ w'.cell? ⟨b', o' + k * 8 + 2, none⟩ = some (.int .i64 p.hl) ∧ w'.cell? ⟨b', o' + k * 8 + 3, none⟩ = some (.int .i64 p.hr) ∧ w'.cell? ⟨b', o' + k * 8 + 4, none⟩ = some (.int .i64 p.ll) ∧ w'.cell? ⟨b', o' + k * 8 + 5, none⟩ = some (.int .i64 p.lr) ∧ w'.cell? ⟨b', o' + k * 8 + 6, none⟩ = some (.int .i64 p.gl) ∧ w'.cell? ⟨b', o' + k * 8 + 7, none⟩ = some (.int .i64 p.gr) ∧ b' < w'.heap.size))
        (first | with_reducible exact ⟨G1.out.cells, G2.out.cells⟩ | with_reducible exact ⟨F1.out.drewT.cells, F2.out.drewT.cells⟩ | fail)
        (first
          | (go_at_call 61; refine (C.out _).mono ?_; rintro e w1 ⟨rfl, b1⟩; have BY := Lib.hid (below_up HB.out.drew b1); have G1 := Lib.hid (F1.out.drewT.below b1); have G2 := Lib.hid (F2.out.drewT.below b1); clear b1)
          | fail)
      all_goals
        go_wp2
        go_roundw
        case rel => exact ⟨k + 1, by omega, by go_num, BY.out⟩
        case measure => simp [intOf]; omega
    · go_wp2
      go_ret
      exact ⟨rfl, HB.out⟩
end Go.Proofs.Ytbkhmlkicafheaa
