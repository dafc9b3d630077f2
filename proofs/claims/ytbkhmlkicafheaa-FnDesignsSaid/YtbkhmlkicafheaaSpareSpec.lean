/- The contract of the model's SpareWeighing. Conditions: the slice reads as weighings and is short enough to be counted. -/
import Derived.Test.YtbkhmlkicafheaaCountSpec
import Derived.Test.YtbkhmlkicafheaaCameWds
import Derived.Test.YtbkhmlkicafheaaGWei
namespace Go.Proofs.Ytbkhmlkicafheaa
open Go.RowKit

/-- The cells of a row of weighings. -/
def pcells : List (Value × Value) → List Value
  | [] => []
  | u :: t => u.1 :: u.2 :: pcells t
theorem pcells_len : ∀ us : List (Value × Value), (pcells us).length = us.length * 2
  | [] => rfl
  | u :: t => by simp [pcells, pcells_len t]; omega
theorem pcells_app : ∀ (a b : List (Value × Value)), pcells (a ++ b) = pcells a ++ pcells b
  | [], _ => rfl
  | u :: t, b => by simp [pcells, pcells_app t b]
theorem pcells_at : ∀ {us : List (Value × Value)} (i : Nat) (h : i < us.length), (pcells us)[i * 2]? = some us[i].1 ∧ (pcells us)[i * 2 + 1]? = some us[i].2
  | u :: t, 0, _ => ⟨rfl, rfl⟩
  | u :: t, i + 1, h => by
    have := pcells_at (us := t) i (by simpa using h)
    rw [show (i + 1) * 2 = i * 2 + 2 by omega]
    simpa [pcells] using this
/-- A list of weighings, its sides by name. -/
theorem WdsAt.pairs {w : World} {v : Value} {D : List WD} (h : WdsAt w v D) (hD : D ≠ []) : ∃ (b off cap : Nat) (us : List (Value × Value)), v = .slice (some ⟨b, off, none⟩) D.length cap ∧ D.length ≤ cap ∧ us.length = D.length ∧ b < w.heap.size ∧
    ∀ i (h : i < D.length) (h' : i < us.length), (PairAt w b (off + i * 2) us[i].1 us[i].2 ∧ IntsAt w us[i].1 D[i].L ∧ IntsAt w us[i].2 D[i].R) := by
  obtain ⟨a, cap, rfl, hcp, h⟩ := h
  have h0 : 0 < D.length := List.length_pos_iff.2 hD
  obtain ⟨b, off, _, _, rfl, hp, -, -⟩ := h 0 h0
  obtain ⟨us, hn, hq⟩ := listW_of (fun i (u : Value × Value) => ∀ (h : i < D.length), PairAt w b (off + i * 2) u.1 u.2 ∧ IntsAt w u.1 D[i].L ∧ IntsAt w u.2 D[i].R) D.length (fun i hi => by
    obtain ⟨b', off', vl, vr, e, h1, h2, h3⟩ := h i hi
    cases e
    exact ⟨(vl, vr), fun _ => ⟨h1, h2, h3⟩⟩)
  exact ⟨b, off, cap, us, rfl, hcp, hn, hp.2.2, fun i hi hi' => hq i hi' hi⟩
theorem wds_of_row {w : World} {lo : Nat} {v : Value} {E : List WD} {us : List (Value × Value)} (hu : us.length = E.length) (hr : w.ownsRow lo 74 2 v E.length (pcells us)) (hi : ∀ i (h : i < E.length) (h' : i < us.length), IntsAt w us[i].1 E[i].L ∧ IntsAt w us[i].2 E[i].R) : WdsAt w v E := by
  rcases hr.2 with ⟨h0, hn⟩ | ⟨g, cap, cur, h0, _, _, hcp, _⟩
  · exact ⟨none, 0, by rw [h0, hn], by omega, fun i h => by omega⟩
  · subst h0
    refine ⟨_, cap, rfl, hcp, fun i h => ?_⟩
    have h' : i < us.length := by omega
    have c := pcells_at i h'
    refine ⟨g, 0, us[i].1, us[i].2, rfl, ?_, (hi i h h').1, (hi i h h').2⟩
    rw [Nat.zero_add]
    exact ⟨by rw [hr.cellAt _ (by omega)]; exact c.1, by rw [hr.cellAt _ (by omega)]; exact c.2, (hr.lt g rfl).2⟩

/-- The first weighing that can be left out. -/
def spareF (g : List WD → Bool) (D : List WD) : Nat → Nat → Int
  | 0, _ => -1
  | f + 1, i => if g (D.take i ++ D.drop (i + 1)) = true then (i : Int) else spareF g D f (i + 1)
/-- The index that is given back. -/
def spareR (P : List WD) (n : Int) (h l z : Bool) : Int := if dsolB P n h l z = true then spareF (fun E => dsolB E n h l z) P P.length 0 else -1
theorem infoWdS : (Try.prog.info? 74).map (fun i => (i.zero, i.size, i.bytes)) = some (some (.agg #[.slice none 0 0, .slice none 0 0]), 2, 48) := by kernel_rfl
theorem pairs_cell {w W : World} {b off : Nat} {us : List (Value × Value)} (hb : Below w.heap.size w W) (hlt : b < w.heap.size) (h : ∀ i (h' : i < us.length), PairAt w b (off + i * 2) us[i].1 us[i].2) (lo : Nat) (news : List Value) (hn : ∀ j u, news[j]? = some u → (pcells us)[lo * 2 + j]? = some u) :
    ∀ j u, news[j]? = some u → W.cell? ((⟨b, off + lo * 2, none⟩ : Addr).add j) = some u := by
  intro j u hj
  have h1 := hn j u hj
  have hl : lo * 2 + j < us.length * 2 := by
    rw [← pcells_len]
    exact (List.getElem?_eq_some_iff.1 h1).1
  have hi : (lo * 2 + j) / 2 < us.length := by omega
  have hp := h _ hi
  have hc := pcells_at _ hi
  rw [Addr.add_lit, hb.cell (p := ⟨b, off + lo * 2 + j, none⟩) hlt]
  rcases Nat.mod_two_eq_zero_or_one (lo * 2 + j) with e | e
  · have e1 : lo * 2 + j = (lo * 2 + j) / 2 * 2 := by omega
    rw [e1, hc.1] at h1
    have : off + lo * 2 + j = off + (lo * 2 + j) / 2 * 2 := by omega
    rw [this, hp.1]
    exact h1
  · have e1 : lo * 2 + j = (lo * 2 + j) / 2 * 2 + 1 := by omega
    rw [e1, hc.2] at h1
    have : off + lo * 2 + j = off + (lo * 2 + j) / 2 * 2 + 1 := by omega
    rw [this, hp.2.1]
    exact h1

end Go.Proofs.Ytbkhmlkicafheaa
