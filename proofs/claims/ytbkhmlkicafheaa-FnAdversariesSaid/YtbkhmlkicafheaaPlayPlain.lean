/- One weighing more of a play against an adversary, plainly; what a play gives back. No condition. -/
import Derived.Test.YtbkhmlkicafheaaMarkPicks
import Derived.Test.YtbkhmlkicafheaaGBounds
import Derived.Test.YtbkhmlkicafheaaMakeState
import Derived.Test.YtbkhmlkicafheaaGWei
namespace Go.Proofs.Ytbkhmlkicafheaa
open Go.RowKit

theorem play_step {s t : SD} {P : List PD} {L : List Int} {i : Nat} (hi : i < P.length) (h : playO s (P.take i) = some (L, t)) :
    (pickB t P[i] = true → playO s (P.take (i + 1)) = some (L ++ [worstI t P[i]], afterS t P[i] (worstI t P[i]))) ∧ (pickB t P[i] = false → playO s P = none) := by
  have e : P.take (i + 1) = P.take i ++ [P[i]] := List.take_succ_eq_append_getElem hi
  have hs : playO s (P.take (i + 1)) = if pickB t P[i] = true then some (L ++ [worstI t P[i]], afterS t P[i] (worstI t P[i])) else none := by
    rw [e, playO_snoc, h]
    rfl
  refine ⟨fun hp => by rw [hs, if_pos hp], fun hp => ?_⟩
  rw [hp] at hs
  have := playO_prefix_none (m := P.drop (i + 1)) (show playO s (P.take (i + 1)) = none from hs)
  rwa [List.take_append_drop] at this
theorem play_len {s t : SD} {P : List PD} {L : List Int} {i : Nat} (hs : stateB s = true) (hi : i ≤ P.length) (h : playO s (P.take i) = some (L, t)) : L.length = i ∧ stateB t = true := by
  obtain ⟨h1, h2, -⟩ := playO_valid hs h
  refine ⟨?_, h1⟩
  rw [h2, List.length_take]
  omega
def outsR (r : Option (List Int × SD)) : List Int := match r with | some x => x.1 | none => []
def lastR (r : Option (List Int × SD)) : SD := match r with | some x => x.2 | none => zeroS
/-- What a play gives back. -/
def Plays (r : Option (List Int × SD)) (w : World) (e : Ending) (w' : World) : Prop :=
  ∃ u, e = .returned (.tuple #[u, stateV (lastR r), .bool r.isSome]) ∧ Own w' w.heap.size u (outsR r) ∧ Below w.heap.size w w'
theorem Plays.none {r : Option (List Int × SD)} {w w' : World} (hr : r = none) (hb : Below w.heap.size w w') : Plays r w (.returned (.tuple #[.slice none 0 0, .agg #[.int .i64 0, .int .i64 0, .int .i64 0, .int .i64 0], .bool false])) w' := by
  subst hr
  exact ⟨_, rfl, Own.nil _ _, hb⟩
theorem Plays.some {r : Option (List Int × SD)} {w w' : World} {u : Value} {L : List Int} {t : SD} (hr : r = some (L, t)) (ho : Own w' w.heap.size u L) (hb : Below w.heap.size w w') : Plays r w (.returned (.tuple #[u, .agg #[.int .i64 t.b, .int .i64 t.h, .int .i64 t.l, .int .i64 t.g], .bool true])) w' := by
  subst hr
  exact ⟨_, rfl, ho, hb⟩
theorem Own.set4s {w : World} {B : Nat} {v : Value} {l : List Int} (h : Own w B v l) {c : Nat} (hc : c < B) (q : SD) : Own (Go.Proofs.Ytbkhmlkicafheaa.set4s w c q) B v l :=
  (((h.setCell hc _).setCell hc _).setCell hc _).setCell hc _
theorem FourVar.far4s {w : World} {b c : Nat} {s : SD} (h : FourVar w b s) (hn : c ≠ b) (q : SD) : FourVar (Go.Proofs.Ytbkhmlkicafheaa.set4s w c q) b s :=
  (((h.farC hn 0 _).farC hn 1 _).farC hn 2 _).farC hn 3 _
theorem below_set4s {B : Nat} {a w : World} (h : Below B a w) {c : Nat} (hc : B ≤ c) (q : SD) : Below B a (set4s w c q) := below_fill4 h hc q
theorem PickAt.only2 {T : Nat → Prop} {w w' : World} {b : Nat} {p : PD} (h : PickAt w b p) (ho : Only T w w') (hb : ¬ T b) : PickAt w' b p := by
  have e := ho.block b h.lt hb
  obtain ⟨e0, e1, e2, e3, e4, e5, e6, e7, hlt⟩ := h
  exact ⟨(World.cell?_of_block (a := ⟨b, 0, none⟩) e).trans e0, (World.cell?_of_block (a := ⟨b, 1, none⟩) e).trans e1, (World.cell?_of_block (a := ⟨b, 2, none⟩) e).trans e2, (World.cell?_of_block (a := ⟨b, 3, none⟩) e).trans e3,
    (World.cell?_of_block (a := ⟨b, 4, none⟩) e).trans e4, (World.cell?_of_block (a := ⟨b, 5, none⟩) e).trans e5, (World.cell?_of_block (a := ⟨b, 6, none⟩) e).trans e6, (World.cell?_of_block (a := ⟨b, 7, none⟩) e).trans e7, Nat.lt_of_lt_of_le hlt ho.size⟩
end Go.Proofs.Ytbkhmlkicafheaa
