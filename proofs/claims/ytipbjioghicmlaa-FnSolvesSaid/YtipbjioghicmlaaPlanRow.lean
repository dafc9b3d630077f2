/- A plan of the call's own that grows: a row of nodes whose sides lie in other blocks. No condition. -/
import Derived.Test.YtipbjioghicmlaaDrawWalk
import Derived.Test.YtipbjioghicmlaaPlanGrow
import Derived.Test.YtipbjioghicmlaaMakeProb
namespace Go.Proofs.Ytipbjioghicmlaa
open Go.RowKit

/-- The cells of a row of nodes. -/
def ncells : List ND → List (Value × Value) → List Value
  | d :: r, u :: t => u.1 :: u.2 :: .int .i64 d.a :: .int .i64 d.b :: .int .i64 d.c :: ncells r t
  | _, _ => []
theorem ncells_app {d : ND} {u : Value × Value} : ∀ {P : List ND} {us : List (Value × Value)}, us.length = P.length → ncells (P ++ [d]) (us ++ [u]) = ncells P us ++ [u.1, u.2, .int .i64 d.a, .int .i64 d.b, .int .i64 d.c]
  | [], [], _ => rfl
  | x :: r, y :: t, h => by
    have := ncells_app (d := d) (u := u) (P := r) (us := t) (by simpa using h)
    simp [ncells, this]
  | [], _ :: _, h => by simp at h
  | _ :: _, [], h => by simp at h
theorem ncells_at : ∀ {P : List ND} {us : List (Value × Value)}, us.length = P.length → ∀ i (h : i < P.length) (h' : i < us.length),
    (ncells P us)[i * 5]? = some us[i].1 ∧ (ncells P us)[i * 5 + 1]? = some us[i].2 ∧ (ncells P us)[i * 5 + 2]? = some (.int .i64 P[i].a) ∧ (ncells P us)[i * 5 + 3]? = some (.int .i64 P[i].b) ∧ (ncells P us)[i * 5 + 4]? = some (.int .i64 P[i].c)
  | [], _, _, i, h, _ => by simp at h
  | _ :: _, [], h, _, _, _ => by simp at h
  | x :: r, y :: t, h, i, h1, h2 => by
    cases i with
    | zero => exact ⟨rfl, rfl, rfl, rfl, rfl⟩
    | succ i =>
      have := ncells_at (P := r) (us := t) (by simpa using h) i (by simpa using h1) (by simpa using h2)
      rw [show (i + 1) * 5 = i * 5 + 5 by omega]
      simpa [ncells] using this
theorem ncells_set {d : ND} : ∀ {P : List ND} {us : List (Value × Value)}, us.length = P.length → ∀ i (_ : i < P.length) (h' : i < us.length),
    (((((ncells P us).set (i * 5) us[i].1).set (i * 5 + 1) us[i].2).set (i * 5 + 2) (.int .i64 d.a)).set (i * 5 + 3) (.int .i64 d.b)).set (i * 5 + 4) (.int .i64 d.c) = ncells (P.set i d) us
  | [], _, _, i, h, _ => by simp at h
  | _ :: _, [], h, _, _, _ => by simp at h
  | x :: r, y :: t, h, i, h1, h2 => by
    cases i with
    | zero => rfl
    | succ i =>
      have ih := ncells_set (d := d) (P := r) (us := t) (by simpa using h) i (by simpa using h1) (by simpa using h2)
      have step : ∀ (a b c e f : Value) (l : List Value) (m : Nat) (v : Value), (a :: b :: c :: e :: f :: l).set (m + 5) v = a :: b :: c :: e :: f :: l.set m v := fun _ _ _ _ _ _ _ _ => rfl
      have e0 : (i + 1) * 5 = i * 5 + 5 := by omega
      have e1 : (i + 1) * 5 + 1 = (i * 5 + 1) + 5 := by omega
      have e2 : (i + 1) * 5 + 2 = (i * 5 + 2) + 5 := by omega
      have e3 : (i + 1) * 5 + 3 = (i * 5 + 3) + 5 := by omega
      have e4 : (i + 1) * 5 + 4 = (i * 5 + 4) + 5 := by omega
      rw [e1, e2, e3, e4, e0]
      simp only [List.getElem_cons_succ, List.set_cons_succ]
      unfold ncells
      rw [step, step, step, step, step, ih]

/-- A row of nodes of the call's own, whose sides lie in other blocks. -/
def PlanK (w : World) (lo : Nat) (v : Value) (P : List ND) (us : List (Value × Value)) : Prop :=
  us.length = P.length ∧ w.ownsRow lo 39 5 v P.length (ncells P us) ∧ ∀ i (h : i < P.length) (h' : i < us.length),
    (IntsAt w us[i].1 P[i].L ∧ Blk (fun q => v.ownBlock ≠ some q ∧ lo ≤ q ∧ q < w.heap.size) us[i].1) ∧ (IntsAt w us[i].2 P[i].R ∧ Blk (fun q => v.ownBlock ≠ some q ∧ lo ≤ q ∧ q < w.heap.size) us[i].2)
theorem PlanK.only {T : Nat → Prop} {w w' : World} {lo : Nat} {v : Value} {P : List ND} {us : List (Value × Value)} (h : PlanK w lo v P us) (ho : Only T w w') (hT : ∀ k, T k → k < lo) : PlanK w' lo v P us := by
  have key : ∀ (x : Value) (l : List Int), IntsAt w x l ∧ Blk (fun q => v.ownBlock ≠ some q ∧ lo ≤ q ∧ q < w.heap.size) x → IntsAt w' x l ∧ Blk (fun q => v.ownBlock ≠ some q ∧ lo ≤ q ∧ q < w'.heap.size) x := fun x l hx =>
    ⟨hx.1.only ho fun q e ht => by have := hT q ht; have := (hx.2 q e).2.1; omega, fun q e => ⟨(hx.2 q e).1, (hx.2 q e).2.1, Nat.lt_of_lt_of_le (hx.2 q e).2.2 ho.size⟩⟩
  exact ⟨h.1, owns_only h.2.1 ho fun q e ht => by have := hT q ht; have := (h.2.1.lt q e).1; omega, fun i h1 h2 => ⟨key _ _ (h.2.2 i h1 h2).1, key _ _ (h.2.2 i h1 h2).2⟩⟩
theorem PlanK.below {w w' : World} {lo : Nat} {v : Value} {P : List ND} {us : List (Value × Value)} (h : PlanK w lo v P us) (hb : Below w.heap.size w w') : PlanK w' lo v P us :=
  ⟨h.1, owns_below h.2.1 hb, fun i h1 h2 => ⟨⟨(h.2.2 i h1 h2).1.1.below hb, fun q e => ⟨((h.2.2 i h1 h2).1.2 q e).1, ((h.2.2 i h1 h2).1.2 q e).2.1, Nat.lt_of_lt_of_le ((h.2.2 i h1 h2).1.2 q e).2.2 hb.size⟩⟩,
    ⟨(h.2.2 i h1 h2).2.1.below hb, fun q e => ⟨((h.2.2 i h1 h2).2.2 q e).1, ((h.2.2 i h1 h2).2.2 q e).2.1, Nat.lt_of_lt_of_le ((h.2.2 i h1 h2).2.2 q e).2.2 hb.size⟩⟩⟩⟩
theorem PlanK.form {w : World} {lo : Nat} {v : Value} {P : List ND} {us : List (Value × Value)} (h : PlanK w lo v P us) (hP : P ≠ []) : ∃ g cap, v = .slice (some ⟨g, 0, none⟩) P.length cap ∧ lo ≤ g ∧ g < w.heap.size := by
  rcases h.2.1.2 with ⟨_, hn⟩ | ⟨g, cap, cur, h0, _⟩
  · exact absurd (List.eq_nil_of_length_eq_zero hn) hP
  · exact ⟨g, cap, h0, h.2.1.lt g (by rw [h0]; rfl)⟩
theorem PlanK.reads {w : World} {lo : Nat} {v : Value} {P : List ND} {us : List (Value × Value)} (h : PlanK w lo v P us) (hP : P ≠ []) : NodesAt w v P := by
  obtain ⟨g, cap, rfl, -, hg⟩ := h.form hP
  refine ⟨_, cap, rfl, fun i hi => ?_⟩
  have hi' : i < us.length := by rw [h.1]; exact hi
  have c := ncells_at h.1 i hi hi'
  have k := h.2.2 i hi hi'
  refine ⟨g, 0, us[i].1, us[i].2, rfl, ?_, k.1.1, k.2.1⟩
  rw [Nat.zero_add]
  exact ⟨by rw [h.2.1.cellAt _ (by omega)]; exact c.1, by rw [h.2.1.cellAt _ (by omega)]; exact c.2.1, by rw [h.2.1.cellAt _ (by omega)]; exact c.2.2.1, by rw [h.2.1.cellAt _ (by omega)]; exact c.2.2.2.1, by rw [h.2.1.cellAt _ (by omega)]; exact c.2.2.2.2, hg⟩
/-- A node is stored whole, with the same sides. -/
theorem PlanK.turn {w : World} {lo g cap : Nat} {P : List ND} {us : List (Value × Value)} (h : PlanK w lo (.slice (some ⟨g, 0, none⟩) P.length cap) P us) {i : Nat} (hi : i < P.length) (hi' : i < us.length) {d : ND} (hL : d.L = P[i].L) (hR : d.R = P[i].R) :
    PlanK (set5o w g (i * 5) us[i].1 us[i].2 (.int .i64 d.a) (.int .i64 d.b) (.int .i64 d.c)) lo (.slice (some ⟨g, 0, none⟩) P.length cap) (P.set i d) us ∧ Only (fun k => k = g) w (set5o w g (i * 5) us[i].1 us[i].2 (.int .i64 d.a) (.int .i64 d.b) (.int .i64 d.c)) := by
  have s1 := h.2.1.stored (i * 5) us[i].1
  have s2 := s1.1.stored (i * 5 + 1) us[i].2
  have s3 := s2.1.stored (i * 5 + 2) (.int .i64 d.a)
  have s4 := s3.1.stored (i * 5 + 3) (.int .i64 d.b)
  have s5 := s4.1.stored (i * 5 + 4) (.int .i64 d.c)
  have toOnly : ∀ {a b : World}, a.grownBy b (some g) → Only (fun k => k = g) a b := fun hh => (Only.of_grown hh).mono fun k e => by simpa using e.symm
  have T := (toOnly s1.2).trans ((toOnly s2.2).trans ((toOnly s3.2).trans ((toOnly s4.2).trans (toOnly s5.2))))
  have hrow := s5.1
  rw [ncells_set h.1 i hi hi'] at hrow
  refine ⟨⟨by simpa using h.1, by rw [List.length_set]; exact hrow, fun j h1 h2 => ?_⟩, T⟩
  have hj : j < P.length := by simpa using h1
  have k := h.2.2 j hj h2
  have eL : ((P.set i d)[j]).L = P[j].L := by
    rw [List.getElem_set]
    split
    · rename_i e; subst e; exact hL
    · rfl
  have eR : ((P.set i d)[j]).R = P[j].R := by
    rw [List.getElem_set]
    split
    · rename_i e; subst e; exact hR
    · rfl
  have key : ∀ (x : Value) (l : List Int), IntsAt w x l ∧ Blk (fun q => (Value.slice (some ⟨g, 0, none⟩) P.length cap).ownBlock ≠ some q ∧ lo ≤ q ∧ q < w.heap.size) x →
      IntsAt (set5o w g (i * 5) us[i].1 us[i].2 (.int .i64 d.a) (.int .i64 d.b) (.int .i64 d.c)) x l ∧ Blk (fun q => (Value.slice (some ⟨g, 0, none⟩) P.length cap).ownBlock ≠ some q ∧ lo ≤ q ∧ q < (set5o w g (i * 5) us[i].1 us[i].2 (.int .i64 d.a) (.int .i64 d.b) (.int .i64 d.c)).heap.size) x := fun x l hx =>
    ⟨hx.1.only T fun q e ht => (hx.2 q e).1 (by rw [ht]; rfl), fun q e => ⟨(hx.2 q e).1, (hx.2 q e).2.1, Nat.lt_of_lt_of_le (hx.2 q e).2.2 T.size⟩⟩
  rw [eL, eR]
  exact ⟨key _ _ k.1, key _ _ k.2⟩
/-- A node is put at the end. -/
theorem PlanK.push {w w' : World} {lo : Nat} {v v' : Value} {P : List ND} {us : List (Value × Value)} (h : PlanK w lo v P us) {d : ND} {x y : Value}
    (hg : w.grownBy w' v.ownBlock) (hown : w'.ownsRow lo 39 5 v' (P.length + 1) (ncells P us ++ [x, y, .int .i64 d.a, .int .i64 d.b, .int .i64 d.c])) (hat : v'.ownBlock = v.ownBlock ∨ v'.ownBlock = some w.heap.size)
    (hx : IntsAt w x d.L) (hbx : Blk (fun q => v.ownBlock ≠ some q ∧ lo ≤ q ∧ q < w.heap.size) x) (hy : IntsAt w y d.R) (hby : Blk (fun q => v.ownBlock ≠ some q ∧ lo ≤ q ∧ q < w.heap.size) y) : PlanK w' lo v' (P ++ [d]) (us ++ [(x, y)]) := by
  have T := Only.of_grown hg
  have key : ∀ (x : Value) (l : List Int), IntsAt w x l ∧ Blk (fun q => v.ownBlock ≠ some q ∧ lo ≤ q ∧ q < w.heap.size) x → IntsAt w' x l ∧ Blk (fun q => v'.ownBlock ≠ some q ∧ lo ≤ q ∧ q < w'.heap.size) x := fun x l hx =>
    ⟨hx.1.only T fun q e => (hx.2 q e).1, fun q e => ⟨by
      have h1 := hx.2 q e
      rcases hat with e' | e'
      · rw [e']; exact h1.1
      · rw [e']; intro e2; simp at e2; omega, (hx.2 q e).2.1, Nat.lt_of_lt_of_le (hx.2 q e).2.2 T.size⟩⟩
  refine ⟨by simp [h.1], by rw [ncells_app h.1]; simpa using hown, fun i h1 h2 => ?_⟩
  by_cases e : i < P.length
  · have e' : i < us.length := by rw [h.1]; exact e
    rw [List.getElem_append_left e, List.getElem_append_left e']
    exact ⟨key _ _ (h.2.2 i e e').1, key _ _ (h.2.2 i e e').2⟩
  · have e1 : i = P.length := by simp at h1; omega
    have e2 : i = us.length := by rw [h.1]; exact e1
    have g1 : (P ++ [d])[i] = d := by rw [List.getElem_append_right (by omega)]; simp [e1]
    have g2 : (us ++ [(x, y)])[i] = (x, y) := by rw [List.getElem_append_right (by omega)]; simp [e2]
    rw [g1, g2]
    exact ⟨key x d.L ⟨hx, hbx⟩, key y d.R ⟨hy, hby⟩⟩
theorem cell_five_new (w : World) (a b c d e : Value) (t : TypeId) : ∀ j u, [a, b, c, d, e][j]? = some u → (w.alloc (.cells #[a, b, c, d, e] t)).cell? ((⟨w.heap.size, 0, none⟩ : Addr).add j) = some u := by
  intro j u hj
  match j, hj with
  | 0, hj => simp at hj; subst hj; simp [Addr.add]
  | 1, hj => simp at hj; subst hj; simp [Addr.add]
  | 2, hj => simp at hj; subst hj; simp [Addr.add]
  | 3, hj => simp at hj; subst hj; simp [Addr.add]
  | 4, hj => simp at hj; subst hj; simp [Addr.add]
  | j + 5, hj => simp at hj
theorem FiveVar.only {T : Nat → Prop} {w w' : World} {b : Nat} {x y : Value} {p q r : Int} (h : FiveVar w b x y p q r) (ho : Only T w w') (hb : ¬ T b) : FiveVar w' b x y p q r := by
  obtain ⟨⟨e0, e1, e2, e3, e4, hlt⟩, f0, f1, f2, f3, f4⟩ := h
  have k := ho.block b hlt hb
  refine ⟨⟨?_, ?_, ?_, ?_, ?_, Nat.lt_of_lt_of_le hlt ho.size⟩, ?_, ?_, ?_, ?_, ?_⟩
  · rw [World.cell?_of_block (w := w) (a := ⟨b, 0, none⟩) k]; exact e0
  · rw [World.cell?_of_block (w := w) (a := ⟨b, 1, none⟩) k]; exact e1
  · rw [World.cell?_of_block (w := w) (a := ⟨b, 2, none⟩) k]; exact e2
  · rw [World.cell?_of_block (w := w) (a := ⟨b, 3, none⟩) k]; exact e3
  · rw [World.cell?_of_block (w := w) (a := ⟨b, 4, none⟩) k]; exact e4
  · rw [World.frozen?_of_block (w := w) (a := ⟨b, 0, none⟩) k]; exact f0
  · rw [World.frozen?_of_block (w := w) (a := ⟨b, 1, none⟩) k]; exact f1
  · rw [World.frozen?_of_block (w := w) (a := ⟨b, 2, none⟩) k]; exact f2
  · rw [World.frozen?_of_block (w := w) (a := ⟨b, 3, none⟩) k]; exact f3
  · rw [World.frozen?_of_block (w := w) (a := ⟨b, 4, none⟩) k]; exact f4
theorem plan_sum {P : List ND} {n : Int} (hv : planB P n = true) : P.length + sumP P ≤ 60 + 60 * 26 := by
  have h1 := (plan_size hv).1
  have key : ∀ (l : List ND), (∀ d ∈ l, weighB d.L d.R n = true) → sumP l ≤ l.length * 26 := by
    intro l
    induction l with
    | nil => intro _; simp [sumP]
    | cons d r ih =>
      intro h
      have h2 := weigh_len (h d (by simp))
      have h3 := ih fun e he => h e (by simp [he])
      simp only [sumP, List.length_cons]
      omega
  have h2 := key P fun d hd => by
    obtain ⟨k, hk, rfl⟩ := List.mem_iff_getElem.1 hd
    have hn := plan_node hv k hk
    simp only [nodeB, Bool.and_eq_true] at hn
    exact hn.1
  omega
end Go.Proofs.Ytipbjioghicmlaa
