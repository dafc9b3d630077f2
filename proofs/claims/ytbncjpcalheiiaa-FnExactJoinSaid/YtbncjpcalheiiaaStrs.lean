/- The contracts of the law's own helpers on lists of strings: comparing a list with itself returns true, marks are written into a list of the call's own, and marks that were written are found. Conditions: fewer than 100000000 strings, and the list is one of the call's own where it is written. -/
import Derived.Test.YtbncjpcalheiiaaMark
import Derived.BigQuiet
import Derived.Deep.QuietTactic
import Derived.Deep.RegionHeld3
import Derived.Maps.AppendAt
import Derived.Maps.RangeWalk
import Derived.OwnWalk
namespace Go.Proofs.Ytbncjpcalheiiaa
open Go.RowKit

/-- The slice value v reads as the strings l in the world w. -/
def StrsAt (w : World) (v : Value) (l : List ByteArray) : Prop :=
  ∃ a cap, v = .slice a l.length cap ∧ (l = [] ∨ ∃ b off, a = some ⟨b, off, none⟩ ∧ ∀ i (h : i < l.length), w.cell? ⟨b, off + i, none⟩ = some (.string l[i]))

theorem StrsAt.below {w w' : World} {v : Value} {l : List ByteArray} (h : StrsAt w v l) (hb : Below w.heap.size w w') : StrsAt w' v l := by
  obtain ⟨a, cap, rfl, h⟩ := h
  refine ⟨a, cap, rfl, ?_⟩
  rcases h with h | ⟨b, off, rfl, hc⟩
  · exact .inl h
  · refine .inr ⟨b, off, rfl, fun i hi => ?_⟩
    have hlt := World.block_lt_of_cell? w _ (hc i hi)
    rw [hb.cell (p := ⟨b, off + i, none⟩) hlt]
    exact hc i hi

theorem StrsAt.of_owns {w : World} {B e : Nat} {v : Value} {l : List ByteArray} (h : w.ownsRow B e 1 v l.length (l.map Value.string)) : StrsAt w v l := by
  rcases h.2 with ⟨rfl, h0⟩ | ⟨g, cap, cur, rfl, hB, hh, hn, hc, hs, ht⟩
  · have : l = [] := List.eq_nil_of_length_eq_zero h0
    subst this
    exact ⟨none, 0, rfl, .inl rfl⟩
  · refine ⟨some ⟨g, 0, none⟩, cap, rfl, .inr ⟨g, 0, rfl, fun i hi => ?_⟩⟩
    have := h.cellAt i (by omega)
    rw [Nat.zero_add, this]
    simp [hi]

theorem bcell {W w1 : World} (hb : Below W.heap.size W w1) : (∀ b o, b < W.heap.size → w1.cell? ⟨b, o, none⟩ = W.cell? ⟨b, o, none⟩) ∧ (∀ b o, b < W.heap.size → w1.frozen? ⟨b, o, none⟩ = W.frozen? ⟨b, o, none⟩) :=
  ⟨fun b o h => hb.cell (p := ⟨b, o, none⟩) h, fun b o h => hb.frozen (p := ⟨b, o, none⟩) h⟩

set_option maxHeartbeats 800000 in
theorem eqStrs_same (v1 v2 : Value) (l : List ByteArray) (w : World) (h1 : StrsAt w v1 l) (h2 : StrsAt w v2 l) (hm : l.length ≤ 100000000) :
    Calls Try.prog 15 #[v1, v2] w fun e w' => e = .returned (.bool true) ∧ Below w.heap.size w w' := by
  obtain ⟨a1, c1, rfl, h1⟩ := h1
  obtain ⟨a2, c2, rfl, h2⟩ := h2
  by_cases hl : l.length ≤ 0
  · obtain rfl : l = [] := List.eq_nil_of_length_eq_zero (by omega)
    clear h1 h2
    go_enter Try.func15, Try.ntmps15
    go_wp2
    go_loop [5] (fun i => i = .int .i64 0) (fun _ => 0)
    case atStart => exact rfl
    case round =>
      subst hrel
      go_wp2
      go_ret
      exact ⟨rfl, Below.refl _ _⟩
  · rcases h1 with rfl | ⟨b1, o1, rfl, hc1⟩
    · simp at hl
    rcases h2 with rfl | ⟨b2, o2, rfl, hc2⟩
    · simp at hl
    have H1 := Lib.hid hc1
    have H2 := Lib.hid hc2
    clear hc1 hc2
    obtain ⟨n, hn⟩ : ∃ n, l.length = n := ⟨_, rfl⟩
    rw [hn] at hl hm ⊢
    have HN := Lib.hid hn
    clear hn
    go_enter Try.func15, Try.ntmps15
    go_wp2
    go_loopw [5] (fun i wr => ∃ k m : Nat, k ≤ n ∧ i = .int .i64 k ∧ wr = w.drewN m) (fun i _ => n - (intOf i).toNat)
    case atStart => exact ⟨0, 0, Nat.zero_le _, rfl, rfl⟩
    case round =>
      obtain ⟨k, m, hk, rfl, rfl⟩ := hrel
      by_cases hlt : k < n
      · have e1 := H1.out k (by rw [HN.out]; exact hlt)
        have e2 := H2.out k (by rw [HN.out]; exact hlt)
        have i0 : (0 : Int) ≤ (k : Int) := by omega
        have i1 : (k : Int) < (n : Int) := by omega
        go_wp2
        go_quiet (fail)
        go_wp2
        go_roundw
        case rel => exact ⟨k + 1, _, by omega, by go_num, rfl⟩
        case measure => simp [intOf]; omega
      · go_wp2
        go_ret
        exact ⟨rfl, below_drewN (Below.refl _ _) _⟩

/-- n marks from q on. -/
def marks (q : Int) (n : Nat) : List ByteArray := (List.range n).map fun (i : Nat) => mt (q + (i : Int))
theorem marks_length (q : Int) (n : Nat) : (marks q n).length = n := by simp [marks]
theorem marks_at (q : Int) (n i : Nat) (h : i < (marks q n).length) : (marks q n)[i] = mt (q + i) := by simp [marks]

set_option maxHeartbeats 1600000 in
theorem heldStrs (v : Value) (q : Int) (n : Nat) (w : World) (h : StrsAt w v (marks q n)) (hq : 0 < q) (hqm : q ≤ 100000000) (hm : n ≤ 100000000) :
    Calls Try.prog 17 #[v, .int .i64 q] w fun e w' => e = .returned (.int .i64 (q + n)) ∧ Below w.heap.size w w' := by
  obtain ⟨a, c, rfl, h⟩ := h
  rw [marks_length]
  by_cases hl : n ≤ 0
  · obtain rfl : n = 0 := by omega
    clear h
    go_enter Try.func17, Try.ntmps17
    go_wp2
    go_loop [1, 5] (fun r i => r = .int .i64 q ∧ i = .int .i64 0) (fun _ _ => 0)
    case atStart => exact ⟨rfl, rfl⟩
    case round =>
      obtain ⟨rfl, rfl⟩ := hrel
      go_wp2
      go_ret
      exact ⟨ret_int (by simp), Below.refl _ _⟩
  · rcases h with h | ⟨b, o, rfl, hc⟩
    · have := congrArg List.length h
      rw [marks_length] at this
      simp at this
      omega
    have H1 : Hid (∀ i : Nat, i < n → w.cell? ⟨b, o + i, none⟩ = some (.string (mt (q + i)))) := by
      intro i hi
      have hi' : i < (marks q n).length := by rw [marks_length]; exact hi
      rw [hc i hi', marks_at]
    clear hc
    go_enter Try.func17, Try.ntmps17
    go_wp2
    go_loopw [1, 5] (fun r i wr => ∃ k : Nat, k ≤ n ∧ r = .int .i64 (q + k) ∧ i = .int .i64 k ∧ Below w.heap.size w wr) (fun _ i _ => n - (intOf i).toNat)
    case atStart => exact ⟨0, Nat.zero_le _, by simp, rfl, Below.refl _ _⟩
    case round =>
      obtain ⟨k, hk, rfl, rfl, hb⟩ := hrel
      by_cases hlt : k < n
      · have e0 := H1.out k hlt
        have hbw := World.block_lt_of_cell? w _ e0
        have e1 : wr.cell? ⟨b, o + k, none⟩ = some (.string (mt (q + k))) := by rw [hb.cell (p := ⟨b, o + k, none⟩) hbw]; exact e0
        have hbs := hb.size
        have hblt : b < wr.heap.size := by have : b < w.heap.size := hbw; omega
        clear e0 hbw
        have i0 : (0 : Int) ≤ (k : Int) := by omega
        have i1 : (k : Int) < (n : Int) := by omega
        have q1 : 0 < q + (k : Int) := by omega
        have q2 : q + (k : Int) ≤ 1000000000 := by omega
        have C := Lib.hid (fun W => markText_any (q + (k : Int)) W q1 q2)
        go_wp2_with fail
        go_region_held3 (fun w' => w'.cell? ⟨b, o + k, none⟩ = some (.string (mt (q + k))) ∧ Below w.heap.size w w')
          (((try go_split_ands); refine ⟨?_, ?_⟩ <;> first | assumption | exact Below.drew (by assumption) | (rw [hb1.cell (p := ⟨b, o + k, none⟩) (World.block_lt_of_cell? _ _ (by assumption))]; assumption) | exact Below.trans (by assumption) (hb1.mono (Below.size (by assumption)))))
          (first | (go_at_call 30; refine (C.out _).mono ?_; rintro e w1 ⟨rfl, hb1⟩))
        all_goals
          try go_split_ands
          go_wp2
          go_roundw
          case rel => exact ⟨k + 1, by omega, val_int (by omega), by go_num, by assumption⟩
          case measure => simp [intOf]; omega
      · go_wp2
        go_ret
        exact ⟨ret_int (by omega), hb⟩

/-- What markStringS does to a list of the call's own: it writes n marks from q on, nothing else. -/
theorem marks_succ (q : Int) (n : Nat) : marks q (n + 1) = marks q n ++ [mt (q + n)] := by
  simp [marks, List.range_succ]

/-- k marks in front of what the list held. -/
def marked (q : Int) (l : List ByteArray) (k : Nat) : List ByteArray := marks q k ++ l.drop k
theorem marked_length (q : Int) (l : List ByteArray) (k : Nat) (h : k ≤ l.length) : (marked q l k).length = l.length := by
  simp [marked, marks_length]; omega
theorem marked_zero (q : Int) (l : List ByteArray) : marked q l 0 = l := by simp [marked, marks]
theorem marked_all (q : Int) (l : List ByteArray) : marked q l l.length = marks q l.length := by simp [marked]
theorem marked_set (q : Int) (l : List ByteArray) (k : Nat) (h : k < l.length) : (marked q l k).set k (mt (q + k)) = marked q l (k + 1) := by
  unfold marked
  rw [marks_succ, List.drop_eq_getElem_cons h, List.set_append_right _ _ (by rw [marks_length]; exact Nat.le_refl _), marks_length, Nat.sub_self, List.set_cons_zero, List.append_assoc]
  rfl

theorem Below_grown {w w' : World} (h : Below w.heap.size w w') : w.grownBy w' none := ⟨h.os, h.tape, h.output, h.size, fun k hk _ => h.block k hk⟩

theorem grown_set {w w' : World} {g : Nat} (h : w.grownBy w' (some g)) (k : Nat) (u : Value) : w.grownBy (w'.setCell ⟨g, k, none⟩ u) (some g) :=
  ⟨h.os, h.tape, h.output, by simpa [World.setCell] using h.size, fun j hj hne => by
    rw [Below.heap_setCell _ _ _ _ (by intro e; apply hne; rw [e])]
    exact h.block j hj hne⟩

set_option maxHeartbeats 1600000 in
theorem markStrs (B : Nat) (v : Value) (q : Int) (l : List ByteArray) (w : World) (h : w.ownsRow B 9 1 v l.length (l.map Value.string)) (hq : 0 < q) (hqm : q ≤ 100000000) (hm : l.length ≤ 100000000) :
    Calls Try.prog 16 #[v, .int .i64 q] w fun e w' => e = .returned (.int .i64 (q + l.length)) ∧ w'.ownsRow B 9 1 v l.length ((marks q l.length).map Value.string) ∧ w.grownBy w' v.ownBlock := by
  by_cases hl : l.length ≤ 0
  · obtain rfl : l = [] := List.eq_nil_of_length_eq_zero (by omega)
    have hg : w.grownBy w v.ownBlock := ⟨rfl, rfl, rfl, Nat.le_refl _, fun _ _ _ => rfl⟩
    have h' : w.ownsRow B 9 1 v 0 [] := h
    rcases h.2 with ⟨rfl, _⟩ | ⟨g, cap, cur, rfl, _⟩
    all_goals
      have HX := Lib.hid (And.intro h' hg)
      clear h h' hg
      go_enter Try.func16, Try.ntmps16
      go_wp2
      go_loop [1, 5] (fun r i => r = .int .i64 q ∧ i = .int .i64 0) (fun _ _ => 0)
      case atStart => exact ⟨rfl, rfl⟩
      case round =>
        obtain ⟨rfl, rfl⟩ := hrel
        go_wp2
        go_ret
        exact ⟨ret_int (by simp), HX.out.1, HX.out.2⟩
  · obtain ⟨n, hn⟩ : ∃ n, l.length = n := ⟨_, rfl⟩
    rcases h.2 with ⟨_, h0⟩ | ⟨g, cap, cur, rfl, hB, _, _, _, _, _⟩
    · omega
    rw [hn] at h hl hm ⊢
    have HN := Lib.hid hn
    have HO := Lib.hid h
    clear hn h
    go_enter Try.func16, Try.ntmps16
    go_wp2
    go_loopw [1, 5] (fun r i wr => ∃ k : Nat, k ≤ n ∧ r = .int .i64 (q + k) ∧ i = .int .i64 k ∧ Hid (wr.ownsRow B 9 1 (.slice (some ⟨g, 0, none⟩) n cap) n ((marked q l k).map Value.string)) ∧ w.grownBy wr (some g)) (fun _ i _ => n - (intOf i).toNat)
    case atStart => exact ⟨0, Nat.zero_le _, by simp, rfl, by unfold Hid; rw [marked_zero]; exact HO.out, ⟨rfl, rfl, rfl, Nat.le_refl _, fun _ _ _ => rfl⟩⟩
    case round =>
      obtain ⟨k, hk, rfl, rfl, HW, hg⟩ := hrel
      by_cases hlt : k < n
      · have hbw := (HW.out.lt g rfl).2
        have fz := HW.out.frozenAt k
        have hkl : k < (marked q l k).length := by rw [marked_length q l k (by rw [HN.out]; omega), HN.out]; exact hlt
        have e1 : wr.cell? ⟨g, k, none⟩ = some (.string ((marked q l k)[k])) := by rw [HW.out.cellAt k (by omega), List.getElem?_map, List.getElem?_eq_getElem hkl]; rfl
        obtain ⟨x, hx⟩ : ∃ x, (marked q l k)[k] = x := ⟨_, rfl⟩
        rw [hx] at e1
        clear hx hkl
        have i0 : (0 : Int) ≤ (k : Int) := by omega
        have i1 : (k : Int) < (n : Int) := by omega
        have q1 : 0 < q + (k : Int) := by omega
        have q2 : q + (k : Int) ≤ 1000000000 := by omega
        have C := Lib.hid (fun W => markText_any (q + (k : Int)) W q1 q2)
        have HG := Lib.hid hg
        clear hg
        go_wp2_with fail
        refine (C.out _).mono ?_
        rintro e w1 ⟨rfl, hb1⟩
        obtain ⟨hc2, hf2⟩ := bcell hb1
        have hs1 := hb1.size
        have HB := Lib.hid hb1
        clear hb1
        go_wp2
        go_roundw
        case rel =>
          refine ⟨k + 1, by omega, val_int (by omega), by go_num, ?_, ?_⟩
          · have h1 := HW.out.kept (Below_grown HB.out) (.inr (by simp [Value.ownBlock]))
            have h2 := h1.stored k (.string (mt (q + k)))
            unfold Hid
            rw [← marked_set q l k (by rw [HN.out]; exact hlt), List.map_set]
            exact h2.1
          · exact grown_set (HG.out.trans ((Below_grown HB.out).but _)) _ _
        case measure => simp [intOf]; omega
      · have : k = n := by omega
        subst this
        go_wp2
        go_ret
        have h1 := HW.out
        rw [← HN.out, marked_all] at h1
        rw [← HN.out]
        exact ⟨rfl, h1, hg⟩

theorem owns_below {w w' : World} {B e s n : Nat} {v : Value} {xs : List Value} (h : w.ownsRow B e s v n xs) (hb : Below w.heap.size w w') : w'.ownsRow B e s v n xs :=
  h.kept (Below_grown hb) (by cases v.ownBlock <;> simp)

theorem StrsAt.of_owns_n {w : World} {B e n : Nat} {v : Value} {l : List ByteArray} (h : w.ownsRow B e 1 v n (l.map Value.string)) (hn : l.length = n) : StrsAt w v l := by
  subst hn
  exact StrsAt.of_owns h

theorem below_of_grown {w w' : World} {B : Nat} {v : Value} {C e s n : Nat} {xs : List Value} (h : w.ownsRow C e s v n xs) (hC : B ≤ C) (hg : w.grownBy w' v.ownBlock) (hB : B ≤ w.heap.size) : Below B w w' :=
  (Below.refl B w).grown hg hB (fun k hk => by have := (h.lt k hk).1; omega)
end Go.Proofs.Ytbncjpcalheiiaa
