/- The contracts of the law's own marks on a list of lists of integers, and of the look whether they are held. Conditions: the lists are the call's own, no two in one block, and short enough to be counted. -/
import Derived.Test.YthfnbnjajcigeaaIntSS
namespace Go.Proofs.Ythfnbnjajcigeaa
open Go.RowKit

/-- Lists of the call's own, in blocks from lo up to hi, no two in one, none in the row's. -/
structure RowsU (w : World) (lo hi : Nat) (ov : Value) (S : List (List Int)) (us : List Value) : Prop where
  len : us.length = S.length
  row : w.ownsRow lo 22 1 ov S.length us
  own : ∀ i (h : i < S.length) (h' : i < us.length), Own w lo us[i] S[i]
  away : ∀ i (h' : i < us.length), Sep us[i] ov
  sep : ∀ i j (hi : i < us.length) (hj : j < us.length), i ≠ j → Sep us[i] us[j]
  top : ∀ k, ov.ownBlock = some k → k < hi
  tops : ∀ i (h' : i < us.length), ∀ k, us[i].ownBlock = some k → k < hi
def RowsQ (w : World) (lo hi : Nat) (ov : Value) (S : List (List Int)) : Prop := ∃ us, RowsU w lo hi ov S us
theorem RowsU.only {T : Nat → Prop} {w w' : World} {lo hi : Nat} {ov : Value} {S : List (List Int)} {us : List Value} (h : RowsU w lo hi ov S us) (ho : Only T w w') (hT : ∀ k, T k → k < lo ∨ hi ≤ k) : RowsU w' lo hi ov S us :=
  ⟨h.len, owns_only h.row ho fun k hk ht => by have h1 := h.row.lt k hk; have h2 := h.top k hk; have := hT k ht; omega,
    fun i h1 h2 => (h.own i h1 h2).only ho fun k hk ht => by have h3 := (h.own i h1 h2).blk k hk; have h4 := h.tops i h2 k hk; have := hT k ht; omega, h.away, h.sep, h.top, h.tops⟩
theorem RowsU.below {w w' : World} {lo hi : Nat} {ov : Value} {S : List (List Int)} {us : List Value} (h : RowsU w lo hi ov S us) (hb : Below w.heap.size w w') : RowsU w' lo hi ov S us :=
  ⟨h.len, owns_below h.row hb, fun i h1 h2 => (h.own i h1 h2).below hb, h.away, h.sep, h.top, h.tops⟩
theorem RowsU.reads {w : World} {lo hi : Nat} {ov : Value} {S : List (List Int)} {us : List Value} (h : RowsU w lo hi ov S us) : LsAt w ov S := by
  have hrow := h.row
  rcases h.row.2 with ⟨e, h0⟩ | ⟨g, cap, cur, e, -, -, -, -, -, -⟩
  · refine ⟨none, 0, by rw [e, h0], fun i hi => by omega⟩
  · refine ⟨_, cap, e, fun i hi => ?_⟩
    have hi' : i < us.length := by rw [h.len]; exact hi
    rw [e] at hrow
    exact ⟨g, 0, us[i], rfl, by rw [Nat.zero_add, hrow.cellAt i (by omega), List.getElem?_eq_getElem hi'], (h.own i hi hi').reads⟩
theorem RowsQ.only {T : Nat → Prop} {w w' : World} {lo hi : Nat} {ov : Value} {S : List (List Int)} (h : RowsQ w lo hi ov S) (ho : Only T w w') (hT : ∀ k, T k → k < lo ∨ hi ≤ k) : RowsQ w' lo hi ov S := by
  obtain ⟨us, h⟩ := h; exact ⟨us, h.only ho hT⟩
theorem RowsQ.below {w w' : World} {lo hi : Nat} {ov : Value} {S : List (List Int)} (h : RowsQ w lo hi ov S) (hb : Below w.heap.size w w') : RowsQ w' lo hi ov S := by
  obtain ⟨us, h⟩ := h; exact ⟨us, h.below hb⟩
theorem RowsQ.reads {w : World} {lo hi : Nat} {ov : Value} {S : List (List Int)} (h : RowsQ w lo hi ov S) : LsAt w ov S := by
  obtain ⟨us, h⟩ := h; exact h.reads
theorem RowsQ.form {w : World} {lo hi : Nat} {ov : Value} {S : List (List Int)} (h : RowsQ w lo hi ov S) : ∃ a n c, ov = .slice a n c := by
  obtain ⟨a, c, e⟩ := h.reads.form
  exact ⟨a, _, c, e⟩

/-! ### marks -/
def marksJ (q : Int) (S : List (List Int)) : Nat → List (List Int)
  | 0 => S
  | j + 1 => (marksJ q S j).set j (imarks (q + (totL (S.take j) : Nat)) (S.getD j []).length)
theorem marksJ_len (q : Int) (S : List (List Int)) : ∀ j, (marksJ q S j).length = S.length
  | 0 => rfl
  | j + 1 => by rw [marksJ, List.length_set, marksJ_len q S j]
theorem marksJ_old (q : Int) (S : List (List Int)) (i : Nat) (h : i < S.length) : ∀ j, j ≤ i → (marksJ q S j)[i]'(by rw [marksJ_len]; exact h) = S[i]
  | 0, _ => rfl
  | j + 1, hj => by
    have ih := marksJ_old q S i h j (by omega)
    simp only [marksJ]
    rw [List.getElem_set_ne (by omega)]
    exact ih
theorem marksJ_new (q : Int) (S : List (List Int)) (i : Nat) (h : i < S.length) : ∀ j, i < j → (marksJ q S j)[i]'(by rw [marksJ_len]; exact h) = imarks (q + (totL (S.take i) : Nat)) S[i].length
  | j + 1, hj => by
    simp only [marksJ]
    by_cases e : j = i
    · subst e
      rw [List.getElem_set_self, show S.getD j [] = S[j] by simp [List.getD, List.getElem?_eq_getElem h]]
    · rw [List.getElem_set_ne e]
      exact marksJ_new q S i h j (by omega)
def marksL (q : Int) (S : List (List Int)) : List (List Int) := marksJ q S S.length
theorem marksL_len (q : Int) (S : List (List Int)) : (marksL q S).length = S.length := marksJ_len _ _ _
theorem marksL_at (q : Int) (S : List (List Int)) (i : Nat) (h : i < S.length) : (marksL q S)[i]'(by rw [marksL_len]; exact h) = imarks (q + (totL (S.take i) : Nat)) S[i].length := marksJ_new q S i h _ h
theorem totL_le {S : List (List Int)} : ∀ k, totL (S.take k) ≤ totL S := fun k => by
  have := totL_app (S.take k) (S.drop k)
  rw [List.take_append_drop] at this
  omega
theorem RowsU.marked {w w' : World} {lo hi j : Nat} {ov : Value} {S : List (List Int)} {us : List Value} {s : List Int} (h : RowsU w lo hi ov S us) (hj : j < us.length) (ho : Only (fun k => us[j].ownBlock = some k) w w') (hs : Own w' lo us[j] s) : RowsU w' lo hi ov (S.set j s) us := by
  have hl := h.len
  refine ⟨by rw [List.length_set]; exact hl, by rw [List.length_set]; exact owns_only h.row ho fun k hk e => h.away j hj k e hk, fun i h1 h2 => ?_, h.away, h.sep, h.top, h.tops⟩
  rw [List.length_set] at h1
  by_cases e : j = i
  · subst e
    rw [List.getElem_set_self]
    exact hs
  · rw [List.getElem_set_ne e]
    exact (h.own i h1 h2).only ho fun k hk e2 => h.sep i j h2 hj (fun e' => e e'.symm) k hk e2

set_option maxHeartbeats 1600000 in
theorem markLs (lo hi : Nat) (v : Value) (q : Int) (S : List (List Int)) (w : World) (h : RowsQ w lo hi v S) (hq : 0 < q) (hqm : q ≤ 10000000) (hm : S.length + totL S ≤ 10000000) :
    Calls Try.prog 20 #[v, .int .i64 q] w fun e w' => e = .returned (.int .i64 (q + (totL S : Nat))) ∧ LsAt w' v (marksL q S) ∧ Only (fun k => lo ≤ k ∧ k < hi) w w' := by
  obtain ⟨us, h⟩ := h
  obtain ⟨a, c, rfl⟩ := h.reads.form
  obtain ⟨n, hn⟩ : ∃ n, S.length = n := ⟨_, rfl⟩
  have HT0 : Hid (totL (S.take 0) = 0) := rfl
  have HTS : Hid (∀ k (h : k < S.length), totL (S.take (k + 1)) = totL (S.take k) + S[k].length) := fun k h => totL_take h
  have HTN : Hid (totL (S.take n) = totL S) := by unfold Hid; rw [← hn, List.take_length]
  have HTL := Lib.hid (fun k => totL_le (S := S) k)
  have HML : Hid (marksL q S = marksJ q S n) := by unfold Hid marksL; rw [hn]
  have HMS : Hid (∀ j (h : j < S.length), marksJ q S (j + 1) = (marksJ q S j).set j (imarks (q + (totL (S.take j) : Nat)) S[j].length)) := fun j h => by
    simp only [marksJ]
    rw [show S.getD j [] = S[j] by simp [List.getD, List.getElem?_eq_getElem h]]
  have HMO := Lib.hid (fun i h => marksJ_old q S i h i (Nat.le_refl _))
  have H0 : Hid (RowsU w lo hi (.slice a n c) (marksJ q S 0) us) := by unfold Hid; rw [← hn]; exact h
  have HUL : Hid (us.length = n) := by unfold Hid; rw [h.len, hn]
  have HN := Lib.hid hn
  rw [hn] at hm ⊢
  have q0 : (q : Int) = q + ((totL (S.take 0) : Nat) : Int) := by rw [HT0.out]; simp
  have Q0 : Hid (Value.int .i64 q = .int .i64 (q + ((totL (S.take 0) : Nat) : Int))) := by unfold Hid; rw [← q0]
  obtain ⟨t, ht⟩ : ∃ t, totL S = t := ⟨_, rfl⟩
  rw [ht] at HTN HTL hm ⊢
  have HJL := Lib.hid (fun j => marksJ_len q S j)
  clear h hn q0 ht
  go_enter Try.func20, Try.ntmps20
  go_wp2
  go_loopw [1, 5] (fun kv iv wr => ∃ i : Nat, i ≤ n ∧ iv = .int .i64 (i : Int) ∧ kv = .int .i64 (q + ((totL (S.take i) : Nat) : Int)) ∧ Hid (RowsU wr lo hi (.slice a n c) (marksJ q S i) us) ∧ Hid (Only (fun k => lo ≤ k ∧ k < hi) w wr)) (fun _ iv _ => n - (intOf iv).toNat)
  case atStart => exact ⟨0, Nat.zero_le _, rfl, Q0.out, H0, Lib.hid (Only.refl _ _)⟩
  case round =>
    clear H0 Q0
    obtain ⟨i, hi', rfl, rfl, HR, HO⟩ := hrel
    by_cases hlt : i < n
    · have hil : i < S.length := by rw [HN.out]; exact hlt
      have hiu : i < us.length := by rw [HUL.out]; exact hlt
      have hij : i < (marksJ q S i).length := by rw [HJL.out]; exact hil
      have hown := HR.out.own i hij hiu
      rw [HMO.out i hil] at hown
      have hrow := HR.out.row
      rw [HJL.out, HN.out] at hrow
      obtain ⟨g, cap, cur, hsl⟩ : ∃ g cap cur, Value.slice a n c = .slice (some ⟨g, 0, none⟩) n cap ∧ wr.heap[g]? = some (.cells cur 22 (0, 0)) := by
        rcases hrow.2 with ⟨_, h0⟩ | ⟨g, cap, cur, e, -, hg, -⟩
        · omega
        · exact ⟨g, cap, cur, e, hg⟩
      obtain ⟨hsl, -⟩ := hsl
      injection hsl with e1 e2 e3
      subst e1 e3
      have e0 : wr.cell? ⟨g, i, none⟩ = some us[i] := by rw [hrow.cellAt i (by omega), List.getElem?_eq_getElem hiu]
      obtain ⟨ga, na, ca, hu⟩ := hown.form
      have HT := HTS.out i hil
      have htl := HTL.out i
      have htl2 := HTL.out (i + 1)
      have hlen : S[i].length ≤ 10000000 := by omega
      have MM := Lib.hid (markInts lo us[i] (q + ((totL (S.take i) : Nat) : Int)) S[i] wr hown (by omega) (by omega) (by omega))
      have HSET := HMS.out i hil
      have HM2 : Hid (∀ w2, Only (fun k => us[i].ownBlock = some k) wr w2 → Own w2 lo us[i] (imarks (q + ((totL (S.take i) : Nat) : Int)) S[i].length) → RowsU w2 lo hi (.slice (some ⟨g, 0, none⟩) n c) (marksJ q S (i + 1)) us ∧ Only (fun k => lo ≤ k ∧ k < hi) w w2) := fun w2 ho hs =>
        ⟨by rw [HSET]; exact HR.out.marked hiu ho hs, HO.out.trans (ho.mono fun k hk => ⟨(hown.blk k hk).1, HR.out.tops i hiu k hk⟩)⟩
      obtain ⟨u, hu'⟩ : ∃ u, us[i] = u := ⟨_, rfl⟩
      obtain ⟨m, hm'⟩ : ∃ m, S[i].length = m := ⟨_, rfl⟩
      rw [hu'] at e0 hu MM HM2
      rw [hm'] at HT hlen MM HM2
      subst hu
      rw [HT] at htl2
      have HTI : Hid (((totL (S.take i) : Nat) : Int) + (m : Int) = ((totL (S.take (i + 1)) : Nat) : Int)) := by unfold Hid; rw [HT]; omega
      generalize totL (S.take i) = ti at MM HM2 HTI htl htl2
      have i0 : (0 : Int) ≤ (i : Int) := by omega
      have i1 : (i : Int) < (n : Int) := by omega
      clear hown hrow HSET HT hu' hm' hij hil hiu HR HO
      go_wp2_with fail
      refine MM.out.mono ?_
      rintro e w2 ⟨rfl, o2, g2⟩
      have Z := Lib.hid (HM2.out w2 (Only.of_grown g2) (by unfold Own; rw [imarks_length]; exact o2))
      clear o2 g2
      go_wp2
      go_roundw
      case rel => exact ⟨i + 1, by omega, by go_num, by rw [← HTI.out]; first | rfl | (congr 1; omega), Lib.hid Z.out.1, Lib.hid Z.out.2⟩
      case measure => simp [intOf]; omega
    · obtain rfl : i = n := by omega
      have HE := HTN.out
      rw [HE]
      have HR2 : Hid (LsAt wr (.slice a i c) (marksL q S)) := by unfold Hid; rw [HML.out]; exact HR.out.reads
      clear HR
      go_wp2
      go_ret
      exact ⟨rfl, HR2.out, HO.out⟩

set_option maxHeartbeats 1600000 in
theorem heldLs (v : Value) (q : Int) (S : List (List Int)) (w : World) (h : LsAt w v (marksL q S)) (hq : 0 < q) (hqm : q ≤ 10000000) (hm : S.length + totL S ≤ 10000000) :
    Calls Try.prog 21 #[v, .int .i64 q] w fun e w' => e = .returned (.int .i64 (q + (totL S : Nat))) ∧ w = w' := by
  obtain ⟨a, c, rfl, h⟩ := h
  rw [marksL_len]
  obtain ⟨n, hn⟩ : ∃ n, S.length = n := ⟨_, rfl⟩
  have H : Hid (∀ i (h : i < S.length), ∃ b off u, a = some ⟨b, off, none⟩ ∧ w.cell? ⟨b, off + i, none⟩ = some u ∧ IntsAt w u (imarks (q + (totL (S.take i) : Nat)) S[i].length)) := fun i hi => by
    obtain ⟨b, off, u, e1, e2, e3⟩ := h i (by rw [marksL_len]; exact hi)
    rw [marksL_at q S i hi] at e3
    exact ⟨b, off, u, e1, e2, e3⟩
  have HT0 : Hid (totL (S.take 0) = 0) := rfl
  have HTS : Hid (∀ k (h : k < S.length), totL (S.take (k + 1)) = totL (S.take k) + S[k].length) := fun k h => totL_take h
  have HTN : Hid (totL (S.take n) = totL S) := by unfold Hid; rw [← hn, List.take_length]
  have HTL := Lib.hid (fun k => totL_le (S := S) k)
  have HN := Lib.hid hn
  rw [hn] at hm ⊢
  have q0 : (q : Int) = q + ((totL (S.take 0) : Nat) : Int) := by rw [HT0.out]; simp
  have Q0 : Hid (Value.int .i64 q = .int .i64 (q + ((totL (S.take 0) : Nat) : Int))) := by unfold Hid; rw [← q0]
  obtain ⟨t, ht⟩ : ∃ t, totL S = t := ⟨_, rfl⟩
  rw [ht] at HTN HTL hm ⊢
  clear h hn q0 ht
  go_enter Try.func21, Try.ntmps21
  go_wp2
  go_loop [1, 5] (fun kv iv => ∃ i : Nat, i ≤ n ∧ iv = .int .i64 (i : Int) ∧ kv = .int .i64 (q + ((totL (S.take i) : Nat) : Int))) (fun _ iv => n - (intOf iv).toNat)
  case atStart => exact ⟨0, Nat.zero_le _, rfl, Q0.out⟩
  case round =>
    clear Q0
    obtain ⟨i, hi', rfl, rfl⟩ := hrel
    by_cases hlt : i < n
    · have hil : i < S.length := by rw [HN.out]; exact hlt
      obtain ⟨b, off, u, rfl, e0, hI⟩ := H.out i hil
      have HT := HTS.out i hil
      have htl := HTL.out i
      have htl2 := HTL.out (i + 1)
      obtain ⟨m, hm'⟩ : ∃ m, S[i].length = m := ⟨_, rfl⟩
      rw [hm'] at HT hI
      rw [HT] at htl2
      have MM := Lib.hid (heldInts u (q + ((totL (S.take i) : Nat) : Int)) m w hI (by omega) (by omega) (by omega))
      obtain ⟨ga, na, ca, hu⟩ := hI.form
      subst hu
      have HTI : Hid (((totL (S.take i) : Nat) : Int) + (m : Int) = ((totL (S.take (i + 1)) : Nat) : Int)) := by unfold Hid; rw [HT]; omega
      generalize totL (S.take i) = ti at MM HTI htl htl2
      have i0 : (0 : Int) ≤ (i : Int) := by omega
      have i1 : (i : Int) < (n : Int) := by omega
      have hpos : ¬ q + (ti : Int) + (m : Int) < 0 := by omega
      clear HT hm' hil hI
      go_wp2_with fail
      refine MM.out.mono ?_
      rintro e w2 ⟨rfl, rfl⟩
      go_wp2
      go_round
      case rel => exact ⟨i + 1, by omega, by go_num, by rw [← HTI.out]; first | rfl | (congr 1; omega)⟩
      case measure => simp [intOf]; omega
    · obtain rfl : i = n := by omega
      have HE := HTN.out
      rw [HE]
      go_wp2
      go_ret
      exact ⟨rfl, rfl⟩
end Go.Proofs.Ythfnbnjajcigeaa
