/- The contract of the model's making of questions and answers out of a code: they are valid, and at most one answer is a lie about the number that was chosen. Condition: the code reads as bytes. -/
import Derived.Test.YtnpmkoeceihepaaLieTruth
import Derived.Test.YtnpmkoeceihepaaBools
import Derived.Test.YtnpmkoeceihepaaCur
import Derived.Test.YtnpmkoeceihepaaMakePools
import Derived.RangeFuncBox
namespace Go.Proofs.Ytnpmkoeceihepaa
open Go.RowKit

theorem OwnB.solid {w : World} {B : Nat} {v : Value} {l : List Bool} (h : OwnB w B v l) (hn : v ≠ .slice none 0 0) : Solid v := by
  rcases h.2 with ⟨h0, _⟩ | ⟨g, cap, cur, h1, -, -⟩
  · exact absurd h0 hn
  · exact ⟨g, _, cap, h1⟩
theorem top8 : ∀ m : Nat, m ≤ 7 → (2 : Int) ≤ 2 ^ (m + 1) ∧ (2 : Int) ^ (m + 1) ≤ 256 := by decide
theorem top_of8 {n : Nat} (n1 : 1 ≤ n) (n8 : n ≤ 8) : IntKind.i64.wrap (2 ^ n) = topI (n : Int) + 1 ∧ 1 ≤ topI (n : Int) ∧ topI (n : Int) ≤ 255 := by
  have h := top8 (n - 1) (by omega)
  rw [show n - 1 + 1 = n by omega] at h
  have e : topI (n : Int) = 2 ^ n - 1 := rfl
  rw [e, IntKind.wrap_i64]
  omega
/-- What the drawing of questions has reached: two lists of the call's own, and the cursor. -/
structure AskDraw (W w0 w : World) (b : Nat) (a : Option Addr) (len cap : Nat) (n s : Nat) (lie : Int) (v vr : Value) (P : List Int) (R : List Bool) : Prop where
  own : Own w w0.heap.size v P
  ownR : OwnB w w0.heap.size vr R
  sep : Sep v vr
  top : ∀ p ∈ P, 0 ≤ p ∧ p ≤ topI (n : Int)
  told : Told s lie P R
  cur : CurOk W w b a len cap
  only : Only (fun k => k = b) w0 w
  lt : b < w0.heap.size
theorem AskDraw.turn {W w0 w w' : World} {b : Nat} {a : Option Addr} {len cap n s : Nat} {lie : Int} {v vr : Value} {P : List Int} {R : List Bool} (h : AskDraw W w0 w b a len cap n s lie v vr P R) (hc : CurOk W w' b a len cap) (hg : w.grownBy w' (some b)) : AskDraw W w0 w' b a len cap n s lie v vr P R :=
  ⟨h.own.only (only_curP hg) fun k hk e => by have := (h.own.blk k hk).1; have := h.lt; omega, h.ownR.only (only_curP hg) fun k hk e => by have := (h.ownR.blk k hk).1; have := h.lt; omega, h.sep, h.top, h.told, hc, h.only.trans (only_curP hg), h.lt⟩
theorem own_grown {w w' : World} {B : Nat} {v : Value} {l : List Int} {row : Option Nat} (h : Own w B v l) (hg : w.grownBy w' row) (hn : ∀ k, v.ownBlock = some k → row ≠ some k) : Own w' B v l :=
  h.only (Only.of_grown hg) fun k hk e => hn k hk e
/-- One question more, and its answer. -/
theorem AskDraw.pushR {W w0 w6 w7 : World} {b : Nat} {a : Option Addr} {len cap n s m c c2 g g2 : Nat} {lie y : Int} {P : List Int} {R : List Bool} (h : AskDraw W w0 w6 b a len cap n s lie (.slice (some ⟨g, 0, none⟩) m c) (.slice (some ⟨g2, 0, none⟩) m c2) P R) (hr : R.length = m)
    (hg7 : (w6.alloc (.cells #[.int .i64 y] 3)).grownBy w7 (Value.slice (some ⟨g, 0, none⟩) m c).ownBlock) (t : Bool) :
    (w7.alloc (.cells #[.bool t] 4)).ownsRow w0.heap.size 4 1 (.slice (some ⟨g2, 0, none⟩) m c2) m (R.map Value.bool) := by
  have h1 := (h.ownR.below (alloc_below w6 (.cells #[.int .i64 y] 3))).only (Only.of_grown hg7) fun k hk e => h.sep k e hk
  have h2 := h1.below (alloc_below w7 (.cells #[.bool t] 4))
  unfold OwnB at h2
  rwa [hr] at h2
theorem AskDraw.push {W w0 w6 w7 w9 : World} {b : Nat} {a : Option Addr} {len cap n s m c c2 g g2 g7 c7 g9 c9 : Nat} {lie y : Int} {P : List Int} {R : List Bool} (h : AskDraw W w0 w6 b a len cap n s lie (.slice (some ⟨g, 0, none⟩) m c) (.slice (some ⟨g2, 0, none⟩) m c2) P R) (hm : P.length = m) (hr : R.length = m)
    (hy : 0 ≤ y ∧ y ≤ topI (n : Int))
    (h7 : w7.ownsRow w0.heap.size 3 1 (.slice (some ⟨g7, 0, none⟩) (m + 1) c7) (m + 1) (P.map (Value.int .i64) ++ [.int .i64 y]) ∧ (w6.alloc (.cells #[.int .i64 y] 3)).grownBy w7 (Value.slice (some ⟨g, 0, none⟩) m c).ownBlock ∧
      ((Value.slice (some ⟨g7, 0, none⟩) (m + 1) c7).ownBlock = (Value.slice (some ⟨g, 0, none⟩) m c).ownBlock ∨ (Value.slice (some ⟨g7, 0, none⟩) (m + 1) c7).ownBlock = some (w6.alloc (.cells #[.int .i64 y] 3)).heap.size)) (t : Bool) (ht : t = ((bits .and .i64 y (2 ^ s) != 0) != ((m : Int) + 1 == lie)))
    (h9 : w9.ownsRow w0.heap.size 4 1 (.slice (some ⟨g9, 0, none⟩) (m + 1) c9) (m + 1) (R.map Value.bool ++ [.bool t]) ∧ (w7.alloc (.cells #[.bool t] 4)).grownBy w9 (Value.slice (some ⟨g2, 0, none⟩) m c2).ownBlock ∧
      ((Value.slice (some ⟨g9, 0, none⟩) (m + 1) c9).ownBlock = (Value.slice (some ⟨g2, 0, none⟩) m c2).ownBlock ∨ (Value.slice (some ⟨g9, 0, none⟩) (m + 1) c9).ownBlock = some (w7.alloc (.cells #[.bool t] 4)).heap.size)) :
    AskDraw W w0 w9 b a len cap n s lie (.slice (some ⟨g7, 0, none⟩) (m + 1) c7) (.slice (some ⟨g9, 0, none⟩) (m + 1) c9) (P ++ [y]) (R ++ [t]) := by
  obtain ⟨hown7, hg7, hat7⟩ := h7
  obtain ⟨hown9, hg9, hat9⟩ := h9
  have hv := h.own.blk g rfl
  have hv2 := h.ownR.blk g2 rfl
  have hlt := h.lt
  have hc := h.cur.2.1
  have hne : g ≠ g2 := fun e => h.sep g rfl (by rw [e]; rfl)
  have s6 : (w6.alloc (.cells #[.int .i64 y] 3)).heap.size = w6.heap.size + 1 := by simp
  have s7 : (w7.alloc (.cells #[.bool t] 4)).heap.size = w7.heap.size + 1 := by simp
  have z7 := hg7.size
  rw [s6] at z7 hat7
  rw [s7] at hat9
  have g7ne : g7 ≠ g2 := by
    rcases hat7 with e | e <;> simp [Value.ownBlock] at e <;> omega
  have g7lt := (hown7.lt g7 rfl).2
  have o7 : Own w7 w0.heap.size (.slice (some ⟨g7, 0, none⟩) (m + 1) c7) (P ++ [y]) := by
    unfold Own
    rw [List.length_append, List.length_singleton, hm, List.map_append]
    exact hown7
  have o9 := (o7.below (alloc_below w7 (.cells #[.bool t] 4))).only (Only.of_grown hg9) fun k hk e => by
    simp [Value.ownBlock] at hk e
    omega
  have oR : OwnB w9 w0.heap.size (.slice (some ⟨g9, 0, none⟩) (m + 1) c9) (R ++ [t]) := by
    unfold OwnB
    rw [List.length_append, List.length_singleton, hr, List.map_append]
    exact hown9
  have c7' : CurOk W w7 b a len cap := (curAlloc h.cur _).only (Only.of_grown hg7) fun k hk => by
    simp [Value.ownBlock] at hk
    omega
  have c9' : CurOk W w9 b a len cap := (curAlloc c7' _).only (Only.of_grown hg9) fun k hk => by
    simp [Value.ownBlock] at hk
    omega
  refine ⟨o9, oR, fun k h1 h2 => ?_, fun p hp => ?_, ?_, c9', ?_, hlt⟩
  · simp [Value.ownBlock] at h1 h2
    rcases hat9 with e | e <;> simp [Value.ownBlock] at e <;> omega
  · rw [List.mem_append, List.mem_singleton] at hp
    rcases hp with hp | rfl
    · exact h.top p hp
    · exact hy
  · have := h.told.snoc y
    rw [hm, ← ht] at this
    exact this
  · have t7 := (h.only.trans (Only.fresh (alloc_below w6 (.cells #[.int .i64 y] 3)))).later (Only.of_grown hg7) fun k hk => by
      simp [Value.ownBlock] at hk
      omega
    exact (t7.trans (Only.fresh (alloc_below w7 (.cells #[.bool t] 4)))).later (Only.of_grown hg9) fun k hk => by
      simp [Value.ownBlock] at hk
      omega
/-- What MakeAsks gives back. -/
def MadeAsks (w : World) (e : Ending) (w' : World) : Prop := ∃ (n s : Nat) (lie : Int) (v vr : Value) (P : List Int) (R : List Bool), e = .returned (.tuple #[.int .i64 (n : Int), v, vr, .int .i64 (s : Int)]) ∧ IntsAt w' v P ∧ BoolsAt w' vr R ∧ asksB (n : Int) P R = true ∧ s < n ∧ Told s lie P R ∧ Below w.heap.size w w'
theorem asks_of {n s : Nat} {lie : Int} (n1 : 1 ≤ n) (n8 : n ≤ 8) {P : List Int} {R : List Bool} (h : ∀ p ∈ P, 0 ≤ p ∧ p ≤ topI (n : Int)) (hl : P.length ≤ 8) (ht : Told s lie P R) : asksB (n : Int) P R = true := by
  unfold asksB numsB
  rw [decide_eq_true (by omega), decide_eq_true (by omega), decide_eq_true (by omega), ht.1]
  simp only [Bool.true_and, beq_self_eq_true, List.all_eq_true]
  intro p hp
  unfold poolB
  rw [decide_eq_true (h p hp).1, decide_eq_true (h p hp).2]
  rfl

set_option maxRecDepth 100000 in
set_option maxHeartbeats 3200000 in
theorem specMakeAsks (W w : World) (a : Option Addr) (len cap : Nat) (hB : BytesAt W a len) (hb : Below W.heap.size W w) (hl : len ≤ 1048576) :
    Calls Try.prog 31 #[.slice a len cap] w (MadeAsks w) := by
  obtain ⟨i0, hi, hz0, hz1, hz2⟩ := info_parts infoIntA
  obtain ⟨j0, hj, hy0, hy1, hy2⟩ := info_parts infoBoolA
  have CN := Lib.hid (new_any W w a len cap hB hb hl)
  have CB := Lib.hid (fun V b (k : Int) (h : CurOk W V b a len cap) (k0 : 0 < k) (k1 : k ≤ 256) => below_any W V b a len cap k hB h hl k0 k1)
  have HM : Hid (MadeAsks w = fun e w' => ∃ (n s : Nat) (lie : Int) (v vr : Value) (P : List Int) (R : List Bool), e = .returned (.tuple #[.int .i64 (n : Int), v, vr, .int .i64 (s : Int)]) ∧ IntsAt w' v P ∧ BoolsAt w' vr R ∧ asksB (n : Int) P R = true ∧ s < n ∧ Told s lie P R ∧ Below w.heap.size w w') := rfl
  rw [HM.out]
  clear hB hb HM
  go_enter Try.func31, Try.ntmps31
  go_wp2_with fail
  refine CN.out.mono ?_
  rintro e w1 ⟨b, rfl, hbl, hc, bb⟩
  have C1 := Lib.hid hc
  have B1 := Lib.hid bb
  clear hc bb CN
  go_wp2_with fail
  refine (CB.out _ _ 8 C1.out (by omega) (by omega)).mono ?_
  rintro e w2 ⟨n', rfl, n0, n8, hc, hg⟩
  have C2 := Lib.hid hc
  have B2 := Lib.hid (B1.out.grown hg B1.out.size (fun k hk => by cases hk; exact hbl))
  clear hc hg C1 B1
  obtain ⟨n, hn⟩ : ∃ n : Nat, n' + 1 = (n : Int) := ⟨(n' + 1).toNat, by omega⟩
  obtain rfl : n' = (n : Int) - 1 := by omega
  have n1 : 1 ≤ n := by omega
  have n9 : n ≤ 8 := by omega
  have e1 : 1 + ((n : Int) - 1) = (n : Int) := by omega
  have e2 : IntKind.i64.wrap (1 + ((n : Int) - 1)) = (n : Int) := by rw [IntKind.wrap_i64]; omega
  clear hn n0 n8
  go_wp2_with fail
  refine (CB.out _ _ (n : Int) C2.out (by omega) (by omega)).mono ?_
  rintro e w3 ⟨s', rfl, s0, s1, hc, hg⟩
  have C3 := Lib.hid hc
  have B3 := Lib.hid (B2.out.grown hg B2.out.size (fun k hk => by cases hk; exact hbl))
  clear hc hg C2 B2
  obtain ⟨s, rfl⟩ : ∃ s : Nat, s' = (s : Int) := ⟨s'.toNat, by omega⟩
  have sn : s < n := by omega
  clear s0 s1
  go_wp2_with fail
  refine (CB.out _ _ 10 C3.out (by omega) (by omega)).mono ?_
  rintro e w4 ⟨lie, rfl, l0, l1, hc, hg⟩
  have C4 := Lib.hid hc
  have B4 := Lib.hid (B3.out.grown hg B3.out.size (fun k hk => by cases hk; exact hbl))
  have hbw : b < w4.heap.size := hc.lt
  clear hc hg C3 B3
  have a1 := alloc_below w4 (.cells #[] 3)
  have o1 : Own (w4.alloc (.cells #[] 3)) w4.heap.size (.slice (some ⟨w4.heap.size, 0, none⟩) 0 0) [] := Own.lit w4 w4.heap.size (Nat.le_refl _)
  have c1 := curAlloc C4.out (.cells #[] 3)
  have z1 : (w4.alloc (.cells #[] 3)).heap.size = w4.heap.size + 1 := by simp
  generalize hX1 : w4.alloc (.cells #[] 3) = X1 at a1 o1 c1 z1
  have a2 := alloc_below X1 (.cells #[] 4)
  have o2 : OwnB (X1.alloc (.cells #[] 4)) X1.heap.size (.slice (some ⟨X1.heap.size, 0, none⟩) 0 0) [] := World.ownsRow_lit (base := X1.heap.size) (e := 4) (size := 1) X1 #[] 0 (Nat.le_refl _) (by unfold maxLen; omega) rfl
  have c2 := curAlloc c1 (.cells #[] 4)
  rw [z1] at o2
  have P0 : Hid (AskDraw W w4 (X1.alloc (.cells #[] 4)) b a len cap n s lie (.slice (some ⟨w4.heap.size, 0, none⟩) 0 0) (.slice (some ⟨w4.heap.size + 1, 0, none⟩) 0 0) [] []) :=
    ⟨o1.below a2, o2.lower (by omega), fun k h1 h2 => by simp [Value.ownBlock] at h1 h2; omega, by simp, Told.nil s lie, c2, (Only.fresh a1).trans (Only.fresh a2), hbw⟩
  generalize hX2 : X1.alloc (.cells #[] 4) = X2 at P0
  have BX2 : Hid (Below w4.heap.size w4 X2) := by rw [← hX2]; exact below_up a1 a2
  clear o1 o2 c1 c2 a1 a2 C4
  go_wp2_with fail
  refine (CB.out _ _ 9 P0.out.cur (by omega) (by omega)).mono ?_
  rintro e w5 ⟨x, rfl, x0, x1, hc, hg⟩
  have P5 := Lib.hid (P0.out.turn hc hg)
  clear P0 hc hg BX2
  obtain ⟨hs1, hs2, hs3⟩ := top_of8 n1 n9
  have hw : IntKind.i64.wrap (2 ^ s) = 2 ^ s := (pow_i (i := s) (by omega)).1
  have CT := Lib.hid (fun V h => CB.out V b (topI (n : Int) + 1) h (by omega) (by omega))
  have HT : Hid (∀ y : Int, 0 ≤ y → y < topI (n : Int) + 1 → 0 ≤ y ∧ y ≤ topI (n : Int)) := fun y h0 h1 => by omega
  have HOK : Hid (∀ (P : List Int) (R : List Bool), (∀ p ∈ P, 0 ≤ p ∧ p ≤ topI (n : Int)) → P.length ≤ 8 → Told s lie P R → asksB (n : Int) P R = true) := fun P R h hl ht => asks_of n1 n9 h hl ht
  have sn0 : (0 : Int) ≤ (s : Int) := by omega
  have nn0 : (0 : Int) ≤ (n : Int) := by omega
  clear CB hs2 hs3 hX1 hX2
  generalize topI (n : Int) + 1 = T at hs1 CT HT
  go_wp2
  go_loopw [10, 11, 12] (fun av rv kv wr => ∃ (k : Nat) (g c g2 c2 : Nat) (P : List Int) (R : List Bool), k + P.length ≤ 8 ∧ kv = .int .i64 (k : Int) ∧ av = .slice (some ⟨g, 0, none⟩) P.length c ∧ rv = .slice (some ⟨g2, 0, none⟩) P.length c2 ∧ Hid (AskDraw W w4 wr b a len cap n s lie (.slice (some ⟨g, 0, none⟩) P.length c) (.slice (some ⟨g2, 0, none⟩) P.length c2) P R)) (fun _ _ kv _ => (intOf kv).toNat)
  case atStart => exact ⟨x.toNat, _, _, _, _, [], [], by simp; omega, by congr 1; omega, rfl, rfl, P5⟩
  case round =>
    clear P5 x0 x1
    obtain ⟨k, g, c, g2, c2, P, R, hk, rfl, rfl, rfl, PD⟩ := hrel
    by_cases h0 : 0 < k
    · have h1 : (0 : Int) < (k : Int) := by omega
      go_wp2_with fail
      refine (CT.out wr PD.out.cur).mono ?_
      rintro e w6 ⟨y, rfl, y0, y1, hc, hg⟩
      have P6 := Lib.hid (PD.out.turn hc hg)
      have HY := HT.out y y0 y1
      clear hc hg PD y0 y1
      obtain ⟨m, hm⟩ : ∃ m, P.length = m := ⟨_, rfl⟩
      have HPL := Lib.hid hm
      rw [hm] at P6 hk ⊢
      have hrl : R.length = m := by rw [P6.out.told.1, hm]
      have HRL := Lib.hid hrl
      clear hm hrl
      have hown1 : (w6.alloc (.cells #[.int .i64 y] 3)).ownsRow w4.heap.size 3 1 (.slice (some ⟨g, 0, none⟩) m c) m (P.map (Value.int .i64)) := by
        have := P6.out.own.below (alloc_below w6 (.cells #[.int .i64 y] 3))
        unfold Own at this
        rwa [HPL.out] at this
      have hsz : w4.heap.size ≤ (w6.alloc (.cells #[.int .i64 y] 3)).heap.size := by have := P6.out.only.size; simp; omega
      go_wp2_with (at_builtin; first
        | (refine wpList_append_own_at _ rfl _ _ 22 rfl w4.heap.size 3 i0 (.int .i64 0) 1 8 Try.underlying22 hi hz0 hz1 hz2 rfl (by decide) (.slice (some ⟨g, 0, none⟩) m c) m (P.map (Value.int .i64)) rfl hown1 ⟨w6.heap.size, 0, none⟩ 1 1 [.int .i64 y] rfl rfl (cell_one_new _ _ _) (by simp [Value.oneCell']) (by unfold maxLen; omega) (by omega) hsz ?_
           intro v7 w7 hown7 hg7 _ hat7
           obtain ⟨g7, c7, hv7⟩ := ownsRow_succ hown7
           subst hv7
           have hg7' : (w6.alloc (.cells #[.int .i64 y] 3)).grownBy w7 (Value.slice (some ⟨g, 0, none⟩) m c).ownBlock := hg7
           have Z7 := Lib.hid (And.intro hown7 (And.intro hg7' hat7))
           have hown8 : (w7.alloc (.cells #[.bool ((bits .and .i64 y (2 ^ s) != 0) != ((m : Int) + 1 == lie))] 4)).ownsRow w4.heap.size 4 1 (.slice (some ⟨g2, 0, none⟩) m c2) m (R.map Value.bool) := P6.out.pushR HRL.out hg7' _
           have hsz8 : w4.heap.size ≤ (w7.alloc (.cells #[.bool ((bits .and .i64 y (2 ^ s) != 0) != ((m : Int) + 1 == lie))] 4)).heap.size := by have h1 := hg7'.size; have h2 := P6.out.only.size; simp at h1 ⊢; omega
           clear hown7 hg7 hg7' hat7)
        | (refine wpList_append_own_at _ rfl _ _ 23 rfl w4.heap.size 4 j0 (.bool false) 1 1 Try.underlying23 hj hy0 hy1 hy2 rfl (by decide) (.slice (some ⟨g2, 0, none⟩) m c2) m (R.map Value.bool) rfl hown8 ⟨w7.heap.size, 0, none⟩ 1 1 [.bool ((bits .and .i64 y (2 ^ s) != 0) != ((m : Int) + 1 == lie))] rfl rfl (cell_one_new _ _ _) (by simp [Value.oneCell']) (by unfold maxLen; omega) (by omega) hsz8 ?_
           intro v9 w9 hown9 hg9 _ hat9
           obtain ⟨g9, c9, hv9⟩ := ownsRow_succ hown9
           subst hv9
           have hg9' : (w7.alloc (.cells #[.bool ((bits .and .i64 y (2 ^ s) != 0) != ((m : Int) + 1 == lie))] 4)).grownBy w9 (Value.slice (some ⟨g2, 0, none⟩) m c2).ownBlock := hg9
           have Z9 := Lib.hid (And.intro hown9 (And.intro hg9' hat9))
           clear hown9 hg9 hg9' hat9))
      have P9 := Lib.hid (P6.out.push HPL.out HRL.out HY Z7.out _ rfl Z9.out)
      clear P6 Z7 Z9 hown1 hown8 hsz hsz8
      go_roundw
      case rel => exact ⟨k - 1, g7, c7, g9, c9, P ++ [y], R ++ [((bits .and .i64 y (2 ^ s) != 0) != ((m : Int) + 1 == lie))], by simp [HPL.out]; omega, by congr 1; omega, by simp [HPL.out], by simp [HPL.out], by
        have := P9.out
        rw [List.length_append, List.length_singleton, HPL.out]
        exact P9⟩
      case measure => simp [intOf]; omega
    · obtain rfl : k = 0 := by omega
      have HA := HOK.out P R PD.out.top (by omega) PD.out.told
      have HPD := Lib.hid (And.intro HA (And.intro PD.out (Below.trans B4.out (PD.out.only.below B4.out.size fun k hk => by omega))))
      clear PD HA
      go_wp2
      refine bodyPost_ret (v := .tuple #[.int .i64 (n : Int), .slice (some ⟨g, 0, none⟩) P.length c, .slice (some ⟨g2, 0, none⟩) P.length c2, .int .i64 (s : Int)]) ?_ rfl ?_
      · simp [results, Try.results31, go_sem]
      · exact ⟨n, s, lie, _, _, P, R, rfl, HPD.out.2.1.own.reads, HPD.out.2.1.ownR.reads, HPD.out.1, sn, HPD.out.2.1.told, HPD.out.2.2⟩
end Go.Proofs.Ytnpmkoeceihepaa
