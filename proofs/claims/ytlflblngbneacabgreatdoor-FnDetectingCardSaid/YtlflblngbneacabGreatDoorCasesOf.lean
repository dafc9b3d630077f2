/- The contracts of CasesOf, in the model and in the program: both return the cases of the problem, in ascending order, in a list of the call's own. Condition: a number of coins that fits Go's int. -/
import Derived.Test.YtlflblngbneacabGreatDoorCaseOk
import Derived.Test.YtlflblngbneacabGreatDoorGBase
namespace Go.Proofs.YtlflblngbneacabGreatDoor
open Go.RowKit

/-- m integers from c on. -/
def seg (c : Int) (m : Nat) : List Int := (List.range m).map fun (i : Nat) => c + (i : Int)
theorem seg_succ (c : Int) (m : Nat) : seg c (m + 1) = seg c m ++ [c + m] := by simp [seg, List.range_succ]
theorem seg_length (c : Int) (m : Nat) : (seg c m).length = m := by simp [seg]
theorem seg_add (c : Int) (m k : Nat) : seg c (m + k) = seg c m ++ seg (c + m) k := by
  induction k with
  | zero => simp [seg]
  | succ k ih => rw [← Nat.add_assoc, seg_succ, ih, seg_succ, List.append_assoc]; congr 3; omega
theorem seg_mem {c x : Int} {m : Nat} (h : x ∈ seg c m) : c ≤ x ∧ x < c + m := by
  simp only [seg, List.mem_map, List.mem_range] at h
  obtain ⟨i, hi, rfl⟩ := h
  omega

/-- The cases among m integers from c on. -/
def casesIn (p : Int → Bool) (c : Int) (m : Nat) : List Int := (seg c m).filter p
theorem casesIn_succ (p : Int → Bool) (c : Int) (m : Nat) : casesIn p c (m + 1) = casesIn p c m ++ (if p (c + m) = true then [c + m] else []) := by
  unfold casesIn
  rw [seg_succ, List.filter_append]
  congr 1
  simp [List.filter_cons]
theorem casesIn_len (p : Int → Bool) (c : Int) (m : Nat) : (casesIn p c m).length ≤ m := by
  have := List.length_filter_le p (seg c m)
  rw [seg_length] at this
  exact this
theorem casesIn_none (p : Int → Bool) (c : Int) (m : Nat) (h : ∀ x, c ≤ x → x < c + m → p x = false) : casesIn p c m = [] := by
  unfold casesIn
  rw [List.filter_eq_nil_iff]
  intro x hx
  have := seg_mem hx
  simp [h x this.1 this.2]
theorem casesIn_add (p : Int → Bool) (c : Int) (m k : Nat) : casesIn p c (m + k) = casesIn p c m ++ casesIn p (c + m) k := by
  unfold casesIn
  rw [seg_add, List.filter_append]

/-- All cases of a problem. -/
def casesL (n : Int) (h l z : Bool) : List Int := casesIn (caseB n h l z) (-13) 27
theorem casesL_not {n : Int} {h l z : Bool} (hp : probB n h l = false) : casesL n h l z = [] :=
  casesIn_none _ _ _ fun x _ _ => by unfold caseB; rw [hp]; rfl
theorem caseB_far {n : Int} {h l z : Bool} {x : Int} (hx : x < -n ∨ n < x) (hn : 1 ≤ n) : caseB n h l z x = false := by
  unfold caseB
  rcases hx with hx | hx
  · rw [if_neg (by omega), if_pos (by omega)]
    have : decide (-n ≤ x) = false := decide_eq_false (by omega)
    simp [this]
  · rw [if_pos (by omega)]
    have : decide (x ≤ n) = false := decide_eq_false (by omega)
    simp [this]
theorem casesL_near {n : Int} {h l z : Bool} (h1 : 1 ≤ n) (h2 : n ≤ 13) : casesL n h l z = casesIn (caseB n h l z) (-n) (2 * n.toNat + 1) := by
  unfold casesL
  have e1 : (27 : Nat) = (13 - n.toNat) + ((2 * n.toNat + 1) + (13 - n.toNat)) := by omega
  have e2 : casesIn (caseB n h l z) (-13) (13 - n.toNat) = [] := casesIn_none _ _ _ fun x _ hx => caseB_far (.inl (by omega)) h1
  have e3 : casesIn (caseB n h l z) (-13 + ((13 - n.toNat : Nat) : Int) + ((2 * n.toNat + 1 : Nat) : Int)) (13 - n.toNat) = [] := casesIn_none _ _ _ fun x hx _ => caseB_far (.inr (by omega)) h1
  rw [e1, casesIn_add, casesIn_add, e2, e3, List.nil_append, List.append_nil]
  congr 1
  omega

theorem infoInt : (Tryz.prog.info? 3).map (fun i => (i.zero, i.size, i.bytes)) = some (some (.int .i64 0), 1, 8) := by kernel_rfl

theorem cell_one_val (w : World) (a : Value) (t : TypeId) : ∀ j u, [a][j]? = some u → (w.alloc (.cells #[a] t)).cell? ((⟨w.heap.size, 0, none⟩ : Addr).add j) = some u := by
  intro j u hj
  match j, hj with
  | 0, hj => simp at hj; subst hj; simp [Addr.add]
  | j + 1, hj => simp at hj

/-- What a function that lists the cases gives back. -/
def Lists (L : List Int) (w : World) (e : Ending) (w' : World) : Prop :=
  ∃ v, e = .returned v ∧ w'.ownsRow w.heap.size 3 1 v L.length (L.map (Value.int .i64)) ∧ Below w.heap.size w w'

theorem casesIn_yes {p : Int → Bool} {c : Int} {k : Nat} (h : p (c + k) = true) : casesIn p c (k + 1) = casesIn p c k ++ [c + k] := by rw [casesIn_succ, if_pos h]
theorem casesIn_no {p : Int → Bool} {c : Int} {k : Nat} (h : p (c + k) = false) : casesIn p c (k + 1) = casesIn p c k := by rw [casesIn_succ, h]; simp

theorem owns_lower {w : World} {B B' e s n : Nat} {v : Value} {xs : List Value} (h : w.ownsRow B e s v n xs) (hB : B' ≤ B) : w.ownsRow B' e s v n xs :=
  ⟨h.1, h.2.imp id fun ⟨g, cap, cur, h1, h2, h3⟩ => ⟨g, cap, cur, h1, Nat.le_trans hB h2, h3⟩⟩

set_option maxRecDepth 100000 in
set_option maxHeartbeats 1600000 in
theorem implCasesOf (n : Int) (h l z : Bool) (w : World) : Calls Tryz.prog 14 #[probV n h l z] w (Lists (casesL n h l z) w) := by
  obtain ⟨i0, hi, hz0, hz1, hz2⟩ := info_parts infoInt
  have C := Lib.hid (fun (c : Int) W c0 c1 => implCaseOk n c h l z W c0 c1)
  unfold casesL
  generalize caseB n h l z = p at C ⊢
  unfold probV
  go_enter Tryz.func14, Tryz.ntmps14
  go_wp2
  go_loopw [3, 4] (fun v i wr => ∃ (k : Nat) (ps : List Int), k ≤ 27 ∧ i = .int .i64 (-13 + k) ∧ ps.length ≤ k ∧ Hid (casesIn p (-13) k = ps) ∧ wr.ownsRow (w.heap.size + 1) 3 1 v ps.length (ps.map (Value.int .i64)) ∧ Below w.heap.size w wr ∧ Hid (ProbAt wr w.heap.size n h l z)) (fun _ i _ => (14 - intOf i).toNat)
  case atStart => exact ⟨0, [], by omega, rfl, by simp, rfl, World.ownsRow_nil _ _ _ _, (Below.refl _ _).alloc (Nat.le_refl _) _, ProbAt.new _ _ _ _ _ _⟩
  case round =>
    obtain ⟨k, ps, hk, rfl, hps, HS, hown, hb, HP⟩ := hrel
    have hbs := hb.size
    by_cases hlt : k < 27
    · obtain ⟨e0, e1, e2, e3, e4⟩ := HP.out
      obtain ⟨c, hc⟩ : ∃ c : Int, -13 + (k : Int) = c := ⟨_, rfl⟩
      have HC := Lib.hid hc
      have hc1 : -13 ≤ c := by omega
      have hc2 : c ≤ 13 := by omega
      have hps2 : ps.length ≤ 27 := by omega
      have HK := Lib.hid (And.intro hlt hps)
      rw [hc]
      clear hc hk hlt hps
      cases hp : p c with
      | true =>
        have HS2 : Hid (casesIn p (-13) (k + 1) = ps ++ [c]) := by unfold Hid; rw [casesIn_yes (by rw [HC.out]; exact hp), HS.out, HC.out]
        have C2 := Lib.hid (fun W => C.out c W (by omega) (by omega))
        rw [hp] at C2
        clear hp
        go_wp2_with fail
        refine (C2.out _).mono ?_
        rintro e w1 ⟨rfl, hb1⟩
        have hown1 := owns_below hown hb1
        have HB1 := Lib.hid (below_of hb hb1)
        have hbs1 := hb1.size
        have HP1 := Lib.hid (HP.out.below hb1)
        clear hb1 hown
        go_wp2_with (at_builtin; refine wpList_append_own _ rfl _ _ 26 rfl (w.heap.size + 1) 3 i0 (.int .i64 0) 1 8 Tryz.underlying26 hi hz0 hz1 hz2 rfl (by decide) _ _ _ rfl (hown1.alloc _) ⟨w1.heap.size, 0, none⟩ 1 1 [.int .i64 c] rfl rfl (cell_one_val _ _ _) (by simp [Value.oneCell']) (by unfold maxLen; omega) (by omega) (by simp; omega) ?_; intro v' w2 hown' hg1 _)
        have hX : Below (w.heap.size + 1) w1 w2 := Below.grown ((Below.refl (w.heap.size + 1) w1).alloc (by omega) _) hg1 (by simp; omega) (fun j hj => (hown1.lt j hj).1)
        have HX := Lib.hid hX
        have HP2 := Lib.hid (HP1.out.belowN hX (by omega))
        clear hX hg1 hown1
        go_wp2
        go_roundw
        case rel => exact ⟨k + 1, _, by have := HK.out; omega, val_int (by have := HC.out; omega), by simp; have := HK.out; omega, HS2, by simpa using hown', HB1.out.trans (HX.out.mono (by omega)), HP2⟩
        case measure => simp [intOf]; omega
      | false =>
        have HS2 : Hid (casesIn p (-13) (k + 1) = ps) := by unfold Hid; rw [casesIn_no (by rw [HC.out]; exact hp), HS.out]
        have C2 := Lib.hid (fun W => C.out c W (by omega) (by omega))
        rw [hp] at C2
        clear hp
        go_wp2_with fail
        refine (C2.out _).mono ?_
        rintro e w1 ⟨rfl, hb1⟩
        have HO1 := Lib.hid (owns_below hown hb1)
        have HB1 := Lib.hid (below_of hb hb1)
        have HP1 := Lib.hid (HP.out.below hb1)
        clear hb1 hown
        go_wp2
        go_roundw
        case rel => exact ⟨k + 1, ps, by have := HK.out; omega, val_int (by have := HC.out; omega), by have := HK.out; omega, HS2, HO1.out, HB1.out, HP1⟩
        case measure => simp [intOf]; omega
    · obtain rfl : k = 27 := by omega
      go_wp2
      go_ret
      refine ⟨_, rfl, ?_, hb⟩
      rw [HS.out]
      exact owns_lower hown (by omega)

theorem neg_toNat {n : Int} {k : Nat} (h1 : 1 ≤ n) (h : k ≤ 2 * n.toNat + 1) (h2 : ¬ k < 2 * n.toNat + 1) : n < -n + (k : Int) := by omega

end Go.Proofs.YtlflblngbneacabGreatDoor
