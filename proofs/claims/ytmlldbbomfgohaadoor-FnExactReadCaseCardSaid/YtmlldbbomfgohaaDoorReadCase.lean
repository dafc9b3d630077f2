/- The contracts of ReadCase, in the model and in the program, and the walk of its law: both return the first case whose text is given, and the law returns true for every text. Condition where the program's is called: the library's table of powers of ten is as its text lays it. -/
import Derived.Test.YtmlldbbomfgohaaDoorCaseText
namespace Go.Proofs.YtmlldbbomfgohaaDoor
open Go.RowKit

/-- Whether the text of the case x is s. -/
def isText (s : ByteArray) (x : Int) : Bool := (txtB x).toList == s.toList

/-- r and b are the answer of ReadCase: the first case with that text, or none. -/
def IsRead (p : Int → Bool) (r : Int) (b : Bool) : Prop :=
  (b = true ∧ ∃ k : Nat, k < 27 ∧ r = -13 + k ∧ p (-13 + k) = true ∧ ∀ i : Nat, i < k → p (-13 + i) = false) ∨ (b = false ∧ r = 0 ∧ ∀ i : Nat, i < 27 → p (-13 + i) = false)

theorem read_unique {p : Int → Bool} {r r' : Int} {b b' : Bool} (h : IsRead p r b) (h' : IsRead p r' b') : r = r' ∧ b = b' := by
  rcases h with ⟨rfl, k, hk, rfl, hp, hn⟩ | ⟨rfl, rfl, hn⟩ <;> rcases h' with ⟨rfl, k', hk', rfl, hp', hn'⟩ | ⟨rfl, rfl, hn'⟩
  · refine ⟨?_, rfl⟩
    rcases Nat.lt_trichotomy k k' with h | h | h
    · rw [hn' k h] at hp; cases hp
    · rw [h]
    · rw [hn k' h] at hp'; cases hp'
  · rw [hn' k hk] at hp; cases hp
  · rw [hn k' hk'] at hp'; cases hp'
  · exact ⟨rfl, rfl⟩

/-- What ReadCase ends with. -/
def Reads (p : Int → Bool) (w : World) (e : Ending) (w' : World) : Prop := ∃ r b, e = .returned (.tuple #[.int .i64 r, .bool b]) ∧ IsRead p r b ∧ Below w.heap.size w w'

set_option maxHeartbeats 1600000 in
theorem specRead (s : ByteArray) (w : World) : Calls Tryd.prog 7 #[.string s] w (Reads (isText s) w) := by
  have C := Lib.hid (fun (c : Int) W c0 c1 => specText c W c0 c1)
  have HS : Hid (∀ c, isText s c = ((txtB c).toList == s.toList)) := fun _ => rfl
  generalize isText s = p at HS ⊢
  go_enter Tryd.func7, Tryd.ntmps7
  go_wp2
  go_loopw [4] (fun i wr => ∃ k : Nat, k ≤ 27 ∧ i = .int .i64 (-13 + k) ∧ Hid (∀ i : Nat, i < k → p (-13 + i) = false) ∧ Below w.heap.size w wr) (fun i _ => (14 - intOf i).toNat)
  case atStart => exact ⟨0, by omega, rfl, fun i h => by omega, Below.refl _ _⟩
  case round =>
    obtain ⟨k, hk, rfl, HF, hb⟩ := hrel
    by_cases hlt : k < 27
    · obtain ⟨c, hc⟩ : ∃ c : Int, -13 + (k : Int) = c := ⟨_, rfl⟩
      have HC := Lib.hid hc
      have hc1 : -13 ≤ c := by omega
      have hc2 : c ≤ 13 := by omega
      have HK := Lib.hid hlt
      rw [hc]
      have C2 := Lib.hid (fun W => C.out c W (by omega) (by omega))
      cases hp : p c with
      | true =>
        have HA : Hid (IsRead p c true) := .inl ⟨rfl, k, hlt, hc.symm, by rw [hc]; exact hp, HF.out⟩
        have hq := HS.out c
        rw [hp] at hq
        have hcmp := hq.symm
        clear hq hp hc hk hlt
        generalize txtB c = t at C2 hcmp
        go_wp2_with fail
        refine (C2.out _).mono ?_
        rintro e w1 ⟨rfl, hb1⟩
        have HB := Lib.hid (hb.trans (hb1.mono hb.size))
        clear hb1
        go_wp2
        go_ret2
        exact ⟨_, true, rfl, HA.out, HB.out⟩
      | false =>
        have HA : Hid (∀ i : Nat, i < k + 1 → p (-13 + i) = false) := fun i hi => by
          by_cases e : i = k
          · subst e; rw [hc]; exact hp
          · exact HF.out i (by omega)
        have hq := HS.out c
        rw [hp] at hq
        have hcmp := hq.symm
        clear hq hp hc hk hlt
        generalize txtB c = t at C2 hcmp
        go_wp2_with fail
        refine (C2.out _).mono ?_
        rintro e w1 ⟨rfl, hb1⟩
        have HB := Lib.hid (hb.trans (hb1.mono hb.size))
        clear hb1
        go_wp2
        go_roundw
        case rel => exact ⟨k + 1, by have := HK.out; omega, val_int (by have := HC.out; omega), HA, HB.out⟩
        case measure => simp [intOf]; omega
    · obtain rfl : k = 27 := by omega
      go_wp2
      go_ret2
      exact ⟨0, false, rfl, .inr ⟨rfl, rfl, HF.out⟩, hb⟩

set_option maxHeartbeats 1600000 in
theorem implRead (s : ByteArray) (w : World) (ht : TabOk w) : Calls Tryd.prog 8 #[.string s] w (Reads (isText s) w) := by
  have HT := Lib.hid ht
  clear ht
  have C := Lib.hid (fun (c : Int) W c0 c1 h => implCaseText c W c0 c1 h)
  have HS : Hid (∀ c, isText s c = ((txtB c).toList == s.toList)) := fun _ => rfl
  generalize isText s = p at HS ⊢
  go_enter Tryd.func8, Tryd.ntmps8
  go_wp2
  go_loopw [4] (fun i wr => ∃ k : Nat, k ≤ 27 ∧ i = .int .i64 (-13 + k) ∧ Hid (∀ i : Nat, i < k → p (-13 + i) = false) ∧ Below w.heap.size w wr) (fun i _ => (14 - intOf i).toNat)
  case atStart => exact ⟨0, by omega, rfl, fun i h => by omega, Below.refl _ _⟩
  case round =>
    obtain ⟨k, hk, rfl, HF, hb⟩ := hrel
    by_cases hlt : k < 27
    · obtain ⟨c, hc⟩ : ∃ c : Int, -13 + (k : Int) = c := ⟨_, rfl⟩
      have HC := Lib.hid hc
      have hc1 : -13 ≤ c := by omega
      have hc2 : c ≤ 13 := by omega
      have HK := Lib.hid hlt
      rw [hc]
      have C2 := Lib.hid (fun W h => C.out c W (by omega) (by omega) h)
      cases hp : p c with
      | true =>
        have HA : Hid (IsRead p c true) := .inl ⟨rfl, k, hlt, hc.symm, by rw [hc]; exact hp, HF.out⟩
        have hq := HS.out c
        rw [hp] at hq
        have hcmp := hq.symm
        clear hq hp hc hk hlt
        generalize txtB c = t at C2 hcmp
        go_wp2_with fail
        refine (C2.out _ (HT.out.below hb)).mono ?_
        rintro e w1 ⟨rfl, hb1⟩
        have HB := Lib.hid (hb.trans (hb1.mono hb.size))
        clear hb1
        go_wp2
        go_ret2
        exact ⟨_, true, rfl, HA.out, HB.out⟩
      | false =>
        have HA : Hid (∀ i : Nat, i < k + 1 → p (-13 + i) = false) := fun i hi => by
          by_cases e : i = k
          · subst e; rw [hc]; exact hp
          · exact HF.out i (by omega)
        have hq := HS.out c
        rw [hp] at hq
        have hcmp := hq.symm
        clear hq hp hc hk hlt
        generalize txtB c = t at C2 hcmp
        go_wp2_with fail
        refine (C2.out _ (HT.out.below hb)).mono ?_
        rintro e w1 ⟨rfl, hb1⟩
        have HB := Lib.hid (hb.trans (hb1.mono hb.size))
        clear hb1
        go_wp2
        go_roundw
        case rel => exact ⟨k + 1, by have := HK.out; omega, val_int (by have := HC.out; omega), HA, HB.out⟩
        case measure => simp [intOf]; omega
    · obtain rfl : k = 27 := by omega
      go_wp2
      go_ret2
      exact ⟨0, false, rfl, .inr ⟨rfl, rfl, HF.out⟩, hb⟩

set_option maxHeartbeats 800000 in
theorem walkFnExactReadCase (a0 : ByteArray) (_w0 : a0.size ≤ maxLen) (w : World) (ht : TabOk w) :
    Calls Tryd.prog 4 #[.string a0] w fun e w' => e = .returned (.bool true) ∧ Below w.heap.size w w' := by
  by_cases hb : (1048576 : Int) < (a0.size : Int)
  · clear ht
    go_enter Tryd.func4, Tryd.ntmps4
    go_wp2
    go_ret
    exact ⟨rfl, Below.refl _ _⟩
  · have hs : a0.size ≤ 1048576 := by omega
    have C1 := Lib.hid (specRead a0 w)
    have C2 := Lib.hid (fun W h => implRead a0 W h)
    have HT := Lib.hid ht
    clear ht
    generalize isText a0 = p at C1 C2
    go_enter Tryd.func4, Tryd.ntmps4
    go_wp2_with fail
    refine C1.out.mono ?_
    rintro e w1 ⟨r1, b1, rfl, A1, hb1⟩
    have HB1 := Lib.hid hb1
    have HA1 := Lib.hid A1
    clear hb1 A1
    go_wp2_with fail
    refine (C2.out w1 (HT.out.below HB1.out)).mono ?_
    rintro e w2 ⟨r2, b2, rfl, A2, hb2⟩
    have HB2 := Lib.hid hb2
    obtain ⟨e1, e2⟩ := read_unique HA1.out A2
    subst e1
    subst e2
    clear hb2 A2
    go_wp2
    go_ret
    exact ⟨rfl, below_via HB1.out HB2.out⟩
end Go.Proofs.YtmlldbbomfgohaaDoor
