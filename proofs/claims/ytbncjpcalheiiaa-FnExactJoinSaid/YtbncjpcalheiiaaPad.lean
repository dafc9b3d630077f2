/- The contracts of PadZeros, in the model and in the program: both return the text with zeros in front. Condition: the text has at most 1048576 bytes. -/
import Derived.Test.YtbncjpcalheiiaaStrs
import Derived.Test.YtbncjpcalheiiaaShelf
import Derived.Lib.Join
import Derived.Lib.Repeat
namespace Go.Proofs.Ytbncjpcalheiiaa
open Go.RowKit

def zs : Nat → ByteArray → ByteArray
  | 0, s => s
  | k + 1, s => ⟨#[48]⟩ ++ zs k s
theorem zs_size (k : Nat) (s : ByteArray) : (zs k s).size = s.size + k := by
  induction k with
  | zero => rfl
  | succ k ih => rw [zs, ByteArray.size_append, ih]; show 1 + _ = _; omega
theorem zs_list (k : Nat) (s : ByteArray) : (zs k s).data.toList = List.replicate k 48 ++ s.data.toList := by
  induction k with
  | zero => simp [zs]
  | succ k ih => rw [zs, ByteArray.data_append, Array.toList_append, ih]; rfl
def padB (s : ByteArray) (n : Int) : ByteArray := if 2000 < n ∨ n ≤ s.size then s else zs (n - s.size).toNat s

def strLen : Value → Nat | .string s => s.size | _ => 0

set_option maxHeartbeats 800000 in
theorem specPad (s : ByteArray) (n : Int) (w : World) (hs : s.size ≤ 1048576) :
    Calls Try.prog 24 #[.string s, .int .i64 n] w fun e w' => e = .returned (.string (padB s n)) ∧ w = w' := by
  by_cases h : 2000 < n
  · have HP : Hid (padB s n = s) := by unfold Hid padB; rw [if_pos (.inl h)]
    go_enter Try.func24, Try.ntmps24
    go_wp2
    go_ret
    exact ⟨ret_str HP.out.symm, rfl⟩
  · have hn : n ≤ 2000 := by omega
    have HP : Hid (∀ t j, zs j s = t → (t.size : Int) ≥ n → (j = 0 ∨ (t.size : Int) ≤ n) → padB s n = t) := by
      intro t j ht hge hj
      have hsz := zs_size j s
      rw [ht] at hsz
      unfold padB
      by_cases h2 : n ≤ s.size
      · rw [if_pos (.inr h2)]
        rcases hj with rfl | hj
        · exact ht
        · obtain rfl : j = 0 := by omega
          exact ht
      · rw [if_neg (by omega), ← ht]
        congr 1
        omega
    clear h
    go_enter Try.func24, Try.ntmps24
    go_wp2
    go_loop [0] (fun v => ∃ (t : ByteArray) (j : Nat), v = .string t ∧ Hid (zs j s = t) ∧ t.size ≤ 1100000 ∧ Hid (j = 0 ∨ (t.size : Int) ≤ n)) (fun v => (n - strLen v).toNat)
    case atStart => exact ⟨s, 0, rfl, rfl, by omega, .inl rfl⟩
    case round =>
      obtain ⟨t, j, rfl, HT, hsz, HJ⟩ := hrel
      by_cases hlt : (t.size : Int) < n
      · have HT2 : Hid (zs (j + 1) s = ⟨#[48]⟩ ++ t) := by unfold Hid; rw [zs, HT.out]
        have HS : Hid ((⟨#[48]⟩ ++ t : ByteArray).size = 1 + t.size) := by unfold Hid; rw [ByteArray.size_append]; rfl
        go_wp2
        go_round
        case rel => exact ⟨_, j + 1, rfl, HT2, by have := HS.out; omega, .inr (by have := HS.out; omega)⟩
        case measure => simp only [strLen]; have := HS.out; omega
      · have HD := Lib.hid (HP.out t j HT.out (by omega) HJ.out)
        go_wp2
        go_ret
        exact ⟨ret_str HD.out.symm, rfl⟩

theorem joinParts_any (bk o c n : Nat) (xs : List ByteArray) (sep : ByteArray) (w : World) (hn : xs.length = n) (hcells : ∀ (j : Nat) x, xs[j]? = some x → w.cell? ⟨bk, o + j, none⟩ = some (.string x)) (hbk : bk < w.heap.size) (hN : n ≤ 140737488355328) (hcap : n ≤ c)
    (hlen : (Lib.join (xs.map (·.data.toList)) sep.data.toList).length ≤ 140737488355328) :
    Calls Try.prog 31 #[.string sep, .slice (some ⟨bk, o, none⟩) n c] w fun e w' => e = .returned (.string ⟨(Lib.join (xs.map (·.data.toList)) sep.data.toList).toArray⟩) ∧ Below w.heap.size w w' := by
  subst hn
  have C := Lib.hid (Try.strings_Join bk o c xs sep w hcells hbk hN hcap hlen)
  generalize (Lib.join (xs.map (·.data.toList)) sep.data.toList) = r at C ⊢
  generalize xs.length = n at C ⊢
  clear hcells hlen hN hcap
  go_enter Try.func31, Try.ntmps31
  go_wp2_with fail
  refine C.out.mono ?_
  rintro e w' ⟨rfl, hb⟩
  go_wp2
  go_ret
  exact ⟨rfl, hb⟩

set_option maxHeartbeats 800000 in
theorem implPad (s : ByteArray) (n : Int) (w : World) (hs : s.size ≤ 1048576) :
    Calls Try.prog 25 #[.string s, .int .i64 n] w fun e w' => e = .returned (.string (padB s n)) ∧ Below w.heap.size w w' := by
  by_cases h : n ≤ (s.size : Int)
  · have HP : Hid (padB s n = s) := by unfold Hid padB; rw [if_pos (.inr h)]
    go_enter Try.func25, Try.ntmps25
    go_wp2
    go_ret
    exact ⟨ret_str HP.out.symm, Below.refl _ _⟩
  · have b1 : decide (n ≤ (s.size : Int)) = false := decide_eq_false h
    by_cases h2 : 2000 < n
    · have HP : Hid (padB s n = s) := by unfold Hid padB; rw [if_pos (.inl h2)]
      have b2 : decide (2000 < n) = true := decide_eq_true h2
      go_enter Try.func25, Try.ntmps25
      go_wp2
      go_ret
      exact ⟨ret_str HP.out.symm, Below.refl _ _⟩
    · have b2 : decide (2000 < n) = false := decide_eq_false h2
      obtain ⟨c, rfl⟩ : ∃ c : Nat, n = s.size + c := ⟨(n - s.size).toNat, by omega⟩
      have hc : c ≤ 2000 := by omega
      have R := Lib.hid (fun W => Try.strings_Repeat ⟨#[48]⟩ c W (by omega) (by show 1 * c ≤ _; omega))
      have hl : (Lib.repeatL (⟨#[48]⟩ : ByteArray).data.toList c) = List.replicate c 48 := by
        have := Lib.repeatL_replicate 48 1 c
        rw [Nat.mul_one] at this
        exact this
      rw [hl] at R
      have HP : Hid (∀ x : ByteArray, x.data.toList = List.replicate c 48 → padB s ((s.size : Int) + c) = ⟨(Lib.join ([x, s].map (·.data.toList)) (⟨#[]⟩ : ByteArray).data.toList).toArray⟩) := by
        intro x hx
        unfold padB
        rw [if_neg (by omega), show ((s.size : Int) + c - s.size).toNat = c by omega]
        apply ByteArray.ext
        apply Array.toList_inj.1
        rw [zs_list]
        simp [Lib.join, hx, List.intercalate]
      have HL : Hid (∀ x : ByteArray, x.data.toList = List.replicate c 48 → (Lib.join ([x, s].map (·.data.toList)) (⟨#[]⟩ : ByteArray).data.toList).length ≤ 140737488355328) := by
        intro x hx
        have : s.data.toList.length = s.size := by simp
        simp [Lib.join, hx, List.intercalate]
        omega
      have hx : (⟨(List.replicate c (48 : UInt8)).toArray⟩ : ByteArray).data.toList = List.replicate c 48 := rfl
      generalize (⟨(List.replicate c (48 : UInt8)).toArray⟩ : ByteArray) = x at R hx
      have HX1 := Lib.hid (HP.out x hx)
      have HX2 := Lib.hid (HL.out x hx)
      clear HP HL hx hl
      go_enter Try.func25, Try.ntmps25
      go_wp2_with fail
      rw [show ((s.size : Int) + (c : Int) - (s.size : Int)) = (c : Int) by omega]
      refine (R.out _).mono ?_
      rintro e w1 ⟨rfl, hb1⟩
      have HB1 := Lib.hid hb1
      clear hb1
      go_wp2_with fail
      refine (joinParts_any w1.heap.size 0 2 2 [x, s] ⟨#[]⟩ _ rfl ?_ (by simp) (by omega) (by omega) HX2.out).mono ?_
      · intro j u hj
        match j, hj with
        | 0, hj => simp at hj; subst hj; simp
        | 1, hj => simp at hj; subst hj; simp
        | j + 2, hj => simp at hj
      rintro e w2 ⟨rfl, hb2⟩
      have HB2 := Lib.hid hb2
      clear hb2
      go_wp2
      go_ret
      exact ⟨ret_str HX1.out.symm, HB1.out.trans (((Below.refl _ w1).alloc HB1.out.size _).trans (HB2.out.mono (by have := HB1.out.size; simp; omega)))⟩

theorem walkFnExactPadZeros (a0 : ByteArray) (_w0 : a0.size ≤ maxLen) (a1 : Int) (_w1 : (Lit.int .i64 a1).wf = true) (w : World) :
    Calls Try.prog 8 #[.string a0, .int .i64 a1] w fun e w' => e = .returned (.bool true) ∧ Below w.heap.size w w' := by
  by_cases hb : (1048576 : Int) < (a0.size : Int)
  · go_enter Try.func8, Try.ntmps8
    go_wp2
    go_ret
    exact ⟨rfl, Below.refl _ _⟩
  · have hs : a0.size ≤ 1048576 := by omega
    have C1 := Lib.hid (fun W => specPad a0 a1 W hs)
    have C2 := Lib.hid (fun W => implPad a0 a1 W hs)
    generalize padB a0 a1 = p at C1 C2
    go_enter Try.func8, Try.ntmps8
    go_wp2_with fail
    refine (C1.out _).mono ?_
    rintro e w1 ⟨rfl, rfl⟩
    go_wp2_with fail
    refine (C2.out _).mono ?_
    rintro e w2 ⟨rfl, hb2⟩
    go_wp2
    go_ret
    exact ⟨rfl, hb2⟩
end Go.Proofs.Ytbncjpcalheiiaa
