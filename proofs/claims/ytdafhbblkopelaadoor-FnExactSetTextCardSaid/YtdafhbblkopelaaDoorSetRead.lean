/- The contracts of the program's SetText and ReadSet, and the walks of their exact laws: each returns true for every argument. Condition: the library's table of powers of ten is as its text lays it. -/
import Derived.Test.YtdafhbblkopelaaDoorSetImpl
import Derived.Lib.OthersKept
namespace Go.Proofs.YtdafhbblkopelaaDoor
open Go.RowKit

set_option maxHeartbeats 1600000 in
theorem implSetText (s : Int) (w : World) (ht : TabOk w) :
    Calls Tryd.prog 6 #[.int .i64 s] w fun e w' => e = .returned (.string (setT s)) ∧ Below w.heap.size w w' := by
  have e10 : topI 10 = 1023 := by decide
  cases hso : poolB 10 s with
  | false =>
    have HE := Lib.hid (setT_out hso)
    have CI := Lib.hid (fun W => implIsSet 10 s (by omega) (by omega) W)
    rw [hso] at CI
    generalize setT s = r at HE ⊢
    clear hso ht
    go_enter Tryd.func6, Tryd.ntmps6
    go_wp2_with fail
    refine (CI.out _).mono ?_
    rintro e w1 ⟨rfl, rfl⟩
    go_wp2
    go_ret
    exact ⟨ret_str HE.out.symm, Below.refl _ _⟩
  | true =>
    have hin : 0 ≤ s ∧ s ≤ 1023 := by
      unfold poolB at hso
      rw [e10] at hso
      simpa using hso
    by_cases hz : s = 0
    · subst hz
      have HE := Lib.hid setT_zero
      have CI := Lib.hid (fun W => implIsSet 10 0 (by omega) (by omega) W)
      rw [hso] at CI
      generalize setT 0 = r at HE ⊢
      clear hso ht hin
      go_enter Tryd.func6, Tryd.ntmps6
      go_wp2_with fail
      refine (CI.out _).mono ?_
      rintro e w1 ⟨rfl, rfl⟩
      go_wp2
      go_ret
      exact ⟨ret_str HE.out.symm, Below.refl _ _⟩
    · exact (callsIn_wide (n := 8)).1 (setTextN s (by omega) hin.2 8 (Nat.le_refl _) w ht)

/-- No byte of a set's text lies above 127. -/
theorem setC_low (s : Int) : ∀ k, k ≤ 10 → ∀ b ∈ (setC s k).data.toList, b.toNat < 128
  | 0, _, b, hb => by simp [setC] at hb
  | k + 1, hk, b, hb => by
    unfold setC at hb
    split at hb
    · rw [ByteArray.data_append, Array.toList_append, List.mem_append] at hb
      rcases hb with hb | hb
      · exact setC_low s k (by omega) b hb
      · have e : (48 + (k : Int)).toNat = 48 + k := by omega
        simp [oneByte, e] at hb
        subst hb
        simp [UInt8.toNat_ofNat]
        omega
    · exact setC_low s k (by omega) b hb
theorem setT_low (s : Int) : ∀ b ∈ (setT s).data.toList, b.toNat < 128 := by
  intro b hb
  unfold setT at hb
  split at hb
  · split at hb
    · simp at hb
      subst hb
      decide
    · exact setC_low s 10 (Nat.le_refl _) b hb
  · simp at hb
/-- A text with a byte above 127 is no set's. -/
theorem not_set {t : ByteArray} {k : Nat} (hk : k < t.size) (hh : 128 ≤ (t[k]'hk).toNat) (s : Int) : ((setT s).toList == t.toList) = false := by
  rw [beq_eq_false_iff_ne]
  intro e
  rw [ByteArray.toList_eq, ByteArray.toList_eq] at e
  have hm : t[k] ∈ t.data.toList := Array.getElem_mem_toList (xs := t.data) hk
  rw [← e] at hm
  have := setT_low s _ hm
  omega
def LowB (t : ByteArray) : Prop := ∀ k (h : k < t.size), (t[k]'h).toNat < 128
theorem read_not {t : ByteArray} (h : ¬ LowB t) : readB t = false ∧ ∀ s, ((setT s).toList == t.toList) = false := by
  have : ∃ k, ∃ h : k < t.size, 128 ≤ (t[k]'h).toNat := by
    refine Classical.byContradiction fun hn => h fun k hk => ?_
    refine Classical.byContradiction fun hb => hn ⟨k, hk, by omega⟩
  obtain ⟨k, hk, hh⟩ := this
  exact ⟨not_set hk hh _, fun s => not_set hk hh s⟩

theorem isDigit_y (r : Int) (w : World) (h1 : 48 ≤ r) (h2 : r ≤ 57) : Calls Tryd.prog 15 #[.int .i32 r] w fun e w' => e = .returned (.bool true) ∧ w = w' := by
  go_enter Tryd.func15, Tryd.ntmps15
  go_wp2
  go_ret
  exact ⟨rfl, rfl⟩
theorem isDigit_n (r : Int) (w : World) (h : r < 48 ∨ 57 < r) : Calls Tryd.prog 15 #[.int .i32 r] w fun e w' => e = .returned (.bool false) ∧ w = w' := by
  by_cases h1 : r < 48
  · go_enter Tryd.func15, Tryd.ntmps15
    go_wp2
    go_ret
    exact ⟨ret_bool (by simp; try omega), rfl⟩
  · have h2 : 57 < r := by omega
    go_enter Tryd.func15, Tryd.ntmps15
    go_wp2
    go_ret
    exact ⟨ret_bool (by simp; try omega), rfl⟩
theorem iter_below (w : World) (t : ByteArray) (p : Nat) : Below w.heap.size w (w.iter t p) := (Below.refl _ _).alloc (Nat.le_refl _) _

set_option maxRecDepth 100000 in
set_option maxHeartbeats 3200000 in
theorem implReadSet (t : ByteArray) (w : World) (ht : TabOk w) :
    Calls Tryd.prog 8 #[.string t] w fun e w' => e = .returned (.tuple #[.int .i64 (readV t), .bool (readB t)]) ∧ Below w.heap.size w w' := by
  have CT : Hid (∀ s p, Calls Tryd.prog 6 #[.int .i64 s] (w.iter t p) fun e w' => e = .returned (.string (setT s)) ∧ Below (w.iter t p).heap.size (w.iter t p) w') := fun s p => implSetText s _ (ht.below (iter_below w t p))
  have HV : Hid (readV t = if readB t = true then readI t t.size else 0) := rfl
  have HB : Hid (readB t = ((setT (readI t t.size)).toList == t.toList)) := rfl
  have HNO : Hid (¬ LowB t → readB t = false ∧ ∀ s, ((setT s).toList == t.toList) = false) := read_not
  generalize readV t = v at HV ⊢
  generalize readB t = b at HV HB HNO ⊢
  clear ht
  go_enter Tryd.func8, Tryd.ntmps8
  go_wp2
  go_loopw [4] (fun sv wr => ∃ (pos : Nat) (q : Int), sv = .int .i64 q ∧ 0 ≤ q ∧ q ≤ 1023 ∧ wr = w.iter t pos ∧ Hid (LowB t → pos ≤ t.size ∧ q = readI t pos)) (fun _ wr => t.size - wr.iterPos w.heap.size)
  case atStart => exact ⟨0, 0, rfl, by omega, by omega, rfl, fun _ => ⟨Nat.zero_le _, rfl⟩⟩
  case round =>
    obtain ⟨pos, q, rfl, q0, q1, rfl, HQ⟩ := hrel
    by_cases hlt : pos < t.size
    · clear CT HV HB HNO
      by_cases ha : (t[pos]'hlt).toNat < 128
      · have hnx : ∀ ty, (Instr.next (.pointer (some ⟨w.heap.size, 0, none⟩)) true ty).run Tryd.prog (w.iter t pos) = _ := fun ty => run_next_ascii w t pos ty hlt ha
        by_cases hd : (t[pos].toNat : Int) < 48 ∨ 57 < (t[pos].toNat : Int)
        · have HN : Hid (LowB t → pos + 1 ≤ t.size ∧ q = readI t (pos + 1)) := fun h => ⟨by omega, by rw [readI_no hlt hd]; exact (HQ.out h).2⟩
          have HD := Lib.hid hd
          clear HQ hd
          go_wp2_with (go_at_call 15; refine (isDigit_n _ _ HD.out).mono ?_; rintro e w' ⟨rfl, rfl⟩)
          go_roundw
          case rel => exact ⟨pos + 1, q, rfl, q0, q1, rfl, HN⟩
          case measure => simp; omega
        · have h1 : 48 ≤ t[pos].toNat := by omega
          have h2 : t[pos].toNat ≤ 57 := by omega
          have h512 := two_pow_512 (t[pos].toNat - 48) (by omega)
          have hor : 0 ≤ bits .or .i64 q (2 ^ (t[pos].toNat - 48)) ∧ bits .or .i64 q (2 ^ (t[pos].toNat - 48)) ≤ 1023 := or_in q0 q1 (by omega) (by omega)
          have HN : Hid (LowB t → pos + 1 ≤ t.size ∧ bits .or .i64 q (2 ^ (t[pos].toNat - 48)) = readI t (pos + 1)) := fun h => ⟨by omega, by
            have ex : ((t[pos].toNat : Int) - 48).toNat = t[pos].toNat - 48 := by omega
            rw [readI_yes hlt (by omega) (by omega), ← (HQ.out h).2, ex]
            rfl⟩
          have hw : IntKind.i64.wrap (2 ^ (t[pos].toNat - 48)) = 2 ^ (t[pos].toNat - 48) := by rw [IntKind.wrap_i64]; omega
          have hi1 : (48 : Int) ≤ (t[pos].toNat : Int) := by omega
          have hi2 : (t[pos].toNat : Int) ≤ 57 := by omega
          have hw32 : IntKind.i32.wrap ((t[pos].toNat : Int) - 48) = (t[pos].toNat : Int) - 48 := by
            simp [IntKind.wrap, IntKind.bits, IntKind.signed]
            omega
          have HOR := Lib.hid hor
          clear HQ hd hor
          go_wp2_with (go_at_call 15; refine (isDigit_y _ _ hi1 hi2).mono ?_; rintro e w' ⟨rfl, rfl⟩)
          go_roundw
          case rel => exact ⟨pos + 1, _, rfl, HOR.out.1, HOR.out.2, rfl, HN⟩
          case measure => simp; omega
      · have hnx : ∀ ty, (Instr.next (.pointer (some ⟨w.heap.size, 0, none⟩)) true ty).run Tryd.prog (w.iter t pos) = _ := fun ty => run_next_any w t pos ty hlt
        have hh := decode_high t pos hlt (by omega)
        have h1 : ((Utf8.decode t pos).1 : Int) < 48 ∨ 57 < ((Utf8.decode t pos).1 : Int) := by omega
        have HN : Hid (LowB t → pos + (Utf8.decode t pos).2 ≤ t.size ∧ q = readI t (pos + (Utf8.decode t pos).2)) := fun h => absurd (h pos hlt) ha
        have HD := Lib.hid h1
        have hw2 := hh.2
        clear HQ h1
        go_wp2_with (go_at_call 15; refine (isDigit_n _ _ HD.out).mono ?_; rintro e w' ⟨rfl, rfl⟩)
        go_roundw
        case rel => exact ⟨_, q, rfl, q0, q1, rfl, HN⟩
        case measure => simp; omega
    · have hnx : ∀ ty, (Instr.next (.pointer (some ⟨w.heap.size, 0, none⟩)) true ty).run Tryd.prog (w.iter t pos) = _ := fun ty => run_next_end w t pos ty hlt
      have HC : Hid (b = ((setT q).toList == t.toList)) := by
        unfold Hid
        rcases Classical.em (LowB t) with h | h
        · obtain ⟨h1, h2⟩ := HQ.out h
          obtain rfl : pos = t.size := by omega
          rw [h2]
          exact HB.out
        · rw [(HNO.out h).1, (HNO.out h).2 q]
      have HVQ : Hid (v = if b = true then q else 0) := by
        unfold Hid
        rcases Classical.em (LowB t) with h | h
        · obtain ⟨h1, h2⟩ := HQ.out h
          obtain rfl : pos = t.size := by omega
          rw [h2]
          exact HV.out
        · rw [HV.out, (HNO.out h).1]
          rfl
      have C := Lib.hid (CT.out q pos)
      clear CT HB HV HQ HNO
      generalize setT q = x at C HC
      go_wp2_with fail
      refine C.out.mono ?_
      rintro e w2 ⟨rfl, b2⟩
      have B2 := Lib.hid ((iter_below w t pos).trans (b2.mono (iter_below w t pos).size))
      clear b2
      cases hcmp : (x.toList == t.toList) with
      | false =>
        have HE : Hid (b = false) := by unfold Hid; rw [HC.out]; exact hcmp
        have HF : Hid (v = 0) := by unfold Hid; rw [HVQ.out, HE.out]; rfl
        clear HC HVQ
        go_wp2
        go_ret2
        exact ⟨by rw [HE.out, HF.out]; rfl, B2.out⟩
      | true =>
        have HE : Hid (b = true) := by unfold Hid; rw [HC.out]; exact hcmp
        have HF : Hid (v = q) := by unfold Hid; rw [HVQ.out, HE.out]; rfl
        clear HC HVQ
        go_wp2
        go_ret2
        exact ⟨by rw [HE.out, HF.out]; rfl, B2.out⟩

/-- The laws. -/
theorem walkFnExactSetText (a0 : Int) (_w0 : (Lit.int .i64 a0).wf = true) (w : World) (ht : TabOk w) :
    Calls Tryd.prog 3 #[.int .i64 a0] w fun e w' => e = .returned (.bool true) ∧ Below w.heap.size w w' :=
  lawSetText a0 w fun W hW => implSetText a0 W (ht.below hW)
theorem walkFnExactReadSet (a0 : ByteArray) (w0 : a0.size ≤ maxLen) (w : World) (ht : TabOk w) :
    Calls Tryd.prog 4 #[.string a0] w fun e w' => e = .returned (.bool true) ∧ Below w.heap.size w w' :=
  lawReadSet a0 w w0 fun _ W hW => implReadSet a0 W (ht.below hW)
end Go.Proofs.YtdafhbblkopelaaDoor
