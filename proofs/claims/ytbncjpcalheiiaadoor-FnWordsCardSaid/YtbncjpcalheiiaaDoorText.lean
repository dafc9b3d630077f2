/- The contract of the model's MakeText: it returns a text of at most 14 bytes. Condition: the slice that came in has at most 1048576 bytes. -/
import Derived.Test.YtbncjpcalheiiaaDoorCur
namespace Go.Proofs.YtbncjpcalheiiaaDoor
open Go.RowKit

/-- Five texts of at most two bytes lie at a block of their own. -/
def FiveAt (w : World) (g : Nat) : Prop := ∀ i : Nat, i < 5 → ∃ t : ByteArray, t.size ≤ 2 ∧ w.cell? ⟨g, i, none⟩ = some (.string t)

set_option maxHeartbeats 800000 in
theorem str_any (W w : World) (b g : Nat) (a : Option Addr) (len cap : Nat) (hB : BytesAt W a len) (hC : CurOk W w b a len cap) (hl : len ≤ 1048576) (hg : g ≠ b) (hF : FiveAt w g) :
    Calls Tryd.prog 22 #[.pointer (some ⟨b, 0, none⟩), .slice (some ⟨g, 0, none⟩) 5 5] w fun e w' => ∃ t : ByteArray, e = .returned (.string t) ∧ t.size ≤ 2 ∧ CurOk W w' b a len cap ∧ w.grownBy w' (some b) := by
  have C2 := Lib.hid (below_any W w b a len cap 5 hB hC hl (by omega) (by omega))
  have HF := Lib.hid hF
  clear hB hC hF
  go_enter Tryd.func22, Tryd.ntmps22
  go_wp2_with fail
  refine C2.out.mono ?_
  rintro e w2 ⟨x, rfl, x0, x1, hcur2, hgr⟩
  have HC2 := Lib.hid hcur2
  have HG := Lib.hid hgr
  clear hcur2 hgr
  obtain ⟨k, rfl⟩ := Int.eq_ofNat_of_zero_le x0
  obtain ⟨t, ht, hc⟩ := HF.out k (by omega)
  have hc2 : w2.cell? ⟨g, k, none⟩ = some (.string t) := HG.out.cell hc (by intro e; injection e with e; exact hg e)
  clear hc
  go_wp2
  go_ret
  exact ⟨t, rfl, ht, HC2.out, HG.out⟩

theorem CurOk.alloc {W w : World} {b : Nat} {a : Option Addr} {len cap : Nat} (h : CurOk W w b a len cap) (o : Obj) : CurOk W (w.alloc o) b a len cap := by
  have hlt := h.lt
  obtain ⟨hb, hbb, i, h', hi, hh⟩ := h
  exact ⟨hb.alloc hb.size _, hbb, i, h', hi, by rw [heap_alloc_old w o hlt]; exact hh⟩

theorem five_at (w : World) : FiveAt (w.alloc (.cells #[.string ⟨#[97]⟩, .string ⟨#[98, 99]⟩, .string ⟨#[32]⟩, .string ⟨#[44]⟩, .string ⟨#[120, 49]⟩] 9)) w.heap.size := by
  intro i hi
  rw [cell_of_row _ _ i _ _ _ (heap_alloc_new w _)]
  match i, hi with
  | 0, _ => exact ⟨_, by decide, rfl⟩
  | 1, _ => exact ⟨_, by decide, rfl⟩
  | 2, _ => exact ⟨_, by decide, rfl⟩
  | 3, _ => exact ⟨_, by decide, rfl⟩
  | 4, _ => exact ⟨_, by decide, rfl⟩

set_option maxHeartbeats 1600000 in
theorem text_any (W w : World) (a : Option Addr) (len cap : Nat) (hB : BytesAt W a len) (hb : Below W.heap.size W w) (hl : len ≤ 1048576) :
    Calls Tryd.prog 9 #[.slice a len cap] w fun e w' => ∃ t : ByteArray, e = .returned (.string t) ∧ t.size ≤ 14 ∧ Below w.heap.size w w' := by
  have C1 := Lib.hid (new_any W w a len cap hB hb hl)
  have C2 := Lib.hid (fun w b h => below_any W w b a len cap 8 hB h hl (by omega) (by omega))
  have C3 := Lib.hid (fun w b g h h' h'' => str_any W w b g a len cap hB h hl h' h'')
  clear hB hb
  go_enter Tryd.func9, Tryd.ntmps9
  go_wp2_with fail
  refine C1.out.mono ?_
  rintro e w1 ⟨b, rfl, hbw, hcur, hbel⟩
  have HC := Lib.hid hcur
  have HBL := Lib.hid hbel
  clear hcur hbel
  go_wp2_with fail
  refine (C2.out _ _ HC.out).mono ?_
  rintro e w2 ⟨x, rfl, x0, x1, hcur2, hg⟩
  have HC2 := Lib.hid hcur2
  have HG2 := Lib.hid (HBL.out.trans (below_cur hbw hg HBL.out.size))
  clear hcur2 hg
  go_wp2_with fail
  go_loopw [4, 5] (fun s i wr => ∃ (k : Int) (t : ByteArray), i = .int .i64 k ∧ s = .string t ∧ 0 ≤ k ∧ k ≤ 7 ∧ (t.size : Int) + 2 * k ≤ 14 ∧ CurOk W wr b a len cap ∧ Below w.heap.size w wr) (fun _ i _ => (intOf i).toNat)
  case atStart => exact ⟨x, _, rfl, rfl, by omega, by omega, by show ((0 : Nat) : Int) + 2 * x ≤ 14; omega, HC2.out, HG2.out⟩
  case round =>
    clear HC2 HG2 HC HBL
    obtain ⟨k, t, rfl, rfl, hk0, hk1, hts, hcur, hbel⟩ := hrel
    have HC := Lib.hid hcur
    have HBL := Lib.hid hbel
    clear hcur hbel
    by_cases hlt : 0 < k
    · have hlt2 := HC.out.lt
      go_wp2_with fail
      refine (C3.out _ b wr.heap.size (HC.out.alloc _) (by omega) (five_at wr)).mono ?_
      rintro e w3 ⟨t2, rfl, ht2, hcur, hgr⟩
      have HC3 := Lib.hid hcur
      have HB3 := Lib.hid ((HBL.out.alloc HBL.out.size _).trans (below_cur hbw hgr (by have := HBL.out.size; simp; omega)))
      clear hcur hgr
      have hz := Nat.le_of_eq (ByteArray.size_append (a := t) (b := t2))
      go_wp2
      go_roundw
      case rel => exact ⟨k - 1, _, rfl, rfl, by omega, by omega, by omega, HC3.out, HB3.out⟩
      case measure => simp [intOf]; omega
    · go_wp2
      go_ret
      exact ⟨t, rfl, by omega, HBL.out⟩
end Go.Proofs.YtbncjpcalheiiaaDoor
