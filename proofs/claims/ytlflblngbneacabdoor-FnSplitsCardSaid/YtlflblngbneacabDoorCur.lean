/- The contracts of the model's cursor over drawn bytes: it gives numbers within their ranges and writes into its own memory alone. Condition: the slice that came in has at most 1048576 bytes. -/
import Derived.Test.YtlflblngbneacabDoorGBase
import Derived.BigQuiet
import Derived.Deep.QuietTactic
import Derived.OneCell
import Derived.OwnWalk
import Derived.Maps.AppendAt
import Derived.Laws.BitsLemmas
namespace Go.Proofs.YtlflblngbneacabDoor
open Go.RowKit

/-- The slice that came in reads as bytes. -/
def BytesAt (w : World) (a : Option Addr) (len : Nat) : Prop :=
  len = 0 ∨ ∃ bb o, a = some ⟨bb, o, none⟩ ∧ ∀ i, i < len → ∃ z : Int, 0 ≤ z ∧ z ≤ 255 ∧ w.cell? ⟨bb, o + i, none⟩ = some (.int .u8 z)

/-- Block b of the world w is a cursor over the slice; of what was there in W nothing has turned. -/
def CurOk (W w : World) (b : Nat) (a : Option Addr) (len cap : Nat) : Prop :=
  Below W.heap.size W w ∧ W.heap.size ≤ b ∧ ∃ (i : Nat) (h : Int), i ≤ len ∧ w.heap[b]? = some (.cells #[.slice a len cap, .int .i64 i, .int .i64 h] 145 (0, 0))

theorem i64_and255 (n : Int) : bits .and .i64 n 255 = n % 256 := by
  have h127 : (BitVec.ofInt 64 255).toNat = 2 ^ 8 - 1 := by decide
  have key : (BitVec.ofInt 64 n &&& BitVec.ofInt 64 255).toNat = (n % ((2 ^ 64 : Nat) : Int)).toNat % 2 ^ 8 := by
    rw [BitVec.toNat_and, BitVec.toNat_ofInt, h127, Nat.and_two_pow_sub_one_eq_mod]
  show IntKind.i64.wrap ((BitVec.ofInt 64 n &&& BitVec.ofInt 64 255).toNat : Nat) = n % 256
  rw [key, IntKind.wrap_i64]
  omega

theorem grown_one (w : World) (b j : Nat) (v : Value) : w.grownBy (w.setCell ⟨b, j, none⟩ v) (some b) :=
  ⟨rfl, rfl, rfl, by simp [World.setCell], fun k _ hne => Below.heap_setCell _ _ _ _ (by intro e; apply hne; rw [e])⟩

theorem grown_drewN {w w' : World} {row : Option Nat} (h : w.grownBy w' row) (n : Nat) : w.grownBy (w'.drewN n) row := ⟨h.os, h.tape, h.output, h.size, h.block⟩

set_option maxHeartbeats 1600000 in
theorem byte_any (W w : World) (b : Nat) (a : Option Addr) (len cap : Nat) (hB : BytesAt W a len) (hC : CurOk W w b a len cap) (hl : len ≤ 1048576) :
    Calls Tryd.prog 85 #[.pointer (some ⟨b, 0, none⟩)] w fun e w' => ∃ x : Int, e = .returned (.int .i64 x) ∧ 0 ≤ x ∧ x ≤ 255 ∧ CurOk W w' b a len cap ∧ w.grownBy w' (some b) := by
  obtain ⟨hb, hbb, i, h, hi, hh⟩ := hC
  have c0 : w.cell? ⟨b, 0, none⟩ = some (.slice a len cap) := by rw [cell_of_row w b 0 _ _ _ hh]; rfl
  have c1 : w.cell? ⟨b, 1, none⟩ = some (.int .i64 i) := by rw [cell_of_row w b 1 _ _ _ hh]; rfl
  have c2 : w.cell? ⟨b, 2, none⟩ = some (.int .i64 h) := by rw [cell_of_row w b 2 _ _ _ hh]; rfl
  have f1 := frozen_of_row w b 1 _ _ hh
  have f2 := frozen_of_row w b 2 _ _ hh
  have HH := Lib.hid hh
  clear hh
  by_cases hlt : (i : Int) < (len : Int)
  · rcases hB with rfl | ⟨bb, o, rfl, hz⟩
    · omega
    obtain ⟨z, z0, z1, hc⟩ := hz i (by omega)
    have hbbl := World.block_lt_of_cell? W _ hc
    have cz : w.cell? ⟨bb, o + i, none⟩ = some (.int .u8 z) := by rw [hb.cell (p := ⟨bb, o + i, none⟩) hbbl]; exact hc
    clear hc hz
    have hbbl2 : bb < W.heap.size := hbbl
    clear hbbl
    go_enter Tryd.func85, Tryd.ntmps85
    go_wp2
    generalize wrap64 (wrap64 (h * 6364136223846793005) + 1442695040888963407) = h2
    have HH2 := Lib.hid (heap_setCell_same w b 2 _ _ (.int .i64 h2) HH.out)
    have HG := Lib.hid (grown_one w b 2 (.int .i64 h2))
    have hd : (⟨bb, o + i, none⟩ : Addr) ≠ ⟨b, 2, none⟩ := by intro e; injection e with e1; omega
    have cz2 : (w.setCell ⟨b, 2, none⟩ (.int .i64 h2)).cell? ⟨bb, o + i, none⟩ = some (.int .u8 z) := by rw [World.cell?_of_block (Below.heap_setCell _ _ _ _ (by show bb ≠ b; omega))]; exact cz
    generalize w.setCell ⟨b, 2, none⟩ (.int .i64 h2) = w2 at HH2 HG cz2 ⊢
    have d0 : w2.cell? ⟨b, 0, none⟩ = some (.slice (some ⟨bb, o, none⟩) len cap) := by rw [cell_of_row w2 b 0 _ _ _ HH2.out]; rfl
    have d1 : w2.cell? ⟨b, 1, none⟩ = some (.int .i64 i) := by rw [cell_of_row w2 b 1 _ _ _ HH2.out]; rfl
    have d2 : w2.cell? ⟨b, 2, none⟩ = some (.int .i64 h2) := by rw [cell_of_row w2 b 2 _ _ _ HH2.out]; rfl
    have g1 := frozen_of_row w2 b 1 _ _ HH2.out
    clear c0 c1 c2 f1 f2 cz hd
    have k255 := i64_and255
    have i0 : (0 : Int) ≤ (i : Int) := by omega
    go_quiet (fail)
    generalize bits BinOp.xor IntKind.i64 (h2 / 8589934592) (h2 / 35184372088832) = y
    have y0 : 0 ≤ y % 256 := by omega
    have y1 : y % 256 ≤ 255 := by omega
    go_wp2
    go_quiet (fail)
    go_wp2
    go_quiet (fail)
    go_wp2
    go_ret
    have HH3 := heap_setCell_same w2 b 1 _ _ (.int .i64 ((i : Int) + 1)) HH2.out
    have hg2 : w.grownBy (w2.setCell ⟨b, 1, none⟩ (.int .i64 ((i : Int) + 1))) (some b) := HG.out.trans (grown_one w2 b 1 _)
    exact ⟨_, rfl, by omega, by omega, ⟨below_drewN (hb.grown hg2 hb.size (fun k hk => by cases hk; exact hbb)) _, hbb, i + 1, h2, by omega, HH3⟩, grown_drewN hg2 _⟩
  · go_enter Tryd.func85, Tryd.ntmps85
    go_wp2
    generalize wrap64 (wrap64 (h * 6364136223846793005) + 1442695040888963407) = h2
    have HH2 := Lib.hid (heap_setCell_same w b 2 _ _ (.int .i64 h2) HH.out)
    have HG := Lib.hid (grown_one w b 2 (.int .i64 h2))
    generalize w.setCell ⟨b, 2, none⟩ (.int .i64 h2) = w2 at HH2 HG ⊢
    have d0 : w2.cell? ⟨b, 0, none⟩ = some (.slice a len cap) := by rw [cell_of_row w2 b 0 _ _ _ HH2.out]; rfl
    have d1 : w2.cell? ⟨b, 1, none⟩ = some (.int .i64 i) := by rw [cell_of_row w2 b 1 _ _ _ HH2.out]; rfl
    have d2 : w2.cell? ⟨b, 2, none⟩ = some (.int .i64 h2) := by rw [cell_of_row w2 b 2 _ _ _ HH2.out]; rfl
    clear c0 c1 c2 f1 f2
    have k255 := i64_and255
    have i0 : (0 : Int) ≤ (i : Int) := by omega
    go_quiet (fail)
    generalize bits BinOp.xor IntKind.i64 (h2 / 8589934592) (h2 / 35184372088832) = y
    have y0 : 0 ≤ y % 256 := by omega
    have y1 : y % 256 ≤ 255 := by omega
    go_wp2
    go_quiet (fail)
    go_wp2
    go_ret
    exact ⟨_, rfl, y0, y1, ⟨below_drewN (below_drewN (hb.grown HG.out hb.size (fun k hk => by cases hk; exact hbb)) _) _, hbb, i, h2, hi, HH2.out⟩, grown_drewN (grown_drewN HG.out _) _⟩

theorem CurOk.lt {W w : World} {b : Nat} {a : Option Addr} {len cap : Nat} (h : CurOk W w b a len cap) : b < w.heap.size := by
  obtain ⟨_, _, i, h', _, hh⟩ := h
  exact (Array.getElem?_eq_some_iff.1 hh).1

set_option maxHeartbeats 1600000 in
theorem new_any (W w : World) (a : Option Addr) (len cap : Nat) (hB : BytesAt W a len) (hb : Below W.heap.size W w) (hl : len ≤ 1048576) :
    Calls Tryd.prog 66 #[.slice a len cap] w fun e w' => ∃ b, e = .returned (.pointer (some ⟨b, 0, none⟩)) ∧ w.heap.size ≤ b ∧ CurOk W w' b a len cap ∧ Below w.heap.size w w' := by
  have HZ : Hid (∀ i, i < len → ∃ bb o z, a = some ⟨bb, o, none⟩ ∧ 0 ≤ z ∧ z ≤ 255 ∧ w.cell? ⟨bb, o + i, none⟩ = some (.int .u8 z)) := by
    intro i hi
    rcases hB with rfl | ⟨bb, o, rfl, hz⟩
    · omega
    obtain ⟨z, z0, z1, hc⟩ := hz i hi
    have hbbl := World.block_lt_of_cell? W _ hc
    exact ⟨bb, o, z, rfl, z0, z1, by rw [hb.cell (p := ⟨bb, o + i, none⟩) hbbl]; exact hc⟩
  have HB := Lib.hid hb
  clear hB hb
  go_enter Tryd.func66, Tryd.ntmps66
  go_wp2
  go_loop [3, 4] (fun h i => ∃ (k : Nat) (q : Int), k ≤ len ∧ i = .int .i64 k ∧ h = .int .i64 q) (fun _ i => len - (intOf i).toNat)
  case atStart => exact ⟨0, _, Nat.zero_le _, rfl, rfl⟩
  case round =>
    obtain ⟨k, q, hk, rfl, rfl⟩ := hrel
    by_cases hlt : (k : Int) < (len : Int)
    · by_cases h4 : (k : Int) < 4000
      · obtain ⟨bb, o, z, rfl, z0, z1, cz⟩ := HZ.out k (by omega)
        have b1 : decide ((k : Int) < (len : Int)) = true := decide_eq_true hlt
        have b2 : decide ((k : Int) < 4000) = true := decide_eq_true h4
        have i0 : (0 : Int) ≤ (k : Int) := by omega
        go_wp2
        go_round
        case rel => exact ⟨k + 1, _, by omega, by go_num, rfl⟩
        case measure => simp [intOf]; omega
      · have b1 : decide ((k : Int) < (len : Int)) = true := decide_eq_true hlt
        have b2 : decide ((k : Int) < 4000) = false := decide_eq_false h4
        go_wp2
        go_ret
        exact ⟨w.heap.size, rfl, Nat.le_refl _, ⟨HB.out.alloc HB.out.size _, HB.out.size, 0, q, Nat.zero_le _, heap_alloc_new w _⟩, (Below.refl _ _).alloc (Nat.le_refl _) _⟩
    · have b1 : decide ((k : Int) < (len : Int)) = false := decide_eq_false hlt
      go_wp2
      go_ret
      exact ⟨w.heap.size, rfl, Nat.le_refl _, ⟨HB.out.alloc HB.out.size _, HB.out.size, 0, q, Nat.zero_le _, heap_alloc_new w _⟩, (Below.refl _ _).alloc (Nat.le_refl _) _⟩

theorem below_cur {w w' : World} {b : Nat} {B : Nat} (hB : B ≤ b) (h : w.grownBy w' (some b)) (hw : B ≤ w.heap.size) : Below B w w' :=
  (Below.refl B w).grown h hw (fun k hk => by cases hk; exact hB)

set_option maxHeartbeats 1600000 in
theorem new17_any (W w : World) (a : Option Addr) (len cap : Nat) (n : Int) (hB : BytesAt W a len) (hb : Below W.heap.size W w) (hl : len ≤ 1048576) (h0 : 0 ≤ n) (h1 : n ≤ 1000000000) :
    Calls Tryd.prog 72 #[.slice a len cap, .int .i64 n] w fun e w' => ∃ b, e = .returned (.pointer (some ⟨b, 0, none⟩)) ∧ w.heap.size ≤ b ∧ CurOk W w' b a len cap ∧ Below w.heap.size w w' := by
  have C1 := Lib.hid (new_any W w a len cap hB hb hl)
  have C2 := Lib.hid (fun w b h => byte_any W w b a len cap hB h hl)
  clear hB hb
  go_enter Tryd.func72, Tryd.ntmps72
  go_wp2_with fail
  refine C1.out.mono ?_
  rintro e w1 ⟨b, rfl, hbw, hcur, hbel⟩
  have HC := Lib.hid hcur
  have HBL := Lib.hid hbel
  clear hcur hbel
  go_wp2_with fail
  go_loopw [6] (fun i wr => ∃ k : Int, i = .int .i64 k ∧ 0 ≤ k ∧ k ≤ n ∧ CurOk W wr b a len cap ∧ Below w.heap.size w wr) (fun i _ => (n - intOf i).toNat)
  case atStart => exact ⟨0, rfl, by omega, by omega, HC.out, HBL.out⟩
  case round =>
    clear HC HBL
    obtain ⟨k, rfl, hk0, hk1, hcur, hbel⟩ := hrel
    have HC := Lib.hid hcur
    have HBL := Lib.hid hbel
    clear hcur hbel
    by_cases hlt : k < n
    · go_wp2_with fail
      refine (C2.out _ _ HC.out).mono ?_
      rintro e w2 ⟨x, rfl, _, _, hcur2, hg⟩
      have HC2 := Lib.hid hcur2
      have HG := Lib.hid hg
      clear hcur2 hg
      go_wp2
      go_roundw
      case rel => exact ⟨k + 1, rfl, by omega, by omega, HC2.out, HBL.out.trans (below_cur hbw HG.out HBL.out.size)⟩
      case measure => simp [intOf]; omega
    · go_wp2
      go_ret
      exact ⟨b, rfl, hbw, HC.out, HBL.out⟩

set_option maxHeartbeats 1600000 in
theorem makeNum_any (W w : World) (a : Option Addr) (len cap : Nat) (n : Int) (hB : BytesAt W a len) (hb : Below W.heap.size W w) (hl : len ≤ 1048576) (h0 : 0 ≤ n) (h1 : n ≤ 1000000000) :
    Calls Tryd.prog 35 #[.slice a len cap, .int .i64 n] w fun e w' => ∃ x : Int, e = .returned (.int .i64 x) ∧ 0 ≤ x ∧ x ≤ 65535 ∧ Below w.heap.size w w' := by
  have C1 := Lib.hid (new17_any W w a len cap n hB hb hl h0 h1)
  have C2 := Lib.hid (fun w b h => byte_any W w b a len cap hB h hl)
  clear hB hb
  go_enter Tryd.func35, Tryd.ntmps35
  go_wp2_with fail
  refine C1.out.mono ?_
  rintro e w1 ⟨b, rfl, hbw, hcur, hbel⟩
  have HC := Lib.hid hcur
  have HBL := Lib.hid hbel
  clear hcur hbel
  go_wp2_with fail
  refine (C2.out _ _ HC.out).mono ?_
  rintro e w2 ⟨x, rfl, x0, x1, hcur2, hg⟩
  have HC2 := Lib.hid hcur2
  have HG := Lib.hid hg
  clear hcur2 hg
  go_wp2_with fail
  refine (C2.out _ _ HC2.out).mono ?_
  rintro e w3 ⟨y, rfl, y0, y1, hcur3, hg⟩
  have HG3 := Lib.hid hg
  clear hcur3 hg
  go_wp2
  go_ret
  have hA := HBL.out.trans (below_cur hbw HG.out HBL.out.size)
  exact ⟨_, rfl, by omega, by omega, hA.trans (below_cur hbw HG3.out hA.size)⟩

set_option maxHeartbeats 800000 in
theorem below_any (W w : World) (b : Nat) (a : Option Addr) (len cap : Nat) (n : Int) (hB : BytesAt W a len) (hC : CurOk W w b a len cap) (hl : len ≤ 1048576) (h0 : 0 < n) (h1 : n ≤ 256) :
    Calls Tryd.prog 115 #[.pointer (some ⟨b, 0, none⟩), .int .i64 n] w fun e w' => ∃ x : Int, e = .returned (.int .i64 x) ∧ 0 ≤ x ∧ x < n ∧ CurOk W w' b a len cap ∧ w.grownBy w' (some b) := by
  have C2 := Lib.hid (byte_any W w b a len cap hB hC hl)
  clear hB hC
  go_enter Tryd.func115, Tryd.ntmps115
  go_wp2_with fail
  refine C2.out.mono ?_
  rintro e w2 ⟨x, rfl, x0, x1, hcur2, hg⟩
  have HC2 := Lib.hid hcur2
  have HG := Lib.hid hg
  clear hcur2 hg
  have hm0 : 0 ≤ x % n := Int.emod_nonneg _ (by omega)
  have hm1 : x % n < n := Int.emod_lt_of_pos _ h0
  have hnz : (n == 0) = false := by rw [beq_eq_false_iff_ne]; omega
  go_wp2
  go_ret
  exact ⟨_, rfl, hm0, hm1, HC2.out, HG.out⟩

/-- What the walk is told of a slice of bytes that came in. -/
def IsBytes (w : World) (a : Option Addr) (len cap : Nat) (zs : List Int) : Prop :=
  (a = none ∧ len = 0 ∧ cap = 0 ∧ zs = []) ∨
  ∃ x, a = some x ∧ len ≤ cap ∧ cap ≤ maxLen ∧ zs.length = cap ∧ (∀ i, i < zs.length → w.cell? (x.add i) = some (.int .u8 (zs.getD i 0))) ∧ ∀ n ∈ zs, (Lit.int .u8 n).wf = true

theorem bytesAt_of {w : World} {a : Option Addr} {len cap : Nat} {zs : List Int} (h : IsBytes w a len cap zs) : BytesAt w a len := by
  rcases h with ⟨rfl, rfl, rfl, rfl⟩ | ⟨x, rfl, hl, hm, hz, hc, hs⟩
  · exact .inl rfl
  · by_cases h0 : len = 0
    · exact .inl h0
    · obtain ⟨b, o, spot⟩ := x
      have hc0 := hc 0 (by omega)
      have hspot : spot = none := by simpa [Addr.add] using World.cell?_spot hc0
      subst hspot
      refine .inr ⟨b, o, rfl, fun i hi => ?_⟩
      have h1 := hc i (by omega)
      rw [Addr.add_lit] at h1
      have hil : i < zs.length := by omega
      have h2 : zs.getD i 0 = zs[i] := by simp [List.getD_eq_getElem?_getD, List.getElem?_eq_getElem hil]
      have h3 := hs zs[i] (List.getElem_mem hil)
      have h4 : 0 ≤ zs[i] ∧ zs[i] ≤ 255 := by simpa [Lit.wf, IntKind.min, IntKind.max, IntKind.signed, IntKind.bits] using h3
      exact ⟨zs[i], h4.1, h4.2, by rw [h1, h2]⟩
theorem bytes_len {w : World} {a : Option Addr} {len cap : Nat} {zs : List Int} (h : IsBytes w a len cap zs) : len ≤ maxLen := by
  rcases h with ⟨_, rfl, _, _⟩ | ⟨_, _, hl, hm, _⟩
  · exact Nat.zero_le _
  · omega
end Go.Proofs.YtlflblngbneacabDoor
