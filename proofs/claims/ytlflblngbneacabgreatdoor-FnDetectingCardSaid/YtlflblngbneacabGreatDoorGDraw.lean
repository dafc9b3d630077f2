/- Several texts in one file; each says what it proves and under which condition. No condition. -/
import Derived.Test.YtlflblngbneacabGreatDoorGBase
import Derived.BigQuiet
import Derived.Deep.QuietTactic
import Derived.OneCell
import Derived.OwnWalk
import Derived.Maps.AppendAt
import Derived.Laws.BitsLemmas
import Derived.Test.YtlflblngbneacabGreatDoorGWei
/- The contracts of the model's cursor over drawn bytes: it gives numbers within their ranges and writes into its own memory alone. Condition: the slice that came in has at most 1048576 bytes. -/
namespace Go.Proofs.YtlflblngbneacabGreatDoor
open Go.RowKit

/-- The slice that came in reads as bytes. -/
def BytesAt (w : World) (a : Option Addr) (len : Nat) : Prop :=
  len = 0 ∨ ∃ bb o, a = some ⟨bb, o, none⟩ ∧ ∀ i, i < len → ∃ z : Int, 0 ≤ z ∧ z ≤ 255 ∧ w.cell? ⟨bb, o + i, none⟩ = some (.int .u8 z)

/-- Block b of the world w is a cursor over the slice; of what was there in W nothing has turned. -/
def CurOk (W w : World) (b : Nat) (a : Option Addr) (len cap : Nat) : Prop :=
  Below W.heap.size W w ∧ W.heap.size ≤ b ∧ ∃ (i : Nat) (h : Int), i ≤ len ∧ w.heap[b]? = some (.cells #[.slice a len cap, .int .i64 i, .int .i64 h] 132 (0, 0))

theorem i64_and255 (n : Int) : bits .and .i64 n 255 = n % 256 := by
  have h127 : (BitVec.ofInt 64 255).toNat = 2 ^ 8 - 1 := by decide
  have key : (BitVec.ofInt 64 n &&& BitVec.ofInt 64 255).toNat = (n % ((2 ^ 64 : Nat) : Int)).toNat % 2 ^ 8 := by
    rw [BitVec.toNat_and, BitVec.toNat_ofInt, h127, Nat.and_two_pow_sub_one_eq_mod]
  show IntKind.i64.wrap ((BitVec.ofInt 64 n &&& BitVec.ofInt 64 255).toNat : Nat) = n % 256
  rw [key, IntKind.wrap_i64]
  omega

theorem grown_one (w : World) (b j : Nat) (v : Value) : w.grownBy (w.setCell ⟨b, j, none⟩ v) (some b) :=
  ⟨rfl, rfl, rfl, by simp [World.setCell], fun k _ hne => Below.heap_setCell _ _ _ _ (by intro e; apply hne; rw [e])⟩

theorem grown_drewN {w w' : World} {row : Option Nat} (h : w.grownBy w' row) (n : Nat) : w.grownBy (w'.drewN n) row := ⟨h.os, h.tape, h.output, h.size, h.block⟩

set_option maxHeartbeats 1600000 in
theorem byte_any (W w : World) (b : Nat) (a : Option Addr) (len cap : Nat) (hB : BytesAt W a len) (hC : CurOk W w b a len cap) (hl : len ≤ 1048576) :
    Calls Tryz.prog 47 #[.pointer (some ⟨b, 0, none⟩)] w fun e w' => ∃ x : Int, e = .returned (.int .i64 x) ∧ 0 ≤ x ∧ x ≤ 255 ∧ CurOk W w' b a len cap ∧ w.grownBy w' (some b) := by
  obtain ⟨hb, hbb, i, h, hi, hh⟩ := hC
  have c0 : w.cell? ⟨b, 0, none⟩ = some (.slice a len cap) := by rw [cell_of_row w b 0 _ _ _ hh]; rfl
  have c1 : w.cell? ⟨b, 1, none⟩ = some (.int .i64 i) := by rw [cell_of_row w b 1 _ _ _ hh]; rfl
  have c2 : w.cell? ⟨b, 2, none⟩ = some (.int .i64 h) := by rw [cell_of_row w b 2 _ _ _ hh]; rfl
  have f1 := frozen_of_row w b 1 _ _ hh
  have f2 := frozen_of_row w b 2 _ _ hh
  have HH := Lib.hid hh
  clear hh
  by_cases hlt : (i : Int) < (len : Int)
  · rcases hB with rfl | ⟨bb, o, rfl, hz⟩
    · omega
    obtain ⟨z, z0, z1, hc⟩ := hz i (by omega)
    have hbbl := World.block_lt_of_cell? W _ hc
    have cz : w.cell? ⟨bb, o + i, none⟩ = some (.int .u8 z) := by rw [hb.cell (p := ⟨bb, o + i, none⟩) hbbl]; exact hc
    clear hc hz
    have hbbl2 : bb < W.heap.size := hbbl
    clear hbbl
    go_enter Tryz.func47, Tryz.ntmps47
    go_wp2
    generalize wrap64 (wrap64 (h * 6364136223846793005) + 1442695040888963407) = h2
    have HH2 := Lib.hid (heap_setCell_same w b 2 _ _ (.int .i64 h2) HH.out)
    have HG := Lib.hid (grown_one w b 2 (.int .i64 h2))
    have hd : (⟨bb, o + i, none⟩ : Addr) ≠ ⟨b, 2, none⟩ := by intro e; injection e with e1; omega
    have cz2 : (w.setCell ⟨b, 2, none⟩ (.int .i64 h2)).cell? ⟨bb, o + i, none⟩ = some (.int .u8 z) := by rw [World.cell?_of_block (Below.heap_setCell _ _ _ _ (by show bb ≠ b; omega))]; exact cz
    generalize w.setCell ⟨b, 2, none⟩ (.int .i64 h2) = w2 at HH2 HG cz2 ⊢
    have d0 : w2.cell? ⟨b, 0, none⟩ = some (.slice (some ⟨bb, o, none⟩) len cap) := by rw [cell_of_row w2 b 0 _ _ _ HH2.out]; rfl
    have d1 : w2.cell? ⟨b, 1, none⟩ = some (.int .i64 i) := by rw [cell_of_row w2 b 1 _ _ _ HH2.out]; rfl
    have d2 : w2.cell? ⟨b, 2, none⟩ = some (.int .i64 h2) := by rw [cell_of_row w2 b 2 _ _ _ HH2.out]; rfl
    have g1 := frozen_of_row w2 b 1 _ _ HH2.out
    clear c0 c1 c2 f1 f2 cz hd
    have k255 := i64_and255
    have i0 : (0 : Int) ≤ (i : Int) := by omega
    go_quiet (fail)
    generalize bits BinOp.xor IntKind.i64 (h2 / 8589934592) (h2 / 35184372088832) = y
    have y0 : 0 ≤ y % 256 := by omega
    have y1 : y % 256 ≤ 255 := by omega
    go_wp2
    go_quiet (fail)
    go_wp2
    go_quiet (fail)
    go_wp2
    go_ret
    have HH3 := heap_setCell_same w2 b 1 _ _ (.int .i64 ((i : Int) + 1)) HH2.out
    have hg2 : w.grownBy (w2.setCell ⟨b, 1, none⟩ (.int .i64 ((i : Int) + 1))) (some b) := HG.out.trans (grown_one w2 b 1 _)
    exact ⟨_, rfl, by omega, by omega, ⟨below_drewN (hb.grown hg2 hb.size (fun k hk => by cases hk; exact hbb)) _, hbb, i + 1, h2, by omega, HH3⟩, grown_drewN hg2 _⟩
  · go_enter Tryz.func47, Tryz.ntmps47
    go_wp2
    generalize wrap64 (wrap64 (h * 6364136223846793005) + 1442695040888963407) = h2
    have HH2 := Lib.hid (heap_setCell_same w b 2 _ _ (.int .i64 h2) HH.out)
    have HG := Lib.hid (grown_one w b 2 (.int .i64 h2))
    generalize w.setCell ⟨b, 2, none⟩ (.int .i64 h2) = w2 at HH2 HG ⊢
    have d0 : w2.cell? ⟨b, 0, none⟩ = some (.slice a len cap) := by rw [cell_of_row w2 b 0 _ _ _ HH2.out]; rfl
    have d1 : w2.cell? ⟨b, 1, none⟩ = some (.int .i64 i) := by rw [cell_of_row w2 b 1 _ _ _ HH2.out]; rfl
    have d2 : w2.cell? ⟨b, 2, none⟩ = some (.int .i64 h2) := by rw [cell_of_row w2 b 2 _ _ _ HH2.out]; rfl
    clear c0 c1 c2 f1 f2
    have k255 := i64_and255
    have i0 : (0 : Int) ≤ (i : Int) := by omega
    go_quiet (fail)
    generalize bits BinOp.xor IntKind.i64 (h2 / 8589934592) (h2 / 35184372088832) = y
    have y0 : 0 ≤ y % 256 := by omega
    have y1 : y % 256 ≤ 255 := by omega
    go_wp2
    go_quiet (fail)
    go_wp2
    go_ret
    exact ⟨_, rfl, y0, y1, ⟨below_drewN (below_drewN (hb.grown HG.out hb.size (fun k hk => by cases hk; exact hbb)) _) _, hbb, i, h2, hi, HH2.out⟩, grown_drewN (grown_drewN HG.out _) _⟩

theorem CurOk.lt {W w : World} {b : Nat} {a : Option Addr} {len cap : Nat} (h : CurOk W w b a len cap) : b < w.heap.size := by
  obtain ⟨_, _, i, h', _, hh⟩ := h
  exact (Array.getElem?_eq_some_iff.1 hh).1

set_option maxHeartbeats 1600000 in
theorem new_any (W w : World) (a : Option Addr) (len cap : Nat) (hB : BytesAt W a len) (hb : Below W.heap.size W w) (hl : len ≤ 1048576) :
    Calls Tryz.prog 40 #[.slice a len cap] w fun e w' => ∃ b, e = .returned (.pointer (some ⟨b, 0, none⟩)) ∧ w.heap.size ≤ b ∧ CurOk W w' b a len cap ∧ Below w.heap.size w w' := by
  have HZ : Hid (∀ i, i < len → ∃ bb o z, a = some ⟨bb, o, none⟩ ∧ 0 ≤ z ∧ z ≤ 255 ∧ w.cell? ⟨bb, o + i, none⟩ = some (.int .u8 z)) := by
    intro i hi
    rcases hB with rfl | ⟨bb, o, rfl, hz⟩
    · omega
    obtain ⟨z, z0, z1, hc⟩ := hz i hi
    have hbbl := World.block_lt_of_cell? W _ hc
    exact ⟨bb, o, z, rfl, z0, z1, by rw [hb.cell (p := ⟨bb, o + i, none⟩) hbbl]; exact hc⟩
  have HB := Lib.hid hb
  clear hB hb
  go_enter Tryz.func40, Tryz.ntmps40
  go_wp2
  go_loop [3, 4] (fun h i => ∃ (k : Nat) (q : Int), k ≤ len ∧ i = .int .i64 k ∧ h = .int .i64 q) (fun _ i => len - (intOf i).toNat)
  case atStart => exact ⟨0, _, Nat.zero_le _, rfl, rfl⟩
  case round =>
    obtain ⟨k, q, hk, rfl, rfl⟩ := hrel
    by_cases hlt : (k : Int) < (len : Int)
    · by_cases h4 : (k : Int) < 4000
      · obtain ⟨bb, o, z, rfl, z0, z1, cz⟩ := HZ.out k (by omega)
        have b1 : decide ((k : Int) < (len : Int)) = true := decide_eq_true hlt
        have b2 : decide ((k : Int) < 4000) = true := decide_eq_true h4
        have i0 : (0 : Int) ≤ (k : Int) := by omega
        go_wp2
        go_round
        case rel => exact ⟨k + 1, _, by omega, by go_num, rfl⟩
        case measure => simp [intOf]; omega
      · have b1 : decide ((k : Int) < (len : Int)) = true := decide_eq_true hlt
        have b2 : decide ((k : Int) < 4000) = false := decide_eq_false h4
        go_wp2
        go_ret
        exact ⟨w.heap.size, rfl, Nat.le_refl _, ⟨HB.out.alloc HB.out.size _, HB.out.size, 0, q, Nat.zero_le _, heap_alloc_new w _⟩, (Below.refl _ _).alloc (Nat.le_refl _) _⟩
    · have b1 : decide ((k : Int) < (len : Int)) = false := decide_eq_false hlt
      go_wp2
      go_ret
      exact ⟨w.heap.size, rfl, Nat.le_refl _, ⟨HB.out.alloc HB.out.size _, HB.out.size, 0, q, Nat.zero_le _, heap_alloc_new w _⟩, (Below.refl _ _).alloc (Nat.le_refl _) _⟩

theorem below_cur {w w' : World} {b : Nat} {B : Nat} (hB : B ≤ b) (h : w.grownBy w' (some b)) (hw : B ≤ w.heap.size) : Below B w w' :=
  (Below.refl B w).grown h hw (fun k hk => by cases hk; exact hB)

set_option maxHeartbeats 1600000 in
theorem new17_any (W w : World) (a : Option Addr) (len cap : Nat) (n : Int) (hB : BytesAt W a len) (hb : Below W.heap.size W w) (hl : len ≤ 1048576) (h0 : 0 ≤ n) (h1 : n ≤ 1000000000) :
    Calls Tryz.prog 42 #[.slice a len cap, .int .i64 n] w fun e w' => ∃ b, e = .returned (.pointer (some ⟨b, 0, none⟩)) ∧ w.heap.size ≤ b ∧ CurOk W w' b a len cap ∧ Below w.heap.size w w' := by
  have C1 := Lib.hid (new_any W w a len cap hB hb hl)
  have C2 := Lib.hid (fun w b h => byte_any W w b a len cap hB h hl)
  clear hB hb
  go_enter Tryz.func42, Tryz.ntmps42
  go_wp2_with fail
  refine C1.out.mono ?_
  rintro e w1 ⟨b, rfl, hbw, hcur, hbel⟩
  have HC := Lib.hid hcur
  have HBL := Lib.hid hbel
  clear hcur hbel
  go_wp2_with fail
  go_loopw [6] (fun i wr => ∃ k : Int, i = .int .i64 k ∧ 0 ≤ k ∧ k ≤ n ∧ CurOk W wr b a len cap ∧ Below w.heap.size w wr) (fun i _ => (n - intOf i).toNat)
  case atStart => exact ⟨0, rfl, by omega, by omega, HC.out, HBL.out⟩
  case round =>
    clear HC HBL
    obtain ⟨k, rfl, hk0, hk1, hcur, hbel⟩ := hrel
    have HC := Lib.hid hcur
    have HBL := Lib.hid hbel
    clear hcur hbel
    by_cases hlt : k < n
    · go_wp2_with fail
      refine (C2.out _ _ HC.out).mono ?_
      rintro e w2 ⟨x, rfl, _, _, hcur2, hg⟩
      have HC2 := Lib.hid hcur2
      have HG := Lib.hid hg
      clear hcur2 hg
      go_wp2
      go_roundw
      case rel => exact ⟨k + 1, rfl, by omega, by omega, HC2.out, HBL.out.trans (below_cur hbw HG.out HBL.out.size)⟩
      case measure => simp [intOf]; omega
    · go_wp2
      go_ret
      exact ⟨b, rfl, hbw, HC.out, HBL.out⟩

set_option maxHeartbeats 1600000 in
theorem makeNum_any (W w : World) (a : Option Addr) (len cap : Nat) (n : Int) (hB : BytesAt W a len) (hb : Below W.heap.size W w) (hl : len ≤ 1048576) (h0 : 0 ≤ n) (h1 : n ≤ 1000000000) :
    Calls Tryz.prog 9 #[.slice a len cap, .int .i64 n] w fun e w' => ∃ x : Int, e = .returned (.int .i64 x) ∧ 0 ≤ x ∧ x ≤ 65535 ∧ Below w.heap.size w w' := by
  have C1 := Lib.hid (new17_any W w a len cap n hB hb hl h0 h1)
  have C2 := Lib.hid (fun w b h => byte_any W w b a len cap hB h hl)
  clear hB hb
  go_enter Tryz.func9, Tryz.ntmps9
  go_wp2_with fail
  refine C1.out.mono ?_
  rintro e w1 ⟨b, rfl, hbw, hcur, hbel⟩
  have HC := Lib.hid hcur
  have HBL := Lib.hid hbel
  clear hcur hbel
  go_wp2_with fail
  refine (C2.out _ _ HC.out).mono ?_
  rintro e w2 ⟨x, rfl, x0, x1, hcur2, hg⟩
  have HC2 := Lib.hid hcur2
  have HG := Lib.hid hg
  clear hcur2 hg
  go_wp2_with fail
  refine (C2.out _ _ HC2.out).mono ?_
  rintro e w3 ⟨y, rfl, y0, y1, hcur3, hg⟩
  have HG3 := Lib.hid hg
  clear hcur3 hg
  go_wp2
  go_ret
  have hA := HBL.out.trans (below_cur hbw HG.out HBL.out.size)
  exact ⟨_, rfl, by omega, by omega, hA.trans (below_cur hbw HG3.out hA.size)⟩

set_option maxHeartbeats 800000 in
theorem below_any (W w : World) (b : Nat) (a : Option Addr) (len cap : Nat) (n : Int) (hB : BytesAt W a len) (hC : CurOk W w b a len cap) (hl : len ≤ 1048576) (h0 : 0 < n) (h1 : n ≤ 256) :
    Calls Tryz.prog 93 #[.pointer (some ⟨b, 0, none⟩), .int .i64 n] w fun e w' => ∃ x : Int, e = .returned (.int .i64 x) ∧ 0 ≤ x ∧ x < n ∧ CurOk W w' b a len cap ∧ w.grownBy w' (some b) := by
  have C2 := Lib.hid (byte_any W w b a len cap hB hC hl)
  clear hB hC
  go_enter Tryz.func93, Tryz.ntmps93
  go_wp2_with fail
  refine C2.out.mono ?_
  rintro e w2 ⟨x, rfl, x0, x1, hcur2, hg⟩
  have HC2 := Lib.hid hcur2
  have HG := Lib.hid hg
  clear hcur2 hg
  have hm0 : 0 ≤ x % n := Int.emod_nonneg _ (by omega)
  have hm1 : x % n < n := Int.emod_lt_of_pos _ h0
  have hnz : (n == 0) = false := by rw [beq_eq_false_iff_ne]; omega
  go_wp2
  go_ret
  exact ⟨_, rfl, hm0, hm1, HC2.out, HG.out⟩

/-- What the walk is told of a slice of bytes that came in. -/
def IsBytes (w : World) (a : Option Addr) (len cap : Nat) (zs : List Int) : Prop :=
  (a = none ∧ len = 0 ∧ cap = 0 ∧ zs = []) ∨
  ∃ x, a = some x ∧ len ≤ cap ∧ cap ≤ maxLen ∧ zs.length = cap ∧ (∀ i, i < zs.length → w.cell? (x.add i) = some (.int .u8 (zs.getD i 0))) ∧ ∀ n ∈ zs, (Lit.int .u8 n).wf = true

theorem bytesAt_of {w : World} {a : Option Addr} {len cap : Nat} {zs : List Int} (h : IsBytes w a len cap zs) : BytesAt w a len := by
  rcases h with ⟨rfl, rfl, rfl, rfl⟩ | ⟨x, rfl, hl, hm, hz, hc, hs⟩
  · exact .inl rfl
  · by_cases h0 : len = 0
    · exact .inl h0
    · obtain ⟨b, o, spot⟩ := x
      have hc0 := hc 0 (by omega)
      have hspot : spot = none := by simpa [Addr.add] using World.cell?_spot hc0
      subst hspot
      refine .inr ⟨b, o, rfl, fun i hi => ?_⟩
      have h1 := hc i (by omega)
      rw [Addr.add_lit] at h1
      have hil : i < zs.length := by omega
      have h2 : zs.getD i 0 = zs[i] := by simp [List.getD_eq_getElem?_getD, List.getElem?_eq_getElem hil]
      have h3 := hs zs[i] (List.getElem_mem hil)
      have h4 : 0 ≤ zs[i] ∧ zs[i] ≤ 255 := by simpa [Lit.wf, IntKind.min, IntKind.max, IntKind.signed, IntKind.bits] using h3
      exact ⟨zs[i], h4.1, h4.2, by rw [h1, h2]⟩
theorem bytes_len {w : World} {a : Option Addr} {len cap : Nat} {zs : List Int} (h : IsBytes w a len cap zs) : len ≤ maxLen := by
  rcases h with ⟨_, rfl, _, _⟩ | ⟨_, _, hl, hm, _⟩
  · exact Nat.zero_le _
  · omega
end Go.Proofs.YtlflblngbneacabGreatDoor

/- The contract of the model's draw of a weighing: it returns a valid one of the call's own, and writes besides into the cursor alone. Condition: from 2 to 13 coins. -/
namespace Go.Proofs.YtlflblngbneacabGreatDoor
open Go.RowKit

/-- An ascending list of numbers from 1 up to k. -/
def Upto (l : List Int) (k : Int) : Prop := l.Pairwise (· < ·) ∧ ∀ x ∈ l, 1 ≤ x ∧ x < k
theorem upto_nil (k : Int) : Upto [] k := ⟨List.Pairwise.nil, by simp⟩
theorem upto_keep {l : List Int} {k : Int} (h : Upto l k) : Upto l (k + 1) := ⟨h.1, fun x hx => by have := h.2 x hx; omega⟩
theorem upto_push {l : List Int} {k : Int} (h : Upto l k) (hk : 1 ≤ k) : Upto (l ++ [k]) (k + 1) := by
  refine ⟨?_, fun x hx => ?_⟩
  · rw [List.pairwise_append]
    refine ⟨h.1, by simp, fun a ha b hb => ?_⟩
    simp only [List.mem_singleton] at hb
    subst hb
    exact (h.2 a ha).2
  · simp only [List.mem_append, List.mem_singleton] at hx
    rcases hx with hx | rfl
    · have := h.2 x hx; omega
    · omega
theorem upto_len {l : List Int} {k : Int} (h : Upto l k) (hk : 1 ≤ k) : (l.length : Int) ≤ k - 1 := by
  rcases asc_len l 1 (k - 1) h.1 (fun x hx => by have := h.2 x hx; omega) with rfl | h
  · simp; omega
  · omega
theorem upto_side {l : List Int} {k : Int} {m : Nat} (h : Upto l k) (hm : 0 < m) (hl : m ≤ l.length) : sideB (l.take m) (k - 1) = true := by
  unfold sideB ascB
  simp only [Bool.and_eq_true, decide_eq_true_eq, List.all_eq_true]
  exact ⟨⟨h.1.sublist (List.take_sublist _ _), fun x hx => by have := h.2 x (List.mem_of_mem_take hx); omega⟩, by simp; omega⟩
/-- No number is in both lists. -/
def Apart (L R : List Int) : Prop := ∀ x ∈ L, x ∉ R
theorem apart_left {L R : List Int} {k : Int} (h : Apart L R) (hR : Upto R k) : Apart (L ++ [k]) R := fun x hx hr => by
  simp only [List.mem_append, List.mem_singleton] at hx
  rcases hx with hx | rfl
  · exact h x hx hr
  · have := hR.2 x hr; omega
theorem apart_right {L R : List Int} {k : Int} (h : Apart L R) (hL : Upto L k) : Apart L (R ++ [k]) := fun x hx hr => by
  simp only [List.mem_append, List.mem_singleton] at hr
  rcases hr with hr | rfl
  · exact h x hx hr
  · have := hL.2 x hx; omega
theorem drawn_ok {L R : List Int} {n : Int} {m : Nat} (hL : Upto L (n + 1)) (hR : Upto R (n + 1)) (ha : Apart L R) (hm : 0 < m) (h1 : m ≤ L.length) (h2 : m ≤ R.length) (n1 : 1 ≤ n) (n2 : n ≤ 13) : weighB (L.take m) (R.take m) n = true := by
  have s1 := upto_side hL hm h1
  have s2 := upto_side hR hm h2
  rw [show n + 1 - 1 = n by omega] at s1 s2
  exact weigh_of n1 n2 s1 s2 (by simp; omega) fun x hx hr => ha x (List.mem_of_mem_take hx) (List.mem_of_mem_take hr)
theorem drawn_none {n : Int} (n1 : 2 ≤ n) (n2 : n ≤ 13) : weighB [1] [2] n = true :=
  weigh_of (by omega) n2 (by unfold sideB ascB; simp; omega) (by unfold sideB ascB; simp; omega) rfl (by simp)

theorem CurOk.only {W w w' : World} {b : Nat} {a : Option Addr} {len cap : Nat} {T : Nat → Prop} (h : CurOk W w b a len cap) (ho : Only T w w') (hT : ∀ k, T k → W.heap.size ≤ k ∧ k ≠ b) : CurOk W w' b a len cap := by
  have hlt := h.lt
  obtain ⟨hb, hw, i, x, hi, hc⟩ := h
  refine ⟨hb.trans (ho.below hb.size fun k hk => (hT k hk).1), hw, i, x, hi, ?_⟩
  rw [ho.block b hlt fun e => (hT b e).2 rfl]
  exact hc

/-- The draw under way: its two variables, its two lists, the cursor. -/
structure Drawing (W0 w W : World) (b : Nat) (a : Option Addr) (len cap : Nat) (vl vr : Value) (L R : List Int) : Prop where
  cur : CurOk W0 W b a len cap
  var : VarAt W (w.heap.size + 1) vl vr
  res : VarAt W w.heap.size (.slice none 0 0) (.slice none 0 0)
  ol : Own W (w.heap.size + 2) vl L
  or_ : Own W (w.heap.size + 2) vr R
  sep : Sep vl vr
  gr : w.grownBy W (some b)
  lt : b < w.heap.size
  w0 : W0.heap.size ≤ w.heap.size


theorem Drawing.cursor {W0 w W W' : World} {b : Nat} {a : Option Addr} {len cap : Nat} {vl vr : Value} {L R : List Int} (d : Drawing W0 w W b a len cap vl vr L R) (hc : CurOk W0 W' b a len cap) (hg : W.grownBy W' (some b)) : Drawing W0 w W' b a len cap vl vr L R := by
  have T := Only.of_grown hg
  have hlt := d.lt
  exact ⟨hc, d.var.grown hg (by simp; omega), d.res.grown hg (by simp; omega), d.ol.only T fun k hk e => by have := (d.ol.blk k hk).1; simp at e; omega, d.or_.only T fun k hk e => by have := (d.or_.blk k hk).1; simp at e; omega, d.sep, d.gr.trans hg, hlt, d.w0⟩


/-- One number more in the left list. -/
theorem Drawing.left {W0 w W X W2 : World} {b : Nat} {a : Option Addr} {len cap : Nat} {vl vr v' : Value} {L R : List Int} {x : Int} (d : Drawing W0 w W b a len cap vl vr L R) (hX : Below W.heap.size W X)
    (hown : W2.ownsRow (w.heap.size + 2) 3 1 v' (L.length + 1) (L.map (Value.int .i64) ++ [.int .i64 x])) (hg : X.grownBy W2 vl.ownBlock) (hat : v'.ownBlock = vl.ownBlock ∨ v'.ownBlock = some X.heap.size) :
    Drawing W0 w (W2.setCell ⟨w.heap.size + 1, 0, none⟩ v') b a len cap v' vr (L ++ [x]) R := by
  have hlt := d.lt
  have hw0 := d.w0
  have gs := d.gr.size
  have xs := hX.size
  have TX : Only (fun k => vl.ownBlock = some k) W W2 := (Only.fresh hX).trans (Only.of_grown hg)
  have own' : Own W2 (w.heap.size + 2) v' (L ++ [x]) := by unfold Own; simpa using hown
  have bl : ∀ k, vl.ownBlock = some k → w.heap.size + 2 ≤ k := fun k hk => (d.ol.blk k hk).1
  have var2 : VarAt W2 (w.heap.size + 1) vl vr := (d.var.below hX).grown hg fun e => by have := bl _ e; omega
  have res2 : VarAt W2 w.heap.size (.slice none 0 0) (.slice none 0 0) := (d.res.below hX).grown hg fun e => by have := bl _ e; omega
  have or2 : Own W2 (w.heap.size + 2) vr R := d.or_.only TX fun k hk e => d.sep k e hk
  have cur2 : CurOk W0 W2 b a len cap := d.cur.only TX fun k hk => by have := bl k hk; omega
  have TS : Only (fun k => k = w.heap.size + 1) W2 (W2.setCell ⟨w.heap.size + 1, 0, none⟩ v') :=
    Only.of_grown (row := some (w.heap.size + 1)) (grown_one _ _ _ _) |>.mono fun k e => by simp at e; exact e.symm
  refine ⟨cur2.only TS fun k hk => by omega, var2.set0 _, res2.far _ _ (by omega), own'.setCell (by omega) _, or2.setCell (by omega) _, ?_, ?_, hlt, hw0⟩
  · intro k h1 h2
    rcases hat with e | e
    · exact d.sep k (e ▸ h1) h2
    · rw [e] at h1
      have := (d.or_.blk k h2).2
      simp at h1
      omega
  · have g1 : w.grownBy W2 (some b) := ⟨hg.os.trans (hX.os.trans d.gr.os), hg.tape.trans (hX.tape.trans d.gr.tape), hg.output.trans (hX.output.trans d.gr.output), Nat.le_trans gs (Nat.le_trans xs hg.size), fun k hk hne => by
      rw [TX.block k (by omega) fun e => by have := bl k e; omega]
      exact d.gr.block k hk hne⟩
    exact ⟨g1.os, g1.tape, g1.output, by simpa [World.setCell] using g1.size, fun k hk hne => by
      rw [Below.heap_setCell _ _ _ _ (by simp; omega)]
      exact g1.block k hk hne⟩
/-- One number more in the right list. -/
theorem Drawing.right {W0 w W X W2 : World} {b : Nat} {a : Option Addr} {len cap : Nat} {vl vr v' : Value} {L R : List Int} {x : Int} (d : Drawing W0 w W b a len cap vl vr L R) (hX : Below W.heap.size W X)
    (hown : W2.ownsRow (w.heap.size + 2) 3 1 v' (R.length + 1) (R.map (Value.int .i64) ++ [.int .i64 x])) (hg : X.grownBy W2 vr.ownBlock) (hat : v'.ownBlock = vr.ownBlock ∨ v'.ownBlock = some X.heap.size) :
    Drawing W0 w (W2.setCell ⟨w.heap.size + 1, 1, none⟩ v') b a len cap vl v' L (R ++ [x]) := by
  have hlt := d.lt
  have hw0 := d.w0
  have gs := d.gr.size
  have xs := hX.size
  have TX : Only (fun k => vr.ownBlock = some k) W W2 := (Only.fresh hX).trans (Only.of_grown hg)
  have own' : Own W2 (w.heap.size + 2) v' (R ++ [x]) := by unfold Own; simpa using hown
  have bl : ∀ k, vr.ownBlock = some k → w.heap.size + 2 ≤ k := fun k hk => (d.or_.blk k hk).1
  have var2 : VarAt W2 (w.heap.size + 1) vl vr := (d.var.below hX).grown hg fun e => by have := bl _ e; omega
  have res2 : VarAt W2 w.heap.size (.slice none 0 0) (.slice none 0 0) := (d.res.below hX).grown hg fun e => by have := bl _ e; omega
  have ol2 : Own W2 (w.heap.size + 2) vl L := d.ol.only TX fun k hk e => d.sep k hk e
  have cur2 : CurOk W0 W2 b a len cap := d.cur.only TX fun k hk => by have := bl k hk; omega
  have TS : Only (fun k => k = w.heap.size + 1) W2 (W2.setCell ⟨w.heap.size + 1, 1, none⟩ v') :=
    Only.of_grown (row := some (w.heap.size + 1)) (grown_one _ _ _ _) |>.mono fun k e => by simp at e; exact e.symm
  refine ⟨cur2.only TS fun k hk => by omega, var2.set1 _, res2.far _ _ (by omega), ol2.setCell (by omega) _, own'.setCell (by omega) _, ?_, ?_, hlt, hw0⟩
  · intro k h1 h2
    rcases hat with e | e
    · exact d.sep k h1 (e ▸ h2)
    · rw [e] at h2
      have := (d.ol.blk k h1).2
      simp at h2
      omega
  · have g1 : w.grownBy W2 (some b) := ⟨hg.os.trans (hX.os.trans d.gr.os), hg.tape.trans (hX.tape.trans d.gr.tape), hg.output.trans (hX.output.trans d.gr.output), Nat.le_trans gs (Nat.le_trans xs hg.size), fun k hk hne => by
      rw [TX.block k (by omega) fun e => by have := bl k e; omega]
      exact d.gr.block k hk hne⟩
    exact ⟨g1.os, g1.tape, g1.output, by simpa [World.setCell] using g1.size, fun k hk hne => by
      rw [Below.heap_setCell _ _ _ _ (by simp; omega)]
      exact g1.block k hk hne⟩

/-- The contract of the model's draw of a problem. -/
def MakesProb : Prop :=
  ∀ (W w : World) (a : Option Addr) (len cap : Nat), BytesAt W a len → Below W.heap.size W w → len ≤ 1048576 →
    Calls Tryz.prog 6 #[.slice a len cap] w fun e w' => ∃ n h l z, e = .returned (probV n h l z) ∧ probB n h l = true ∧ 2 ≤ n ∧ n ≤ 8 ∧ Below w.heap.size w w'
end Go.Proofs.YtlflblngbneacabGreatDoor

/- The contract of the model's making of a problem out of a code: it returns a valid one with 2 to 8 coins. Condition: the code reads as bytes. -/
namespace Go.Proofs.YtlflblngbneacabGreatDoor
open Go.RowKit

theorem once_any (W w : World) (b : Nat) (a : Option Addr) (len cap : Nat) (n : Int) (hB : BytesAt W a len) (hC : CurOk W w b a len cap) (hl : len ≤ 1048576) (h0 : 0 < n) (h1 : n ≤ 256) :
    Calls Tryz.prog 43 #[.pointer (some ⟨b, 0, none⟩), .int .i64 n] w fun e w' => ∃ t : Bool, e = .returned (.bool t) ∧ CurOk W w' b a len cap ∧ w.grownBy w' (some b) := by
  have C := Lib.hid (below_any W w b a len cap n hB hC hl h0 h1)
  clear hB hC
  go_enter Tryz.func43, Tryz.ntmps43
  go_wp2_with fail
  refine C.out.mono ?_
  rintro e w2 ⟨x, rfl, -, -, hc, hg⟩
  have HC := Lib.hid hc
  have HG := Lib.hid hg
  clear hc hg
  go_wp2
  go_ret
  exact ⟨_, rfl, HC.out, HG.out⟩

/-- Four cells of a problem in block b may be written. -/
def ProbVar (w : World) (b : Nat) (n : Int) (h l z : Bool) : Prop :=
  ProbAt w b n h l z ∧ w.frozen? ⟨b, 0, none⟩ = false ∧ w.frozen? ⟨b, 1, none⟩ = false ∧ w.frozen? ⟨b, 2, none⟩ = false ∧ w.frozen? ⟨b, 3, none⟩ = false
theorem ProbVar.new (w : World) (ty : TypeId) (n : Int) (h l z : Bool) : ProbVar (w.alloc (.cells #[.int .i64 n, .bool h, .bool l, .bool z] ty)) w.heap.size n h l z := by
  refine ⟨ProbAt.new w ty n h l z, ?_, ?_, ?_, ?_⟩ <;> simp
theorem ProbVar.only {T : Nat → Prop} {w w' : World} {b : Nat} {n : Int} {h l z : Bool} (hp : ProbVar w b n h l z) (ho : Only T w w') (hb : ¬ T b) : ProbVar w' b n h l z := by
  obtain ⟨⟨e0, e1, e2, e3, hlt⟩, f0, f1, f2, f3⟩ := hp
  have k := ho.block b hlt hb
  refine ⟨⟨?_, ?_, ?_, ?_, Nat.lt_of_lt_of_le hlt ho.size⟩, ?_, ?_, ?_, ?_⟩
  · rw [World.cell?_of_block (w := w) (a := ⟨b, 0, none⟩) k]; exact e0
  · rw [World.cell?_of_block (w := w) (a := ⟨b, 1, none⟩) k]; exact e1
  · rw [World.cell?_of_block (w := w) (a := ⟨b, 2, none⟩) k]; exact e2
  · rw [World.cell?_of_block (w := w) (a := ⟨b, 3, none⟩) k]; exact e3
  · rw [World.frozen?_of_block (w := w) (a := ⟨b, 0, none⟩) k]; exact f0
  · rw [World.frozen?_of_block (w := w) (a := ⟨b, 1, none⟩) k]; exact f1
  · rw [World.frozen?_of_block (w := w) (a := ⟨b, 2, none⟩) k]; exact f2
  · rw [World.frozen?_of_block (w := w) (a := ⟨b, 3, none⟩) k]; exact f3

theorem Only.setNew {T : Nat → Prop} {w w' : World} (h : Only T w w') {c : Nat} (hc : w.heap.size ≤ c) (o : Nat) (u : Value) : Only T w (w'.setCell ⟨c, o, none⟩ u) :=
  ⟨h.os, h.tape, h.output, by rw [setCell_size]; exact h.size, fun k hk hn => by
    rw [← h.block k hk hn]
    exact (Below.setCell (B := c) (p := ⟨c, o, none⟩) (Below.refl c w') (Nat.le_refl _) u).block k (by omega)⟩
/-- Four cells written one behind another. -/
def set4 (w : World) (b : Nat) (n : Int) (h l z : Bool) : World :=
  (((w.setCell ⟨b, 0, none⟩ (.int .i64 n)).setCell ⟨b, 1, none⟩ (.bool h)).setCell ⟨b, 2, none⟩ (.bool l)).setCell ⟨b, 3, none⟩ (.bool z)
theorem only_set4 {T : Nat → Prop} {w w' : World} (h : Only T w w') {c : Nat} (hc : w.heap.size ≤ c) (n : Int) (p l z : Bool) : Only T w (set4 w' c n p l z) :=
  (((h.setNew hc 0 _).setNew hc 1 _).setNew hc 2 _).setNew hc 3 _
theorem ProbVar.cells {w : World} {b : Nat} {n : Int} {h l z : Bool} (hp : ProbVar w b n h l z) : Cells w b 4 (fun o => if o = 0 then .int .i64 n else if o = 1 then .bool h else if o = 2 then .bool l else .bool z) :=
  ⟨hp.1.2.2.2.2, fun o ho => match o, ho with
    | 0, _ => ⟨hp.1.1, hp.2.1⟩
    | 1, _ => ⟨hp.1.2.1, hp.2.2.1⟩
    | 2, _ => ⟨hp.1.2.2.1, hp.2.2.2.1⟩
    | 3, _ => ⟨hp.1.2.2.2.1, hp.2.2.2.2⟩⟩
theorem Cells.set4 {w : World} {b : Nat} {f : Nat → Value} (h : Cells w b 4 f) (n : Int) (p l z : Bool) : ProbAt (Go.Proofs.YtlflblngbneacabGreatDoor.set4 w b n p l z) b n p l z := by
  have k := (((h.set 0 (by omega) (.int .i64 n)).set 1 (by omega) (.bool p)).set 2 (by omega) (.bool l)).set 3 (by omega) (.bool z)
  exact ⟨(k.2 0 (by omega)).1, (k.2 1 (by omega)).1, (k.2 2 (by omega)).1, (k.2 3 (by omega)).1, k.1⟩

set_option maxRecDepth 100000 in
set_option maxHeartbeats 1600000 in
theorem probDraw (W w : World) (b : Nat) (a : Option Addr) (len cap : Nat) (hB : BytesAt W a len) (hC : CurOk W w b a len cap) (hl : len ≤ 1048576) :
    Calls Tryz.prog 39 #[.pointer (some ⟨b, 0, none⟩), .int .i64 8] w fun e w' => ∃ n h l z, e = .returned (probV n h l z) ∧ 1 ≤ n ∧ n ≤ 8 ∧ (h || l) = true ∧ Only (fun k => k = b) w w' := by
  have hbw := hC.lt
  have B1 : Below w.heap.size w (w.alloc (.cells #[.int .i64 0, .bool false, .bool false, .bool false] 24)) := alloc_below _ _
  have V1 := Lib.hid (ProbVar.new w 24 0 false false false)
  have O1 := Lib.hid (Only.fresh (T := fun k => k = b) B1)
  have K1 := Lib.hid (hC.only (Only.fresh (T := fun _ => False) B1) (fun _ h => h.elim))
  generalize hX1 : w.alloc (.cells #[.int .i64 0, .bool false, .bool false, .bool false] 24) = X1 at V1 O1 K1
  have CB := Lib.hid (fun V h => below_any W V b a len cap 8 hB h hl (by omega) (by omega))
  have C4 := Lib.hid (fun V h => once_any W V b a len cap 4 hB h hl (by omega) (by omega))
  have C2 := Lib.hid (fun V h => once_any W V b a len cap 2 hB h hl (by omega) (by omega))
  have hne : ¬ w.heap.size = b := by omega
  have HNE := Lib.hid hne
  clear hC hB B1 hne
  go_enter Tryz.func39, Tryz.ntmps39
  go_wp2_with fail
  refine (CB.out _ K1.out).mono ?_
  rintro e w2 ⟨x, rfl, x0, x1, hc, hg⟩
  have T2 : Only (fun k => k = b) X1 w2 := (Only.of_grown hg).mono fun k e => by simpa using e.symm
  have V2 := Lib.hid (V1.out.only T2 HNE.out)
  have O2 := Lib.hid (O1.out.trans T2)
  have K2 := Lib.hid hc
  clear hc hg T2 hX1
  go_wp2_with fail
  refine (C4.out _ K2.out).mono ?_
  rintro e w3 ⟨t1, rfl, hc, hg⟩
  have T2 : Only (fun k => k = b) w2 w3 := (Only.of_grown hg).mono fun k e => by simpa using e.symm
  have V3 := Lib.hid (V2.out.only T2 HNE.out)
  have O3 := Lib.hid (O2.out.trans T2)
  have K3 := Lib.hid hc
  clear hc hg T2
  go_wp2_with fail
  refine (C2.out _ K3.out).mono ?_
  rintro e w4 ⟨t2, rfl, hc, hg⟩
  have T2 : Only (fun k => k = b) w3 w4 := (Only.of_grown hg).mono fun k e => by simpa using e.symm
  have V4 := Lib.hid (V3.out.only T2 HNE.out)
  have O4 := Lib.hid (O3.out.trans T2)
  have K4 := Lib.hid hc
  clear hc hg T2
  go_wp2_with fail
  refine (C2.out _ K4.out).mono ?_
  rintro e w5 ⟨t3, rfl, hc, hg⟩
  have T2 : Only (fun k => k = b) w4 w5 := (Only.of_grown hg).mono fun k e => by simpa using e.symm
  have V5 := Lib.hid (V4.out.only T2 HNE.out)
  have O5 := Lib.hid (O4.out.trans T2)
  clear hc hg T2 K4 K3 K2 K1
  obtain ⟨⟨z0, z1, z2, z3, z4⟩, y0, y1, y2, y3⟩ := V5.out
  have HC5 := Lib.hid V5.out.cells
  cases t1 with
  | false =>
    have HL : Hid ((true || t2) = true) := rfl
    go_wp2
    obtain ⟨U, hU⟩ : ∃ U, (set4 w5 w.heap.size (1 + x) true t2 t3).alloc (.cells #[.int .i64 (1 + x), .bool true, .bool t2, .bool t3] 24) = U := ⟨_, rfl⟩
    have R : ProbAt U w.heap.size (1 + x) true t2 t3 := by rw [← hU]; exact (HC5.out.set4 _ _ _ _).below (alloc_below _ _)
    have OU : Only (fun k => k = b) w U := by rw [← hU]; exact (only_set4 O5.out (Nat.le_refl _) _ _ _ _).trans (Only.fresh (alloc_below _ _))
    unfold set4 at hU
    rw [hU]
    obtain ⟨u0, u1, u2, u3, -⟩ := R
    refine bodyPost_ret (v := .agg #[.int .i64 (1 + x), .bool true, .bool t2, .bool t3]) (by simp [results, Tryz.results39, go_sem, u0, u1, u2, u3]) rfl ⟨1 + x, true, t2, t3, rfl, by omega, by omega, HL.out, OU⟩
  | true =>
    have HL : Hid ((false || true) = true) := rfl
    go_wp2
    obtain ⟨U, hU⟩ : ∃ U, (set4 w5 w.heap.size (1 + x) false true t3).alloc (.cells #[.int .i64 (1 + x), .bool false, .bool true, .bool t3] 24) = U := ⟨_, rfl⟩
    have R : ProbAt U w.heap.size (1 + x) false true t3 := by rw [← hU]; exact (HC5.out.set4 _ _ _ _).below (alloc_below _ _)
    have OU : Only (fun k => k = b) w U := by rw [← hU]; exact (only_set4 O5.out (Nat.le_refl _) _ _ _ _).trans (Only.fresh (alloc_below _ _))
    unfold set4 at hU
    rw [hU]
    obtain ⟨u0, u1, u2, u3, -⟩ := R
    refine bodyPost_ret (v := .agg #[.int .i64 (1 + x), .bool false, .bool true, .bool t3]) (by simp [results, Tryz.results39, go_sem, u0, u1, u2, u3]) rfl ⟨1 + x, false, true, t3, rfl, by omega, by omega, HL.out, OU⟩

set_option maxRecDepth 100000 in
set_option maxHeartbeats 1600000 in
theorem specMakeProb : MakesProb := by
  intro W w a len cap hB hb hl
  have V1 := Lib.hid (ProbVar.new w 24 0 false false false)
  have B1 := Lib.hid (alloc_below w (.cells #[.int .i64 0, .bool false, .bool false, .bool false] 24))
  generalize hX1 : w.alloc (.cells #[.int .i64 0, .bool false, .bool false, .bool false] 24) = X1 at V1 B1
  have s1 : Hid (X1.heap.size = w.heap.size + 1) := by unfold Hid; rw [← hX1]; simp
  have C1 := Lib.hid (new_any W X1 a len cap hB (hb.trans (B1.out.mono hb.size)) hl)
  have C2 := Lib.hid (fun V b h => probDraw W V b a len cap hB h hl)
  clear hB hb
  go_enter Tryz.func6, Tryz.ntmps6
  go_wp2_with fail
  refine C1.out.mono ?_
  rintro e w2 ⟨b, rfl, hbw, hcur, hbel⟩
  have HB := Lib.hid hbw
  have HC := Lib.hid hcur
  have V2 := Lib.hid (V1.out.only (Only.fresh (T := fun _ => False) hbel) (fun h => h))
  have B2 := Lib.hid (below_up B1.out hbel)
  clear hbw hcur hbel hX1
  go_wp2_with fail
  refine (C2.out _ _ HC.out).mono ?_
  rintro e w3 ⟨n, h, l, z, rfl, n1, n8, hhl, ho⟩
  have HNE : Hid (¬ w.heap.size = b) := by unfold Hid; have := HB.out; have := s1.out; omega
  have V3 := Lib.hid (V2.out.only ho HNE.out)
  have O3 : Hid (Below w.heap.size w w3) := B2.out.trans (ho.below B2.out.size fun k e => by have := HB.out; have := s1.out; omega)
  have HL := Lib.hid hhl
  have HC3 := Lib.hid V3.out.cells
  unfold probV
  clear hhl ho HC
  obtain ⟨⟨z0, z1, z2, z3, z4⟩, y0, y1, y2, y3⟩ := V3.out
  by_cases hn : 2 < n
  · go_wp2
    obtain ⟨U, hU⟩ : ∃ U, (set4 w3 w.heap.size n h l z).alloc (.cells #[.int .i64 n, .bool h, .bool l, .bool z] 24) = U := ⟨_, rfl⟩
    have R : ProbAt U w.heap.size n h l z := by rw [← hU]; exact (HC3.out.set4 _ _ _ _).below (alloc_below _ _)
    have OU : Only (fun _ => False) w U := by
      rw [← hU]; exact (only_set4 (Only.fresh O3.out) (Nat.le_refl _) _ _ _ _).trans (Only.fresh (alloc_below _ _))
    unfold set4 at hU
    rw [hU]
    obtain ⟨u0, u1, u2, u3, -⟩ := R
    have HP : probB n h l = true := by simp [probB, HL.out]; omega
    refine bodyPost_ret (v := .agg #[.int .i64 n, .bool h, .bool l, .bool z]) (by simp [results, Tryz.results6, go_sem, u0, u1, u2, u3]) rfl ⟨n, h, l, z, rfl, HP, by omega, by omega, OU.below (Nat.le_refl _) (fun _ h => h.elim)⟩
  · go_wp2
    obtain ⟨U, hU⟩ : ∃ U, (set4 w3 w.heap.size 2 h l z).alloc (.cells #[.int .i64 2, .bool h, .bool l, .bool z] 24) = U := ⟨_, rfl⟩
    have R : ProbAt U w.heap.size 2 h l z := by rw [← hU]; exact (HC3.out.set4 _ _ _ _).below (alloc_below _ _)
    have OU : Only (fun _ => False) w U := by
      rw [← hU]; exact (only_set4 (Only.fresh O3.out) (Nat.le_refl _) _ _ _ _).trans (Only.fresh (alloc_below _ _))
    unfold set4 at hU
    rw [hU]
    obtain ⟨u0, u1, u2, u3, -⟩ := R
    have HP : probB 2 h l = true := by simp [probB, HL.out]
    refine bodyPost_ret (v := .agg #[.int .i64 2, .bool h, .bool l, .bool z]) (by simp [results, Tryz.results6, go_sem, u0, u1, u2, u3]) rfl ⟨2, h, l, z, rfl, HP, by omega, by omega, OU.below (Nat.le_refl _) (fun _ h => h.elim)⟩
end Go.Proofs.YtlflblngbneacabGreatDoor
