/- The contracts of the program's intervals: isOne, halves and pool; and of badSetOk. Conditions: an interval within the first ten items. -/
import Derived.Test.YtfopallbhfcppaaHalfSpec
import Derived.Test.YtfopallbhfcppaaIsSet
import Derived.Test.YtfopallbhfcppaaBitsImpl
import Derived.Test.YtfopallbhfcppaaGWei
namespace Go.Proofs.Ytfopallbhfcppaa
open Go.RowKit

/-- An interval. -/
def ivV (a b : Nat) : Value := .agg #[.int .i64 (a : Int), .int .i64 (b : Int)]

/-- Two intervals in a row. -/
def TwoIv (w : World) (k a b c d : Nat) : Prop := w.cell? ⟨k, 0, none⟩ = some (.int .i64 (a : Int)) ∧ w.cell? ⟨k, 1, none⟩ = some (.int .i64 (b : Int)) ∧ w.cell? ⟨k, 2, none⟩ = some (.int .i64 (c : Int)) ∧ w.cell? ⟨k, 3, none⟩ = some (.int .i64 (d : Int)) ∧ k < w.heap.size
theorem TwoIv.below {w w' : World} {k a b c d : Nat} (h : TwoIv w k a b c d) (hb : Below w.heap.size w w') : TwoIv w' k a b c d := by
  obtain ⟨e0, e1, e2, e3, hlt⟩ := h
  refine ⟨?_, ?_, ?_, ?_, Nat.lt_of_lt_of_le hlt hb.size⟩
  · rw [hb.cell (p := ⟨k, 0, none⟩) hlt]; exact e0
  · rw [hb.cell (p := ⟨k, 1, none⟩) hlt]; exact e1
  · rw [hb.cell (p := ⟨k, 2, none⟩) hlt]; exact e2
  · rw [hb.cell (p := ⟨k, 3, none⟩) hlt]; exact e3
theorem TwoIv.new (w : World) (ty : TypeId) (a b c d : Nat) : TwoIv (w.alloc (.cells #[.int .i64 (a : Int), .int .i64 (b : Int), .int .i64 (c : Int), .int .i64 (d : Int)] ty)) w.heap.size a b c d := by
  refine ⟨?_, ?_, ?_, ?_, ?_⟩ <;> simp

theorem TwoIv.grown {w w' : World} {row : Option Nat} {k a b c d : Nat} (h : TwoIv w k a b c d) (hg : w.grownBy w' row) (hne : row ≠ some k) : TwoIv w' k a b c d := by
  obtain ⟨e0, e1, e2, e3, hlt⟩ := h
  have hb := hg.block k hlt (Ne.symm hne)
  refine ⟨?_, ?_, ?_, ?_, Nat.lt_of_lt_of_le hlt (Only.of_grown hg).size⟩
  · rw [World.cell?_of_block (w := w) (a := ⟨k, 0, none⟩) hb]; exact e0
  · rw [World.cell?_of_block (w := w) (a := ⟨k, 1, none⟩) hb]; exact e1
  · rw [World.cell?_of_block (w := w) (a := ⟨k, 2, none⟩) hb]; exact e2
  · rw [World.cell?_of_block (w := w) (a := ⟨k, 3, none⟩) hb]; exact e3
theorem TwoIv.alloc {w : World} {k a b c d : Nat} (h : TwoIv w k a b c d) (o : Obj) : TwoIv (w.alloc o) k a b c d := h.below (alloc_below _ _)

set_option maxHeartbeats 1600000 in
theorem implIsOne (a b : Nat) (h : a ≤ b) (hb : b ≤ 10) (w : World) : Calls Try.prog 45 #[ivV a b] w fun e w' => e = .returned (.bool (decide ((b : Int) - a = 1))) ∧ Below w.heap.size w w' := by
  have P0 := TwoAt.new w 49 (.int .i64 (a : Int)) (.int .i64 (b : Int))
  have B0 := Lib.hid (alloc_below w (.cells #[.int .i64 (a : Int), .int .i64 (b : Int)] 49))
  generalize hX : w.alloc (.cells #[.int .i64 (a : Int), .int .i64 (b : Int)] 49) = X at P0 B0
  obtain ⟨e0, e1, -⟩ := P0
  have hw : IntKind.i64.wrap ((b : Int) - (a : Int)) = (b : Int) - a := by rw [IntKind.wrap_i64]; omega
  unfold ivV
  go_enter Try.func45, Try.ntmps45
  go_wp2
  go_ret
  exact ⟨rfl, B0.out⟩

theorem half_mid' {a b : Nat} (h : a ≤ b) (hb : b ≤ 10) : IntKind.i64.wrap ((b : Int) - (a : Int)) = (b : Int) - a ∧ IntKind.i64.wrap (((b : Int) - (a : Int)).tdiv 2) = (midN a b : Int) - a ∧
    IntKind.i64.wrap ((a : Int) + ((midN a b : Int) - a)) = (midN a b : Int) := by
  have hd : ((b : Int) - (a : Int)).tdiv 2 = (midN a b : Int) - a := by
    rw [Int.tdiv_eq_ediv_of_nonneg (by omega)]
    unfold midN
    omega
  have hm : midN a b ≤ 10 := by unfold midN; omega
  rw [hd]
  refine ⟨?_, ?_, ?_⟩ <;> (rw [IntKind.wrap_i64]; omega)

/-- What halves gives back. -/
def Halves (a b : Nat) (w : World) (e : Ending) (w' : World) : Prop := ∃ k, e = .returned (.slice (some ⟨k, 0, none⟩) 2 2) ∧ TwoIv w' k a (midN a b) (midN a b) b ∧ w.heap.size ≤ k ∧ Below w.heap.size w w'

set_option maxHeartbeats 1600000 in
theorem implHalves (a b : Nat) (h : a ≤ b) (hb : b ≤ 10) (w : World) : Calls Try.prog 46 #[ivV a b] w (Halves a b w) := by
  have P0 := TwoAt.new w 49 (.int .i64 (a : Int)) (.int .i64 (b : Int))
  have B0 := alloc_below w (.cells #[.int .i64 (a : Int), .int .i64 (b : Int)] 49)
  generalize hX : w.alloc (.cells #[.int .i64 (a : Int), .int .i64 (b : Int)] 49) = X at P0 B0
  obtain ⟨e0, e1, hlt⟩ := P0
  obtain ⟨v1, v2, v3⟩ := half_mid' h hb
  unfold Halves
  generalize midN a b = m at v2 v3 ⊢
  have T1 := Lib.hid (TwoIv.new X 49 a m m b)
  have B1 := Lib.hid (below_up B0 (alloc_below X (.cells #[.int .i64 (a : Int), .int .i64 (m : Int), .int .i64 (m : Int), .int .i64 (b : Int)] 49)))
  have S1 : Hid (w.heap.size ≤ X.heap.size) := B0.size
  clear B0 hlt
  unfold ivV
  go_enter Try.func46, Try.ntmps46
  go_wp2
  go_ret
  exact ⟨_, rfl, T1.out, S1.out, B1.out⟩

set_option maxHeartbeats 1600000 in
theorem implAllN (k : Nat) (hk : k ≤ 10) (w : World) : Calls Try.prog 57 #[.int .i64 (k : Int)] w fun e w' => e = .returned (.int .i64 (2 ^ k - 1)) ∧ w = w' := by
  obtain ⟨q1, q2, q3⟩ := pow_in hk
  have k0 : (0 : Int) ≤ (k : Int) := by omega
  have hw : IntKind.i64.wrap ((2 : Int) ^ k - 1) = 2 ^ k - 1 := by rw [IntKind.wrap_i64]; omega
  go_enter Try.func57, Try.ntmps57
  go_wp2
  go_ret
  exact ⟨ret_int (by first | exact hw | rfl), rfl⟩

theorem span_left {a b : Nat} (h : a < b) (hb : b ≤ 10) : bits .andNot .i64 (2 ^ b - 1) (2 ^ a - 1) = spanI a b := by
  have h1 := two_pow_in b hb
  have h2 := two_pow_in a (by omega)
  have h3 : (2 : Int) ^ a ≤ 2 ^ b := by exact_mod_cast Nat.pow_le_pow_right (by decide) (Nat.le_of_lt h)
  have ht : topI (b : Int) = 2 ^ b - 1 := by unfold topI; rw [Int.toNat_natCast]
  have hs : spanI a b = 2 ^ b - 2 ^ a := rfl
  generalize (2 : Int) ^ a = x at h2 h3 hs ⊢
  have hk := top_left (n := (b : Int)) (x := x - 1) (by omega) (by omega) (by omega) (by rw [ht]; omega)
  rw [ht] at hk
  rw [hk, hs]
  omega

set_option maxRecDepth 100000 in
set_option maxHeartbeats 1600000 in
theorem implPool (a b : Nat) (h : a < b) (hb : b ≤ 10) (w : World) : Calls Try.prog 47 #[ivV a b] w fun e w' => e = .returned (.int .i64 (spanI a b)) ∧ Below w.heap.size w w' := by
  have P0 := TwoAt.new w 49 (.int .i64 (a : Int)) (.int .i64 (b : Int))
  have B0 := Lib.hid (alloc_below w (.cells #[.int .i64 (a : Int), .int .i64 (b : Int)] 49))
  generalize hX : w.alloc (.cells #[.int .i64 (a : Int), .int .i64 (b : Int)] 49) = X at P0 B0
  have CA := Lib.hid (fun W => implAllN a (by omega) W)
  have CB := Lib.hid (fun W => implAllN b hb W)
  have HS := span_left h hb
  generalize spanI a b = x at HS ⊢
  generalize (2 : Int) ^ a - 1 = p at CA HS
  generalize (2 : Int) ^ b - 1 = q at CB HS
  obtain ⟨e0, e1, -⟩ := P0
  unfold ivV
  go_enter Try.func47, Try.ntmps47
  go_wp2
  go_quiet (first | (go_at_call 57; exact quiet_of (CA.out _)) | (go_at_call 57; exact quiet_of (CB.out _)) | fail)
  go_wp2
  go_ret
  exact ⟨rfl, below_drewN B0.out _⟩

theorem okAll_split (n p : Int) : okAll n p = (itemsB n && poolB n p) := rfl

set_option maxHeartbeats 1600000 in
theorem implBadOk (n p : Int) (w : World) : Calls Try.prog 44 #[.int .i64 n, .int .i64 p] w fun e w' => e = .returned (.bool (okAll n p)) ∧ w = w' := by
  have CI := Lib.hid (fun W => implItemsOk n W)
  have CP : Hid (itemsB n = true → ∀ W, Calls Try.prog 70 #[.int .i64 n, .int .i64 p] W fun e w' => e = .returned (.bool (poolB n p)) ∧ W = w') := fun h W => by
    have hh : 1 ≤ n ∧ n ≤ 10 := by unfold itemsB at h; simpa using h
    exact implIsSet n p hh.1 hh.2 W
  rw [okAll_split]
  generalize itemsB n = i at CI CP ⊢
  generalize poolB n p = q at CP ⊢
  cases i with
  | false =>
    go_enter Try.func44, Try.ntmps44
    go_wp2_with fail
    refine (CI.out _).mono ?_
    rintro e w1 ⟨rfl, rfl⟩
    go_wp2
    go_ret
    exact ⟨rfl, rfl⟩
  | true =>
    have CQ := Lib.hid (CP.out rfl)
    clear CP
    go_enter Try.func44, Try.ntmps44
    go_wp2_with fail
    refine (CI.out _).mono ?_
    rintro e w1 ⟨rfl, rfl⟩
    go_wp2_with fail
    refine (CQ.out _).mono ?_
    rintro e w1 ⟨rfl, rfl⟩
    go_wp2
    go_ret
    exact ⟨rfl, rfl⟩
end Go.Proofs.Ytfopallbhfcppaa
