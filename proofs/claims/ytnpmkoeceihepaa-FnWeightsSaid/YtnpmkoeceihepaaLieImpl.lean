/- The contracts of the program's isUpTo, WeightOf, positionOk and of what is left by a question. Condition: in the last, at most 24 numbers fit and a question is left. -/
import Derived.Test.YtnpmkoeceihepaaLieNotes
import Derived.Deep.RegionHeld3
namespace Go.Proofs.Ytnpmkoeceihepaa
open Go.RowKit

set_option maxHeartbeats 1600000 in
theorem implUpTo (n m : Int) (W : World) : Calls Try.prog 40 #[.int .i64 n, .int .i64 m] W fun e w' => e = .returned (.bool (decide (0 ≤ n) && decide (n ≤ m))) ∧ W = w' := by
  by_cases h0 : 0 ≤ n
  · have h1 : decide (0 ≤ n) = true := decide_eq_true h0
    go_enter Try.func40, Try.ntmps40
    go_wp2
    go_ret
    exact ⟨by rw [h1, Bool.true_and]; rfl, rfl⟩
  · have h1 : decide (0 ≤ n) = false := decide_eq_false h0
    rw [h1, Bool.false_and]
    go_enter Try.func40, Try.ntmps40
    go_wp2
    go_ret
    exact ⟨rfl, rfl⟩

set_option maxRecDepth 100000 in
set_option maxHeartbeats 1600000 in
theorem implWeight (a b q : Int) (W : World) : Calls Try.prog 24 #[.int .i64 a, .int .i64 b, .int .i64 q] W fun e w' => e = .returned (.int .i64 (wtI a b q)) ∧ W = w' := by
  have C := Lib.hid (fun n m V => implUpTo n m V)
  have HA : Hid ((decide (0 ≤ a) && decide (a ≤ 1000)) = true → 0 ≤ a ∧ a ≤ 1000) := by intro h; simpa using h
  have HB : Hid ((decide (0 ≤ b) && decide (b ≤ 1000)) = true → 0 ≤ b ∧ b ≤ 1000) := by intro h; simpa using h
  have HQ : Hid ((decide (0 ≤ q) && decide (q ≤ 40)) = true → 0 ≤ q ∧ q ≤ 40) := by intro h; simpa using h
  have CA := Lib.hid (C.out a 1000)
  have CB := Lib.hid (C.out b 1000)
  have CQ := Lib.hid (C.out q 40)
  have HR : Hid (wtI a b q = if (((decide (0 ≤ a) && decide (a ≤ 1000)) && (decide (0 ≤ b) && decide (b ≤ 1000))) && (decide (0 ≤ q) && decide (q ≤ 40))) = true then a * (q + 1) + b else -1) := rfl
  generalize (decide (0 ≤ a) && decide (a ≤ 1000)) = ta at CA HA HR
  generalize (decide (0 ≤ b) && decide (b ≤ 1000)) = tb at CB HB HR
  generalize (decide (0 ≤ q) && decide (q ≤ 40)) = tq at CQ HQ HR
  generalize wtI a b q = r at HR ⊢
  clear C
  go_enter Try.func24, Try.ntmps24
  go_wp2_with fail
  refine (CA.out _).mono ?_
  rintro e w1 ⟨rfl, rfl⟩
  cases ta with
  | false =>
    have HF : Hid (-1 = r) := HR.out.symm
    clear HR HA HB HQ CB CQ
    go_wp2
    go_ret
    exact ⟨ret_int HF.out, rfl⟩
  | true =>
    obtain ⟨a0, a1⟩ := HA.out rfl
    clear HA CA
    go_wp2_with fail
    refine (CB.out _).mono ?_
    rintro e w1 ⟨rfl, rfl⟩
    cases tb with
    | false =>
      have HF : Hid (-1 = r) := HR.out.symm
      clear HR HB HQ CQ
      go_wp2
      go_ret
      exact ⟨ret_int HF.out, rfl⟩
    | true =>
      obtain ⟨b0, b1⟩ := HB.out rfl
      clear HB CB
      go_wp2_with fail
      refine (CQ.out _).mono ?_
      rintro e w1 ⟨rfl, rfl⟩
      cases tq with
      | false =>
        have HF : Hid (-1 = r) := HR.out.symm
        clear HR HQ
        go_wp2
        go_ret
        exact ⟨ret_int HF.out, rfl⟩
      | true =>
        obtain ⟨q0, q1⟩ := HQ.out rfl
        have HF : Hid (a * (q + 1) + b = r) := HR.out.symm
        clear HQ CQ HR
        have m0 : 0 ≤ a * (q + 1) := Int.mul_nonneg a0 (by omega)
        have m1 : a * (q + 1) ≤ 1000 * 41 := Int.mul_le_mul a1 (by omega) (by omega) (by omega)
        have hq1 : IntKind.i64.wrap (q + 1) = q + 1 := by rw [IntKind.wrap_i64]; omega
        have hm : IntKind.i64.wrap (a * (q + 1)) = a * (q + 1) := by rw [IntKind.wrap_i64]; omega
        have hs : IntKind.i64.wrap (a * (q + 1) + b) = a * (q + 1) + b := by rw [IntKind.wrap_i64]; omega
        have hs' : wrap64 (wrap64 (a * (q + 1)) + b) = a * (q + 1) + b := by
          unfold wrap64; omega
        clear hm hs m0 m1
        go_wp2
        go_ret
        exact ⟨ret_int (hs'.trans HF.out), rfl⟩

set_option maxRecDepth 100000 in
set_option maxHeartbeats 1600000 in
theorem implPosOk (a b q : Int) (W : World) : Calls Try.prog 43 #[.int .i64 a, .int .i64 b, .int .i64 q] W fun e w' => e = .returned (.bool (liarIn a b q)) ∧ W = w' := by
  have C := Lib.hid (fun n m V => implUpTo n m V)
  have CA := Lib.hid (C.out a 8)
  have CB := Lib.hid (C.out b 16)
  have CQ := Lib.hid (C.out q 8)
  have HR : Hid (liarIn a b q = (((decide (0 ≤ a) && decide (a ≤ 8)) && (decide (0 ≤ b) && decide (b ≤ 16))) && (decide (0 ≤ q) && decide (q ≤ 8)))) := rfl
  generalize (decide (0 ≤ a) && decide (a ≤ 8)) = ta at CA HR
  generalize (decide (0 ≤ b) && decide (b ≤ 16)) = tb at CB HR
  generalize (decide (0 ≤ q) && decide (q ≤ 8)) = tq at CQ HR
  generalize liarIn a b q = r at HR ⊢
  clear C
  go_enter Try.func43, Try.ntmps43
  go_wp2_with fail
  refine (CA.out _).mono ?_
  rintro e w1 ⟨rfl, rfl⟩
  cases ta with
  | false =>
    have HF : Hid (false = r) := HR.out.symm
    clear HR CB CQ
    go_wp2
    go_ret
    exact ⟨ret_bool HF.out, rfl⟩
  | true =>
    go_wp2_with fail
    refine (CB.out _).mono ?_
    rintro e w1 ⟨rfl, rfl⟩
    cases tb with
    | false =>
      have HF : Hid (false = r) := HR.out.symm
      clear HR CQ
      go_wp2
      go_ret
      exact ⟨ret_bool HF.out, rfl⟩
    | true =>
      have HF : Hid (tq = r) := HR.out.symm
      clear HR
      go_wp2_with fail
      refine (CQ.out _).mono ?_
      rintro e w1 ⟨rfl, rfl⟩
      go_wp2
      go_ret
      exact ⟨ret_bool HF.out, rfl⟩

set_option maxRecDepth 100000 in
set_option maxHeartbeats 3200000 in
theorem implLeft (a b q x y : Nat) (hab : a + b ≤ 24) (hq1 : 1 ≤ q) (hq : q ≤ 8) (hx : x ≤ a) (hy : y ≤ b) (W : World) :
    Calls Try.prog 58 #[posV a b q, .int .i64 x, .int .i64 y] W fun e w' => e = .returned (.tuple #[posV x (y + a - x) (q - 1), posV (a - x) (b - y + x) (q - 1)]) ∧ Below W.heap.size W w' := by
  have h1 : IntKind.i64.wrap ((y : Int) + a) = (y : Int) + a := by rw [IntKind.wrap_i64]; omega
  have h2 : IntKind.i64.wrap ((y : Int) + a - x) = ((y + a - x : Nat) : Int) := by rw [IntKind.wrap_i64]; omega
  have h3 : IntKind.i64.wrap ((q : Int) - 1) = ((q - 1 : Nat) : Int) := by rw [IntKind.wrap_i64]; omega
  have h4 : IntKind.i64.wrap ((a : Int) - x) = ((a - x : Nat) : Int) := by rw [IntKind.wrap_i64]; omega
  have h5 : IntKind.i64.wrap ((b : Int) - y) = (b : Int) - y := by rw [IntKind.wrap_i64]; omega
  have h6 : IntKind.i64.wrap ((b : Int) - y + x) = ((b - y + x : Nat) : Int) := by rw [IntKind.wrap_i64]; omega
  generalize y + a - x = y1 at *
  generalize q - 1 = q' at *
  generalize a - x = x2 at *
  generalize b - y + x = y2 at *
  unfold posV
  go_enter Try.func58, Try.ntmps58
  go_wp2_with fail
  go_region
  all_goals
    go_wp2
    refine bodyPost_ret (v := .tuple #[.agg #[.int .i64 x, .int .i64 y1, .int .i64 q'], .agg #[.int .i64 x2, .int .i64 y2, .int .i64 q']]) (by simp [results, Try.results58, go_sem]) rfl ⟨rfl, ?_⟩
    exact ((((((Below.refl _ W).alloc (Nat.le_refl _) _).alloc (by simp) _).alloc (by simp; omega) _).alloc (by simp; omega) _).alloc (by simp; omega) _).drew
end Go.Proofs.Ytnpmkoeceihepaa
