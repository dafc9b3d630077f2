/- The contracts of FormatInt, in the model and in the program: both return the decimal numeral of the number. Conditions: the number fits Go's int; where the program's is called, the library's table of powers of ten is as its text lays it. -/
import Derived.Test.YtlflblngbneacaaGreatDoorGBase
import Derived.Test.YtlflblngbneacaaGreatDoorShelf
import Derived.Lib.ItoaNum
import Derived.Lib.ItoaLen
import Derived.Deep.RegionWith
import Derived.IntWalk
namespace Go.Proofs.YtlflblngbneacaaGreatDoor
open Go.RowKit

theorem dec_small (u : Nat) (h : u < 10) : Lib.decDigits u = [UInt8.ofNat (48 + u)] := by rw [Lib.decDigits, dif_pos h]
theorem dec_big (u : Nat) (h : ¬ u < 10) : Lib.decDigits u = Lib.decDigits (u / 10) ++ [UInt8.ofNat (48 + u % 10)] := by rw [Lib.decDigits, dif_neg h]

theorem below_via {W X w1 : World} (h : Below W.heap.size W X) (hb : Below X.heap.size X w1) : Below W.heap.size W w1 := h.trans (hb.mono h.size)

set_option maxHeartbeats 1600000 in
theorem specNeg (u : Nat) : ∀ (n : Int) (W : World), n = -(u : Int) → 1 ≤ u → u ≤ 9223372036854775808 →
    Calls Tryz.prog 26 #[.int .i64 n] W fun e w' => e = .returned (.string ⟨(45 :: Lib.decDigits u).toArray⟩) ∧ Below W.heap.size W w' := by
  induction u using Nat.strongRecOn with
  | _ u ih =>
    intro n W hn h1 h2
    have hneg : n < 0 := by omega
    obtain ⟨q, hq⟩ : ∃ q : Int, n.tdiv 10 = q := ⟨_, rfl⟩
    obtain ⟨r, hr⟩ : ∃ r : Int, n.tmod 10 = r := ⟨_, rfl⟩
    have hq2 : q = -((u / 10 : Nat) : Int) := by rw [← hq, hn, Int.neg_tdiv]; rfl
    have hr2 : r = -((u % 10 : Nat) : Int) := by rw [← hr, hn, Int.neg_tmod]; rfl
    have r1 : r ≤ 0 := by omega
    have r2 : -9 ≤ r := by omega
    have q1 : q ≤ 0 := by omega
    have q2 : -922337203685477580 ≤ q := by omega
    have n1 : -9223372036854775808 ≤ n := by omega
    by_cases hu : u < 10
    · have hqz : (q == 0) = true := by rw [beq_iff_eq]; omega
      have HD : Hid ((⟨(45 :: Lib.decDigits u).toArray⟩ : ByteArray) = ⟨#[45]⟩ ++ oneByte (48 - n)) := by
        apply bytes_eq
        rw [dec_small u hu, ByteArray.data_append, Array.toList_append]
        have : (48 - n).toNat = 48 + u := by omega
        simp [oneByte, this, Nat.toUInt8, UInt8.ofNat]
      generalize (⟨(45 :: Lib.decDigits u).toArray⟩ : ByteArray) = t2 at HD ⊢
      have hn2 : -9 ≤ n := by omega
      have hcv := conv_at (W.alloc (.cells #[.int .u8 (48 - n)] 5)) W.heap.size (48 - n) (by omega) (by omega) (by simp)
      have hs1 := Nat.le_of_eq (oneByte_size (48 - n))
      clear ih hq2 hr2 hn h1 h2 hu hr
      go_enter Tryz.func26, Tryz.ntmps26
      go_wp2
      go_ret
      exact ⟨ret_str HD.out.symm, (Below.refl _ _).alloc (Nat.le_refl _) _⟩
    · have hqz : (q == 0) = false := by rw [beq_eq_false_iff_ne]; omega
      have HD : Hid ((⟨(45 :: Lib.decDigits u).toArray⟩ : ByteArray) = ⟨(45 :: Lib.decDigits (u / 10)).toArray⟩ ++ oneByte (48 - r)) := by
        apply bytes_eq
        rw [dec_big u hu, ByteArray.data_append, Array.toList_append]
        have : (48 - r).toNat = 48 + u % 10 := by omega
        simp [oneByte, this, Nat.toUInt8, UInt8.ofNat]
      have C := Lib.hid (fun W' => ih (u / 10) (by omega) q W' hq2 (by omega) (by omega))
      have hts : (⟨(45 :: Lib.decDigits (u / 10)).toArray⟩ : ByteArray).size ≤ 21 := by
        have := Lib.itoa_length_le (-((u / 10 : Nat) : Int)) (by omega) (by omega)
        rw [Lib.itoa_neg _ (by omega)] at this
        exact this
      generalize (⟨(45 :: Lib.decDigits (u / 10)).toArray⟩ : ByteArray) = t at C HD hts
      generalize (⟨(45 :: Lib.decDigits u).toArray⟩ : ByteArray) = t2 at HD ⊢
      have hcv : ∀ (W' : World) (b : Nat), W'.cell? ⟨b, 0, none⟩ = some (.int .u8 (48 - r)) → (convert 73 9 (.slice (some ⟨b, 0, none⟩) 1 1)).run Tryz.prog W' = .ok (.string (oneByte (48 - r))) W' := fun W' b h => conv_at W' b _ (by omega) (by omega) h
      have hs1 := Nat.le_of_eq (oneByte_size (48 - r))
      clear ih hq2 hr2 hn h1 h2 hu
      go_enter Tryz.func26, Tryz.ntmps26
      have k1 : IntKind.i64.wrap q = q := IntWalk.i64_in _ (by omega)
      have k2 : IntKind.i64.wrap r = r := IntWalk.i64_in _ (by omega)
      have k3 : IntKind.i64.wrap (48 - r) = 48 - r := IntWalk.i64_in _ (by omega)
      have k4 : IntKind.u8.wrap (48 - r) = 48 - r := by simp [IntKind.wrap, IntKind.bits, IntKind.signed]; omega
      go_wp2_with fail
      go_region_with (go_at_call 26; refine (C.out _).mono ?_; rintro e w1 ⟨rfl, hb1⟩; obtain ⟨hc1, _⟩ := bcell hb1; have hs2 := hb1.size; have HB := Lib.hid hb1; clear hb1)
      all_goals
        go_wp2
        go_ret
        refine ⟨ret_str HD.out.symm, ?_⟩
        first
          | exact below_via ((Below.refl _ _).drew) HB.out
          | exact (below_via ((Below.refl _ _).drew) HB.out).alloc hs2 _
          | exact below_via (((Below.refl _ _).alloc (Nat.le_refl _) _).drew) HB.out

set_option maxHeartbeats 1600000 in
theorem specNat (n : Int) (W : World) (h0 : 0 ≤ n) (h1 : n ≤ 9223372036854775807) :
    Calls Tryz.prog 26 #[.int .i64 n] W fun e w' => e = .returned (.string ⟨(Lib.decDigits n.toNat).toArray⟩) ∧ Below W.heap.size W w' := by
  have hnn : ¬ n < 0 := by omega
  generalize hT : (⟨(Lib.decDigits n.toNat).toArray⟩ : ByteArray) = T
  have HT := Lib.hid hT
  have hlen := Lib.itoa_length_le n (by omega) h1
  rw [show Lib.itoa n = Lib.decDigits n.toNat by unfold Lib.itoa; rw [if_neg hnn]] at hlen
  have HL := Lib.hid hlen
  clear hT hlen
  go_enter Tryz.func26, Tryz.ntmps26
  go_wp2
  go_loopw [0, 3] (fun v s wr => ∃ (m : Int) (t : ByteArray), v = .int .i64 m ∧ s = .string t ∧ 0 ≤ m ∧ m ≤ 9223372036854775807 ∧ Hid (Lib.decDigits n.toNat = Lib.decDigits m.toNat ++ t.data.toList) ∧ Below W.heap.size W wr) (fun v _ _ => (intOf v).toNat)
  case atStart => exact ⟨n, _, rfl, rfl, h0, h1, by simp [Hid], Below.refl _ _⟩
  case round =>
    obtain ⟨m, t, rfl, rfl, m0, m1, HM, hb⟩ := hrel
    have hts : t.size ≤ 21 := by
      have h2 := HL.out
      rw [HM.out, List.length_append] at h2
      have h3 : t.data.toList.length = t.size := by simp
      omega
    have hbs := hb.size
    by_cases hm : 9 < m
    · have hcv := conv_one wr (48 + m % 10) (by omega) (by omega)
      have h1s := Nat.le_of_eq (oneByte_size (48 + m % 10))
      have HM2 : Hid (Lib.decDigits n.toNat = Lib.decDigits (m / 10).toNat ++ (oneByte (48 + m % 10) ++ t).data.toList) := by
        unfold Hid
        rw [HM.out, dec_big m.toNat (by omega), ByteArray.data_append, Array.toList_append, List.append_assoc]
        have e1 : (m / 10).toNat = m.toNat / 10 := by omega
        have e2 : (48 + m % 10).toNat = 48 + m.toNat % 10 := by omega
        simp [oneByte, e1, e2, Nat.toUInt8, UInt8.ofNat]
      go_wp2
      go_roundw
      case rel => exact ⟨m / 10, _, rfl, rfl, by omega, by omega, HM2, hb.alloc hbs _⟩
      case measure => simp [intOf]; omega
    · have hcv := conv_one wr (48 + m) (by omega) (by omega)
      have h1s := Nat.le_of_eq (oneByte_size (48 + m))
      have HD : Hid (T = oneByte (48 + m) ++ t) := by
        unfold Hid
        rw [← HT.out]
        apply bytes_eq
        rw [ByteArray.data_append, Array.toList_append]
        have e2 : (48 + m).toNat = 48 + m.toNat := by omega
        have h3 := HM.out
        rw [dec_small m.toNat (by omega)] at h3
        rw [List.toList_toArray, h3]
        simp [oneByte, e2, Nat.toUInt8, UInt8.ofNat]
      go_wp2
      go_ret
      exact ⟨ret_str HD.out.symm, hb.alloc hbs _⟩

/-- The numeral of a number. -/
def fmtB (n : Int) : ByteArray := ⟨(Lib.itoa n).toArray⟩

theorem specFmt (n : Int) (W : World) (h0 : -9223372036854775808 ≤ n) (h1 : n ≤ 9223372036854775807) :
    Calls Tryz.prog 26 #[.int .i64 n] W fun e w' => e = .returned (.string (fmtB n)) ∧ Below W.heap.size W w' := by
  unfold fmtB Lib.itoa
  by_cases h : n < 0
  · rw [if_pos h]
    exact specNeg n.natAbs n W (by omega) (by omega) (by omega)
  · rw [if_neg h]
    exact specNat n W (by omega) h1

/-! ### the program's, by the library's contract -/
theorem gTab : Tryz.prog.globalNamed "internal/strconv.uint64pow10" = some 3 := by kernel_rfl

/-- The library's table of powers of ten is as its text lays it. -/
def TabOk (W : World) : Prop := Lib.TabIs Tryz.prog W "internal/strconv.uint64pow10" .u64 Lib.pow10Tab

theorem TabOk.lt {W : World} (h : TabOk W) : 3 < W.heap.size :=
  World.block_lt_of_cell? W _ (Lib.TabIs.cell h gTab 0 (by decide))
theorem TabOk.below {W W' : World} (h : TabOk W) (hb : Below W.heap.size W W') : TabOk W' := var?_below hb gTab h.lt h

theorem below_app {W W' : World} {os : Array Obj} (h1 : W'.os = W.os) (h2 : W'.tape = W.tape) (h3 : W'.output = W.output) (hh : W'.heap = W.heap ++ os) : Below W.heap.size W W' :=
  ⟨h1, h2, h3, by rw [hh]; simp, fun j hj => by rw [hh, Array.getElem?_append_left hj]⟩

theorem implFmt (n : Int) (W : World) (h0 : -9223372036854775808 ≤ n) (h1 : n ≤ 9223372036854775807) (ht : TabOk W) :
    Calls Tryz.prog 60 #[.int .i64 n] W fun e w' => e = .returned (.string (fmtB n)) ∧ Below W.heap.size W w' := by
  have C : Hid (Calls Tryz.prog 91 #[.int .i64 n] W fun e w' => e = .returned (.string ⟨(Lib.itoa n).toArray⟩) ∧ Below W.heap.size W w') :=
    (Tryz.strconv_Itoa n h0 h1 W ht).mono fun e w' hh => by
      obtain ⟨he, k, os, hw⟩ := hh
      refine ⟨he, ?_⟩
      rw [hw]
      exact below_app (os := os) rfl rfl rfl rfl
  have HF : Hid (fmtB n = ⟨(Lib.itoa n).toArray⟩) := rfl
  generalize (⟨(Lib.itoa n).toArray⟩ : ByteArray) = t at C HF
  clear ht
  go_enter Tryz.func60, Tryz.ntmps60
  go_wp2_with fail
  refine C.out.mono ?_
  rintro e w1 ⟨rfl, hb⟩
  have HB := Lib.hid hb
  clear hb
  go_wp2
  go_ret
  exact ⟨ret_str HF.out.symm, HB.out⟩
end Go.Proofs.YtlflblngbneacaaGreatDoor
