/- The contract of ParseInt in the model: it returns the number whose numeral the text is, and true; otherwise 0 and false. Condition: the text has at most 1048576 bytes. -/
import Derived.Test.YtdfcjdepfikboaaDoorParsePlain
namespace Go.Proofs.YtdfcjdepfikboaaDoor
open Go.RowKit

theorem head_byte {s : ByteArray} (h : 0 < s.size) : s.data.toList = s[0] :: s.data.toList.drop 1 := by
  have hl : 0 < s.data.toList.length := by simpa using h
  have := List.drop_eq_getElem_cons hl
  rw [List.drop_zero] at this
  exact this

theorem tail_list (s : ByteArray) : (s.extract 1 s.size).data.toList = s.data.toList.drop 1 := by
  simp
  exact List.take_of_length_le (by simp)

set_option maxHeartbeats 1600000 in
theorem specParseMinus (s : ByteArray) (w : World) (hs : s.size ≤ 1048576) (h0 : 0 < s.size) (hm : (s[0].toNat : Int) = 45) :
    Calls Tryd.prog 39 #[.string s] w (Ans s w) := by
  have D := fun W => specDigits (s.extract 1 s.size) W (by unfold maxLen; simp; omega)
  have F : ∀ n, inR n → fmtB n = s → ∃ u : Nat, (s.extract 1 s.size).data.toList = Lib.decDigits u ∧ u ≤ 9223372036854775808 ∧ n = -(u : Int) := by
    intro n hn e
    obtain ⟨h1, h2⟩ := fmt_minus e (head_byte h0) (by omega)
    exact ⟨n.natAbs, by rw [tail_list]; exact h2, by have := hn.1; omega, by omega⟩
  have HD := Lib.hid D
  have HF := Lib.hid F
  clear D F
  have hp : (0 : Int) < (s.size : Int) := by omega
  have hb : ((s[0].toNat : Int) == 45) = true := beq_iff_eq.2 hm
  clear hm
  go_enter Tryd.func39, Tryd.ntmps39
  go_wp2_with fail
  generalize s.extract 1 s.size = t at HD HF
  · skip
    cases hdg : digitsB t with
    | false =>
      have HA : Hid (IsAns s 0 false) := .inr ⟨rfl, rfl, fun n hn e => by obtain ⟨u, hu, _⟩ := HF.out n hn e; exact no_digits hdg u hu⟩
      rw [hdg] at HD
      clear hdg
      refine (HD.out _).mono ?_
      rintro e w1 ⟨rfl, rfl⟩
      go_wp2
      go_ret2
      exact ⟨0, false, rfl, HA.out, Below.refl _ _⟩
    | true =>
      have HG := Lib.hid (digits_at hdg)
      rw [hdg] at HD
      clear hdg
      refine (HD.out _).mono ?_
      rintro e w1 ⟨rfl, rfl⟩
      by_cases hl : (19 : Int) < (t.size : Int)
      · have HA : Hid (IsAns s 0 false) := .inr ⟨rfl, rfl, fun n hn e => by obtain ⟨u, hu, hb, _⟩ := HF.out n hn e; exact no_long (by omega) u hb hu⟩
        have hlb : decide ((19 : Int) < (t.size : Int)) = true := decide_eq_true hl
        go_wp2
        go_ret2
        exact ⟨0, false, rfl, HA.out, Below.refl _ _⟩
      · have hlb : decide ((19 : Int) < (t.size : Int)) = false := decide_eq_false hl
        have hl2 : (t.size : Int) ≤ 19 := by omega
        clear hl
        go_wp2_with fail
        go_loop [6, 7] (fun n i => ∃ (k : Nat) (v : Int), k ≤ t.size ∧ n = .int .i64 v ∧ i = .int .i64 k ∧ -9223372036854775808 ≤ v ∧ v ≤ 0 ∧ Hid (v = -(val (t.data.toList.take k) : Int))) (fun _ i => t.size - (intOf i).toNat)
        case atStart => exact ⟨0, 0, Nat.zero_le _, rfl, rfl, by omega, by omega, by simp [Hid, val]⟩
        case round =>
          obtain ⟨k, v, hk, rfl, rfl, hv0, hv1, HV⟩ := hrel
          by_cases hlt : k < t.size
          · obtain ⟨d0, d1⟩ := HG.out k hlt
            have HS := Lib.hid (val_snoc (t.data.toList.take k) t[k])
            rw [← take_snoc t k hlt] at HS
            obtain ⟨qb0, qb1⟩ := quo_bounds ((t[k].toNat : Int) - 48) (by omega) (by omega)
            obtain ⟨q, hq⟩ : ∃ q, (-9223372036854775808 + ((t[k].toNat : Int) - 48)).tdiv 10 = q := ⟨_, rfl⟩
            rw [hq] at qb0 qb1
            by_cases hvq : v < q
            · have HA : Hid (IsAns s 0 false) := .inr ⟨rfl, rfl, fun n hn e => by
                obtain ⟨u, hu, hb, _⟩ := HF.out n hn e
                refine no_over (k := k + 1) ?_ u hb hu
                have h1 := HS.out
                have h2 := HV.out
                omega⟩
              go_wp2
              go_ret2
              exact ⟨0, false, rfl, HA.out, Below.refl _ _⟩
            · have HV2 : Hid (v * 10 - ((t[k].toNat : Int) - 48) = -(val (t.data.toList.take (k + 1)) : Int)) := by
                have h1 := HS.out
                have h2 := HV.out
                unfold Hid
                omega
              have hm0 : -9223372036854775808 ≤ v * 10 := by omega
              have hm1 : v * 10 ≤ 0 := by omega
              have hm2 : -9223372036854775808 ≤ v * 10 - ((t[k].toNat : Int) - 48) := by omega
              have hm3 : v * 10 - ((t[k].toNat : Int) - 48) ≤ 0 := by omega
              go_wp2
              go_round
              case rel => exact ⟨k + 1, _, by omega, rfl, by go_num, hm2, hm3, HV2⟩
              case measure => simp [intOf]; omega
          · have HW : Hid (v = -(val t.data.toList : Int)) := by
              have h1 := HV.out
              rw [List.take_of_length_le (by simp; omega)] at h1
              exact h1
            clear HV
            cases hcmp : ((fmtB v).toList == s.toList) with
            | true =>
              have HA : Hid (IsAns s (v) true) := .inl ⟨rfl, ⟨by omega, by omega⟩, bytes_eq (by have := eq_of_beq hcmp; rwa [ByteArray.toList_eq, ByteArray.toList_eq] at this)⟩
              have CF := Lib.hid (fun W => specFmt (v) W (by omega) (by omega))
              generalize fmtB (v) = fb at hcmp CF
              go_wp2_with fail
              refine (CF.out _).mono ?_
              rintro e w1 ⟨rfl, hb1⟩
              have HB := Lib.hid hb1
              clear hb1
              go_wp2
              go_ret2
              exact ⟨_, true, rfl, HA.out, HB.out⟩
            | false =>
              have HA : Hid (IsAns s 0 false) := .inr ⟨rfl, rfl, fun n hn e => by
                obtain ⟨u, hu, hb, hn2⟩ := HF.out n hn e
                have h1 := congrArg val hu
                rw [val_dec] at h1
                have h2 := HW.out
                have h3 : n = v := by omega
                rw [← h3, e] at hcmp
                simp at hcmp⟩
              have CF := Lib.hid (fun W => specFmt (v) W (by omega) (by omega))
              generalize fmtB (v) = fb at hcmp CF
              go_wp2_with fail
              refine (CF.out _).mono ?_
              rintro e w1 ⟨rfl, hb1⟩
              have HB := Lib.hid hb1
              clear hb1
              go_wp2
              go_ret2
              exact ⟨0, false, rfl, HA.out, HB.out⟩

set_option maxHeartbeats 1600000 in
theorem specParsePlain (s : ByteArray) (w : World) (hs : s.size ≤ 1048576) (h0 : 0 < s.size) (hm : ¬ (s[0].toNat : Int) = 45) :
    Calls Tryd.prog 39 #[.string s] w (Ans s w) := by
  have D := fun W => specDigits s W (by unfold maxLen; omega)
  have F : ∀ n, inR n → fmtB n = s → ∃ u : Nat, s.data.toList = Lib.decDigits u ∧ u ≤ 9223372036854775808 ∧ n = (u : Int) := by
    intro n hn e
    obtain ⟨h1, h2⟩ := fmt_plain e (fun c hc => by
      rw [head_byte h0] at hc
      simp only [List.head?_cons, Option.some.injEq] at hc
      rw [← hc]
      omega)
    exact ⟨n.toNat, h2, by have := hn.2; omega, by omega⟩
  have HD := Lib.hid D
  have HF := Lib.hid F
  clear D F
  have hp : (0 : Int) < (s.size : Int) := by omega
  have hb : ((s[0].toNat : Int) == 45) = false := beq_eq_false_iff_ne.2 hm
  clear hm
  go_enter Tryd.func39, Tryd.ntmps39
  go_wp2_with fail
  · skip
    cases hdg : digitsB s with
    | false =>
      have HA : Hid (IsAns s 0 false) := .inr ⟨rfl, rfl, fun n hn e => by obtain ⟨u, hu, _⟩ := HF.out n hn e; exact no_digits hdg u hu⟩
      rw [hdg] at HD
      clear hdg
      refine (HD.out _).mono ?_
      rintro e w1 ⟨rfl, rfl⟩
      go_wp2
      go_ret2
      exact ⟨0, false, rfl, HA.out, Below.refl _ _⟩
    | true =>
      have HG := Lib.hid (digits_at hdg)
      rw [hdg] at HD
      clear hdg
      refine (HD.out _).mono ?_
      rintro e w1 ⟨rfl, rfl⟩
      by_cases hl : (19 : Int) < (s.size : Int)
      · have HA : Hid (IsAns s 0 false) := .inr ⟨rfl, rfl, fun n hn e => by obtain ⟨u, hu, hb, _⟩ := HF.out n hn e; exact no_long (by omega) u hb hu⟩
        have hlb : decide ((19 : Int) < (s.size : Int)) = true := decide_eq_true hl
        go_wp2
        go_ret2
        exact ⟨0, false, rfl, HA.out, Below.refl _ _⟩
      · have hlb : decide ((19 : Int) < (s.size : Int)) = false := decide_eq_false hl
        have hl2 : (s.size : Int) ≤ 19 := by omega
        clear hl
        go_wp2_with fail
        go_loop [6, 7] (fun n i => ∃ (k : Nat) (v : Int), k ≤ s.size ∧ n = .int .i64 v ∧ i = .int .i64 k ∧ -9223372036854775808 ≤ v ∧ v ≤ 0 ∧ Hid (v = -(val (s.data.toList.take k) : Int))) (fun _ i => s.size - (intOf i).toNat)
        case atStart => exact ⟨0, 0, Nat.zero_le _, rfl, rfl, by omega, by omega, by simp [Hid, val]⟩
        case round =>
          obtain ⟨k, v, hk, rfl, rfl, hv0, hv1, HV⟩ := hrel
          by_cases hlt : k < s.size
          · obtain ⟨d0, d1⟩ := HG.out k hlt
            have HS := Lib.hid (val_snoc (s.data.toList.take k) s[k])
            rw [← take_snoc s k hlt] at HS
            obtain ⟨qb0, qb1⟩ := quo_bounds ((s[k].toNat : Int) - 48) (by omega) (by omega)
            obtain ⟨q, hq⟩ : ∃ q, (-9223372036854775808 + ((s[k].toNat : Int) - 48)).tdiv 10 = q := ⟨_, rfl⟩
            rw [hq] at qb0 qb1
            by_cases hvq : v < q
            · have HA : Hid (IsAns s 0 false) := .inr ⟨rfl, rfl, fun n hn e => by
                obtain ⟨u, hu, hb, _⟩ := HF.out n hn e
                refine no_over (k := k + 1) ?_ u hb hu
                have h1 := HS.out
                have h2 := HV.out
                omega⟩
              go_wp2
              go_ret2
              exact ⟨0, false, rfl, HA.out, Below.refl _ _⟩
            · have HV2 : Hid (v * 10 - ((s[k].toNat : Int) - 48) = -(val (s.data.toList.take (k + 1)) : Int)) := by
                have h1 := HS.out
                have h2 := HV.out
                unfold Hid
                omega
              have hm0 : -9223372036854775808 ≤ v * 10 := by omega
              have hm1 : v * 10 ≤ 0 := by omega
              have hm2 : -9223372036854775808 ≤ v * 10 - ((s[k].toNat : Int) - 48) := by omega
              have hm3 : v * 10 - ((s[k].toNat : Int) - 48) ≤ 0 := by omega
              go_wp2
              go_round
              case rel => exact ⟨k + 1, _, by omega, rfl, by go_num, hm2, hm3, HV2⟩
              case measure => simp [intOf]; omega
          · have HW : Hid (v = -(val s.data.toList : Int)) := by
              have h1 := HV.out
              rw [List.take_of_length_le (by simp; omega)] at h1
              exact h1
            clear HV
            cases hmin : (v == -9223372036854775808) with
            | true =>
              have HA : Hid (IsAns s 0 false) := .inr ⟨rfl, rfl, fun n hn e => by
                obtain ⟨u, hu, hb, hn2⟩ := HF.out n hn e
                have h1 := congrArg val hu
                rw [val_dec] at h1
                have h2 := HW.out
                have h3 := eq_of_beq hmin
                have h4 := hn.2
                omega⟩
              go_wp2
              go_ret2
              exact ⟨0, false, rfl, HA.out, Below.refl _ _⟩
            | false =>
              have hv2 : -9223372036854775807 ≤ v := by
                have h3 : ¬ v = -9223372036854775808 := by intro h; rw [h] at hmin; simp at hmin
                omega
              cases hcmp : ((fmtB (-v)).toList == s.toList) with
              | true =>
                have HA : Hid (IsAns s ((-v)) true) := .inl ⟨rfl, ⟨by omega, by omega⟩, bytes_eq (by have := eq_of_beq hcmp; rwa [ByteArray.toList_eq, ByteArray.toList_eq] at this)⟩
                have CF := Lib.hid (fun W => specFmt ((-v)) W (by omega) (by omega))
                generalize fmtB ((-v)) = fb at hcmp CF
                go_wp2_with fail
                refine (CF.out _).mono ?_
                rintro e w1 ⟨rfl, hb1⟩
                have HB := Lib.hid hb1
                clear hb1
                go_wp2
                go_ret2
                exact ⟨_, true, rfl, HA.out, HB.out⟩
              | false =>
                have HA : Hid (IsAns s 0 false) := .inr ⟨rfl, rfl, fun n hn e => by
                  obtain ⟨u, hu, hb, hn2⟩ := HF.out n hn e
                  have h1 := congrArg val hu
                  rw [val_dec] at h1
                  have h2 := HW.out
                  have h3 : n = (-v) := by omega
                  rw [← h3, e] at hcmp
                  simp at hcmp⟩
                have CF := Lib.hid (fun W => specFmt ((-v)) W (by omega) (by omega))
                generalize fmtB ((-v)) = fb at hcmp CF
                go_wp2_with fail
                refine (CF.out _).mono ?_
                rintro e w1 ⟨rfl, hb1⟩
                have HB := Lib.hid hb1
                clear hb1
                go_wp2
                go_ret2
                exact ⟨0, false, rfl, HA.out, HB.out⟩

set_option maxHeartbeats 400000 in
theorem specParseEmpty (s : ByteArray) (w : World) (h0 : s.size ≤ 0) :
    Calls Tryd.prog 39 #[.string s] w (Ans s w) := by
  have hdg : digitsB s = false := by
    unfold digitsB
    rw [decide_eq_false (by omega)]
    rfl
  have D := fun W => specDigits s W (by unfold maxLen; omega)
  rw [hdg] at D
  have HA : Hid (IsAns s 0 false) := .inr ⟨rfl, rfl, fun n _ e => by
    have h1 : Lib.itoa n = s.data.toList := congrArg (fun x : ByteArray => x.data.toList) e
    have hl : s.data.toList.length = s.size := by simp
    have h2 : s.data.toList = [] := List.eq_nil_of_length_eq_zero (by omega)
    rw [h2] at h1
    unfold Lib.itoa at h1
    split at h1
    · cases h1
    · exact absurd h1 (dec_ne _)⟩
  have HD := Lib.hid D
  clear D hdg
  have hp : (s.size : Int) ≤ 0 := by omega
  go_enter Tryd.func39, Tryd.ntmps39
  go_wp2_with fail
  refine (HD.out _).mono ?_
  rintro e w1 ⟨rfl, rfl⟩
  go_wp2
  go_ret2
  exact ⟨0, false, rfl, HA.out, Below.refl _ _⟩

theorem specParse (s : ByteArray) (w : World) (hs : s.size ≤ 1048576) : Calls Tryd.prog 39 #[.string s] w (Ans s w) := by
  by_cases h0 : s.size ≤ 0
  · exact specParseEmpty s w h0
  · by_cases hm : (s[0]'(by omega)).toNat = 45
    · exact specParseMinus s w hs (by omega) (by omega)
    · exact specParsePlain s w hs (by omega) (by omega)
end Go.Proofs.YtdfcjdepfikboaaDoor
