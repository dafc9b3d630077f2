/- The contracts of the model's FormatSigns, ReadSigns, FormatResults and ReadResults. Conditions: the slices read as integers and as truth values; what comes in is short enough to be counted. -/
import Derived.Test.YtlflblngbneacaaDoorGRun
import Derived.Test.YtlflblngbneacaaDoorPoolsSpec
import Derived.Test.YtlflblngbneacaaDoorGBase
namespace Go.Proofs.YtlflblngbneacaaDoor
open Go.RowKit

/-- A list of the call's own, and whether it is one. -/
def GivesN (L : List Int) (b : Bool) (w : World) (e : Ending) (w' : World) : Prop := ∃ u, e = .returned (.tuple #[u, .bool b]) ∧ Own w' w.heap.size u L ∧ Below w.heap.size w w'
def GivesT (L : List Bool) (b : Bool) (w : World) (e : Ending) (w' : World) : Prop := ∃ u, e = .returned (.tuple #[u, .bool b]) ∧ OwnB w' w.heap.size u L ∧ Below w.heap.size w w'

set_option maxHeartbeats 1600000 in
theorem specFormatSigns (v : Value) (l : List Int) (w : World) (h : IntsAt w v l) (hm : l.length ≤ 1048576) :
    Calls Tryd.prog 16 #[v] w fun e w' => e = .returned (.string (signsT l)) ∧ w = w' := by
  obtain ⟨a, c, rfl, h⟩ := h
  have H := Lib.hid h
  clear h
  have HT : Hid (signsT l = if l.length = 0 then ⟨#[45]⟩ else signsC l l.length) := rfl
  have HZ : Hid (∀ k, (signsC l k).size = k) := signsC_size l
  have HS : Hid (∀ k (h : k < l.length), signsC l (k + 1) = signsC l k ++ signB l[k]) := fun k h => signsC_succ h
  have H0 : Hid (signsC l 0 = ⟨#[]⟩) := rfl
  generalize signsT l = r at HT ⊢
  generalize signsC l = F at HT HZ HS H0
  obtain ⟨n, hn⟩ : ∃ n, l.length = n := ⟨_, rfl⟩
  rw [hn] at HT hm ⊢
  have HN := Lib.hid hn
  clear hn
  go_enter Tryd.func16, Tryd.ntmps16
  go_wp2
  go_loopw [3, 8] (fun sv iv wr => ∃ (k : Nat) (t : ByteArray), k ≤ n ∧ iv = .int .i64 k ∧ sv = .string t ∧ t.size = k ∧ Hid (t = F k) ∧ wr = w) (fun _ iv _ => n - (intOf iv).toNat)
  case atStart => exact ⟨0, _, Nat.zero_le _, rfl, rfl, rfl, H0.out.symm, rfl⟩
  case round =>
    obtain ⟨k, t, hk, rfl, rfl, ht, HF, rfl⟩ := hrel
    by_cases hlt : k < n
    · have hkl : k < l.length := by rw [HN.out]; exact hlt
      rcases H.out with h0 | ⟨b, o, rfl, hc⟩
      · rw [h0] at hkl; simp at hkl
      have e0 := hc k hkl
      have HX := Lib.hid (HS.out k hkl)
      have HY : Hid ((F (k + 1)).size = k + 1) := HZ.out (k + 1)
      generalize l[k] = x at e0 HX
      have i0 : (0 : Int) ≤ (k : Int) := by omega
      have i1 : (k : Int) < (n : Int) := by omega
      clear hc hkl
      rw [← HF.out] at HX
      obtain ⟨f2, hf2⟩ : ∃ f2, F (k + 1) = f2 := ⟨_, rfl⟩
      rw [hf2] at HX HY
      have HF2 := Lib.hid hf2
      clear hf2
      by_cases h1 : x = -1
      · have HX2 : Hid (f2 = t ++ ⟨#[60]⟩) := by unfold Hid; rw [HX.out, sign_lt h1]
        subst h1
        clear HX
        have hz := Nat.le_of_eq (ByteArray.size_append (a := t) (b := ⟨#[60]⟩))
        go_wp2
        go_roundw
        case rel => exact ⟨k + 1, _, by omega, by go_num, rfl, by rw [← HX2.out]; exact HY.out, by unfold Hid; rw [← HX2.out, HF2.out], by first | rfl | trivial⟩
        case measure => simp [intOf]; omega
      · by_cases h2 : x = 0
        · have HX2 : Hid (f2 = t ++ ⟨#[61]⟩) := by unfold Hid; rw [HX.out, sign_eq h2]
          subst h2
          clear HX
          have hz := Nat.le_of_eq (ByteArray.size_append (a := t) (b := ⟨#[61]⟩))
          go_wp2
          go_roundw
          case rel => exact ⟨k + 1, _, by omega, by go_num, rfl, by rw [← HX2.out]; exact HY.out, by unfold Hid; rw [← HX2.out, HF2.out], by first | rfl | trivial⟩
          case measure => simp [intOf]; omega
        · by_cases h3 : x = 1
          · have HX2 : Hid (f2 = t ++ ⟨#[62]⟩) := by unfold Hid; rw [HX.out, sign_gt h3]
            subst h3
            clear HX
            have hz := Nat.le_of_eq (ByteArray.size_append (a := t) (b := ⟨#[62]⟩))
            go_wp2
            go_roundw
            case rel => exact ⟨k + 1, _, by omega, by go_num, rfl, by rw [← HX2.out]; exact HY.out, by unfold Hid; rw [← HX2.out, HF2.out], by first | rfl | trivial⟩
            case measure => simp [intOf]; omega
          · have HX2 : Hid (f2 = t ++ ⟨#[63]⟩) := by unfold Hid; rw [HX.out, sign_no h1 h2 h3]
            clear HX
            have hz := Nat.le_of_eq (ByteArray.size_append (a := t) (b := ⟨#[63]⟩))
            go_wp2
            go_roundw
            case rel => exact ⟨k + 1, _, by omega, by go_num, rfl, by rw [← HX2.out]; exact HY.out, by unfold Hid; rw [← HX2.out, HF2.out], by first | rfl | trivial⟩
            case measure => simp [intOf]; omega
    · obtain rfl : k = n := by omega
      have HE := Lib.hid (empty_iff t)
      rw [ht] at HE
      cases hem : t.toList.isEmpty with
      | true =>
        have hnl : t.toList = [] := List.isEmpty_iff.1 hem
        have HR : Hid (r = ⟨#[45]⟩) := by
          have := HE.out
          rw [hem] at this
          unfold Hid
          rw [HT.out, if_pos (of_decide_eq_true this.symm)]
        clear HT HE
        go_wp2
        go_ret
        exact ⟨ret_str HR.out.symm, rfl⟩
      | false =>
        have HR : Hid (r = t) := by
          have := HE.out
          rw [hem] at this
          unfold Hid
          rw [HT.out, if_neg (of_decide_eq_false this.symm), HF.out]
        clear HT HE
        go_wp2
        go_ret
        exact ⟨ret_str HR.out.symm, rfl⟩

set_option maxHeartbeats 1600000 in
theorem specFormatResults (v : Value) (l : List Bool) (w : World) (h : BoolsAt w v l) (hm : l.length ≤ 1048576) :
    Calls Tryd.prog 22 #[v] w fun e w' => e = .returned (.string (ressT l)) ∧ w = w' := by
  obtain ⟨a, c, rfl, h⟩ := h
  have H := Lib.hid h
  clear h
  have HT : Hid (ressT l = if l.length = 0 then ⟨#[45]⟩ else ressC l l.length) := rfl
  have HZ : Hid (∀ k, (ressC l k).size = k) := ressC_size l
  have HS : Hid (∀ k (h : k < l.length), ressC l (k + 1) = ressC l k ++ resB l[k]) := fun k h => ressC_succ h
  have H0 : Hid (ressC l 0 = ⟨#[]⟩) := rfl
  generalize ressT l = r at HT ⊢
  generalize ressC l = F at HT HZ HS H0
  obtain ⟨n, hn⟩ : ∃ n, l.length = n := ⟨_, rfl⟩
  rw [hn] at HT hm ⊢
  have HN := Lib.hid hn
  clear hn
  go_enter Tryd.func22, Tryd.ntmps22
  go_wp2
  go_loopw [3, 8] (fun sv iv wr => ∃ (k : Nat) (t : ByteArray), k ≤ n ∧ iv = .int .i64 k ∧ sv = .string t ∧ t.size = k ∧ Hid (t = F k) ∧ wr = w) (fun _ iv _ => n - (intOf iv).toNat)
  case atStart => exact ⟨0, _, Nat.zero_le _, rfl, rfl, rfl, H0.out.symm, rfl⟩
  case round =>
    obtain ⟨k, t, hk, rfl, rfl, ht, HF, rfl⟩ := hrel
    by_cases hlt : k < n
    · have hkl : k < l.length := by rw [HN.out]; exact hlt
      rcases H.out with h0 | ⟨b, o, rfl, hc⟩
      · rw [h0] at hkl; simp at hkl
      have e0 := hc k hkl
      have HX := Lib.hid (HS.out k hkl)
      have HY : Hid ((F (k + 1)).size = k + 1) := HZ.out (k + 1)
      generalize l[k] = x at e0 HX
      have i0 : (0 : Int) ≤ (k : Int) := by omega
      have i1 : (k : Int) < (n : Int) := by omega
      clear hc hkl
      rw [← HF.out] at HX
      obtain ⟨f2, hf2⟩ : ∃ f2, F (k + 1) = f2 := ⟨_, rfl⟩
      rw [hf2] at HX HY
      have HF2 := Lib.hid hf2
      clear hf2
      cases x with
      | true =>
        have HX2 : Hid (f2 = t ++ ⟨#[43]⟩) := HX.out
        clear HX
        have hz := Nat.le_of_eq (ByteArray.size_append (a := t) (b := ⟨#[43]⟩))
        go_wp2
        go_roundw
        case rel => exact ⟨k + 1, _, by omega, by go_num, rfl, by rw [← HX2.out]; exact HY.out, by unfold Hid; rw [← HX2.out, HF2.out], by first | rfl | trivial⟩
        case measure => simp [intOf]; omega
      | false =>
        have HX2 : Hid (f2 = t ++ ⟨#[46]⟩) := HX.out
        clear HX
        have hz := Nat.le_of_eq (ByteArray.size_append (a := t) (b := ⟨#[46]⟩))
        go_wp2
        go_roundw
        case rel => exact ⟨k + 1, _, by omega, by go_num, rfl, by rw [← HX2.out]; exact HY.out, by unfold Hid; rw [← HX2.out, HF2.out], by first | rfl | trivial⟩
        case measure => simp [intOf]; omega
    · obtain rfl : k = n := by omega
      have HE := Lib.hid (empty_iff t)
      rw [ht] at HE
      cases hem : t.toList.isEmpty with
      | true =>
        have hnl : t.toList = [] := List.isEmpty_iff.1 hem
        have HR : Hid (r = ⟨#[45]⟩) := by
          have := HE.out
          rw [hem] at this
          unfold Hid
          rw [HT.out, if_pos (of_decide_eq_true this.symm)]
        clear HT HE
        go_wp2
        go_ret
        exact ⟨ret_str HR.out.symm, rfl⟩
      | false =>
        have HR : Hid (r = t) := by
          have := HE.out
          rw [hem] at this
          unfold Hid
          rw [HT.out, if_neg (of_decide_eq_false this.symm), HF.out]
        clear HT HE
        go_wp2
        go_ret
        exact ⟨ret_str HR.out.symm, rfl⟩

set_option maxRecDepth 100000 in
set_option maxHeartbeats 3200000 in
theorem specReadSigns (t : ByteArray) (w : World) (hs : t.size ≤ 1048576) :
    Calls Tryd.prog 18 #[.string t] w (GivesN (readSL t) (readSB t) w) := by
  obtain ⟨i0, hi, hz0, hz1, hz2⟩ := info_parts infoIntA
  have CF := Lib.hid (fun v l W h hm => specFormatSigns v l W h hm)
  have HL : Hid (readSL t = if readSB t = true then sgnL t t.size else []) := rfl
  have HB : Hid (readSB t = ((signsT (sgnL t t.size)).toList == t.toList)) := rfl
  have HN : Hid (∀ k, (sgnL t k).length ≤ k) := sgnL_len t
  have HZ : Hid (sgnL t 0 = []) := rfl
  have H1 : Hid (∀ k (h : k < t.size), (t[k].toNat : Int) = 60 → sgnL t (k + 1) = sgnL t k ++ [-1]) := fun k h => sgnL_lt h
  have H2 : Hid (∀ k (h : k < t.size), (t[k].toNat : Int) = 61 → sgnL t (k + 1) = sgnL t k ++ [0]) := fun k h => sgnL_eq h
  have H3 : Hid (∀ k (h : k < t.size), (t[k].toNat : Int) = 62 → sgnL t (k + 1) = sgnL t k ++ [1]) := fun k h => sgnL_gt h
  have H4 : Hid (∀ k (h : k < t.size), ¬ (t[k].toNat : Int) = 60 → ¬ (t[k].toNat : Int) = 61 → ¬ (t[k].toNat : Int) = 62 → sgnL t (k + 1) = sgnL t k) := fun k h => sgnL_no h
  generalize readSL t = RL at HL ⊢
  generalize readSB t = RB at HL HB ⊢
  generalize sgnL t = F at HL HB HN HZ H1 H2 H3 H4
  unfold GivesN
  go_enter Tryd.func18, Tryd.ntmps18
  go_wp2
  go_loopw [4, 5] (fun ov iv wr => ∃ k : Nat, k ≤ t.size ∧ iv = .int .i64 k ∧ Hid (Own wr w.heap.size ov (F k)) ∧ Hid (Below w.heap.size w wr)) (fun _ iv _ => t.size - (intOf iv).toNat)
  case atStart => exact ⟨0, Nat.zero_le _, rfl, by rw [HZ.out]; exact World.ownsRow_lit (base := w.heap.size) (e := 3) (size := 1) w #[] 0 (Nat.le_refl _) (by unfold maxLen; omega) rfl, (Below.refl _ _).alloc (Nat.le_refl _) _⟩
  case round =>
    obtain ⟨k, hk, rfl, O2, B2⟩ := hrel
    obtain ⟨go, no, co, rfl⟩ := O2.out.form
    by_cases hlt : k < t.size
    · have hlen := HN.out k
      have hbs : w.heap.size ≤ wr.heap.size := B2.out.size
      have hown := O2.out
      unfold Own at hown
      clear CF HL HB
      by_cases h1 : (t[k].toNat : Int) = 60
      · have HF := Lib.hid (H1.out k hlt h1)
        go_wp2_with (at_builtin; refine wpList_append_own _ rfl _ _ 22 rfl w.heap.size 3 i0 (.int .i64 0) 1 8 Tryd.underlying22 hi hz0 hz1 hz2 rfl (by decide) _ _ _ rfl (hown.alloc _) ⟨wr.heap.size, 0, none⟩ 1 1 [.int .i64 (-1)] rfl rfl (cell_one_new _ _ _) (by simp [Value.oneCell']) (by unfold maxLen; omega) (by omega) (by simp; omega) ?_; intro v' w3 hown' hg1 _)
        have hb2 := Below.grown (B2.out.alloc hbs _) hg1 (by simp; omega) (fun j hj => (hown.lt j hj).1)
        go_wp2
        go_roundw
        case rel =>
          refine ⟨k + 1, by omega, by go_num, ?_, Lib.hid hb2⟩
          unfold Hid Own
          rw [HF.out]
          simpa using hown'
        case measure => simp [intOf]; omega
      · by_cases h2 : (t[k].toNat : Int) = 61
        · have HF := Lib.hid (H2.out k hlt h2)
          go_wp2_with (at_builtin; refine wpList_append_own _ rfl _ _ 22 rfl w.heap.size 3 i0 (.int .i64 0) 1 8 Tryd.underlying22 hi hz0 hz1 hz2 rfl (by decide) _ _ _ rfl (hown.alloc _) ⟨wr.heap.size, 0, none⟩ 1 1 [.int .i64 (0)] rfl rfl (cell_one_new _ _ _) (by simp [Value.oneCell']) (by unfold maxLen; omega) (by omega) (by simp; omega) ?_; intro v' w3 hown' hg1 _)
          have hb2 := Below.grown (B2.out.alloc hbs _) hg1 (by simp; omega) (fun j hj => (hown.lt j hj).1)
          go_wp2
          go_roundw
          case rel =>
            refine ⟨k + 1, by omega, by go_num, ?_, Lib.hid hb2⟩
            unfold Hid Own
            rw [HF.out]
            simpa using hown'
          case measure => simp [intOf]; omega
        · by_cases h3 : (t[k].toNat : Int) = 62
          · have HF := Lib.hid (H3.out k hlt h3)
            go_wp2_with (at_builtin; refine wpList_append_own _ rfl _ _ 22 rfl w.heap.size 3 i0 (.int .i64 0) 1 8 Tryd.underlying22 hi hz0 hz1 hz2 rfl (by decide) _ _ _ rfl (hown.alloc _) ⟨wr.heap.size, 0, none⟩ 1 1 [.int .i64 (1)] rfl rfl (cell_one_new _ _ _) (by simp [Value.oneCell']) (by unfold maxLen; omega) (by omega) (by simp; omega) ?_; intro v' w3 hown' hg1 _)
            have hb2 := Below.grown (B2.out.alloc hbs _) hg1 (by simp; omega) (fun j hj => (hown.lt j hj).1)
            go_wp2
            go_roundw
            case rel =>
              refine ⟨k + 1, by omega, by go_num, ?_, Lib.hid hb2⟩
              unfold Hid Own
              rw [HF.out]
              simpa using hown'
            case measure => simp [intOf]; omega
          · have HF := Lib.hid (H4.out k hlt h1 h2 h3)
            clear hown
            go_wp2
            go_roundw
            case rel => exact ⟨k + 1, by omega, by go_num, by rw [HF.out]; exact O2, B2⟩
            case measure => simp [intOf]; omega
    · obtain rfl : k = t.size := by omega
      have hlen := HN.out t.size
      have C := Lib.hid (CF.out _ _ wr O2.out.reads (by omega))
      generalize signsT (F t.size) = x at HB C
      clear CF
      go_wp2_with fail
      refine C.out.mono ?_
      rintro e w1 ⟨rfl, rfl⟩
      cases hcmp : (x.toList == t.toList) with
      | false =>
        have HE : Hid (RB = false) := by unfold Hid; rw [HB.out]; exact hcmp
        have HE2 : Hid (RL = []) := by unfold Hid; rw [HL.out, HE.out]; rfl
        clear HB HL
        go_wp2
        go_ret2
        rw [HE.out, HE2.out]
        exact ⟨_, rfl, World.ownsRow_nil _ _ _ _, B2.out⟩
      | true =>
        have HE : Hid (RB = true) := by unfold Hid; rw [HB.out]; exact hcmp
        have HE2 : Hid (RL = F t.size) := by unfold Hid; rw [HL.out, HE.out]; rfl
        clear HB HL
        go_wp2
        go_ret2
        rw [HE.out, HE2.out]
        exact ⟨_, rfl, O2.out, B2.out⟩

set_option maxRecDepth 100000 in
set_option maxHeartbeats 3200000 in
theorem specReadResults (t : ByteArray) (w : World) (hs : t.size ≤ 1048576) :
    Calls Tryd.prog 26 #[.string t] w (GivesT (readRL t) (readRB t) w) := by
  obtain ⟨i0, hi, hz0, hz1, hz2⟩ := info_parts infoBoolA
  have CF := Lib.hid (fun v l W h hm => specFormatResults v l W h hm)
  have HL : Hid (readRL t = if isDash t = true then [] else if ((ressT (plusL t t.size)).toList == t.toList) = true then plusL t t.size else []) := rfl
  have HB : Hid (readRB t = (isDash t || ((ressT (plusL t t.size)).toList == t.toList))) := rfl
  have HN : Hid (∀ k, (plusL t k).length = k) := plusL_len t
  have HZ : Hid (plusL t 0 = []) := rfl
  have H1 : Hid (∀ k (h : k < t.size), plusL t (k + 1) = plusL t k ++ [((t[k].toNat : Int) == 43)]) := fun k h => plus_at h
  have HD : Hid (isDash t = (t.toList == [45])) := rfl
  generalize readRL t = RL at HL ⊢
  generalize readRB t = RB at HB ⊢
  generalize plusL t = F at HL HB HN HZ H1
  unfold GivesT
  cases hd : (t.toList == [45]) with
  | true =>
    have HE : Hid (RB = true) := by unfold Hid; rw [HB.out, HD.out, hd]; rfl
    have HE2 : Hid (RL = []) := by unfold Hid; rw [HL.out, HD.out, hd]; rfl
    clear HL HB HD
    go_enter Tryd.func26, Tryd.ntmps26
    go_wp2
    go_ret2
    rw [HE.out, HE2.out]
    exact ⟨_, rfl, World.ownsRow_lit (base := w.heap.size) (e := 4) (size := 1) w #[] 0 (Nat.le_refl _) (by unfold maxLen; omega) rfl, (Below.refl _ _).alloc (Nat.le_refl _) _⟩
  | false =>
    have HB2 : Hid (RB = ((ressT (F t.size)).toList == t.toList)) := by unfold Hid; rw [HB.out, HD.out, hd]; rfl
    have HL2 : Hid (RL = if RB = true then F t.size else []) := by unfold Hid; rw [HL.out, HD.out, hd, HB2.out]; rfl
    clear HL HB HD
    go_enter Tryd.func26, Tryd.ntmps26
    go_wp2
    go_loopw [4, 5] (fun ov iv wr => ∃ k : Nat, k ≤ t.size ∧ iv = .int .i64 k ∧ Hid (OwnB wr w.heap.size ov (F k)) ∧ Hid (Below w.heap.size w wr)) (fun _ iv _ => t.size - (intOf iv).toNat)
    case atStart => exact ⟨0, Nat.zero_le _, rfl, by rw [HZ.out]; exact World.ownsRow_lit (base := w.heap.size) (e := 4) (size := 1) w #[] 0 (Nat.le_refl _) (by unfold maxLen; omega) rfl, (Below.refl _ _).alloc (Nat.le_refl _) _⟩
    case round =>
      obtain ⟨k, hk, rfl, O2, B2⟩ := hrel
      obtain ⟨go, no, co, rfl⟩ := O2.out.form
      by_cases hlt : k < t.size
      · have hlen := HN.out k
        have hbs : w.heap.size ≤ wr.heap.size := B2.out.size
        have hown := O2.out
        unfold OwnB at hown
        rw [hlen] at hown
        have HF := Lib.hid (H1.out k hlt)
        have HLN := Lib.hid hlen
        clear CF HL2 HB2 hlen
        go_wp2_with (at_builtin; refine wpList_append_own _ rfl _ _ 31 rfl w.heap.size 4 i0 (.bool false) 1 1 Tryd.underlying31 hi hz0 hz1 hz2 rfl (by decide) _ _ _ rfl (hown.alloc _) ⟨wr.heap.size, 0, none⟩ 1 1 [.bool ((t[k].toNat : Int) == 43)] rfl rfl (cell_one_new _ _ _) (by simp [Value.oneCell']) (by unfold maxLen; omega) (by omega) (by simp; omega) ?_; intro v' w3 hown' hg1 _)
        have hb2 := Below.grown (B2.out.alloc hbs _) hg1 (by simp; omega) (fun j hj => (hown.lt j hj).1)
        go_wp2
        go_roundw
        case rel =>
          refine ⟨k + 1, by omega, by go_num, ?_, Lib.hid hb2⟩
          unfold Hid OwnB
          rw [HF.out, List.length_append, HLN.out]
          simpa using hown'
        case measure => simp [intOf]; omega
      · obtain rfl : k = t.size := by omega
        have hlen := HN.out t.size
        have C := Lib.hid (CF.out _ _ wr O2.out.reads (by omega))
        generalize ressT (F t.size) = x at HB2 C
        clear CF hd
        go_wp2_with fail
        refine C.out.mono ?_
        rintro e w1 ⟨rfl, rfl⟩
        cases hcmp : (x.toList == t.toList) with
        | false =>
          have HE : Hid (RB = false) := by unfold Hid; rw [HB2.out]; exact hcmp
          have HE2 : Hid (RL = []) := by unfold Hid; rw [HL2.out, HE.out]; rfl
          clear HB2 HL2
          go_wp2
          go_ret2
          rw [HE.out, HE2.out]
          exact ⟨_, rfl, World.ownsRow_nil _ _ _ _, B2.out⟩
        | true =>
          have HE : Hid (RB = true) := by unfold Hid; rw [HB2.out]; exact hcmp
          have HE2 : Hid (RL = F t.size) := by unfold Hid; rw [HL2.out, HE.out]; rfl
          clear HB2 HL2
          go_wp2
          go_ret2
          rw [HE.out, HE2.out]
          exact ⟨_, rfl, O2.out, B2.out⟩
end Go.Proofs.YtlflblngbneacaaDoor
