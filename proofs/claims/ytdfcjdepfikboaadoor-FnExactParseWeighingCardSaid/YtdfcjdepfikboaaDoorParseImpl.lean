/- The contract of the program's ParseInt: it returns the number whose numeral the text is, and true; otherwise 0 and false. Conditions: the text has at most 1048576 bytes, and the library's table of powers of ten and its two error variables are as their text lays them. -/
import Derived.Test.YtdfcjdepfikboaaDoorParsePlain
import Derived.Lib.SmallJoins
import Derived.Shelf.Strconv.ErrVarAll
namespace Go.Proofs.YtdfcjdepfikboaaDoor
open Go.RowKit

theorem parse_append (l r : List UInt8) : ∀ acc a, Lib.parseUint10 acc l = .ok a → Lib.parseUint10 acc (l ++ r) = Lib.parseUint10 a r := by
  induction l with
  | nil =>
    intro acc a h
    simp only [Lib.parseUint10] at h
    injection h with h
    rw [h]
    rfl
  | cons c l ih =>
    intro acc a h
    rw [List.cons_append]
    simp only [Lib.parseUint10] at h ⊢
    split at h
    · rename_i h1
      rw [if_pos h1]
      split at h
      · cases h
      · rename_i h2
        rw [if_neg h2]
        split at h
        · cases h
        · rename_i h3
          rw [if_neg h3]
          exact ih _ _ h
    · cases h

theorem parse_dec (u : Nat) : u < 18446744073709551616 → Lib.parseUint10 0 (Lib.decDigits u) = .ok u := by
  induction u using Nat.strongRecOn with
  | _ u ih =>
    intro hu
    by_cases h : u < 10
    · rw [dec_small u h]
      simp only [Lib.parseUint10]
      have e := digit_nat u h
      rw [if_pos (by omega), if_neg (by omega), if_neg (by omega), e]
      congr 1
      omega
    · rw [dec_big u h, parse_append _ _ _ _ (ih (u / 10) (by omega) (by omega))]
      simp only [Lib.parseUint10]
      have e := digit_nat (u % 10) (by omega)
      rw [if_pos (by omega), if_neg (by omega), if_neg (by omega), e]
      congr 1
      omega

theorem mag_dec (u : Nat) (hu : u < 18446744073709551616) : Lib.parseMag (Lib.decDigits u) = .ok u := by
  unfold Lib.parseMag
  rw [if_neg (dec_ne u)]
  exact parse_dec u hu

theorem atoi_fmt (n : Int) (h : inR n) : Lib.atoiAll (Lib.itoa n) = .ok n := by
  obtain ⟨h0, h1⟩ := h
  unfold Lib.itoa
  split
  · rw [Lib.atoiAll_minus, mag_dec _ (by omega)]
    unfold Lib.signed
    dsimp only
    rw [if_neg (by omega)]
    congr 1
    omega
  · cases hd : Lib.decDigits n.toNat with
    | nil => exact absurd hd (dec_ne _)
    | cons c r =>
      have hc := dec_digit n.toNat c (by rw [hd]; simp)
      rw [Lib.atoiAll_plain c r (by omega) (by omega), ← hd, mag_dec _ (by omega)]
      unfold Lib.signless
      dsimp only
      rw [if_neg (by omega)]
      congr 1
      omega

theorem atoi_of_fmt {s : ByteArray} {n : Int} (h : inR n) (e : fmtB n = s) : Lib.atoiAll s.data.toList = .ok n := by
  rw [← e]
  exact atoi_fmt n h

/-- The variable holds some error. -/
def SentOk (W : World) (name : String) : Prop := ∃ tp p, W.var? Tryd.prog name = some #[.iface tp p]

theorem gESyn : Tryd.prog.globalNamed "strconv.ErrSyntax" = some 1 := by kernel_rfl
theorem gERan : Tryd.prog.globalNamed "strconv.ErrRange" = some 2 := by kernel_rfl
theorem SentOk.below {W W' : World} {name : String} {g : Nat} (hg : Tryd.prog.globalNamed name = some g) (h : SentOk W name) (hb : Below W.heap.size W W') : SentOk W' name := by
  obtain ⟨tp, p, hv⟩ := h
  have hc := World.var?_cell hg hv 0
  have hlt : g < W.heap.size := World.block_lt_of_cell? W ⟨g, 0, none⟩ (by rw [hc]; rfl)
  exact ⟨tp, p, var?_below hb hg hlt hv⟩

/-- How strconv.Atoi ends: with a number and no error, or with an error. -/
def AtoiOk (v : Int) (w : World) (e : Ending) (w' : World) : Prop := e = .returned (.tuple #[.int .i64 v, .nilIface]) ∧ Below w.heap.size w w'
def AtoiErr (w : World) (e : Ending) (w' : World) : Prop := ∃ r t p, e = .returned (.tuple #[.int .i64 r, .iface t p]) ∧ Below w.heap.size w w'

theorem atoi_cases (s : ByteArray) (w : World) (hs : s.size ≤ 1048576) (h1 : SentOk w "strconv.ErrSyntax") (h2 : SentOk w "strconv.ErrRange") :
    (∃ v, Lib.atoiAll s.data.toList = .ok v ∧ Calls Tryd.prog 47 #[.string s] w (AtoiOk v w)) ∨ ((∀ v, Lib.atoiAll s.data.toList ≠ .ok v) ∧ Calls Tryd.prog 47 #[.string s] w (AtoiErr w)) := by
  obtain ⟨t1, p1, v1⟩ := h1
  obtain ⟨t2, p2, v2⟩ := h2
  cases h : Lib.atoiAll s.data.toList
  · rename_i v
    exact .inl ⟨v, rfl, (Tryd.strconv_Atoi_ok s (by omega) v h w).mono fun e w' hh => ⟨hh.1, by
      rcases hh.2 with rfl | ⟨t, rfl⟩
      · exact Below.refl _ _
      · exact Joins.below_bytesWorld _ _ _ _ (Nat.le_refl _)⟩⟩
  · exact .inr ⟨(by intro v hv; cases hv), (Any.strconv_Atoi_syntax_var Tryd.laysC172 s (by omega) h t1 p1 w v1).mono fun e w' hh => by
      obtain ⟨N, he, _, _, hb⟩ := hh
      exact ⟨_, _, _, he, hb⟩⟩
  · exact .inr ⟨(by intro v hv; cases hv), (Any.strconv_Atoi_range_var Tryd.laysC172 s (by omega) h t2 p2 w v2).mono fun e w' hh => by
      obtain ⟨N, he, _, _, hb⟩ := hh
      exact ⟨_, _, _, he, hb⟩⟩

set_option maxHeartbeats 800000 in
theorem implParse (s : ByteArray) (w : World) (hs : s.size ≤ 1048576) (ht : TabOk w) (h1 : SentOk w "strconv.ErrSyntax") (h2 : SentOk w "strconv.ErrRange") :
    Calls Tryd.prog 41 #[.string s] w (Ans s w) := by
  have HT := Lib.hid ht
  rcases atoi_cases s w hs h1 h2 with ⟨v, hv, hc⟩ | ⟨hv, hc⟩
  · obtain ⟨b1, b2⟩ := Lib.atoiAll_bounds hv
    have HC := Lib.hid hc
    have CF := Lib.hid (fun W h => implFmt v W b1 b2 h)
    cases hcmp : ((fmtB v).toList == s.toList) with
    | true =>
      have HA : Hid (IsAns s v true) := .inl ⟨rfl, ⟨b1, b2⟩, bytes_eq (by have := eq_of_beq hcmp; rwa [ByteArray.toList_eq, ByteArray.toList_eq] at this)⟩
      generalize fmtB v = fb at hcmp CF
      clear ht h1 h2 hc hv
      go_enter Tryd.func41, Tryd.ntmps41
      go_wp2_with fail
      refine HC.out.mono ?_
      rintro e w1 ⟨rfl, hb1⟩
      have HB1 := Lib.hid hb1
      clear hb1
      go_wp2_with fail
      refine (CF.out _ (HT.out.below HB1.out)).mono ?_
      rintro e w2 ⟨rfl, hb2⟩
      have HB2 := Lib.hid hb2
      clear hb2
      go_wp2
      go_ret2
      exact ⟨_, true, rfl, HA.out, below_via HB1.out HB2.out⟩
    | false =>
      have HA : Hid (IsAns s 0 false) := .inr ⟨rfl, rfl, fun n hn e => by
        have h3 := atoi_of_fmt hn e
        rw [hv] at h3
        injection h3 with h3
        rw [h3, e] at hcmp
        simp at hcmp⟩
      generalize fmtB v = fb at hcmp CF
      clear ht h1 h2 hc hv
      go_enter Tryd.func41, Tryd.ntmps41
      go_wp2_with fail
      refine HC.out.mono ?_
      rintro e w1 ⟨rfl, hb1⟩
      have HB1 := Lib.hid hb1
      clear hb1
      go_wp2_with fail
      refine (CF.out _ (HT.out.below HB1.out)).mono ?_
      rintro e w2 ⟨rfl, hb2⟩
      have HB2 := Lib.hid hb2
      clear hb2
      go_wp2
      go_ret2
      exact ⟨0, false, rfl, HA.out, below_via HB1.out HB2.out⟩
  · have HA : Hid (IsAns s 0 false) := .inr ⟨rfl, rfl, fun n hn e => hv n (atoi_of_fmt hn e)⟩
    have HC := Lib.hid hc
    clear ht h1 h2 hc hv
    go_enter Tryd.func41, Tryd.ntmps41
    go_wp2_with fail
    refine HC.out.mono ?_
    rintro e w1 ⟨r, t, p, rfl, hb1⟩
    have HB1 := Lib.hid hb1
    clear hb1
    go_wp2
    go_ret2
    exact ⟨0, false, rfl, HA.out, HB1.out⟩
end Go.Proofs.YtdfcjdepfikboaaDoor
