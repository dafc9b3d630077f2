/- The walk of the law FnWords: it returns true for every slice of bytes, where the library's table of powers of ten and its two error variables are as their text lays them. -/
import Derived.Test.YtbncjpcalheiiaaDoorText
import Derived.Test.YtbncjpcalheiiaaDoorParseImpl
import Derived.Test.YtbncjpcalheiiaaDoorLines
import Derived.Test.YtbncjpcalheiiaaDoorJoinB
import Derived.Test.YtbncjpcalheiiaaDoorNam
namespace Go.Proofs.YtbncjpcalheiiaaDoor
open Go.RowKit

/-- What the walk is told of a slice of bytes that came in. -/
def IsBytes (w : World) (a : Option Addr) (len cap : Nat) (zs : List Int) : Prop :=
  (a = none ∧ len = 0 ∧ cap = 0 ∧ zs = []) ∨
  ∃ x, a = some x ∧ len ≤ cap ∧ cap ≤ maxLen ∧ zs.length = cap ∧ (∀ i, i < zs.length → w.cell? (x.add i) = some (.int .u8 (zs.getD i 0))) ∧ ∀ n ∈ zs, (Lit.int .u8 n).wf = true

theorem bytesAt_of {w : World} {a : Option Addr} {len cap : Nat} {zs : List Int} (h : IsBytes w a len cap zs) : BytesAt w a len := by
  rcases h with ⟨rfl, rfl, rfl, rfl⟩ | ⟨x, rfl, hl, hm, hz, hc, hs⟩
  · exact .inl rfl
  · by_cases h0 : len = 0
    · exact .inl h0
    · obtain ⟨b, o, spot⟩ := x
      have hc0 := hc 0 (by omega)
      have hspot : spot = none := by simpa [Addr.add] using World.cell?_spot hc0
      subst hspot
      refine .inr ⟨b, o, rfl, fun i hi => ?_⟩
      have h1 := hc i (by omega)
      rw [Addr.add_lit] at h1
      have hil : i < zs.length := by omega
      have h2 : zs.getD i 0 = zs[i] := by simp [List.getD_eq_getElem?_getD, List.getElem?_eq_getElem hil]
      have h3 := hs zs[i] (List.getElem_mem hil)
      have h4 : 0 ≤ zs[i] ∧ zs[i] ≤ 255 := by simpa [Lit.wf, IntKind.min, IntKind.max, IntKind.signed, IntKind.bits] using h3
      exact ⟨zs[i], h4.1, h4.2, by rw [h1, h2]⟩

theorem name_x1 : nameB ⟨#[120, 49]⟩ = true := by decide +kernel
theorem lines_two : (linesOf ⟨#[97, 10, 98, 10]⟩).length = 2 := by decide +kernel

/-- A list of two, its address written out. -/
def TwoRow (w : World) (e : Ending) (w' : World) : Prop := ∃ g cap, e = .returned (.slice (some ⟨g, 0, none⟩) 2 cap) ∧ Below w.heap.size w w'

theorem lines_ab (W : World) : Calls Tryd.prog 13 #[.string ⟨#[97, 10, 98, 10]⟩] W (TwoRow W) :=
  (implLines ⟨#[97, 10, 98, 10]⟩ W (by decide)).mono fun e w' h => by
    obtain ⟨v, rfl, hown, hb⟩ := h
    rw [lines_two] at hown
    rcases hown.2 with ⟨rfl, h0⟩ | ⟨g, cap, cur, rfl, _⟩
    · cases h0
    · exact ⟨g, cap, rfl, hb⟩

theorem fmt_size (n : Int) (h : inR n) : (fmtB n).size ≤ 21 := Lib.itoa_length_le n h.1 h.2

theorem join_back (g cap : Nat) (t : ByteArray) (W : World) (B : Nat) (h : W.ownsRow B 9 1 (.slice (some ⟨g, 0, none⟩) (parts t (isBy sepSp)).length cap) (parts t (isBy sepSp)).length ((parts t (isBy sepSp)).map Value.string)) (hc : (parts t (isBy sepSp)).length ≤ cap) (ht : t.size ≤ 14) :
    Calls Tryd.prog 10 #[.slice (some ⟨g, 0, none⟩) (parts t (isBy sepSp)).length cap, .string ⟨#[32]⟩] W fun e w' => e = .returned (.string t) ∧ Below W.heap.size W w' := by
  have hl := (parts_length t (isBy sepSp)).2
  have hj := split_join t
  have h1 := implJoinAny g cap (parts t (isBy sepSp)) sepSp W B h hc (by omega) (by rw [hj]; simp; omega)
  have h2 : joinB (parts t (isBy sepSp)) sepSp = t := by
    unfold joinB
    rw [hj]
  rw [h2] at h1
  exact h1

set_option maxHeartbeats 1600000 in
theorem walkFnWords (w : World) (a0 : Option Addr) (len0 cap0 : Nat) (z0 : List Int) (w0 : IsBytes w a0 len0 cap0 z0) (ht : TabOk w) (h1 : SentOk w "strconv.ErrSyntax") (h2 : SentOk w "strconv.ErrRange") :
    Calls Tryd.prog 3 #[.slice a0 len0 cap0] w fun e w' => e = .returned (.bool true) ∧ Below w.heap.size w w' := by
  have hB := bytesAt_of w0
  clear w0
  by_cases hb : (1048576 : Int) < (len0 : Int)
  · clear ht h1 h2 hB
    go_enter Tryd.func3, Tryd.ntmps3
    go_wp2
    go_ret
    exact ⟨rfl, Below.refl _ _⟩
  have hl : len0 ≤ 1048576 := by omega
  have CN := Lib.hid (makeNum_any w w a0 len0 cap0 1 hB (Below.refl _ _) hl (by omega) (by omega))
  have CT := Lib.hid (fun W h => text_any w W a0 len0 cap0 hB h hl)
  have CF := Lib.hid (fun n W h h' h'' => implFmt n W h h' h'')
  have HT := Lib.hid ht
  have H1 := Lib.hid h1
  have H2 := Lib.hid h2
  clear hB ht h1 h2
  go_enter Tryd.func3, Tryd.ntmps3
  go_wp2_with fail
  refine CN.out.mono ?_
  rintro e w1 ⟨x, rfl, x0, x1, hb1⟩
  have B1 := Lib.hid hb1
  clear hb1
  have T1 := Lib.hid (HT.out.below B1.out)
  have n0 : -9223372036854775808 ≤ x - 30000 := by omega
  have n1 : x - 30000 ≤ 9223372036854775807 := by omega
  go_wp2_with fail
  refine (CF.out (x - 30000) w1 n0 n1 T1.out).mono ?_
  rintro e w2 ⟨rfl, hb2⟩
  have B2 := Lib.hid hb2
  clear hb2
  have B12 := Lib.hid (below_via B1.out B2.out)
  have CP := Lib.hid (implParse (fmtB (x - 30000)) w2 (Nat.le_trans (fmt_size _ ⟨n0, n1⟩) (by omega)) (HT.out.below B12.out) (H1.out.below gESyn B12.out) (H2.out.below gERan B12.out))
  have HA : Hid (IsAns (fmtB (x - 30000)) (x - 30000) true) := .inl ⟨rfl, ⟨n0, n1⟩, rfl⟩
  generalize fmtB (x - 30000) = fs at CP HA
  go_wp2_with fail
  refine CP.out.mono ?_
  rintro e w3 ⟨r, b, rfl, A1, hb3⟩
  obtain ⟨e1, e2⟩ := ans_unique HA.out A1
  subst e1
  subst e2
  have B3 := Lib.hid (below_via B12.out hb3)
  clear hb3 A1
  go_wp2_with fail
  refine (CT.out w3 B3.out).mono ?_
  rintro e w4 ⟨t, rfl, hts, hb4⟩
  have B4 := Lib.hid (below_via B3.out hb4)
  clear hb4
  have CS := Lib.hid (fun W => (implSplit t sepSp W (by omega)).mono fun e w' h => some_row h)
  have CJ := Lib.hid (fun g cap W B h hc => join_back g cap t W B h hc hts)
  generalize parts t (isBy sepSp) = L at CS CJ
  unfold SomeRow at CS
  go_wp2_with fail
  refine (CS.out w4).mono ?_
  rintro e w5 ⟨g, cap, rfl, hcap, hown, hb5⟩
  have B5 := Lib.hid (below_via B4.out hb5)
  have CJ2 := Lib.hid (CJ.out g cap w5 _ hown hcap)
  clear hb5 hown hcap
  go_wp2_with fail
  refine CJ2.out.mono ?_
  rintro e w6 ⟨rfl, hb6⟩
  have B6 := Lib.hid (below_via B5.out hb6)
  clear hb6
  have CI := Lib.hid (implName ⟨#[120, 49]⟩ w6 (by unfold maxLen; decide))
  rw [name_x1] at CI
  go_wp2_with fail
  refine CI.out.mono ?_
  rintro e w7 ⟨rfl, hb7⟩
  have B7 := Lib.hid (below_via B6.out hb7)
  clear hb7
  go_wp2_with fail
  refine (lines_ab w7).mono ?_
  rintro e w8 ⟨g2, cap2, rfl, hb8⟩
  have B8 := Lib.hid (below_via B7.out hb8)
  clear hb8
  go_wp2
  go_ret
  exact ⟨rfl, B8.out⟩
end Go.Proofs.YtbncjpcalheiiaaDoor
