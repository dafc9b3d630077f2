/- The contract of the model's making of a weighing out of a code: it returns a valid one of the call's own. Condition: from 2 to 13 coins. -/
import Derived.Test.YtlflblngbneacabDoorDrawWalk
import Derived.Test.YtlflblngbneacabDoorOutcomesLaw
namespace Go.Proofs.YtlflblngbneacabDoor
open Go.RowKit

set_option maxHeartbeats 1600000 in
theorem specMakeWn (s : Int) (s0 : 0 ≤ s) (s1 : s ≤ 1000) (W w : World) (a : Option Addr) (len cap : Nat) (n : Int) (hB : BytesAt W a len) (hb : Below W.heap.size W w) (hl : len ≤ 1048576) (n0 : 2 ≤ n) (n1 : n ≤ 13) :
    Calls Tryd.prog 22 #[.slice a len cap, .int .i64 s, .int .i64 n] w fun e w' => ∃ v L R, e = .returned v ∧ OwnW w' w.heap.size v L R ∧ weighB L R n = true ∧ Below w.heap.size w w' := by
  have P1 := Lib.hid (VarAt.new w 40 (.slice none 0 0) (.slice none 0 0))
  have B1 := Lib.hid (alloc_below w (.cells #[.slice none 0 0, .slice none 0 0] 40))
  generalize hX1 : w.alloc (.cells #[.slice none 0 0, .slice none 0 0] 40) = X1 at P1 B1
  have s1 : Hid (X1.heap.size = w.heap.size + 1) := by unfold Hid; rw [← hX1]; simp
  have hbX : Below W.heap.size W X1 := hb.trans (B1.out.mono hb.size)
  have C1 := Lib.hid (new17_any W X1 a len cap s hB hbX hl (by omega) (by omega))
  have C2 := Lib.hid (fun V b h => specDraw W V b a len cap n hB h hl n0 n1)
  clear hB hb hbX
  have h13 : ¬ (13 : Int) < n := by omega
  by_cases h2 : (2 : Int) < n
  · go_enter Tryd.func22, Tryd.ntmps22
    go_wp2_with fail
    refine C1.out.mono ?_
    rintro e w2 ⟨b, rfl, hbw, hcur, hbel⟩
    have HC := Lib.hid hcur
    have P2 := Lib.hid (P1.out.below hbel)
    have B2 := Lib.hid (below_up B1.out hbel)
    have HB := Lib.hid hbw
    clear hcur hbel hbw
    go_wp2_with fail
    refine (C2.out w2 b HC.out).mono ?_
    rintro e w3 ⟨_, L, R, rfl, ⟨vl, vr, rfl, A1, A2, S3, D1, D2⟩, hv, -, hg⟩
    obtain ⟨ga, na, ca, rfl⟩ := D1
    obtain ⟨gb, nb, cb, rfl⟩ := D2
    have P3 := Lib.hid (P2.out.grown hg (by have := HB.out; have := s1.out; simp; omega))
    have B3 := Lib.hid (B2.out.grown hg B2.out.size (fun k e => by have := HB.out; have := s1.out; simp at e; omega))
    have O1 := Lib.hid A1
    have O2 := Lib.hid A2
    have HS := Lib.hid S3
    have Z := Lib.hid P2.out.1.2.2
    have HV := Lib.hid hv
    clear A1 A2 S3 hv hg hX1
    obtain ⟨⟨z0, z1, z2⟩, g0, g1⟩ := P3.out
    have q0 : (w3.setCell ⟨w.heap.size, 0, none⟩ (.slice (some ⟨ga, 0, none⟩) na ca)).cell? ⟨w.heap.size, 1, none⟩ = some (.slice none 0 0) := (P3.out.set0 _).1.2.1
    go_wp2
    generalize hU : (w3.setCell ⟨w.heap.size, 0, none⟩ (.slice (some ⟨ga, 0, none⟩) na ca)).setCell ⟨w.heap.size, 1, none⟩ (.slice (some ⟨gb, 0, none⟩) nb cb) = U
    have V1 : VarAt U w.heap.size (.slice (some ⟨ga, 0, none⟩) na ca) (.slice (some ⟨gb, 0, none⟩) nb cb) := by rw [← hU]; exact (P3.out.set0 _).set1 _
    have BU : Below w.heap.size w U := by rw [← hU]; exact (B3.out.setCell (p := ⟨w.heap.size, 0, none⟩) (Nat.le_refl _) _).setCell (p := ⟨w.heap.size, 1, none⟩) (Nat.le_refl _) _
    have hz := Z.out
    have QU : Own U w2.heap.size (.slice (some ⟨ga, 0, none⟩) na ca) L := by rw [← hU]; exact (O1.out.setCell (by omega) _).setCell (by omega) _
    have RU : Own U w2.heap.size (.slice (some ⟨gb, 0, none⟩) nb cb) R := by rw [← hU]; exact (O2.out.setCell (by omega) _).setCell (by omega) _
    obtain ⟨⟨u0, u1, -⟩, -, -⟩ := V1
    refine bodyPost_ret (v := .agg #[.slice (some ⟨ga, 0, none⟩) na ca, .slice (some ⟨gb, 0, none⟩) nb cb]) (by simp [results, Tryd.results22, go_sem, u0, u1]) rfl ⟨_, L, R, rfl, ⟨_, _, rfl, QU.lower (by omega), RU.lower (by omega), HS.out, ⟨_, _, _, rfl⟩, ⟨_, _, _, rfl⟩⟩, HV.out, BU⟩
  · obtain rfl : n = 2 := by omega
    clear h13 h2
    go_enter Tryd.func22, Tryd.ntmps22
    go_wp2_with fail
    refine C1.out.mono ?_
    rintro e w2 ⟨b, rfl, hbw, hcur, hbel⟩
    have HC := Lib.hid hcur
    have P2 := Lib.hid (P1.out.below hbel)
    have B2 := Lib.hid (below_up B1.out hbel)
    have HB := Lib.hid hbw
    clear hcur hbel hbw
    go_wp2_with fail
    refine (C2.out w2 b HC.out).mono ?_
    rintro e w3 ⟨_, L, R, rfl, ⟨vl, vr, rfl, A1, A2, S3, D1, D2⟩, hv, -, hg⟩
    obtain ⟨ga, na, ca, rfl⟩ := D1
    obtain ⟨gb, nb, cb, rfl⟩ := D2
    have P3 := Lib.hid (P2.out.grown hg (by have := HB.out; have := s1.out; simp; omega))
    have B3 := Lib.hid (B2.out.grown hg B2.out.size (fun k e => by have := HB.out; have := s1.out; simp at e; omega))
    have O1 := Lib.hid A1
    have O2 := Lib.hid A2
    have HS := Lib.hid S3
    have Z := Lib.hid P2.out.1.2.2
    have HV := Lib.hid hv
    clear A1 A2 S3 hv hg hX1
    obtain ⟨⟨z0, z1, z2⟩, g0, g1⟩ := P3.out
    have q0 : (w3.setCell ⟨w.heap.size, 0, none⟩ (.slice (some ⟨ga, 0, none⟩) na ca)).cell? ⟨w.heap.size, 1, none⟩ = some (.slice none 0 0) := (P3.out.set0 _).1.2.1
    go_wp2
    generalize hU : (w3.setCell ⟨w.heap.size, 0, none⟩ (.slice (some ⟨ga, 0, none⟩) na ca)).setCell ⟨w.heap.size, 1, none⟩ (.slice (some ⟨gb, 0, none⟩) nb cb) = U
    have V1 : VarAt U w.heap.size (.slice (some ⟨ga, 0, none⟩) na ca) (.slice (some ⟨gb, 0, none⟩) nb cb) := by rw [← hU]; exact (P3.out.set0 _).set1 _
    have BU : Below w.heap.size w U := by rw [← hU]; exact (B3.out.setCell (p := ⟨w.heap.size, 0, none⟩) (Nat.le_refl _) _).setCell (p := ⟨w.heap.size, 1, none⟩) (Nat.le_refl _) _
    have hz := Z.out
    have QU : Own U w2.heap.size (.slice (some ⟨ga, 0, none⟩) na ca) L := by rw [← hU]; exact (O1.out.setCell (by omega) _).setCell (by omega) _
    have RU : Own U w2.heap.size (.slice (some ⟨gb, 0, none⟩) nb cb) R := by rw [← hU]; exact (O2.out.setCell (by omega) _).setCell (by omega) _
    obtain ⟨⟨u0, u1, -⟩, -, -⟩ := V1
    refine bodyPost_ret (v := .agg #[.slice (some ⟨ga, 0, none⟩) na ca, .slice (some ⟨gb, 0, none⟩) nb cb]) (by simp [results, Tryd.results22, go_sem, u0, u1]) rfl ⟨_, L, R, rfl, ⟨_, _, rfl, QU.lower (by omega), RU.lower (by omega), HS.out, ⟨_, _, _, rfl⟩, ⟨_, _, _, rfl⟩⟩, HV.out, BU⟩
theorem specMakeW : MakesW := fun W w a len cap n hB hb hl n0 n1 => specMakeWn 20 (by decide) (by decide) W w a len cap n hB hb hl n0 n1
end Go.Proofs.YtlflblngbneacabDoor
