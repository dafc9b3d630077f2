/- The contracts of the program's SumsTell, IsDetecting and DecodeSums. Conditions: the slices read as integers. -/
import Derived.Test.YtoliloophjeooaaSumCompact
namespace Go.Proofs.Ytoliloophjeooaa
open Go.RowKit

set_option maxRecDepth 100000 in
set_option maxHeartbeats 3200000 in
theorem implTell (n : Int) (v : Value) (P : List Int) (w : World) (h : IntsAt w v P) (hm : P.length ≤ 1048576) :
    Calls Try.prog 18 #[.int .i64 n, v] w fun e w' => e = .returned (.int .i64 (tellI n P)) ∧ Below w.heap.size w w' := by
  have CP := Lib.hid (implPoolsOk n v P w h (by unfold maxLen; omega))
  by_cases hp : poolsB n P = true
  · obtain ⟨⟨n1, n10⟩, hl, hin⟩ := pools_in hp
    obtain ⟨hs1, hs2, hs3, hs4⟩ := shl_top n1 n10
    obtain ⟨N, hN⟩ : ∃ N : Nat, 2 ^ n.toNat = N := ⟨_, rfl⟩
    have hN2 : (2 : Int) ^ n.toNat = (N : Int) := by rw [← hN]; push_cast; rfl
    have hNb : N ≤ 1024 := by omega
    have h0 : 0 < N := by omega
    have HE : Hid (tellI n P = ((seenK P N).length : Int)) := by unfold Hid tellI; rw [if_pos hp, hN]
    rw [hp] at CP
    have CA := Lib.hid (implAllS n n1 n10 N hN v P w h hl hin)
    have HSO := Lib.hid (fun W lo g cap us (hR : RowsI W lo (.slice (some ⟨g, 0, none⟩) N cap) (allSL P N) us) => implSortRows P hm W lo g cap N us h0 hNb hR)
    have HCO := Lib.hid (fun (p : Nat → Nat) W lo g cap us (hR : RowsI W lo (.slice (some ⟨g, 0, none⟩) N cap) ((List.range N).map fun i => sumL P (p i : Nat)) us) => implCompact (fun i => sumL P (p i : Nat)) (fun i => by rw [sumL_len]; exact hm) W lo g cap N us h0 hNb hR)
    have HLE : Hid (∀ p : Nat → Nat, Sorted P N p → (uniqF (fun i => sumL P (p i : Nat)) N).length = (seenK P N).length) := fun p hp =>
      runs_seen P N _ hp.up (fun i hi => ⟨p i, hp.lt i hi, rfl⟩) (fun k hk => by obtain ⟨i, hi, e⟩ := hp.all k hk; exact ⟨i, hi, by rw [e]⟩)
    obtain ⟨a, c, rfl, -⟩ := h
    unfold RowsS at CA
    have HAL := Lib.hid (allSL_len P N)
    generalize allSL P N = S at CA HSO HAL
    generalize (seenK P N).length = ans at HE HLE
    clear hin hs1 hs2 hs3 hs4 hN hN2 hp
    generalize P.length = m at CP CA hm hl ⊢
    go_enter Try.func18, Try.ntmps18
    go_wp2_with fail
    refine CP.out.mono ?_
    rintro e w1 ⟨rfl, rfl⟩
    go_wp2_with fail
    refine CA.out.mono ?_
    rintro e w1 ⟨u, us, rfl, o, bb⟩
    have hNo : ∃ g cap, u = .slice (some ⟨g, 0, none⟩) N cap ∧ w.heap.size ≤ g := by
      have h1 := o.2.1
      rw [HAL.out] at h1
      rcases h1.2 with ⟨_, e⟩ | ⟨g, cap, cur, e, e2, _⟩
      · omega
      · exact ⟨g, cap, e, e2⟩
    obtain ⟨g, cap, rfl, hg⟩ := hNo
    have O := Lib.hid o
    have B := Lib.hid bb
    have hgs := (o.2.1.lt g rfl).2
    clear o bb
    go_wp2_with fail
    refine (HSO.out _ _ _ _ _ O.out).mono ?_
    rintro e w2 ⟨rfl, p, us2, hS, o2, gr⟩
    have O2 := Lib.hid o2
    have B2 := Lib.hid (Below.grown B.out gr (by have := B.out.size; exact this) (fun j hj => by cases hj; exact hg))
    have HEQ := Lib.hid (HLE.out p hS)
    clear o2 gr hS O
    go_wp2_with fail
    refine (HCO.out p _ _ _ _ _ O2.out).mono ?_
    rintro e w3 ⟨⟨a3, c3, rfl⟩, gr⟩
    have B3 := Lib.hid (Below.grown B2.out gr (by have := B2.out.size; exact this) (fun j hj => by cases hj; exact hg))
    have HEE := HEQ.out
    clear gr
    generalize (uniqF (fun i => sumL P (p i : Nat)) N).length = ans2 at HEE ⊢
    subst HEE
    go_wp2
    go_ret
    exact ⟨ret_int HE.out.symm, B3.out⟩
  · have hp2 : poolsB n P = false := by simpa using hp
    have HE : Hid (tellI n P = -1) := by unfold Hid tellI; rw [if_neg hp]
    rw [hp2] at CP
    obtain ⟨a, c, rfl, -⟩ := h
    generalize tellI n P = r at HE ⊢
    clear hp hp2
    go_enter Try.func18, Try.ntmps18
    go_wp2_with fail
    refine CP.out.mono ?_
    rintro e w1 ⟨rfl, rfl⟩
    go_wp2
    go_ret
    exact ⟨ret_int HE.out.symm, Below.refl _ _⟩

set_option maxRecDepth 100000 in
set_option maxHeartbeats 3200000 in
theorem implDetecting (n : Int) (v : Value) (P : List Int) (w : World) (h : IntsAt w v P) (hm : P.length ≤ 1048576) :
    Calls Try.prog 20 #[.int .i64 n, v] w fun e w' => e = .returned (.bool (detB n P)) ∧ Below w.heap.size w w' := by
  have CP := Lib.hid (fun W hW => implPoolsOk n v P W hW (by unfold maxLen; omega))
  have CT := Lib.hid (fun W hW => implTell n v P W hW hm)
  by_cases hp : poolsB n P = true
  · obtain ⟨⟨n1, n10⟩, hl, hin⟩ := pools_in hp
    obtain ⟨hs1, hs2, hs3, hs4⟩ := shl_top n1 n10
    obtain ⟨N, hN⟩ : ∃ N : Nat, 2 ^ n.toNat = N := ⟨_, rfl⟩
    have hN2 : (2 : Int) ^ n.toNat = (N : Int) := by rw [← hN]; push_cast; rfl
    rw [hN2] at hs1
    have HE := Lib.hid (det_tell hp)
    rw [hN] at HE
    rw [hp] at CP
    have H := Lib.hid h
    obtain ⟨a, c, rfl, -⟩ := h
    generalize detB n P = r at HE ⊢
    generalize tellI n P = t at HE CT
    clear hin hs2 hs3 hs4 hN hp hl
    generalize P.length = m at CP CT H hm ⊢
    have hr := HE.out
    clear HE
    subst hr
    go_enter Try.func20, Try.ntmps20
    go_wp2_with fail
    first | (go_region_with (first | (go_at_call 37; refine (CP.out _ (H.out.below (below_drewN (Below.refl _ _) 1))).mono ?_; rintro e w1 ⟨rfl, rfl⟩) | (go_at_call 18; refine (CT.out _ (H.out.below (below_drewN (Below.refl _ _) 1))).mono ?_; rintro e w1 ⟨rfl, hb1⟩; have HB := Lib.hid hb1; clear hb1) | fail)) | fail
    all_goals (go_wp2; go_ret; exact ⟨rfl, ⟨HB.out.os, HB.out.tape, HB.out.output, HB.out.size, HB.out.block⟩⟩)
  · have hp2 : poolsB n P = false := by simpa using hp
    have HE : Hid (detB n P = false) := by unfold Hid detB; rw [hp2]; rfl
    rw [hp2] at CP
    have H := Lib.hid h
    obtain ⟨a, c, rfl, -⟩ := h
    rw [HE.out]
    clear hp hp2 CT HE
    generalize P.length = m at CP H hm ⊢
    go_enter Try.func20, Try.ntmps20
    go_wp2_with fail
    go_quiet (first | (go_at_call 37; exact quiet_of (CP.out _ (H.out.drewN _))) | fail)
    go_wp2
    go_ret
    exact ⟨rfl, below_drewN (Below.refl _ _) _⟩
end Go.Proofs.Ytoliloophjeooaa
