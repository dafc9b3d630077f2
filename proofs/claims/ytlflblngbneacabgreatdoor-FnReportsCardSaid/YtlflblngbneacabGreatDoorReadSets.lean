/- The contract of the program's ReadSets, and the walk through its exact law. Conditions: the text has at most 2^20 bytes; the variables that the code reads hold what the program's text lays. -/
import Derived.Test.YtlflblngbneacabGreatDoorGRead
import Derived.Test.YtlflblngbneacabGreatDoorRepLaws
import Derived.Test.YtlflblngbneacabGreatDoorGSet
import Derived.Test.YtlflblngbneacabGreatDoorSplit
namespace Go.Proofs.YtlflblngbneacabGreatDoor
open Go.RowKit Go.Shelf

set_option maxRecDepth 100000 in
set_option maxHeartbeats 1600000 in
theorem implReadSetsOf (t : ByteArray) (ht : t.size ≤ 1048576) (w : World) (htab : TabOk w) (a b : Addr) (h : ErrsAt w a b) :
    Calls Tryz.prog 31 #[.string t] w (GivesQ (setsL t) (setsB t) w) := by
  have HE := Lib.hid h
  have HT := Lib.hid htab
  have hpl := parts_length t (isBy sepSp)
  have C0 := Lib.hid (implSplit t sepSp w (by omega))
  have C1 : Hid (∀ v U, U.ownsRow w.heap.size 9 1 v (parts t (isBy sepSp)).length ((parts t (isBy sepSp)).map Value.string) → Below w.heap.size w U → Calls Tryz.prog 83 #[v, .func (.func 21) #[] #[]] U fun e w' => ∃ u er, e = .returned (.tuple #[u, er]) ∧ Below U.heap.size U w' ∧
      ((er = .nilIface ∧ 0 < (parts t (isBy sepSp)).length ∧ (parts t (isBy sepSp)).all readB = true ∧ Own w' U.heap.size u ((parts t (isBy sepSp)).map readV)) ∨ (∃ s, er = emptyErr s b ∧ u = .slice none 0 0 ∧ ((parts t (isBy sepSp)).length = 0 ∨ (parts t (isBy sepSp)).all readB = false)))) := by
    intro v U hrow hU
    refine implReadI 21 (fun _ _ => by kernel_rfl) #[] #[] v (parts t (isBy sepSp)) readV readB U (by obtain ⟨a, c, hv⟩ := ownsLen hrow; exact ⟨a, c, hv⟩) (by omega)
      (fun i hi => elem_rows hrow rfl i hi)
      (fun i hi W hW => implReadSet _ W (HT.out.below (below_up hU hW))) b ((unknownAt HE.out).below hU)
  have C2 := Lib.hid (fun v hv W => implAccINone v hv W)
  have C3 := Lib.hid (fun v s W hW => implAccINot v s a b W hW)
  have HLN : Hid ((parts t (isBy sepSp)).all readB = true → setsL t = (parts t (isBy sepSp)).map readV ∧ setsB t = true) := by
    intro h2
    have e : setsB t = true := h2
    exact ⟨by unfold setsL; rw [if_pos e], e⟩
  have HLF : Hid ((parts t (isBy sepSp)).length = 0 ∨ (parts t (isBy sepSp)).all readB = false → setsL t = [] ∧ setsB t = false) := by
    intro h1
    have e : setsB t = false := by
      rcases h1 with h1 | h1
      · omega
      · exact h1
    exact ⟨by unfold setsL; rw [e]; rfl, e⟩
  unfold GivesQ
  generalize setsL t = L at HLN HLF ⊢
  generalize setsB t = k at HLN HLF ⊢
  generalize (parts t (isBy sepSp)).map readV = M at C1 HLN
  generalize (parts t (isBy sepSp)).all readB = q at C1 HLN HLF
  obtain ⟨m, hmm⟩ : ∃ m, (parts t (isBy sepSp)).length = m := ⟨_, rfl⟩
  have HMM := Lib.hid hmm
  rw [hmm] at C1 HLF
  clear hmm
  have HS : Hid (∀ e w', Splits t sepSp w e w' → ∃ v, e = .returned v ∧ Below w.heap.size w w' ∧ ∃ x n c, v = .slice x n c ∧ Calls Tryz.prog 83 #[v, .func (.func 21) #[] #[]] w' fun e w'' => ∃ u er, e = .returned (.tuple #[u, er]) ∧ Below w'.heap.size w' w'' ∧
      ((er = .nilIface ∧ 0 < m ∧ q = true ∧ Own w'' w'.heap.size u M) ∨ (∃ s, er = emptyErr s b ∧ u = .slice none 0 0 ∧ (m = 0 ∨ q = false)))) := by
    rintro e w' ⟨v, rfl, o, bb⟩
    obtain ⟨x, n, c, hv⟩ := ownsForm o
    refine ⟨v, rfl, bb, x, n, c, hv, C1.out v w' ?_ bb⟩
    have o2 := o
    rwa [HMM.out] at o2
  generalize Splits t sepSp w = S at C0 HS
  clear C1 h htab ht hpl
  go_enter Tryz.func31, Tryz.ntmps31
  go_wp2_with fail
  refine C0.out.mono ?_
  intro e w1 hS
  obtain ⟨v, rfl, b1, x, n, c, rfl, hC⟩ := HS.out e w1 hS
  have B := Lib.hid b1
  have CC := Lib.hid hC
  have H1 := Lib.hid (HE.out.below b1)
  clear b1 hS hC
  go_wp2_with fail
  refine CC.out.mono ?_
  rintro e w2 ⟨u, er, rfl, b2, hp⟩
  have B2 := Lib.hid (below_up B.out b2)
  have H2 := Lib.hid (H1.out.below b2)
  have hs1 : w.heap.size ≤ w1.heap.size := B.out.size
  clear b2
  rcases hp with ⟨rfl, h1, rfl, h2⟩ | ⟨s, rfl, rfl, h1⟩
  · obtain ⟨rfl, rfl⟩ := HLN.out rfl
    have O := Lib.hid (rows_lower (show w2.ownsRow _ _ _ _ _ _ from h2) hs1)
    obtain ⟨ga, ka, ca, rfl⟩ := ownsForm O.out
    clear h2
    go_wp2_with fail
    refine (C2.out (.slice ga ka ca) ⟨_, _, _, rfl⟩ _).mono ?_
    rintro e w3 ⟨rfl, b3⟩
    have B3 := Lib.hid (below_up B2.out b3)
    have O3 := Lib.hid (owns_below O.out b3)
    clear b3
    go_wp2
    go_ret2
    exact ⟨_, rfl, O3.out, B3.out⟩
  · obtain ⟨rfl, rfl⟩ := HLF.out h1
    unfold emptyErr at *
    go_wp2_with fail
    refine (C3.out (.slice none 0 0) s _ H2.out).mono ?_
    rintro e w3 ⟨rfl, b3⟩
    have B3 := Lib.hid (below_up B2.out b3)
    clear b3
    go_wp2
    go_ret2
    exact ⟨_, rfl, World.ownsRow_nil _ _ _ _, B3.out⟩

end Go.Proofs.YtlflblngbneacabGreatDoor
