/- Plain facts on the texts of weighings: a valid weighing is recovered from its text. No condition. -/
import Derived.Test.YtdfcjdepfikboaaDoorFmtWeighSpec
import Derived.Test.YtdfcjdepfikboaaDoorReadListSpec
namespace Go.Proofs.YtdfcjdepfikboaaDoor
open Go.RowKit

def colon : ByteArray := ⟨#[58]⟩

theorem fmt_free (n : Int) (c : UInt8) (hc : c.toNat = 44 ∨ c.toNat = 58) : c ∉ (fmtB n).data.toList := by
  rw [fmtB_list]
  unfold Lib.itoa
  intro h
  split at h
  · simp only [List.mem_cons] at h
    rcases h with h | h
    · subst h; revert hc; decide
    · have := dec_digit _ c h; omega
  · have := dec_digit _ c h; omega

theorem mem_join {sep : List UInt8} {c : UInt8} : ∀ {ps : List (List UInt8)}, c ∈ Lib.join ps sep → c ∈ sep ∨ ∃ p ∈ ps, c ∈ p
  | [], h => by simp [Lib.join, List.intercalate] at h
  | [x], h => by rw [Lib.join_one] at h; exact .inr ⟨x, by simp, h⟩
  | x :: z :: r, h => by
    rw [join_twoC, List.mem_append, List.mem_append] at h
    rcases h with (h | h) | h
    · exact .inr ⟨x, by simp, h⟩
    · exact .inl h
    · rcases mem_join h with h | ⟨p, hp, h⟩
      · exact .inl h
      · exact .inr ⟨p, List.mem_cons_of_mem _ hp, h⟩

theorem listB_list (l : List Int) : (listB l).data.toList = Lib.join ((l.map fmtB).map (·.data.toList)) [44] := rfl

theorem colon_free (l : List Int) : (58 : UInt8) ∉ (listB l).data.toList := by
  rw [listB_list]
  intro h
  rcases mem_join h with h | ⟨p, hp, h⟩
  · simp at h
  · rw [List.map_map, List.mem_map] at hp
    obtain ⟨x, _, rfl⟩ := hp
    exact fmt_free x 58 (.inr rfl) h

theorem parts_listB {l : List Int} (hl : l ≠ []) : parts (listB l) (isBy comma) = l.map fmtB := by
  refine parts_eq (c := 44) (by simpa using hl) (fun q hq => ?_) (listB_list l).symm
  rw [List.mem_map] at hq
  obtain ⟨x, _, rfl⟩ := hq
  exact fmt_free x 44 (.inl rfl)

theorem weigh_ne {L R : List Int} {n : Int} (h : weighB L R n = true) : L ≠ [] ∧ R ≠ [] := by
  unfold weighB sideB at h
  simp only [Bool.and_eq_true, decide_eq_true_eq] at h
  constructor <;> (rintro rfl; simp at h)

theorem parts_weigh {L R : List Int} (h : weighB L R 13 = true) : parts (weighT L R) (isBy colon) = [listB L, listB R] := by
  refine parts_eq (c := 58) (by simp) (fun q hq => ?_) ?_
  · simp only [List.mem_cons, List.not_mem_nil, or_false] at hq
    rcases hq with rfl | rfl <;> exact colon_free _
  · unfold weighT
    rw [if_pos h]
    simp only [List.map_cons, List.map_nil]
    rw [join_twoC, Lib.join_one, ByteArray.data_append, ByteArray.data_append, Array.toList_append, Array.toList_append]

theorem map_fmt_inj : ∀ {a b : List Int}, a.map fmtB = b.map fmtB → a = b
  | [], [], _ => rfl
  | [], _ :: _, h => by simp at h
  | _ :: _, [], h => by simp at h
  | x :: a, y :: b, h => by
    simp only [List.map_cons, List.cons.injEq] at h
    rw [fmt_inj h.1, map_fmt_inj h.2]

theorem weigh_inj {L R L' R' : List Int} (h : weighB L R 13 = true) (h' : weighB L' R' 13 = true) (e : weighT L R = weighT L' R') : L = L' ∧ R = R' := by
  have p := parts_weigh h
  rw [e, parts_weigh h'] at p
  simp only [List.cons.injEq, and_true] at p
  obtain ⟨n1, n2⟩ := weigh_ne h
  obtain ⟨n3, n4⟩ := weigh_ne h'
  have a1 := parts_listB n1
  rw [← p.1, parts_listB n3] at a1
  have a2 := parts_listB n2
  rw [← p.2, parts_listB n4] at a2
  exact ⟨(map_fmt_inj a1).symm, (map_fmt_inj a2).symm⟩

/-- L, R and b are the weighing of a text: it and true, or none and false. -/
def IsW (s : ByteArray) (L R : List Int) (b : Bool) : Prop :=
  (b = true ∧ weighB L R 13 = true ∧ weighT L R = s) ∨ (b = false ∧ L = [] ∧ R = [] ∧ ∀ L' R' : List Int, weighB L' R' 13 = true → weighT L' R' ≠ s)

theorem isW_unique {s : ByteArray} {L R L' R' : List Int} {b b' : Bool} (h : IsW s L R b) (h' : IsW s L' R' b') : L = L' ∧ R = R' ∧ b = b' := by
  rcases h with ⟨rfl, h1, h2⟩ | ⟨rfl, rfl, rfl, h1⟩ <;> rcases h' with ⟨rfl, h3, h4⟩ | ⟨rfl, rfl, rfl, h3⟩
  · obtain ⟨e1, e2⟩ := weigh_inj h1 h3 (h2.trans h4.symm)
    exact ⟨e1, e2, rfl⟩
  · exact absurd h2 (h3 _ _ h1)
  · exact absurd h4 (h1 _ _ h3)
  · exact ⟨rfl, rfl, rfl⟩

theorem in_inR {l : List Int} (h : ∀ x ∈ l, 1 ≤ x ∧ x ≤ 13) : ∀ x ∈ l, inR x := fun x hx => by have := h x hx; unfold inR; omega

/-- A text that has not two parts is no weighing's. -/
theorem isW_two {s : ByteArray} (h : (parts s (isBy colon)).length ≠ 2) : IsW s [] [] false :=
  .inr ⟨rfl, rfl, rfl, fun L' R' hv e => h (by rw [← e, parts_weigh hv]; rfl)⟩

/-- A text whose parts are read as lists is a weighing's if its own text is the given one. -/
theorem isW_read {s p0 p1 : ByteArray} {a b : List Int} {one two : Bool} (hp : parts s (isBy colon) = [p0, p1]) (h0 : IsL (parts p0 (isBy comma)) a one) (h1 : IsL (parts p1 (isBy comma)) b two) :
    ((one && two) = true ∧ weighT a b = s → IsW s a b true) ∧ (¬ ((one && two) = true ∧ weighT a b = s) → IsW s [] [] false) := by
  constructor
  · rintro ⟨_, h⟩
    refine .inl ⟨rfl, ?_, h⟩
    cases hb : weighB a b 13 with
    | true => rfl
    | false =>
      unfold weighT at h
      rw [hb, if_neg (by decide)] at h
      rw [← h] at hp
      have : (parts (⟨#[]⟩ : ByteArray) (isBy colon)).length = 1 := by
        have := parts_length (⟨#[]⟩ : ByteArray) (isBy colon)
        have e : (⟨#[]⟩ : ByteArray).size = 0 := rfl
        omega
      rw [hp] at this
      simp at this
  · intro hn
    refine .inr ⟨rfl, rfl, rfl, fun L' R' hv e => ?_⟩
    have p := parts_weigh hv
    rw [e, hp] at p
    simp only [List.cons.injEq, and_true] at p
    obtain ⟨n1, n2⟩ := weigh_ne hv
    obtain ⟨i1, i2⟩ := weigh_in hv
    rw [p.1, parts_listB n1] at h0
    rw [p.2, parts_listB n2] at h1
    rcases h0 with ⟨rfl, _, e0⟩ | ⟨_, _, h⟩
    · rcases h1 with ⟨rfl, _, e1⟩ | ⟨_, _, h⟩
      · have a1 := map_fmt_inj e0
        have a2 := map_fmt_inj e1
        subst a1
        subst a2
        exact hn ⟨rfl, e⟩
      · exact h R' (in_inR i2) rfl
    · exact h L' (in_inR i1) rfl
end Go.Proofs.YtdfcjdepfikboaaDoor
