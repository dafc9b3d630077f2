/- The parts of a text between the bytes c: joined they are the text, none holds c, and no other list does both. No condition. -/
import Derived.Test.YtlflblngbneacabGreatDoorGSpl
import Derived.Lib.Join
namespace Go.Proofs.YtlflblngbneacabGreatDoor
open Go.RowKit

def sepC (c : UInt8) : ByteArray := ⟨#[c]⟩

theorem isBy_c (c b : UInt8) : isBy (sepC c) b = (b == c) := by
  unfold isBy sepC
  simp only [List.contains_cons, List.contains_nil, Bool.or_false]

theorem extract_listC (s : ByteArray) (a b : Nat) : (s.extract a b).data.toList = (s.data.toList.drop a).take (b - a) := by
  simp

theorem join_twoC (x z : List UInt8) (r : List (List UInt8)) (sep : List UInt8) : Lib.join (x :: z :: r) sep = x ++ sep ++ Lib.join (z :: r) sep := by
  rw [Lib.join_cons, Lib.join_cons]
  simp [Lib.joinTail, List.append_assoc]

theorem join_flatC (c : UInt8) (xs : List (List UInt8)) (y : List UInt8) : Lib.join (xs ++ [y]) [c] = (xs.map (· ++ [c])).flatten ++ y := by
  induction xs with
  | nil => simp [Lib.join_one]
  | cons x r ih =>
    cases r with
    | nil => rw [List.cons_append, List.nil_append, join_twoC, Lib.join_one]; simp
    | cons z r =>
      rw [List.cons_append, List.cons_append, join_twoC, ← List.cons_append, ih]
      simp [List.append_assoc]

theorem spl_flatC (c : UInt8) (s : ByteArray) (k : Nat) (hk : k ≤ s.size) :
    (spl s (isBy (sepC c)) k).2 ≤ k ∧ ((spl s (isBy (sepC c)) k).1.map (fun x => x.data.toList ++ [c])).flatten = s.data.toList.take (spl s (isBy (sepC c)) k).2 ∧
      (∀ x ∈ (spl s (isBy (sepC c)) k).1, c ∉ x.data.toList) ∧ c ∉ (s.extract (spl s (isBy (sepC c)) k).2 k).data.toList := by
  induction k with
  | zero => simp [spl]
  | succ k ih =>
    have hlt : k < s.size := by omega
    obtain ⟨h1, h2, h3, h4⟩ := ih (by omega)
    obtain ⟨fr, hfr⟩ : ∃ fr, (spl s (isBy (sepC c)) k).2 = fr := ⟨_, rfl⟩
    obtain ⟨ps, hps⟩ : ∃ ps, (spl s (isBy (sepC c)) k).1 = ps := ⟨_, rfl⟩
    have he : spl s (isBy (sepC c)) k = (ps, fr) := by rw [← hps, ← hfr]
    rw [hfr] at h1 h2 h4
    rw [hps] at h2 h3
    cases hp : isBy (sepC c) s[k] with
    | true =>
      rw [spl_yes hlt hp he]
      rw [isBy_c] at hp
      have hc : s[k] = c := eq_of_beq hp
      refine ⟨Nat.le_refl _, ?_, ?_, ?_⟩
      · rw [List.map_append, List.flatten_append, h2]
        simp only [List.map_cons, List.map_nil, List.flatten_cons, List.flatten_nil, List.append_nil]
        rw [take_snoc s k hlt, hc, extract_listC, ← List.append_assoc]
        congr 1
        rw [← List.drop_take]
        have : s.data.toList.take fr = (s.data.toList.take k).take fr := by rw [List.take_take]; congr 1; omega
        rw [this, List.take_append_drop]
      · intro x hx
        simp only [List.mem_append, List.mem_singleton] at hx
        rcases hx with hx | rfl
        · exact h3 x hx
        · exact h4
      · rw [extract_listC, Nat.sub_self]; simp
    | false =>
      rw [spl_no hlt hp he]
      refine ⟨by omega, h2, h3, ?_⟩
      rw [isBy_c] at hp
      rw [extract_listC] at h4 ⊢
      show c ∉ (s.data.toList.drop fr).take (k + 1 - fr)
      rw [show k + 1 - fr = (k - fr) + 1 by omega, List.take_succ_eq_append_getElem (by simp; omega)]
      simp only [List.mem_append, List.mem_singleton]
      rintro (h5 | h5)
      · exact h4 h5
      · rw [List.getElem_drop] at h5
        have h6 : s.data.toList[fr + (k - fr)]'(by simp; omega) = s[k] := by
          have e : fr + (k - fr) = k := by omega
          simp only [e]
          rfl
        rw [h6] at h5
        rw [h5] at hp
        simp at hp

theorem parts_join (c : UInt8) (s : ByteArray) : Lib.join ((parts s (isBy (sepC c))).map (·.data.toList)) [c] = s.data.toList := by
  obtain ⟨h1, h2, -, -⟩ := spl_flatC c s s.size (Nat.le_refl _)
  unfold parts
  rw [List.map_append, List.map_cons, List.map_nil, join_flatC, List.map_map]
  have : (fun x : List UInt8 => x ++ [c]) ∘ (fun x : ByteArray => x.data.toList) = fun x : ByteArray => x.data.toList ++ [c] := rfl
  rw [this, h2, extract_listC, ← List.drop_take]
  have : s.data.toList.take (spl s (isBy (sepC c)) s.size).2 = (s.data.toList.take s.size).take (spl s (isBy (sepC c)) s.size).2 := by rw [List.take_take]; congr 1; omega
  rw [this, List.take_append_drop]
  exact List.take_of_length_le (by simp)

theorem parts_free (c : UInt8) (s : ByteArray) : ∀ x ∈ parts s (isBy (sepC c)), c ∉ x.data.toList := by
  obtain ⟨-, -, h3, h4⟩ := spl_flatC c s s.size (Nat.le_refl _)
  intro x hx
  unfold parts at hx
  simp only [List.mem_append, List.mem_singleton] at hx
  rcases hx with hx | rfl
  · exact h3 x hx
  · exact h4

theorem extract_size_le (s : ByteArray) (a b : Nat) : (s.extract a b).size ≤ s.size := by
  rw [ByteArray.size_extract]; omega
theorem parts_size (s : ByteArray) (p : UInt8 → Bool) : ∀ x ∈ parts s p, x.size ≤ s.size := by
  have h : ∀ k, ∀ x ∈ (spl s p k).1, x.size ≤ s.size := by
    intro k
    induction k with
    | zero => simp [spl]
    | succ k ih =>
      unfold spl
      split
      · split
        · intro x hx
          simp only [List.mem_append, List.mem_singleton] at hx
          rcases hx with hx | rfl
          · exact ih x hx
          · exact extract_size_le _ _ _
        · exact ih
      · exact ih
  intro x hx
  unfold parts at hx
  simp only [List.mem_append, List.mem_singleton] at hx
  rcases hx with hx | rfl
  · exact h _ x hx
  · exact extract_size_le _ _ _

theorem cut_uniq {c : UInt8} : ∀ {x y A B : List UInt8}, c ∉ x → c ∉ y → x ++ c :: A = y ++ c :: B → x = y ∧ A = B
  | [], [], _, _, _, _, h => by simpa using h
  | [], b :: y, _, _, _, hy, h => by
    simp at h
    exact absurd (by simp [← h.1]) hy
  | a :: x, [], _, _, hx, _, h => by
    simp at h
    exact absurd (by simp [h.1]) hx
  | a :: x, b :: y, A, B, hx, hy, h => by
    simp at h hx hy
    obtain ⟨h1, h2⟩ := h
    obtain ⟨h3, h4⟩ := cut_uniq (x := x) (y := y) hx.2 hy.2 h2
    exact ⟨by rw [h1, h3], h4⟩

theorem join_uniq {c : UInt8} : ∀ {ps qs : List (List UInt8)}, ps ≠ [] → qs ≠ [] → (∀ p ∈ ps, c ∉ p) → (∀ q ∈ qs, c ∉ q) → Lib.join ps [c] = Lib.join qs [c] → ps = qs
  | [], _, h, _, _, _, _ => absurd rfl h
  | _, [], _, h, _, _, _ => absurd rfl h
  | [x], [y], _, _, _, _, h => by rw [Lib.join_one, Lib.join_one] at h; rw [h]
  | [x], y :: z :: r, _, _, hx, _, h => by
    rw [Lib.join_one, join_twoC] at h
    exact absurd (by rw [h]; simp) (hx x (by simp))
  | x :: z :: r, [y], _, _, _, hy, h => by
    rw [Lib.join_one, join_twoC] at h
    exact absurd (by rw [← h]; simp) (hy y (by simp))
  | x :: z :: r, y :: z' :: r', _, _, hx, hy, h => by
    rw [join_twoC, join_twoC, List.append_assoc, List.append_assoc] at h
    obtain ⟨h1, h2⟩ := cut_uniq (hx x (by simp)) (hy y (by simp)) h
    have := join_uniq (ps := z :: r) (qs := z' :: r') (by simp) (by simp) (fun p hp => hx p (List.mem_cons_of_mem _ hp)) (fun q hq => hy q (List.mem_cons_of_mem _ hq)) h2
    rw [h1, this]

theorem toList_inj {a b : ByteArray} (h : a.data.toList = b.data.toList) : a = b := ByteArray.ext (Array.toList_inj.1 h)

theorem parts_eq {c : UInt8} {s : ByteArray} {qs : List ByteArray} (hq : qs ≠ []) (hf : ∀ q ∈ qs, c ∉ q.data.toList) (hj : Lib.join (qs.map (·.data.toList)) [c] = s.data.toList) : parts s (isBy (sepC c)) = qs := by
  have hne : (parts s (isBy (sepC c))).map (·.data.toList) ≠ [] := by
    have := (parts_length s (isBy (sepC c))).1
    intro h
    rw [List.map_eq_nil_iff] at h
    rw [h] at this
    simp at this
  have h := join_uniq (c := c) hne (by simpa using hq)
    (fun p hp => by obtain ⟨x, hx, rfl⟩ := List.mem_map.1 hp; exact parts_free c s x hx)
    (fun p hp => by obtain ⟨x, hx, rfl⟩ := List.mem_map.1 hp; exact hf x hx)
    ((parts_join c s).trans hj.symm)
  exact (List.map_inj_right (fun a b => toList_inj)).1 h
end Go.Proofs.YtlflblngbneacabGreatDoor
