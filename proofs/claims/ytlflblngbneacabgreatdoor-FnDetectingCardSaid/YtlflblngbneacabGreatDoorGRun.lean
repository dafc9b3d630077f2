/- Several texts in one file; each says what it proves and under which condition. No condition. -/
import Derived.Test.YtlflblngbneacabGreatDoorGBase
import Derived.WalkSpells
import Derived.Lib.RuneCountTail
import Derived.Lib.Index
import Derived.Test.YtlflblngbneacabGreatDoorGSpl
import Derived.Shelf.Unicode.DecodeSlow
/- The texts of signs and of results, plainly, and what is read out of them. No condition. -/
namespace Go.Proofs.YtlflblngbneacabGreatDoor
open Go.RowKit

/-- The sign of a number. -/
def signB (x : Int) : ByteArray := if x = -1 then ⟨#[60]⟩ else if x = 0 then ⟨#[61]⟩ else if x = 1 then ⟨#[62]⟩ else ⟨#[63]⟩
theorem signB_size (x : Int) : (signB x).size = 1 := by
  unfold signB
  split
  · rfl
  · split
    · rfl
    · split <;> rfl
def signsC (l : List Int) : Nat → ByteArray
  | 0 => ⟨#[]⟩
  | k + 1 => signsC l k ++ signB (l.getD k 0)
theorem signsC_size (l : List Int) : ∀ k, (signsC l k).size = k
  | 0 => rfl
  | k + 1 => by rw [signsC, ByteArray.size_append, signsC_size l k, signB_size]
def signsT (l : List Int) : ByteArray := if l.length = 0 then ⟨#[45]⟩ else signsC l l.length
theorem signsT_size (l : List Int) : (signsT l).size ≤ l.length + 1 := by
  unfold signsT
  split
  · show 1 ≤ _; omega
  · rw [signsC_size]; omega
/-- The numbers of the signs among the first k bytes. -/
def sgnL (t : ByteArray) : Nat → List Int
  | 0 => []
  | k + 1 => let z := t.data.toList.getD k 0
    if z = 60 then sgnL t k ++ [-1] else if z = 61 then sgnL t k ++ [0] else if z = 62 then sgnL t k ++ [1] else sgnL t k
theorem sgnL_len (t : ByteArray) : ∀ k, (sgnL t k).length ≤ k
  | 0 => Nat.le_refl _
  | k + 1 => by
    have := sgnL_len t k
    unfold sgnL
    dsimp only
    split
    · simp; omega
    · split
      · simp; omega
      · split
        · simp; omega
        · omega
theorem byte_at {t : ByteArray} {k : Nat} (hk : k < t.size) : t.data.toList.getD k 0 = t[k] := by
  rw [List.getD_eq_getElem?_getD, List.getElem?_eq_getElem (by simpa using hk)]
  rfl
def readSB (t : ByteArray) : Bool := (signsT (sgnL t t.size)).toList == t.toList
def readSL (t : ByteArray) : List Int := if readSB t = true then sgnL t t.size else []

/-- The text of a truth value. -/
def resB (b : Bool) : ByteArray := if b = true then ⟨#[43]⟩ else ⟨#[46]⟩
theorem resB_size (b : Bool) : (resB b).size = 1 := by cases b <;> rfl
def ressC (l : List Bool) : Nat → ByteArray
  | 0 => ⟨#[]⟩
  | k + 1 => ressC l k ++ resB (l.getD k false)
theorem ressC_size (l : List Bool) : ∀ k, (ressC l k).size = k
  | 0 => rfl
  | k + 1 => by rw [ressC, ByteArray.size_append, ressC_size l k, resB_size]
def ressT (l : List Bool) : ByteArray := if l.length = 0 then ⟨#[45]⟩ else ressC l l.length
theorem ressT_size (l : List Bool) : (ressT l).size ≤ l.length + 1 := by
  unfold ressT
  split
  · show 1 ≤ _; omega
  · rw [ressC_size]; omega
def plusL (t : ByteArray) (k : Nat) : List Bool := (List.range k).map fun i => t.data.toList.getD i 0 == 43
theorem plusL_len (t : ByteArray) (k : Nat) : (plusL t k).length = k := by simp [plusL]
theorem plusL_succ (t : ByteArray) (k : Nat) : plusL t (k + 1) = plusL t k ++ [t.data.toList.getD k 0 == 43] := by
  unfold plusL
  rw [List.range_succ, List.map_append]
  rfl
def isDash (t : ByteArray) : Bool := t.toList == [45]
def readRB (t : ByteArray) : Bool := isDash t || ((ressT (plusL t t.size)).toList == t.toList)
def readRL (t : ByteArray) : List Bool := if isDash t = true then [] else if ((ressT (plusL t t.size)).toList == t.toList) = true then plusL t t.size else []
theorem empty_iff (t : ByteArray) : t.toList.isEmpty = decide (t.size = 0) := by
  rw [ByteArray.toList_eq, Bool.eq_iff_iff, List.isEmpty_iff, decide_eq_true_eq]
  constructor
  · intro h
    have := congrArg List.length h
    simpa using this
  · intro h
    exact List.eq_nil_of_length_eq_zero (by simpa using h)
theorem sign_lt {x : Int} (h : x = -1) : signB x = ⟨#[60]⟩ := by subst h; rfl
theorem sign_eq {x : Int} (h : x = 0) : signB x = ⟨#[61]⟩ := by subst h; rfl
theorem sign_gt {x : Int} (h : x = 1) : signB x = ⟨#[62]⟩ := by subst h; rfl
theorem sign_no {x : Int} (h1 : ¬ x = -1) (h2 : ¬ x = 0) (h3 : ¬ x = 1) : signB x = ⟨#[63]⟩ := by unfold signB; rw [if_neg h1, if_neg h2, if_neg h3]
theorem signsC_succ {l : List Int} {k : Nat} (h : k < l.length) : signsC l (k + 1) = signsC l k ++ signB l[k] := by
  rw [signsC, List.getD_eq_getElem?_getD, List.getElem?_eq_getElem h]; rfl
theorem ressC_succ {l : List Bool} {k : Nat} (h : k < l.length) : ressC l (k + 1) = ressC l k ++ resB l[k] := by
  rw [ressC, List.getD_eq_getElem?_getD, List.getElem?_eq_getElem h]; rfl
theorem byte_ne {b : UInt8} {n : Nat} (hn : n < 256) (h : ¬ (b.toNat : Int) = (n : Int)) : ¬ b = UInt8.ofNat n := fun e => h (by rw [e]; simp [Nat.mod_eq_of_lt hn])
theorem byte_eq {b : UInt8} {n : Nat} (h : (b.toNat : Int) = (n : Int)) : b = UInt8.ofNat n := by
  apply UInt8.toNat_inj.1
  have h2 : b.toNat = n := by omega
  have h3 := UInt8.toNat_lt b
  rw [h2] at h3 ⊢
  simp [Nat.mod_eq_of_lt h3]
theorem sgnL_lt {t : ByteArray} {k : Nat} (hk : k < t.size) (h : (t[k].toNat : Int) = 60) : sgnL t (k + 1) = sgnL t k ++ [-1] := by
  have e : t[k] = 60 := byte_eq (n := 60) h
  rw [sgnL]
  simp only [byte_at hk, e, if_true]
theorem sgnL_eq {t : ByteArray} {k : Nat} (hk : k < t.size) (h : (t[k].toNat : Int) = 61) : sgnL t (k + 1) = sgnL t k ++ [0] := by
  have e : t[k] = 61 := byte_eq (n := 61) h
  rw [sgnL]
  simp only [byte_at hk, e]
  rfl
theorem sgnL_gt {t : ByteArray} {k : Nat} (hk : k < t.size) (h : (t[k].toNat : Int) = 62) : sgnL t (k + 1) = sgnL t k ++ [1] := by
  have e : t[k] = 62 := byte_eq (n := 62) h
  rw [sgnL]
  simp only [byte_at hk, e]
  rfl
theorem sgnL_no {t : ByteArray} {k : Nat} (hk : k < t.size) (h1 : ¬ (t[k].toNat : Int) = 60) (h2 : ¬ (t[k].toNat : Int) = 61) (h3 : ¬ (t[k].toNat : Int) = 62) : sgnL t (k + 1) = sgnL t k := by
  rw [sgnL]
  simp only [byte_at hk]
  rw [if_neg (show ¬ t[k] = 60 from byte_ne (n := 60) (by decide) h1), if_neg (show ¬ t[k] = 61 from byte_ne (n := 61) (by decide) h2), if_neg (show ¬ t[k] = 62 from byte_ne (n := 62) (by decide) h3)]
theorem plus_at {t : ByteArray} {k : Nat} (hk : k < t.size) : plusL t (k + 1) = plusL t k ++ [((t[k].toNat : Int) == 43)] := by
  rw [plusL_succ, byte_at hk]
  congr 2
  rw [Bool.eq_iff_iff, beq_iff_eq, beq_iff_eq]
  constructor
  · intro e; rw [e]; rfl
  · intro h; exact byte_eq (n := 43) h
end Go.Proofs.YtlflblngbneacabGreatDoor

/- The pieces of a text, one a rune, plainly, and what reading each of them by a spelling gives. No condition. -/
namespace Go.Proofs.YtlflblngbneacabGreatDoor
open Go.RowKit

def widA (s : ByteArray) (i : Nat) : Nat := (Utf8.decode s i).2
theorem wid_pos (s : ByteArray) (i : Nat) (h : i < s.size) : 1 ≤ widA s i := Lib.decode_width_pos s i h
theorem wid_le (s : ByteArray) (i : Nat) (h : i < s.size) : i + widA s i ≤ s.size := by
  unfold widA
  rw [Lib.decode_at]
  unfold Lib.decodeN
  repeat' split
  all_goals (simp only; omega)
theorem wid_high (s : ByteArray) (i : Nat) (h : i < s.size) (h1 : ¬ widA s i = 1) : 128 ≤ (s[i]'h).toNat := by
  apply Nat.le_of_not_lt
  intro hlt
  exact h1 (by unfold widA; rw [decode_ascii s i h hlt])
def runesF (s : ByteArray) : Nat → Nat → List ByteArray
  | 0, _ => []
  | f + 1, p => if p < s.size then s.extract p (p + widA s p) :: runesF s f (p + widA s p) else []
def runesL (s : ByteArray) : List ByteArray := runesF s s.size 0
theorem runesF_len (s : ByteArray) : ∀ f p, (runesF s f p).length = Lib.runeCountFrom s f p
  | 0, _ => rfl
  | f + 1, p => by
    unfold runesF Lib.runeCountFrom
    split
    · rw [List.length_cons, runesF_len s f]
      show _ = 1 + Lib.runeCountFrom s f (p + widA s p)
      omega
    · rfl
theorem runesL_len (s : ByteArray) : (runesL s).length = Lib.runeCount s := runesF_len s _ _
theorem runesF_end (s : ByteArray) (f p : Nat) (h : ¬ p < s.size) : runesF s f p = [] := by cases f <;> simp [runesF, h]
theorem runesF_in (s : ByteArray) (f p : Nat) (hf : s.size ≤ p + f) (h : p < s.size) : ∃ g, s.size ≤ p + widA s p + g ∧ runesF s f p = s.extract p (p + widA s p) :: runesF s g (p + widA s p) := by
  cases f with
  | zero => omega
  | succ g => exact ⟨g, by have := wid_pos s p h; omega, by rw [runesF, if_pos h]⟩
theorem runesF_one (s : ByteArray) (f p : Nat) (hf : s.size ≤ p + f) (h : (runesF s f p).length = 1) : runesF s f p = [s.extract p s.size] := by
  by_cases hlt : p < s.size
  · obtain ⟨g, hg, e⟩ := runesF_in s f p hf hlt
    rw [e] at h ⊢
    have h0 : (runesF s g (p + widA s p)).length = 0 := by simpa using h
    have hr : runesF s g (p + widA s p) = [] := List.eq_nil_of_length_eq_zero h0
    have hw := wid_le s p hlt
    have : p + widA s p = s.size := by
      apply Nat.le_antisymm hw
      apply Nat.le_of_not_lt
      intro hl
      obtain ⟨g2, -, e2⟩ := runesF_in s g _ hg hl
      rw [e2] at hr
      cases hr
    rw [hr, this]
  · rw [runesF_end s f p hlt] at h
    cases h
theorem runesF_none (s : ByteArray) (f p : Nat) (hf : s.size ≤ p + f) (h : (runesF s f p).length = 0) : s.size ≤ p := by
  apply Nat.le_of_not_lt
  intro hl
  obtain ⟨g2, -, e2⟩ := runesF_in s f _ hf hl
  rw [e2] at h
  cases h
theorem runesF_two (s : ByteArray) (f p : Nat) (h : 0 < (runesF s f p).length) : p < s.size := by
  apply Nat.lt_of_not_le
  intro hl
  rw [runesF_end s f p (by omega)] at h
  cases h
/-- A rune's bytes at the head of what is left. -/
theorem head_rune (s : ByteArray) (p : Nat) (h : p < s.size) : (s.extract p s.size).extract 0 (widA s p) = s.extract p (p + widA s p) := by
  have hw := wid_le s p h
  apply bytes_eq
  simp only [extract_list, List.drop_zero, Nat.sub_zero, List.take_take]
  congr 1
  omega
theorem tail_rune (s : ByteArray) (p : Nat) (h : p < s.size) : (s.extract p s.size).extract (widA s p) (s.extract p s.size).size = s.extract (p + widA s p) s.size := by
  have hw := wid_le s p h
  rw [Lib.tail_size]
  apply bytes_eq
  simp only [extract_list]
  rw [List.drop_take, List.take_take, List.drop_drop]
  congr 1
  omega
theorem dec_tail (s : ByteArray) (p : Nat) (h : p < s.size) : (Lib.decodeGo (s.extract p s.size)).2 = widA s p := by
  unfold Lib.decodeGo
  rw [Lib.tail_size, if_neg (by omega), Lib.tail_decode, Nat.add_zero]
  rfl
theorem runesL_le (s : ByteArray) : (runesL s).length ≤ s.size := by rw [runesL_len]; exact Lib.runeCount_le s

/-! ### where a piece stands in a text of marks -/
theorem prefix_cons {a : UInt8} {l : List UInt8} {x : UInt8} {m : List UInt8} : ((a :: l).isPrefixOf (x :: m)) = (a == x && l.isPrefixOf m) := rfl
theorem index_high (m : List UInt8) (hm : ∀ x ∈ m, x.toNat < 128) (a : UInt8) (l : List UInt8) (ha : 128 ≤ a.toNat) : Lib.index m (a :: l) = -1 := by
  induction m with
  | nil => rfl
  | cons x m ih =>
    have hx : (a == x) = false := by
      apply beq_false_of_ne
      intro e
      have := hm x (by simp)
      rw [e] at ha
      omega
    have := ih (fun y hy => hm y (by simp [hy]))
    unfold Lib.index
    rw [prefix_cons, hx, this]
    rfl
theorem index_one (m : List UInt8) (a : UInt8) : Lib.index m [a] = match m with | [] => -1 | x :: r => if a == x then 0 else if Lib.index r [a] == -1 then -1 else Lib.index r [a] + 1 := by
  cases m with
  | nil => rfl
  | cons x r =>
    show (if ([a].isPrefixOf (x :: r)) = true then _ else _) = _
    have e : ([] : List UInt8).isPrefixOf r = true := by cases r <;> rfl
    rw [prefix_cons, e, Bool.and_true]
end Go.Proofs.YtlflblngbneacabGreatDoor

/- A text is that of a list of signs, or of results, exactly if each of its pieces is one of the marks. No condition. -/
namespace Go.Proofs.YtlflblngbneacabGreatDoor
open Go.RowKit

/-- All bytes are among some marks. -/
def inM (M : List UInt8) (t : ByteArray) : Prop := ∀ i (h : i < t.size), t[i] ∈ M
def oneB (a : UInt8) : ByteArray := ⟨#[a]⟩
theorem extract_one (t : ByteArray) (p : Nat) (h : p < t.size) : t.extract p (p + 1) = oneB t[p] := by
  apply bytes_eq
  rw [extract_list, show p + 1 - p = 1 by omega]
  have hl : p < t.data.toList.length := by simpa using h
  rw [List.drop_eq_getElem_cons hl]
  rfl
/-- The pieces from a place on, where all bytes are small. -/
theorem runesF_ascii (t : ByteArray) (hs : ∀ i (h : i < t.size), t[i].toNat < 128) : ∀ f p, t.size ≤ p + f → p ≤ t.size → runesF t f p = (t.data.toList.drop p).map oneB
  | 0, p, hf, hp => by
    rw [List.drop_of_length_le (by simp; omega)]
    rfl
  | f + 1, p, hf, hp => by
    by_cases h : p < t.size
    · have hw : widA t p = 1 := by unfold widA; rw [decode_ascii t p h (hs p h)]
      unfold runesF
      rw [if_pos h, hw, runesF_ascii t hs f (p + 1) (by omega) (by omega), extract_one t p h, List.drop_eq_getElem_cons (show p < t.data.toList.length by simpa using h)]
      rfl
    · rw [runesF_end t _ p h, List.drop_of_length_le (by simp; omega)]
      rfl
theorem runesL_ascii (t : ByteArray) (hs : ∀ i (h : i < t.size), t[i].toNat < 128) : runesL t = t.data.toList.map oneB := by
  unfold runesL
  rw [runesF_ascii t hs t.size 0 (by omega) (by omega), List.drop_zero]
/-- A piece of one small byte, or one whose first byte is great. -/
theorem piece_two (t : ByteArray) : ∀ f p, ∀ x ∈ runesF t f p, (∃ i, ∃ h : i < t.size, x = oneB t[i]) ∨ ∃ a l, x.data.toList = a :: l ∧ 128 ≤ a.toNat
  | 0, _, x, hx => by cases hx
  | f + 1, p, x, hx => by
    unfold runesF at hx
    split at hx
    · rename_i h
      rcases List.mem_cons.1 hx with rfl | hx
      · by_cases hw : widA t p = 1
        · left
          exact ⟨p, h, by rw [hw]; exact extract_one t p h⟩
        · right
          have hh := wid_high t p h hw
          have hwp := wid_pos t p h
          have hwl := wid_le t p h
          refine ⟨t[p], ((t.data.toList.drop (p + 1)).take (widA t p - 1)), ?_, hh⟩
          rw [extract_list, List.drop_eq_getElem_cons (show p < t.data.toList.length by simpa using h), show p + widA t p - p = (widA t p - 1) + 1 by omega, List.take_succ_cons]
          rfl
      · exact piece_two t f _ x hx
    · cases hx
/-- If all pieces are marks, then all bytes are. -/
theorem pieces_in (M : List UInt8) (t : ByteArray) (hM : ∀ a ∈ M, a.toNat < 128) : ∀ f p, t.size ≤ p + f → (∀ x ∈ runesF t f p, ∃ a ∈ M, x = oneB a) → ∀ i (h : i < t.size), p ≤ i → t[i] ∈ M
  | 0, p, hf, _, i, h, hp => by omega
  | f + 1, p, hf, hx, i, h, hp => by
    by_cases hl : p < t.size
    · unfold runesF at hx
      rw [if_pos hl] at hx
      obtain ⟨a, ha, e⟩ := hx _ (List.mem_cons_self ..)
      have hwl := wid_le t p hl
      have hwp := wid_pos t p hl
      have h1 : widA t p = 1 := by
        have := congrArg ByteArray.size e
        rw [ByteArray.size_extract] at this
        have e1 : (oneB a).size = 1 := rfl
        rw [e1] at this
        omega
      rw [h1, extract_one t p hl] at e
      have ea : t[p] = a := by
        have := congrArg (fun z : ByteArray => z.data.toList) e
        simpa [oneB] using this
      by_cases he : i = p
      · subst he; rw [ea]; exact ha
      · exact pieces_in M t hM f (p + widA t p) (by omega) (fun x hx2 => hx x (List.mem_cons_of_mem _ hx2)) i h (by omega)
    · omega
theorem inM_pieces (M : List UInt8) (t : ByteArray) (hM : ∀ a ∈ M, a.toNat < 128) : inM M t ↔ ∀ x ∈ runesL t, ∃ a ∈ M, x = oneB a := by
  constructor
  · intro h x hx
    rw [runesL_ascii t (fun i hi => hM _ (h i hi)), List.mem_map] at hx
    obtain ⟨a, ha, rfl⟩ := hx
    obtain ⟨i, hi, rfl⟩ := List.getElem_of_mem ha
    exact ⟨_, h i (by simpa using hi), rfl⟩
  · intro h i hi
    exact pieces_in M t hM t.size 0 (by omega) h i hi (Nat.zero_le _)

/-! ### signs -/
def sgnM : List UInt8 := [60, 61, 62]
def sgnV (x : ByteArray) : Int := if x = ⟨#[60]⟩ then -1 else if x = ⟨#[61]⟩ then 0 else 1
def isSgn (x : ByteArray) : Bool := decide (∃ a ∈ sgnM, x = oneB a)
theorem sgnC_in (t : ByteArray) (h : inM sgnM t) : ∀ k, k ≤ t.size → (signsC (sgnL t k) k).data.toList = t.data.toList.take k ∧ (sgnL t k).length = k ∧ sgnL t k = (t.data.toList.take k).map fun a => sgnV (oneB a)
  | 0, _ => ⟨rfl, rfl, rfl⟩
  | k + 1, hk => by
    obtain ⟨h1, h2, h3⟩ := sgnC_in t h k (by omega)
    have hl : k < t.size := by omega
    have hm := h k hl
    have hll : k < t.data.toList.length := by simpa using hl
    have key : ∀ (z : Int), sgnL t (k + 1) = sgnL t k ++ [z] → signB z = oneB t[k] → sgnV (oneB t[k]) = z → (signsC (sgnL t (k + 1)) (k + 1)).data.toList = t.data.toList.take (k + 1) ∧ (sgnL t (k + 1)).length = k + 1 ∧ sgnL t (k + 1) = (t.data.toList.take (k + 1)).map fun a => sgnV (oneB a) := by
      intro z e1 e2 e3
      have ep : ∀ (L : List Int) (z : Int) (j : Nat), j ≤ L.length → signsC (L ++ [z]) j = signsC L j := by
        intro L z j hj
        induction j with
        | zero => rfl
        | succ j ih =>
          rw [signsC, signsC, ih (by omega)]
          congr 2
          rw [List.getD_eq_getElem?_getD, List.getD_eq_getElem?_getD, List.getElem?_append_left (by omega)]
      refine ⟨?_, ?_, ?_⟩
      · rw [e1, signsC, ep _ _ _ (by omega)]
        have : (sgnL t k ++ [z]).getD k 0 = z := by
          rw [List.getD_eq_getElem?_getD, List.getElem?_append_right (by omega), h2, Nat.sub_self]
          rfl
        rw [this, e2, ByteArray.data_append, Array.toList_append, h1, List.take_succ_eq_append_getElem hll]
        rfl
      · rw [e1, List.length_append, h2]; rfl
      · rw [e1, h3, List.take_succ_eq_append_getElem hll, List.map_append]
        congr 1
        show [z] = [sgnV (oneB _)]
        congr 1
        exact e3.symm
    have hc : t[k] = 60 ∨ t[k] = 61 ∨ t[k] = 62 := by simpa [sgnM] using hm
    rcases hc with hc | hc | hc
    · exact key (-1) (sgnL_lt hl (by rw [hc]; rfl)) (by rw [hc]; rfl) (by rw [hc]; rfl)
    · exact key 0 (sgnL_eq hl (by rw [hc]; rfl)) (by rw [hc]; rfl) (by rw [hc]; decide)
    · exact key 1 (sgnL_gt hl (by rw [hc]; rfl)) (by rw [hc]; rfl) (by rw [hc]; decide)
theorem signsC_in (L : List Int) (hL : ∀ x ∈ L, x = -1 ∨ x = 0 ∨ x = 1) : ∀ k, k ≤ L.length → ∀ a ∈ (signsC L k).data.toList, a ∈ sgnM
  | 0, _, a, ha => by cases ha
  | k + 1, hk, a, ha => by
    rw [signsC_succ (by omega), ByteArray.data_append, Array.toList_append, List.mem_append] at ha
    rcases ha with ha | ha
    · exact signsC_in L hL k (by omega) a ha
    · have := hL _ (List.getElem_mem (show k < L.length by omega))
      rcases this with e | e | e <;> rw [e] at ha <;> revert ha <;> (intro ha; simp [signB] at ha; subst ha; decide)
theorem sgnL_vals (t : ByteArray) : ∀ k, ∀ x ∈ sgnL t k, x = -1 ∨ x = 0 ∨ x = 1
  | 0, x, hx => by cases hx
  | k + 1, x, hx => by
    unfold sgnL at hx
    dsimp only at hx
    split at hx
    · rcases List.mem_append.1 hx with h | h
      · exact sgnL_vals t k x h
      · left; simpa using h
    · split at hx
      · rcases List.mem_append.1 hx with h | h
        · exact sgnL_vals t k x h
        · right; left; simpa using h
      · split at hx
        · rcases List.mem_append.1 hx with h | h
          · exact sgnL_vals t k x h
          · right; right; simpa using h
        · exact sgnL_vals t k x hx
theorem toList_data' (t : ByteArray) : t.toList = t.data.toList := ByteArray.toList_eq ..
theorem readS_in (t : ByteArray) (h0 : 0 < t.size) (hd : isDash t = false) : readSB t = true ↔ inM sgnM t := by
  unfold readSB
  rw [beq_iff_eq, toList_data', toList_data']
  constructor
  · intro h
    by_cases he : (sgnL t t.size).length = 0
    · exfalso
      unfold signsT at h
      rw [if_pos he] at h
      have : isDash t = true := by
        unfold isDash
        rw [toList_data', ← h]
        rfl
      rw [hd] at this
      cases this
    · intro i hi
      unfold signsT at h
      rw [if_neg he] at h
      apply signsC_in _ (sgnL_vals t t.size) _ (Nat.le_refl _)
      rw [h]
      show t.data.toList[i]'(by simpa using hi) ∈ _
      exact List.getElem_mem _
  · intro h
    obtain ⟨h1, h2, -⟩ := sgnC_in t h t.size (Nat.le_refl _)
    unfold signsT
    rw [if_neg (by omega), h2, h1, List.take_of_length_le (by simp)]
theorem readS_pieces (t : ByteArray) (h0 : 0 < t.size) (hd : isDash t = false) : readSB t = (runesL t).all isSgn ∧ readSL t = if (runesL t).all isSgn = true then (runesL t).map sgnV else [] := by
  have hM : ∀ a ∈ sgnM, a.toNat < 128 := by decide
  have e : readSB t = (runesL t).all isSgn := by
    rw [Bool.eq_iff_iff, readS_in t h0 hd, inM_pieces _ t hM, List.all_eq_true]
    simp only [isSgn, decide_eq_true_eq]
  refine ⟨e, ?_⟩
  unfold readSL
  rw [e]
  split
  · rename_i h
    have hi : inM sgnM t := (readS_in t h0 hd).1 (by rw [e]; exact h)
    have h3 := (sgnC_in t hi t.size (Nat.le_refl _)).2.2
    rw [h3, runesL_ascii t (fun i hx => hM _ (hi i hx)), List.map_map, List.take_of_length_le (by simp)]
    rfl
  · rfl

/-! ### results -/
def resM : List UInt8 := [43, 46]
def resV (x : ByteArray) : Bool := decide (x = ⟨#[43]⟩)
def isRes (x : ByteArray) : Bool := decide (∃ a ∈ resM, x = oneB a)
theorem resC_any (L : List Bool) : ∀ k, k ≤ L.length → (ressC L k).data.toList = (L.take k).map fun b => if b = true then 43 else 46
  | 0, _ => rfl
  | k + 1, hk => by
    rw [ressC_succ (by omega), ByteArray.data_append, Array.toList_append, resC_any L k (by omega), List.take_succ_eq_append_getElem (show k < L.length by omega), List.map_append]
    congr 1
    cases L[k] <;> rfl
theorem plusL_map (t : ByteArray) : plusL t t.size = t.data.toList.map fun a => a == 43 := by
  apply List.ext_getElem
  · simp [plusL]
  · intro i h1 h2
    have hi : i < t.size := by simpa [plusL] using h1
    simp only [plusL, List.getElem_map, List.getElem_range]
    rw [byte_at hi]
    rfl
theorem readR_in (t : ByteArray) (h0 : 0 < t.size) : ((ressT (plusL t t.size)).toList == t.toList) = true ↔ inM resM t := by
  rw [beq_iff_eq, toList_data', toList_data']
  unfold ressT
  rw [if_neg (by rw [plusL_len]; omega), resC_any _ _ (Nat.le_refl _), List.take_length, plusL_map, List.map_map]
  constructor
  · intro h i hi
    have hil : i < t.data.toList.length := by simpa using hi
    have := congrArg (fun l => l[i]?) h
    simp only [List.getElem?_map, List.getElem?_eq_getElem hil, Option.map_some, Option.some.injEq] at this
    show t.data.toList[i] ∈ resM
    generalize t.data.toList[i] = a at this
    by_cases ha : (a == 43) = true
    · rw [Function.comp, if_pos ha] at this; rw [← this]; decide
    · rw [Function.comp, if_neg ha] at this; rw [← this]; decide
  · intro h
    conv => rhs; rw [← List.map_id t.data.toList]
    apply List.map_congr_left
    intro a ha
    obtain ⟨i, hi, rfl⟩ := List.getElem_of_mem ha
    have hm := h i (by simpa using hi)
    have hm2 : t.data.toList[i] = 43 ∨ t.data.toList[i] = 46 := by
      have : t.data.toList[i] ∈ resM := hm
      simpa [resM] using this
    rcases hm2 with e | e <;> rw [e] <;> rfl
theorem readR_pieces (t : ByteArray) (h0 : 0 < t.size) (hd : isDash t = false) : readRB t = (runesL t).all isRes ∧ readRL t = if (runesL t).all isRes = true then (runesL t).map resV else [] := by
  have hM : ∀ a ∈ resM, a.toNat < 128 := by decide
  have e : ((ressT (plusL t t.size)).toList == t.toList) = (runesL t).all isRes := by
    rw [Bool.eq_iff_iff, readR_in t h0, inM_pieces _ t hM, List.all_eq_true]
    simp only [isRes, decide_eq_true_eq]
  refine ⟨by unfold readRB; rw [hd, e]; rfl, ?_⟩
  unfold readRL
  rw [hd, if_neg (by simp), e]
  split
  · rename_i h
    have hi : inM resM t := (readR_in t h0).1 (by rw [e]; exact h)
    rw [plusL_map, runesL_ascii t (fun i hx => hM _ (hi i hx)), List.map_map]
    apply List.map_congr_left
    intro a ha
    obtain ⟨i, hx, rfl⟩ := List.getElem_of_mem ha
    have hm2 : t.data.toList[i] = 43 ∨ t.data.toList[i] = 46 := by
      have : t.data.toList[i] ∈ resM := hi i (by simpa using hx)
      simpa [resM] using this
    rcases hm2 with e | e <;> rw [e] <;> decide
  · rfl
theorem empty_read (t : ByteArray) (h0 : t.size = 0) : readSB t = false ∧ readSL t = [] ∧ readRB t = false ∧ readRL t = [] := by
  have ht : t = ⟨#[]⟩ := by
    apply bytes_eq
    have : t.data.toList.length = 0 := by simpa using h0
    rw [List.eq_nil_of_length_eq_zero this]
  subst ht
  refine ⟨by kernel_rfl, by kernel_rfl, by kernel_rfl, by kernel_rfl⟩
theorem dash_read (t : ByteArray) (hd : isDash t = true) : readSB t = true ∧ readSL t = [] ∧ readRB t = true ∧ readRL t = [] := by
  have ht : t = ⟨#[45]⟩ := by
    apply bytes_eq
    unfold isDash at hd
    rw [beq_iff_eq, toList_data'] at hd
    rw [hd]
  subst ht
  refine ⟨by kernel_rfl, by kernel_rfl, by kernel_rfl, by kernel_rfl⟩
end Go.Proofs.YtlflblngbneacabGreatDoor
