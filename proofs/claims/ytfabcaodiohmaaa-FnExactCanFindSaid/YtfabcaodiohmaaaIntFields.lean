/- A struct all of whose fields are integers, given by value as an argument: its value is a list of integers, whatever their number. -/
import Derived.Lib.SmallJoins
import Derived.Test.YtfabcaodiohmaaaPlain
namespace Go.Proofs.Ytfabcaodiohmaaa
open Go.RowKit Go.Joins Go.ChangeShapes Go.WideShapes Go.Deep

theorem eightOf {α : Type} : ∀ l : List α, l.length = 8 → ∃ a b c d e f g h, l = [a, b, c, d, e, f, g, h]
  | [a, b, c, d, e, f, g, h], _ => ⟨a, b, c, d, e, f, g, h, rfl⟩
  | [], h | [_], h | [_, _], h | [_, _, _], h | [_, _, _, _], h | [_, _, _, _, _], h | [_, _, _, _, _, _], h | [_, _, _, _, _, _, _], h => by simp at h
  | _ :: _ :: _ :: _ :: _ :: _ :: _ :: _ :: _ :: _, h => by simp at h

section
variable {H : Type} {enc : TypeId × Value → H} {P : Program} {w : World} {base : Nat} {spare : Nat → Bool} {held : Bool}
theorem openIntFields {r : Reach} {b0 : Nat} {t : TypeId} {fs : Array Field} {v : Value} {d : DataW H} {p : List MemPlace} (hs : P.underlying t = some (.struct fs)) (hone : oneCellFields P fs = true) (hC : P.cellsOf t = fs.size)
    (hi : ∀ (j : Nat) (f : Field), fs[j]? = some f → P.underlying f.type = some (.int .i64)) (hv : Value.okWide P w r b0 t v) (h : DataW.Trod enc P w base spare held t v d p) :
    ∃ l : List Int, l.length = fs.size ∧ v = .agg (l.map (Value.int .i64)).toArray ∧ d = .agg (l.map fun a => .lit (.int .i64 a)) ∧ p = [] ∧ ∀ a ∈ l, (Lit.int .i64 a).wf = true := by
  obtain ⟨cs, rfl, hsz⟩ := okWide_struct hs hv
  obtain ⟨fuel, hf⟩ := h
  obtain ⟨xs, n, -, hx, hl, hlen, hat⟩ := DataW.trod_struct hs hf
  have key : ∀ j (h1 : j < cs.size) (h2 : j < xs.length), ∃ a, cs[j] = .int .i64 a ∧ xs[j] = (.lit (.int .i64 a), []) ∧ (Lit.int .i64 a).wf = true := by
    intro j h1 h2
    have hj : j < fs.size := by omega
    have hfj : fs[j]? = some fs[j] := Array.getElem?_eq_getElem hj
    obtain ⟨o, k⟩ := hone_of hone j _ hfj
    have g := hat j _ hfj
    rw [o, k, List.getElem?_eq_getElem h2] at g
    have e : (((Value.agg cs).cells.toList.drop j).take 1) = [cs[j]] := by
      have : (Value.agg cs).cells.toList = cs.toList := by simp [Value.cells]
      rw [this, List.drop_eq_getElem_cons (by simpa using h1)]
      simp
    rw [e] at g
    obtain ⟨a, e1, e2, e3⟩ := DataW.trod_int (hi j _ hfj) g
    exact ⟨a, by simpa using e1, e2, e3⟩
  have hcl : cs.size = xs.length := by omega
  clear hat hf
  refine ⟨cs.toList.map intOf, by simp; omega, ?_, ?_⟩
  · congr 1
    apply Array.ext
    · simp
    · intro j h1 h2
      obtain ⟨a, e, -⟩ := key j h1 (by omega)
      simp [e, intOf]
  · simp only [Prod.mk.injEq] at hx
    refine ⟨?_, ?_, ?_⟩
    · rw [hx.1]
      congr 1
      apply List.ext_getElem
      · simp; omega
      · intro j h1 h2
        simp only [List.length_map] at h1
        obtain ⟨a, e1, e2, -⟩ := key j (by omega) h1
        simp [e1, e2, intOf]
    · rw [hx.2, List.flatMap_eq_nil_iff]
      intro y hy
      obtain ⟨j, hj, rfl⟩ := List.mem_iff_getElem.1 hy
      obtain ⟨a, -, e2, -⟩ := key j (by omega) hj
      rw [e2]
    · intro a ha
      rw [List.mem_map] at ha
      obtain ⟨u, hu, rfl⟩ := ha
      obtain ⟨j, hj, rfl⟩ := List.mem_iff_getElem.1 hu
      simp only [Array.length_toList] at hj
      obtain ⟨a, e1, -, e3⟩ := key j hj (by omega)
      simpa [e1, intOf] using e3
theorem mapM_some {α β : Type} (g : α → Option β) : ∀ (as : List α) (bs : List β), as.length = bs.length → (∀ i (h1 : i < as.length) (h2 : i < bs.length), g as[i] = some bs[i]) → as.mapM g = some bs
  | [], [], _, _ => rfl
  | a :: as, b :: bs, hl, h => by
    have h0 := h 0 (by simp) (by simp)
    have h1 := mapM_some g as bs (by simpa using hl) fun i h1 h2 => by
      have := h (i + 1) (by simpa using h1) (by simpa using h2)
      simpa using this
    simp only [List.getElem_cons_zero] at h0
    rw [List.mapM_cons, h0, h1]
    rfl
  | [], _ :: _, hl, _ => by simp at hl
  | _ :: _, [], hl, _ => by simp at hl
theorem shutIntFields {t : TypeId} {fs : Array Field} {l : List Int} (hs : P.underlying t = some (.struct fs)) (hone : oneCellFields P fs = true) (hC : P.cellsOf t = fs.size)
    (hi : ∀ (j : Nat) (f : Field), fs[j]? = some f → P.underlying f.type = some (.int .i64)) (hl : l.length = fs.size) (hw : ∀ a ∈ l, (Lit.int .i64 a).wf = true) :
    DataW.Trod enc P w base spare held t (.agg (l.map (Value.int .i64)).toArray) (.agg (l.map fun a => .lit (.int .i64 a))) [] := by
  have hc : (Value.agg (l.map (Value.int .i64)).toArray).cells.toList = l.map (Value.int .i64) := by simp [Value.cells]
  have h := trod_struct_mk (enc := enc) (P := P) (w := w) (base := base) (spare := spare) (held := held) (n := 1) (cs := l.map (Value.int .i64)) (xs := l.map fun a => (.lit (.int .i64 a), [])) hs (by simp; omega) (mapM_some _ _ _ (by simpa using hl.symm) fun i h1 h2 => by
    have hj : i < fs.size := by simpa using h1
    have hli : i < l.length := by omega
    have hfj : fs[i]? = some fs[i] := Array.getElem?_eq_getElem hj
    obtain ⟨o, k⟩ := hone_of hone i _ hfj
    simp only [Array.getElem_toList, o, k, List.getElem_map]
    rw [List.drop_eq_getElem_cons (by simpa using hli)]
    have e := trod_int_mk (enc := enc) (P := P) (w := w) (base := base) (spare := spare) (held := held) (n := l[i]) 0 (hi i _ hfj) (hw _ (List.getElem_mem hli))
    simpa using e)
  refine ⟨2, ?_⟩
  rw [hc, h]
  simp
end
end Go.Proofs.Ytfabcaodiohmaaa
