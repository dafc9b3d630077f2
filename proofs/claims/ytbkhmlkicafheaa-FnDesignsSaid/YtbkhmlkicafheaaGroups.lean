/- A map of the call's own whose keys are signs and whose elements are lists of cases: how an entry is fetched and stored, and how one is looked up. Condition: the signs fit Go's int. -/
import Derived.Test.YtbkhmlkicafheaaSignKey
import Derived.WideKeyEntry
import Derived.Maps.RangeWalk
namespace Go.Proofs.Ytbkhmlkicafheaa
open Go.RowKit Go.MapKept
open Go.ChangeMaps (setBlock modify_eq_set)

/-- Block b is a map whose entries are, in the order in which they were made, the groups of G; each element is a list of the call's own from block lo on, which lies behind b; no two of them lie in one block. -/
def GrpAt (w : World) (lo b : Nat) (G : List (List Int × List Int)) : Prop :=
  ∃ es clock, w.heap[b]? = some (.map es clock) ∧ Stamped es clock ∧ es.toList.length = G.length ∧ b < lo ∧ (∀ g ∈ G, g.1.length ≤ 6 ∧ KeyOk g.1) ∧
    (∀ i (h : i < G.length), ∃ x, es.toList[i]? = some x ∧ x.key = keyV G[i].1 ∧ Own w lo x.val G[i].2) ∧
    ∀ (i j : Nat) (x y : MapEntry), i ≠ j → es.toList[i]? = some x → es.toList[j]? = some y → Sep x.val y.val

theorem GrpAt.made (w : World) (lo : Nat) (hlo : w.heap.size < lo) : GrpAt (w.alloc (.map #[] 0)) lo w.heap.size [] :=
  ⟨#[], 0, (heap_alloc w _).1, stamped_empty 0, rfl, hlo, by simp, fun i h => by simp at h, fun i j x y _ h => by simp at h⟩

theorem GrpAt.lt {w : World} {lo b : Nat} {G : List (List Int × List Int)} (h : GrpAt w lo b G) : b < w.heap.size := by
  obtain ⟨es, clock, hb, -⟩ := h
  exact (Array.getElem?_eq_some_iff.1 hb).1

theorem GrpAt.below {w w' : World} {lo b : Nat} {G : List (List Int × List Int)} (h : GrpAt w lo b G) (hb : Below w.heap.size w w') : GrpAt w' lo b G := by
  have hlt := h.lt
  obtain ⟨es, clock, h1, h2, h3, h7, h4, h5, h6⟩ := h
  refine ⟨es, clock, by rw [hb.block b hlt]; exact h1, h2, h3, h7, h4, fun i hi => ?_, h6⟩
  obtain ⟨x, e1, e2, e3⟩ := h5 i hi
  exact ⟨x, e1, e2, e3.below hb⟩

theorem own_not {w : World} {lo b : Nat} {v : Value} {l : List Int} (hlo : b < lo) (h : Own w lo v l) : Blk (fun k => ¬ k = b) v := fun k hk e => by
  have := (h.blk k hk).1
  omega

theorem setBlock_only (w : World) (b : Nat) (o : Obj) : Only (fun k => k = b) w (setBlock w b o) :=
  ⟨rfl, rfl, rfl, by simp [setBlock], fun k _ hk => by simp [setBlock, Array.getElem?_setIfInBounds]; intro e; exact absurd e.symm hk⟩
theorem setBlock_size (w : World) (b : Nat) (o : Obj) : (setBlock w b o).heap.size = w.heap.size := by simp [setBlock]
theorem setBlock_at {w : World} {b : Nat} {o o' : Obj} (h : w.heap[b]? = some o') : (setBlock w b o).heap[b]? = some o := by
  have := (Array.getElem?_eq_some_iff.1 h).1
  simp [setBlock, this]

/-- The keys of a map's entries are keys. -/
theorem GrpAt.keys {es : Array MapEntry} {G : List (List Int × List Int)} {w : World} {lo : Nat} (h3 : es.toList.length = G.length) (h4 : ∀ g ∈ G, g.1.length ≤ 6 ∧ KeyOk g.1)
    (h5 : ∀ i (h : i < G.length), ∃ x, es.toList[i]? = some x ∧ x.key = keyV G[i].1 ∧ Own w lo x.val G[i].2) : ∀ e ∈ es.toList, ∃ l, Go.keyOf Try.prog 109 e.key = some l := by
  intro e he
  obtain ⟨i, hi, rfl⟩ := List.getElem_of_mem he
  obtain ⟨x, e1, e2, -⟩ := h5 i (by omega)
  rw [List.getElem?_eq_getElem hi] at e1
  cases e1
  rw [e2]
  exact keyOf_mk (h4 _ (List.getElem_mem _)).2

theorem Only.andOn {T U : Nat → Prop} {a b c : World} (h : Only T a b) (k : Only U b c) (hU : ∀ i, U i → a.heap.size ≤ i ∨ T i) : Only T a c :=
  ⟨k.os.trans h.os, k.tape.trans h.tape, k.output.trans h.output, Nat.le_trans h.size k.size, fun i hi hn => (k.block i (Nat.lt_of_lt_of_le hi h.size) fun hu => by
    rcases hU i hu with h1 | h1
    · omega
    · exact hn h1).trans (h.block i hi hn)⟩

/-- The way back from a fetched entry. -/
def Back (w2 : World) (lo b : Nat) (G : List (List Int × List Int)) (s zs : List Int) (v : Value) (st : Nat) : Prop :=
  ∀ w3 v' c, Only (fun k => v.ownBlock = some k) w2 w3 → Own w3 lo v' (zs ++ [c]) → (v'.ownBlock = v.ownBlock ∨ ∃ k, v'.ownBlock = some k ∧ w2.heap.size ≤ k) →
    ∃ w4, (Instr.entryStore 105 (.map (some b)) (goInt st) v').run Try.prog w3 = .ok () w4 ∧ GrpAt w4 lo b (addG s c G) ∧ Only (fun k => k = b) w3 w4 ∧ w4.heap.size = w3.heap.size

theorem GrpAt.entry {w : World} {lo b : Nat} {G : List (List Int × List Int)} (h : GrpAt w lo b G) {s : List Int} (hs6 : s.length ≤ 6) (hs : KeyOk s) :
    ∃ v zs, ∃ st : Nat, ∃ w2, (Instr.mapEntry 105 (.map (some b)) (keyV s)).run Try.prog w = .ok (.tuple #[v, goInt st]) w2 ∧ Own w2 lo v zs ∧ zs = getG s G ∧ Only (fun k => k = b) w w2 ∧ w2.heap.size = w.heap.size ∧ Back w2 lo b G s zs v st := by
  have ht := Try.underlying105
  obtain ⟨es, clock, hb, hst, hlen, hlo, hok, hent, hsep⟩ := h
  obtain ⟨s1, s2, s3⟩ := hst
  obtain ⟨kl, hkey⟩ := keyOf_mk hs
  have hlt : b < w.heap.size := (Array.getElem?_eq_some_iff.1 hb).1
  rcases keyKeyed.find w hkey es.toList (GrpAt.keys hlen hok hent) with ⟨h1, h2⟩ | ⟨j, e0, h1, h2, h3⟩
  · have hnew : ∀ g ∈ G, g.1 ≠ s := fun g hg e => by
      obtain ⟨i, hi, rfl⟩ := List.getElem_of_mem hg
      obtain ⟨x, e1, e2, -⟩ := hent i hi
      exact h2 x (List.mem_of_getElem? e1) (by rw [e2, e])
    refine ⟨.slice none 0 0, [], clock, setBlock w b (.map (es.push ⟨keyV s, .slice none 0 0, clock⟩) (clock + 1)), ?_, Own.nil _ _, (getG_none hnew).symm, setBlock_only _ _ _, setBlock_size _ _ _, ?_⟩
    · simp [Instr.mapEntry, run_underlying ht, MapKept.run_getObj_map hb, keyKeyed.check w false hkey, h1, MapKept.run_setObj_map _ hb, Result.andThen, setBlock]
    · intro w3 v' c ho hown hloc
      have hb3 : w3.heap[b]? = some (.map (es.push ⟨keyV s, .slice none 0 0, clock⟩) (clock + 1)) := by
        rw [ho.block b (by rw [setBlock_size]; exact hlt) (by simp [Value.ownBlock])]
        exact setBlock_at hb
      have hidx : (es.push ⟨keyV s, .slice none 0 0, clock⟩).findIdx? (fun e => ((e.born : Nat) : Int) == ((clock : Nat) : Int)) = some es.size := by
        rw [WideElems.findIdx_arr]
        exact WideElems.findIdx_born (l := (es.push ⟨keyV s, .slice none 0 0, clock⟩).toList) (j := es.size) (e0 := ⟨keyV s, .slice none 0 0, clock⟩) (by
          simp only [Array.toList_push, List.map_append, List.map_cons, List.map_nil]
          refine List.nodup_append.2 ⟨s2, by simp, fun a ha d hd e1 => ?_⟩
          simp only [List.mem_singleton] at hd
          obtain ⟨x, hx, rfl⟩ := List.mem_map.1 ha
          have := s1 x hx
          omega) (by simp)
      have hmod : (es.push ⟨keyV s, .slice none 0 0, clock⟩).modify es.size (fun e => { e with val := v' }) = es.push ⟨keyV s, v', clock⟩ := by
        apply Array.ext'
        rw [Array.toList_modify, Array.toList_push, Array.toList_push, ← Array.length_toList, WideElems.modify_last]
      have O12 := setBlock_only w b (.map (es.push ⟨keyV s, .slice none 0 0, clock⟩) (clock + 1))
      have O34 := setBlock_only w3 b (.map (es.push ⟨keyV s, v', clock⟩) (clock + 1))
      have old : ∀ {x : Value} {l : List Int}, Own w lo x l → Own (setBlock w3 b (.map (es.push ⟨keyV s, v', clock⟩) (clock + 1))) lo x l := fun {x l} hx => by
        have k2 := hx.only O12 (own_not hlo hx)
        have k3 := k2.only ho (fun k _ e => by simp [Value.ownBlock] at e)
        exact k3.only O34 (own_not hlo k3)
      have sepN : ∀ {x : Value} {l : List Int}, Own w lo x l → Sep v' x := fun {x l} hx k hk hk' => by
        rcases hloc with e | ⟨k', e, hk2⟩
        · rw [e] at hk
          simp [Value.ownBlock] at hk
        · rw [e] at hk
          cases hk
          have := (hx.blk k hk').2
          rw [setBlock_size] at hk2
          omega
      have len' : (es.push ⟨keyV s, v', clock⟩).toList.length = (G ++ [(s, [c])]).length := by simp; simpa using hlen
      refine ⟨setBlock w3 b (.map (es.push ⟨keyV s, v', clock⟩) (clock + 1)), ?_, ?_, O34, setBlock_size _ _ _⟩
      · simp [Instr.entryStore, MapKept.run_getObj_map hb3, asInt, asIntOf, goInt, hidx, hmod, MapKept.run_setObj_map _ hb3, Result.andThen, setBlock]
      · rw [addG_new hnew]
        refine ⟨_, _, setBlock_at hb3, stamped_push ⟨s1, s2, s3⟩ h2, len', hlo, ?_, fun i hi => ?_, fun i j x y hij hx hy => ?_⟩
        · intro g hg
          rcases List.mem_append.1 hg with hg | hg
          · exact hok g hg
          · rw [List.mem_singleton.1 hg]
            exact ⟨hs6, hs⟩
        · rcases Nat.lt_or_ge i G.length with hi' | hi'
          · obtain ⟨x, e1, e2, e3⟩ := hent i hi'
            have hil : i < es.toList.length := by omega
            refine ⟨x, ?_, ?_, ?_⟩
            · rw [Array.toList_push, List.getElem?_append_left hil]; exact e1
            · rw [List.getElem_append_left hi']; exact e2
            · rw [List.getElem_append_left hi']; exact old e3
          · obtain rfl : i = G.length := by simp at hi; omega
            refine ⟨⟨keyV s, v', clock⟩, ?_, ?_, ?_⟩
            · rw [Array.toList_push, ← hlen]; simp
            · simp
            · have := hown.only O34 (own_not hlo hown)
              simpa using this
        · rw [Array.toList_push] at hx hy
          rcases Nat.lt_or_ge i es.toList.length with hi' | hi' <;> rcases Nat.lt_or_ge j es.toList.length with hj' | hj'
          · rw [List.getElem?_append_left hi'] at hx
            rw [List.getElem?_append_left hj'] at hy
            exact hsep i j x y hij hx hy
          · rw [List.getElem?_append_left hi'] at hx
            rw [List.getElem?_append_right hj'] at hy
            obtain ⟨x', e1, -, e3⟩ := hent i (by omega)
            rw [hx] at e1
            cases e1
            have hy' := List.mem_of_getElem? hy
            rw [List.mem_singleton] at hy'
            subst hy'
            exact (sepN e3).symm
          · rw [List.getElem?_append_right hi'] at hx
            rw [List.getElem?_append_left hj'] at hy
            obtain ⟨x', e1, -, e3⟩ := hent j (by omega)
            rw [hy] at e1
            cases e1
            have hx' := List.mem_of_getElem? hx
            rw [List.mem_singleton] at hx'
            subst hx'
            exact sepN e3
          · have := (List.getElem?_eq_some_iff.1 hx).1
            have := (List.getElem?_eq_some_iff.1 hy).1
            simp at *
            omega
  · have hj : es[j]? = some e0 := by simpa using h2
    have hjl : j < es.toList.length := (List.getElem?_eq_some_iff.1 h2).1
    have hjG : j < G.length := by omega
    obtain ⟨x0, f1, f2, f3⟩ := hent j hjG
    rw [h2] at f1
    cases f1
    have hGs : G[j].1 = s := keyV_inj (hok _ (List.getElem_mem hjG)).1 (by rw [← f2, h3])
    have huniq : ∀ i (hi : i < G.length), i ≠ j → G[i].1 ≠ s := fun i hi hij e => by
      obtain ⟨x, e1, e2, -⟩ := hent i hi
      have hkk : x.key = e0.key := by rw [e2, e, h3]
      have hn := s3
      rw [List.nodup_iff_pairwise_ne, List.pairwise_iff_getElem] at hn
      have hil : i < es.toList.length := by omega
      rw [List.getElem?_eq_getElem hil] at e1
      rw [List.getElem?_eq_getElem hjl] at h2
      cases e1
      cases h2
      rcases Nat.lt_or_gt_of_ne hij with hlt' | hlt'
      · exact hn i j (by simpa using hil) (by simpa using hjl) hlt' (by simpa using hkk)
      · exact hn j i (by simpa using hjl) (by simpa using hil) hlt' (by simpa using hkk.symm)
    have hsame : es.modify j (fun e => { e with key := keyV s }) = es := by
      apply Array.ext'
      rw [Array.toList_modify, modify_eq_set _ _ _ _ h2]
      have : ({ e0 with key := keyV s } : MapEntry) = e0 := by rw [← h3]
      rw [this]
      exact WideElems.set_self _ _ _ h2
    refine ⟨e0.val, G[j].2, e0.born, setBlock w b (.map es clock), ?_, ?_, (getG_at hjG hGs huniq).symm, setBlock_only _ _ _, setBlock_size _ _ _, ?_⟩
    · simp [Instr.mapEntry, run_underlying ht, MapKept.run_getObj_map hb, keyKeyed.check w false hkey, h1, hj, h3, keyKeyed.stays w hkey, hsame, MapKept.run_setObj_map _ hb, Result.andThen, setBlock]
    · exact f3.only (setBlock_only _ _ _) (own_not hlo f3)
    · intro w3 v' c ho hown hloc
      have O12 := setBlock_only w b (.map es clock)
      have hb3 : w3.heap[b]? = some (.map es clock) := by
        rw [ho.block b (by rw [setBlock_size]; exact hlt) (fun e => own_not hlo f3 b e rfl)]
        exact setBlock_at hb
      have hidx : es.findIdx? (fun e => ((e.born : Nat) : Int) == ((e0.born : Nat) : Int)) = some j := by
        rw [WideElems.findIdx_arr]
        exact WideElems.findIdx_born s2 h2
      have hset : (es.modify j (fun e => { e with val := v' })).toList = es.toList.set j { e0 with val := v' } := by
        rw [Array.toList_modify, modify_eq_set _ _ _ _ h2]
      have O34 := setBlock_only w3 b (.map (es.modify j (fun e => { e with val := v' })) clock)
      have old : ∀ {x : Value} {l : List Int}, Own w lo x l → Sep x e0.val → Own (setBlock w3 b (.map (es.modify j (fun e => { e with val := v' })) clock)) lo x l := fun {x l} hx hsx => by
        have k2 := hx.only O12 (own_not hlo hx)
        have k3 := k2.only ho (fun k hk e => hsx k hk e)
        exact k3.only O34 (own_not hlo k3)
      have sepN : ∀ {x : Value} {l : List Int}, Own w lo x l → Sep x e0.val → Sep v' x := fun {x l} hx hsx k hk hk' => by
        rcases hloc with e | ⟨k', e, hk2⟩
        · rw [e] at hk
          exact hsx k hk' hk
        · rw [e] at hk
          cases hk
          have := (hx.blk k hk').2
          rw [setBlock_size] at hk2
          omega
      refine ⟨setBlock w3 b (.map (es.modify j (fun e => { e with val := v' })) clock), ?_, ?_, O34, setBlock_size _ _ _⟩
      · simp [Instr.entryStore, MapKept.run_getObj_map hb3, asInt, asIntOf, goInt, hidx, MapKept.run_setObj_map _ hb3, Result.andThen, setBlock]
      · rw [addG_at hjG hGs huniq]
        refine ⟨_, _, setBlock_at hb3, stamped_modify ⟨s1, s2, s3⟩ _ _ (fun _ _ => rfl) (fun _ _ _ => rfl), ?_, hlo, ?_, fun i hi => ?_, fun i i' x y hij hx hy => ?_⟩
        · rw [hset]; simp; simpa using hlen
        · intro g hg
          rcases List.mem_or_eq_of_mem_set hg with hg | rfl
          · exact hok g hg
          · exact ⟨hs6, hs⟩
        · have hi' : i < G.length := by simpa using hi
          rw [hset, List.getElem_set]
          by_cases e : j = i
          · subst e
            refine ⟨{ e0 with val := v' }, List.getElem?_set_self hjl, ?_, ?_⟩
            · simp [h3]
            · have := hown.only O34 (own_not hlo hown)
              simpa using this
          · obtain ⟨x, e1, e2, e3⟩ := hent i hi'
            refine ⟨x, by rw [List.getElem?_set_ne e]; exact e1, by rw [if_neg e]; exact e2, ?_⟩
            rw [if_neg e]
            exact old e3 (hsep i j x e0 (fun e' => e e'.symm) e1 h2)
        · rw [hset] at hx hy
          have hlen2 := (List.getElem?_eq_some_iff.1 hx).1
          have hlen3 := (List.getElem?_eq_some_iff.1 hy).1
          rw [List.length_set] at hlen2 hlen3
          by_cases e : j = i
          · subst e
            rw [List.getElem?_set_ne hij] at hy
            obtain ⟨y', e1, -, e3⟩ := hent i' (by omega)
            rw [hy] at e1
            cases e1
            rw [List.getElem?_set_self hjl] at hx
            cases hx
            exact sepN e3 (hsep i' j y e0 (fun e' => hij e'.symm) hy h2)
          · rw [List.getElem?_set_ne e] at hx
            by_cases e' : j = i'
            · subst e'
              obtain ⟨x', e1, -, e3⟩ := hent i (by omega)
              rw [hx] at e1
              cases e1
              rw [List.getElem?_set_self hjl] at hy
              cases hy
              exact (sepN e3 (hsep i j x e0 hij hx h2)).symm
            · rw [List.getElem?_set_ne e'] at hy
              exact hsep i i' x y hij hx hy

/-- A look-up: the cases at the signs, or nothing. -/
theorem GrpAt.look {w : World} {lo b : Nat} {G : List (List Int × List Int)} (h : GrpAt w lo b G) {s : List Int} (hs : KeyOk s) :
    ∃ v, (Instr.lookup 105 (.map (some b)) (keyV s) false).run Try.prog w = .ok v w ∧ Own w lo v (getG s G) := by
  have ht := Try.underlying105
  obtain ⟨es, clock, hb, ⟨s1, s2, s3⟩, hlen, -, hok, hent, hsep⟩ := h
  obtain ⟨kl, hkey⟩ := keyOf_mk hs
  rcases keyKeyed.find w hkey es.toList (GrpAt.keys hlen hok hent) with ⟨h1, h2⟩ | ⟨j, e0, h1, h2, h3⟩
  · have hnew : ∀ g ∈ G, g.1 ≠ s := fun g hg e => by
      obtain ⟨i, hi, rfl⟩ := List.getElem_of_mem hg
      obtain ⟨x, e1, e2, -⟩ := hent i hi
      exact h2 x (List.mem_of_getElem? e1) (by rw [e2, e])
    rw [getG_none hnew]
    exact ⟨.slice none 0 0, by simp [Instr.lookup, run_underlying ht, MapKept.run_getObj_map hb, keyKeyed.check w _ hkey, h1, Result.andThen], Own.nil _ _⟩
  · have hjl : j < es.toList.length := (List.getElem?_eq_some_iff.1 h2).1
    have hjG : j < G.length := by omega
    obtain ⟨x0, f1, f2, f3⟩ := hent j hjG
    rw [h2] at f1
    cases f1
    have hGs : G[j].1 = s := keyV_inj (hok _ (List.getElem_mem hjG)).1 (by rw [← f2, h3])
    have huniq : ∀ i (hi : i < G.length), i ≠ j → G[i].1 ≠ s := fun i hi hij e => by
      obtain ⟨x, e1, e2, -⟩ := hent i hi
      have hkk : x.key = e0.key := by rw [e2, e, h3]
      have hn := s3
      rw [List.nodup_iff_pairwise_ne, List.pairwise_iff_getElem] at hn
      have hil : i < es.toList.length := by omega
      rw [List.getElem?_eq_getElem hil] at e1
      rw [List.getElem?_eq_getElem hjl] at h2
      cases e1
      cases h2
      rcases Nat.lt_or_gt_of_ne hij with hlt' | hlt'
      · exact hn i j (by simpa using hil) (by simpa using hjl) hlt' (by simpa using hkk)
      · exact hn j i (by simpa using hjl) (by simpa using hil) hlt' (by simpa using hkk.symm)
    rw [getG_at hjG hGs huniq]
    exact ⟨e0.val, by simp [Instr.lookup, run_underlying ht, MapKept.run_getObj_map hb, keyKeyed.check w _ hkey, h1, Result.andThen], f3⟩

/-- How many groups there are. -/
theorem GrpAt.len {w : World} {lo b : Nat} {G : List (List Int × List Int)} (h : GrpAt w lo b G) (ty : TypeId) : (Builtin.len_ #[105] ty #[.map (some b)]).run Try.prog w = .ok (.int .i64 G.length) w := by
  obtain ⟨es, clock, hb, -, hlen, -⟩ := h
  rw [← hlen]
  simp [Builtin.len_, run_underlying Try.underlying105, MapKept.run_getObj_map hb, goInt, Result.andThen]

/-! ### at the operations -/
theorem wpList_mapEntry_grp {w : World} {ops : Array Oper} {rest : List Oper} {o : Oper} {a : Act} {Q : Exit → Act → World → Prop} (hg : o.guard = none) (m x : Operand) (hop : o.op = Op.mapEntry 105 m x)
    (lo b : Nat) (hm : a.eval m = .map (some b)) (G : List (List Int × List Int)) (s : List Int) (hx : a.eval x = keyV s) (h : GrpAt w lo b G) (hs6 : s.length ≤ 6) (hs : KeyOk s)
    (hK : ∀ v (st : Nat) w2, Own w2 lo v (getG s G) → Only (fun k => k = b) w w2 → w2.heap.size = w.heap.size → Back w2 lo b G s (getG s G) v st → wpList Try.prog ops Q rest (a.put o.dst (.tuple #[v, .int .i64 st])) w2) :
    wpList Try.prog ops Q (o :: rest) a w := by
  refine wpList_plain hg fun K' hK' => ?_
  obtain ⟨v, zs, st, w2, hrun, h1, rfl, h2, h3, h4⟩ := h.entry hs6 hs
  unfold Oper.wp
  simp [execOp, hop, hm, hx, hrun, Result.andThen]
  exact hK' _ _ (hK v st w2 h1 h2 h3 h4)

theorem wpList_entryStore_grp {w3 : World} {ops : Array Oper} {rest : List Oper} {o : Oper} {a : Act} {Q : Exit → Act → World → Prop} (hg : o.guard = none) (m x y : Operand) (hop : o.op = Op.entryStore 105 m x y)
    {w2 : World} {lo b : Nat} {G : List (List Int × List Int)} {s zs : List Int} {v : Value} {st : Nat} (hback : Back w2 lo b G s zs v st) (hm : a.eval m = .map (some b)) (hx : a.eval x = .int .i64 st) (v' : Value) (hy : a.eval y = v') (c : Int)
    (ho : Only (fun k => v.ownBlock = some k) w2 w3) (hown : Own w3 lo v' (zs ++ [c])) (hloc : v'.ownBlock = v.ownBlock ∨ ∃ k, v'.ownBlock = some k ∧ w2.heap.size ≤ k)
    (hK : ∀ w4, GrpAt w4 lo b (addG s c G) → Only (fun k => k = b) w3 w4 → w4.heap.size = w3.heap.size → wpList Try.prog ops Q rest (a.put o.dst undef) w4) :
    wpList Try.prog ops Q (o :: rest) a w3 := by
  refine wpList_plain hg fun K' hK' => ?_
  obtain ⟨w4, hrun, h1, h2, h3⟩ := hback w3 v' c ho hown hloc
  have hrun' : (Instr.entryStore 105 (.map (some b)) (.int .i64 st) v').run Try.prog w3 = .ok () w4 := hrun
  unfold Oper.wp
  simp [execOp, hop, hm, hx, hy, hrun', Result.andThen]
  exact hK' _ _ (hK w4 h1 h2 h3)
end Go.Proofs.Ytbkhmlkicafheaa
