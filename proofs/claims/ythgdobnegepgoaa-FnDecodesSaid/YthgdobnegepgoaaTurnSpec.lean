/- The contract of the model's TurnWeighing: a weighing of the call's own, with the sides exchanged. Conditions: the sides read as integers, lie somewhere, and are short enough to be counted. -/
import Derived.Test.YthgdobnegepgoaaThree
import Derived.Deep.RegionLaw
import Derived.Deep.RegionHeld3
namespace Go.Proofs.Ythgdobnegepgoaa
open Go.RowKit

/-- append to a list of the call's own, as one step of a region that draws. -/
theorem step_append_own {P : Program} {ops : Array Oper} {o : Oper} {a : Act} {w : World} {K : Act → World → Prop} {Q : Exit → Act → World → Prop} {E : Prop}
    (hg : o.guard = none) (s x : Operand) (t : TypeId) (hop : o.op = Op.call { callee := Callee.builtin Builtin.append, args := #[s, x], argTypes := #[t, t] })
    (base : Nat) (e : TypeId) (i : TypeInfo) (z : Value) (size bytes : Nat) (h1 : P.underlying t = some (.slice e)) (h2 : P.info? e = some i) (h3 : i.zero = some z) (h4 : i.size = size) (h5 : i.bytes = bytes) (h6 : z.cells.size = size) (h7 : 0 < size)
    (v : Value) (n : Nat) (xs : List Value) (hs : a.eval s = v) (hown : w.ownsRow base e size v n xs)
    (ad : Addr) (m c : Nat) (news : List Value) (hx : a.eval x = .slice (some ad) m c) (hn : news.length = m * size) (hc : ∀ j u, news[j]? = some u → w.cell? (ad.add j) = some u) (h1c : ∀ u ∈ news, u.oneCell' = true)
    (b1 : n + m ≤ maxLen) (b2 : (n + m) * bytes ≤ 140737488355328) (hbase : base ≤ w.heap.size) (hv : v ≠ .slice none 0 0)
    (hK : ∀ v' w', w'.ownsRow base e size v' (n + m) (xs ++ news) → w.grownBy w' v.ownBlock → (v'.ownBlock = v.ownBlock ∨ v'.ownBlock = some w.heap.size) → Solid v' → K (a.put o.dst v') w') :
    if Region.wanted o (yielded ops a.tmps) = true then Oper.wp P o a w K Q else E := by
  have hw : Region.wanted o (yielded ops a.tmps) = true := by simp [Region.wanted, hg]
  rw [if_pos hw]
  obtain ⟨v', w', hrun, r1, r2, r3, r4⟩ := run_append_own_at (P := P) w base t o.type e i z size bytes h1 h2 h3 h4 h5 h6 h7 v n xs hown ad m c news hn hc h1c b1 b2 hbase
  unfold Oper.wp
  simp [execOp, hop, resolve, invoke, builtin, hs, hx, hrun, Result.andThen]
  refine hK v' w' r1 r2 r4 ?_
  rcases r1.2 with ⟨h0, _⟩ | ⟨g, cap, cur, h0, _⟩
  · exact absurd (r3.1 h0).1 hv
  · exact ⟨_, _, _, h0⟩

theorem VarAt.grown {X w1 : World} {row : Option Nat} {b : Nat} {x y : Value} (hp : VarAt X b x y) (hg : X.grownBy w1 row) (hne : row ≠ some b) : VarAt w1 b x y := by
  have T := Only.of_grown hg
  refine ⟨hp.1.only T hne, ?_, ?_⟩
  · rw [World.frozen?_of_block (w := X) (a := ⟨b, 0, none⟩) (hg.block b hp.1.2.2 (Ne.symm hne))]; exact hp.2.1
  · rw [World.frozen?_of_block (w := X) (a := ⟨b, 1, none⟩) (hg.block b hp.1.2.2 (Ne.symm hne))]; exact hp.2.2
theorem VarAt.drew {X : World} {b : Nat} {x y : Value} (hp : VarAt X b x y) : VarAt X.drew b x y := hp.below ((Below.refl _ _).drew)
theorem VarAt.alloc {X : World} {b : Nat} {x y : Value} (hp : VarAt X b x y) (o : Obj) : VarAt (X.alloc o) b x y := hp.below (alloc_below _ _)
theorem TwoAt.drew {X : World} {b : Nat} {x y : Value} (hp : TwoAt X b x y) : TwoAt X.drew b x y := hp.below ((Below.refl _ _).drew)
theorem TwoAt.alloc {X : World} {b : Nat} {x y : Value} (hp : TwoAt X b x y) (o : Obj) : TwoAt (X.alloc o) b x y := hp.below (alloc_below _ _)
theorem IntsAt.drew {w : World} {v : Value} {l : List Int} (h : IntsAt w v l) : IntsAt w.drew v l := h.below ((Below.refl _ _).drew)
theorem IntsAt.alloc {w : World} {v : Value} {l : List Int} (h : IntsAt w v l) (o : Obj) : IntsAt (w.alloc o) v l := h.below (alloc_below _ _)
theorem Own.alloc {w : World} {B : Nat} {v : Value} {l : List Int} (h : Own w B v l) (o : Obj) : Own (w.alloc o) B v l := h.below (alloc_below _ _)

/-- What the region keeps: the argument's cells, the result's variable, the two lists that came in, all below block B. -/
structure Kept (w0 W : World) (h b2 bv B : Nat) (vl vr : Value) (L R : List Int) : Prop where
  bel : Below h w0 W
  two : TwoAt W b2 vl vr
  var : VarAt W bv (.slice none 0 0) (.slice none 0 0)
  left : IntsAt W vl L
  right : IntsAt W vr R
  bl : Blk (· < B) vl
  br : Blk (· < B) vr
  hb : h ≤ B ∧ b2 < B ∧ bv < B
  size : B ≤ W.heap.size
theorem Kept.drew {w0 W : World} {h b2 bv B : Nat} {vl vr : Value} {L R : List Int} (k : Kept w0 W h b2 bv B vl vr L R) : Kept w0 W.drew h b2 bv B vl vr L R := ⟨k.bel.drew, k.two.drew, k.var.drew, k.left.drew, k.right.drew, k.bl, k.br, k.hb, k.size⟩
theorem Kept.alloc {w0 W : World} {h b2 bv B : Nat} {vl vr : Value} {L R : List Int} (k : Kept w0 W h b2 bv B vl vr L R) (o : Obj) : Kept w0 (W.alloc o) h b2 bv B vl vr L R := ⟨k.bel.alloc (by have := k.size; have := k.hb; omega) _, k.two.alloc o, k.var.alloc o, k.left.alloc o, k.right.alloc o, k.bl, k.br, k.hb, by have := k.size; simp; omega⟩
theorem Kept.grown {w0 W W' : World} {h b2 bv B : Nat} {vl vr : Value} {L R : List Int} (k : Kept w0 W h b2 bv B vl vr L R) {row : Option Nat} (hg : W.grownBy W' row) (hr : ∀ j, row = some j → B ≤ j) : Kept w0 W' h b2 bv B vl vr L R := by
  have T := Only.of_grown hg
  have hb := k.hb
  exact ⟨k.bel.grown hg (by have := k.size; omega) fun j hj => by have := hr j hj; omega, k.two.only T fun e => by have := hr _ e; omega, k.var.grown hg fun e => by have := hr _ e; omega, k.left.only T fun j hj e => by have := hr j e; have := k.bl j hj; omega, k.right.only T fun j hj e => by have := hr j e; have := k.br j hj; omega, k.bl, k.br, k.hb, Nat.le_trans k.size hg.size⟩

/-- An empty list in a block of its own. -/
def Bare (W : World) (g : Nat) : Prop := W.heap[g]? = some (.cells #[] 3 (0, 0))
theorem Bare.new (W : World) : Bare (W.alloc (.cells #[] 3)) W.heap.size := by
  unfold Bare World.alloc
  simp
theorem Bare.at (W : World) (g : Nat) (h : W.heap.size = g) : Bare (W.alloc (.cells #[] 3)) g := by subst h; exact Bare.new W
theorem Bare.alloc {W : World} {g : Nat} (h : Bare W g) (o : Obj) : Bare (W.alloc o) g := by
  unfold Bare at h ⊢
  have hlt : g < W.heap.size := by
    rcases Nat.lt_or_ge g W.heap.size with h' | h'
    · exact h'
    · rw [Array.getElem?_eq_none h'] at h; cases h
  rw [(alloc_below W o).block g hlt]
  exact h
theorem Bare.grown {W W' : World} {g : Nat} (h : Bare W g) {row : Option Nat} (hg : W.grownBy W' row) (hne : row ≠ some g) : Bare W' g := by
  unfold Bare at h ⊢
  have hlt : g < W.heap.size := by
    rcases Nat.lt_or_ge g W.heap.size with h' | h'
    · exact h'
    · rw [Array.getElem?_eq_none h'] at h; cases h
  rw [hg.block g hlt (Ne.symm hne)]
  exact h
theorem Bare.own {W : World} {g B : Nat} (h : Bare W g) (hB : B ≤ g) : W.ownsRow B 3 1 (.slice (some ⟨g, 0, none⟩) 0 0) 0 [] :=
  ⟨rfl, .inr ⟨g, 0, #[], rfl, hB, h, Nat.le_refl _, by unfold maxLen; omega, rfl, rfl⟩⟩
theorem ints_cells {W : World} {g c : Nat} {l : List Int} (h : IntsAt W (.slice (some ⟨g, 0, none⟩) l.length c) l) : ∀ j u, (l.map (Value.int .i64))[j]? = some u → W.cell? ((⟨g, 0, none⟩ : Addr).add j) = some u := by
  intro j u hj
  obtain ⟨a, cap, hv, hh⟩ := h
  cases hv
  rw [List.getElem?_map] at hj
  rcases hh with rfl | ⟨b, o, ha, hc⟩
  · simp at hj
  · cases ha
    have hlt : j < l.length := by
      rcases Nat.lt_or_ge j l.length with h' | h'
      · exact h'
      · rw [List.getElem?_eq_none h'] at hj; simp at hj
    rw [List.getElem?_eq_getElem hlt] at hj
    simp at hj
    subst hj
    rw [Addr.add_lit]
    exact hc j hlt
theorem ints_one (l : List Int) : ∀ u ∈ l.map (Value.int .i64), u.oneCell' = true := by
  intro u hu
  rw [List.mem_map] at hu
  obtain ⟨x, _, rfl⟩ := hu
  rfl

theorem addFact {A G : Prop} (a : A) (k : A → G) : G := k a

end Go.Proofs.Ythgdobnegepgoaa
