/- The contract of the program's keyOf: the signs as a key of a map. Conditions: the signs read as integers and are short enough to be counted. -/
import Derived.Test.YtbkhmlkicafheaaSignKey
namespace Go.Proofs.Ytbkhmlkicafheaa
open Go.RowKit

/-- Seven cells that may be written. -/
def SevenVar (w : World) (b : Nat) (x : Nat → Value) : Prop := b < w.heap.size ∧ ∀ j, j < 7 → w.cell? ⟨b, j, none⟩ = some (x j) ∧ w.frozen? ⟨b, j, none⟩ = false
theorem SevenVar.belowN {w w' : World} {b B : Nat} {x : Nat → Value} (h : SevenVar w b x) (hb : Below B w w') (hlt : b < B) : SevenVar w' b x :=
  ⟨Nat.lt_of_lt_of_le h.1 hb.size, fun j hj => ⟨by rw [hb.cell (p := ⟨b, j, none⟩) hlt]; exact (h.2 j hj).1, by rw [hb.frozen (p := ⟨b, j, none⟩) hlt]; exact (h.2 j hj).2⟩⟩
theorem SevenVar.new (w : World) (t : TypeId) (a b c d e f g : Value) : SevenVar (w.alloc (.cells #[a, b, c, d, e, f, g] t)) w.heap.size (fun j => [a, b, c, d, e, f, g].getD j a) := by
  refine ⟨by simp, fun j hj => ?_⟩
  rcases j with _ | _ | _ | _ | _ | _ | _ | j
  all_goals first | (constructor <;> simp; done) | omega

set_option maxRecDepth 100000 in
set_option maxHeartbeats 3200000 in
theorem implKeyOf (v : Value) (S : List Int) (w : World) (h : IntsAt w v S) (hm : S.length ≤ 1048576) :
    Calls Try.prog 82 #[v] w fun e w' => e = .returned (keyV S) ∧ Below w.heap.size w w' := by
  have HS := Lib.hid (key_splice S)
  obtain ⟨i0, hi, hz0, hz1, hz2⟩ := info_parts infoInt
  have hsz : (Try.prog.info? 3).map (·.size) = some 1 := by rw [hi]; simp [hz1]
  obtain ⟨a, c, rfl, hc⟩ := h
  have V1 := Lib.hid (SevenVar.new w 109 (.int .i64 0) (.int .i64 0) (.int .i64 0) (.int .i64 0) (.int .i64 0) (.int .i64 0) (.int .i64 0))
  have B1 := Lib.hid (alloc_below w (.cells #[.int .i64 0, .int .i64 0, .int .i64 0, .int .i64 0, .int .i64 0, .int .i64 0, .int .i64 0] 109))
  have hs1 : (w.alloc (.cells #[.int .i64 0, .int .i64 0, .int .i64 0, .int .i64 0, .int .i64 0, .int .i64 0, .int .i64 0] 109)).heap.size = w.heap.size + 1 := by simp
  generalize hX1 : w.alloc (.cells #[.int .i64 0, .int .i64 0, .int .i64 0, .int .i64 0, .int .i64 0, .int .i64 0, .int .i64 0] 109) = X1 at V1 B1 hs1
  obtain ⟨n, hn⟩ : ∃ n, S.length = n := ⟨_, rfl⟩
  have B2 := Lib.hid (alloc_below X1 (.cells #[.int .i64 n, .int .i64 0, .int .i64 0, .int .i64 0, .int .i64 0, .int .i64 0, .int .i64 0] 109))
  have hg2 : (X1.alloc (.cells #[.int .i64 n, .int .i64 0, .int .i64 0, .int .i64 0, .int .i64 0, .int .i64 0, .int .i64 0] 109)).heap[w.heap.size + 1]? = some (.cells [.int .i64 n, .int .i64 0, .int .i64 0, .int .i64 0, .int .i64 0, .int .i64 0, .int .i64 0].toArray 109 (0, 0)) := by
    rw [← hs1]; exact heap_alloc_new X1 _
  have V2 := Lib.hid (V1.out.belowN B2.out (by omega))
  have HG := Lib.hid hg2
  have HP : Hid (0 < ((S.take 6).map (Value.int .i64)).length → ∃ ad, a = some ad ∧ ∀ j u, ((S.take 6).map (Value.int .i64))[j]? = some u → (X1.alloc (.cells #[.int .i64 n, .int .i64 0, .int .i64 0, .int .i64 0, .int .i64 0, .int .i64 0, .int .i64 0] 109)).cell? (ad.add j) = some u) := fun h0 => by
    rcases hc with rfl | ⟨b, off, rfl, hc⟩
    · simp at h0
    · refine ⟨_, rfl, fun j u hu => ?_⟩
      simp only [List.getElem?_map, Option.map_eq_some_iff] at hu
      obtain ⟨x, hx, rfl⟩ := hu
      obtain ⟨hj, hx'⟩ := List.getElem?_eq_some_iff.1 hx
      have hjl : j < S.length := by simp at hj; omega
      have e := hc j hjl
      have hx2 : S[j] = x := by rw [← hx']; simp
      rw [← hx2]
      have hlt : b < w.heap.size := World.block_lt_of_cell? w _ e
      rw [Addr.add_lit]
      rw [(below_up B1.out B2.out).cell (p := ⟨b, off + j, none⟩) hlt]
      exact e
  have HN := Lib.hid hn
  have hcs : ((S.take 6).map (Value.int .i64)).length = Nat.min n 6 := by simp [← hn, Nat.min_comm]
  have hone : ∀ u ∈ (S.take 6).map (Value.int .i64), u.oneCell' = true := by
    intro u hu
    obtain ⟨x, -, rfl⟩ := List.mem_map.1 hu
    rfl
  have hle : 1 + ((S.take 6).map (Value.int .i64)).length ≤ 7 := by simp; omega
  rw [hn] at HS hm ⊢
  clear hg2 hc hn
  have HC := Lib.hid hcs
  have HO := Lib.hid hone
  have HL := Lib.hid hle
  obtain ⟨C, hC⟩ : ∃ C, (S.take 6).map (Value.int .i64) = C := ⟨_, rfl⟩
  clear hcs hone hle
  rw [hC] at HS HP HC HO HL
  clear hC
  go_enter Try.func82, Try.ntmps82
  go_wp2_with (refine wpList_copy_splice rfl _ _ 39 39 rfl 3 Try.underlying39 hsz _ _ _ _ _ _ rfl rfl (w.heap.size + 1) 1 _ 109 HG.out C HC.out (fun h0 => ⟨rfl, HP.out h0⟩) HL.out HO.out (w.heap.size + 1) _ (Below.refl _ _) (Nat.le_refl _) ?_; intro w3 HG3 hB3; have hK := HG3.out; rw [HS.out] at hK; obtain ⟨k0, k1, k2, k3, k4, k5, k6, -⟩ := keyCells_at hK; rw [HN.out] at k0; have V3 := V2.out.belowN hB3 (by omega); have c0 : w3.cell? ⟨w.heap.size, 0, none⟩ = some (.int .i64 0) := (V3.2 0 (by omega)).1; have c1 : w3.cell? ⟨w.heap.size, 1, none⟩ = some (.int .i64 0) := (V3.2 1 (by omega)).1; have c2 : w3.cell? ⟨w.heap.size, 2, none⟩ = some (.int .i64 0) := (V3.2 2 (by omega)).1; have c3 : w3.cell? ⟨w.heap.size, 3, none⟩ = some (.int .i64 0) := (V3.2 3 (by omega)).1; have c4 : w3.cell? ⟨w.heap.size, 4, none⟩ = some (.int .i64 0) := (V3.2 4 (by omega)).1; have c5 : w3.cell? ⟨w.heap.size, 5, none⟩ = some (.int .i64 0) := (V3.2 5 (by omega)).1; have c6 : w3.cell? ⟨w.heap.size, 6, none⟩ = some (.int .i64 0) := (V3.2 6 (by omega)).1; have f0 := (V3.2 0 (by omega)).2; have f1 := (V3.2 1 (by omega)).2; have f2 := (V3.2 2 (by omega)).2; have f3 := (V3.2 3 (by omega)).2; have f4 := (V3.2 4 (by omega)).2; have f5 := (V3.2 5 (by omega)).2; have f6 := (V3.2 6 (by omega)).2; clear V3; have B3 := Lib.hid ((below_up B1.out B2.out).trans (hB3.mono (Nat.le_succ _))); clear hK hB3)
  refine bodyPost_ret (v := .agg #[.int .i64 n, .int .i64 (S[0]?.getD 0), .int .i64 (S[1]?.getD 0), .int .i64 (S[2]?.getD 0), .int .i64 (S[3]?.getD 0), .int .i64 (S[4]?.getD 0), .int .i64 (S[5]?.getD 0)]) (by simp [results, Try.results82, go_sem, c0, c1, c2, c3, c4, c5, c6]) rfl ?_
  have hn := HN.out
  subst hn
  exact ⟨rfl, (((((((B3.out.setCell (Nat.le_refl _) _).setCell (Nat.le_refl _) _).setCell (Nat.le_refl _) _).setCell (Nat.le_refl _) _).setCell (Nat.le_refl _) _).setCell (Nat.le_refl _) _).setCell (Nat.le_refl _) _)⟩
end Go.Proofs.Ytbkhmlkicafheaa
