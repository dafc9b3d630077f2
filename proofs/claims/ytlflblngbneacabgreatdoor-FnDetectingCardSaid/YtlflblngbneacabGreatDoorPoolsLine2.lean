/- The contract of the program's PoolsLine, and the walk through its exact law. Conditions: the pools are few enough to be counted; the variables that the code reads hold what the program's text lays. -/
import Derived.Test.YtlflblngbneacabGreatDoorPoolsLine
namespace Go.Proofs.YtlflblngbneacabGreatDoor
open Go.RowKit Go.Shelf

def poolsFs : Nat → Value
  | 0 => .func (.func 78) #[] #[]
  | 1 => .func (.func 79) #[] #[]
  | _ => .func (.func 80) #[] #[]
theorem tell_in {n : Int} {P : List Int} (hp : poolsB n P = true) : 0 ≤ tellI n P ∧ tellI n P ≤ 1024 := by
  obtain ⟨⟨n1, n10⟩, hl, hP⟩ := pools_in hp
  have h1 := seenK_len P (2 ^ n.toNat)
  have h2 : 2 ^ n.toNat ≤ 1024 := Nat.pow_le_pow_right (n := 2) (by decide) (show n.toNat ≤ 10 by omega)
  unfold tellI
  rw [if_pos hp]
  omega

set_option maxRecDepth 100000 in
set_option maxHeartbeats 1600000 in
theorem implLineP (n : Int) (v : Value) (P : List Int) (hp : poolsB n P = true) (hm : P.length ≤ 1048576) (q : Nat) (w : World) (h : IntsAt w v P) (hq : ∀ i, i < 3 → w.cell? ⟨q, i, none⟩ = some (poolsFs i)) (ht : TabOk w) (hh : HandleOk w) (a : Addr) (he : EmptyAt w a) :
    Calls Tryz.prog 77 #[reportV n v, .slice (some ⟨q, 0, none⟩) 3 3] w fun e w' => e = .returned (.string (poolsT n P)) ∧ Below w.heap.size w w' := by
  have b0 := alloc_below w (.cells #[.int .i64 n, v] 117)
  have P0 := TwoAt.new w 117 (.int .i64 n) v
  generalize hX : w.alloc (.cells #[.int .i64 n, v] 117) = X at b0 P0
  have HB := Lib.hid b0
  have ht1 := ht.below b0
  have hh1 := hh.below b0
  have he1 := he.below b0
  have h1 := h.below b0
  have hti := tell_in hp
  have hl12 : P.length ≤ 12 := (pools_in hp).2.1
  have hlen : (poolsWs n P).length = 3 := rfl
  have C := Lib.hid (implJoinEachP 120 (fun _ _ => by kernel_rfl) #[] #[.pointer (some ⟨w.heap.size, 0, none⟩)] (.slice (some ⟨q, 0, none⟩) 3 3) poolsFs sepSp (poolsWs n P) X ⟨_, 3, rfl⟩ (by rw [hlen]; omega) (by rw [hlen]; omega)
    (by
      have := join_sizeA (ps := poolsWs n P) sepSp 300 (fun x hx => by
        unfold poolsWs at hx
        simp only [List.mem_cons, List.not_mem_nil, or_false] at hx
        rcases hx with rfl | rfl | rfl
        · have := setsT_size P
          omega
        · rw [ByteArray.size_append]
          have e : spSep.size = 10 := rfl
          have h3 := sepK_le n P 3
          have := fmtW_size (sepK n P 3 : Int) (by omega) (by omega)
          omega
        · rw [ByteArray.size_append]
          have e : spSums.size = 5 := rfl
          have := fmtW_size (tellI n P) (by omega) (by omega)
          omega)
      rw [hlen] at this
      have e1 : sepSp.size = 1 := rfl
      rw [e1] at this
      omega)
    (fun i hi => by
      rw [hlen] at hi
      have h1 := hq i hi
      exact ⟨q, 0, 3, 3, rfl, hi, by rw [Nat.zero_add, b0.cell (p := ⟨q, i, none⟩) (World.block_lt_of_cell? w _ h1)]; exact h1⟩)
    (fun i hi V hV => by
      rcases i with _ | _ | _ | i
      · exact implLine1P 78 (fun _ _ => by kernel_rfl) _ n v _ V (P0.below hV) (fun V' hV' => implSetsR n v P V' ((h1.below hV).below hV') hm ((ht1.below hV).below hV') ((hh1.below hV).below hV') a ((he1.below hV).below hV'))
      · exact implLine1P 79 (fun _ _ => by kernel_rfl) _ n v _ V (P0.below hV) (fun V' hV' => implSepR n v P V' ((h1.below hV).below hV') hm ((ht1.below hV).below hV'))
      · exact implLine1P 80 (fun _ _ => by kernel_rfl) _ n v _ V (P0.below hV) (fun V' hV' => implSumsR n v P V' ((h1.below hV).below hV') hm (by omega) ((ht1.below hV).below hV'))
      · rw [hlen] at hi; omega))
  rw [poolsWs_join n P hp] at C
  have CS := Lib.hid (fun t W => implShownLine t W)
  generalize poolsT n P = r at C
  obtain ⟨p, c0, c, rfl⟩ := h.form
  unfold reportV
  clear b0 P0 hq ht ht1 hh hh1 he he1 h h1 hti hl12 hlen hm
  go_enter Tryz.func77, Tryz.ntmps77
  go_wp2_with fail
  refine C.out.mono ?_
  rintro e w1 ⟨rfl, b1⟩
  have B := Lib.hid (below_up HB.out b1)
  clear b1
  go_wp2_with fail
  refine (CS.out _ _).mono ?_
  rintro e w2 ⟨rfl, b2⟩
  have B2 := Lib.hid (below_up B.out b2)
  clear b2
  go_wp2
  go_ret
  exact ⟨rfl, B2.out⟩

set_option maxRecDepth 100000 in
set_option maxHeartbeats 1600000 in
theorem implPoolsLine (n : Int) (v : Value) (P : List Int) (w : World) (h : IntsAt w v P) (hm : P.length ≤ 1048576) (ht : TabOk w) (hh : HandleOk w) (a : Addr) (he : EmptyAt w a) : Calls Tryz.prog 28 #[.int .i64 n, v] w fun e w' => e = .returned (.string (poolsT n P)) ∧ Below w.heap.size w w' := by
  have C0 := Lib.hid (implPoolsOk n v P w h (by unfold maxLen; omega))
  have HN : Hid (poolsB n P = false → poolsT n P = ⟨#[]⟩) := fun h => by unfold poolsT; rw [h]; rfl
  have A2 := alloc_below w (.cells #[.func (.func 78) #[] #[], .func (.func 79) #[] #[], .func (.func 80) #[] #[]] 118)
  have Q2 : ∀ i, i < 3 → (w.alloc (.cells #[.func (.func 78) #[] #[], .func (.func 79) #[] #[], .func (.func 80) #[] #[]] 118)).cell? ⟨w.heap.size, i, none⟩ = some (poolsFs i) := by
    intro i hi
    rcases i with _ | _ | _ | i
    · rw [World.cell?_alloc_at _ _ _ _ (by simp)]; rfl
    · rw [World.cell?_alloc_at _ _ _ _ (by simp)]; rfl
    · rw [World.cell?_alloc_at _ _ _ _ (by simp)]; rfl
    · omega
  generalize hX2 : w.alloc (.cells #[.func (.func 78) #[] #[], .func (.func 79) #[] #[], .func (.func 80) #[] #[]] 118) = X2 at A2 Q2
  have HB := Lib.hid A2
  have C1 : Hid (poolsB n P = true → Calls Tryz.prog 77 #[reportV n v, .slice (some ⟨w.heap.size, 0, none⟩) 3 3] X2 fun e w' => e = .returned (.string (poolsT n P)) ∧ Below X2.heap.size X2 w') := fun hp => implLineP n v P hp hm _ X2 (h.below A2) Q2 (ht.below A2) (hh.below A2) a (he.below A2)
  obtain ⟨p, c0, c, rfl⟩ := h.form
  unfold reportV at C1
  generalize poolsT n P = r at C1 HN ⊢
  generalize poolsB n P = k at C0 C1 HN
  clear A2 Q2 ht hh he h hm
  cases k with
  | false =>
    have HE := Lib.hid (HN.out rfl)
    clear C1 HN hX2 HB
    go_enter Tryz.func28, Tryz.ntmps28
    go_wp2_with fail
    refine C0.out.mono ?_
    rintro e w1 ⟨rfl, rfl⟩
    go_wp2
    go_ret
    exact ⟨ret_str HE.out.symm, Below.refl _ _⟩
  | true =>
    have C2 := Lib.hid (C1.out rfl)
    clear C1 HN
    go_enter Tryz.func28, Tryz.ntmps28
    go_wp2_with fail
    refine C0.out.mono ?_
    rintro e w1 ⟨rfl, rfl⟩
    go_wp2_with fail
    refine C2.out.mono ?_
    rintro e w3 ⟨rfl, bb⟩
    have B3 := Lib.hid (below_up HB.out bb)
    clear bb
    go_wp2
    go_ret
    exact ⟨rfl, B3.out⟩
end Go.Proofs.YtlflblngbneacabGreatDoor
