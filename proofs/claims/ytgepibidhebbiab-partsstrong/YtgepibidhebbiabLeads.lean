/- leads: whether a way leads from one node to another, read off what reached has found. -/
import Derived.Test.YtgepibidhebbiabOneWay
namespace Go.Proofs.Ytgepibidhebbiab
open Go.RowKit Go.Maps
attribute [local go_sem ↓] Go.wp_at_zero Go.wp_at_succ

/-- A slice of maps, one a node: the keys of the i-th are those that R i tells. -/
def ReachAt (w : World) (ao : Option Addr) (N : Nat) (R : Nat → Nat → Bool) : Prop :=
  ∀ i, i < N → ∃ g b F, ao = some ⟨g, 0, none⟩ ∧ w.cell? ⟨g, i, none⟩ = some (.map (some b)) ∧ FarAt w b N F ∧ ∀ x, x < N → (F x).isSome = R i x
theorem ReachAt.below {w w' : World} {ao : Option Addr} {N : Nat} {R : Nat → Nat → Bool} (h : ReachAt w ao N R) (hb : Below w.heap.size w w') : ReachAt w' ao N R := fun i hi => by
  obtain ⟨g, b, F, h1, h2, h3, h4⟩ := h i hi
  exact ⟨g, b, F, h1, (hb.cell (by exact World.block_lt_of_cell? w _ h2)).trans h2, h3.block (hb.block b h3.lt), h4⟩
theorem FarAt.seen {w : World} {b N : Nat} {F : Nat → Option Nat} (h : FarAt w b N F) (hN : N ≤ 1000000) {k : Nat} (hk : k < N) :
    ∃ v, (Instr.lookup 94 (.map (some b)) (.int .i64 (k : Int)) true).run Try.prog w = .ok (.tuple #[v, .bool (F k).isSome]) w := by
  obtain ⟨D, h1, h2, h3⟩ := h
  obtain ⟨x, ps, hrun, hx⟩ := h1.look_ok Try.lawI Try.underlying94 (Try.zero3 w) (plainElem_int Try.underlying3 (a := 0) (I64.wf ⟨by omega, by omega⟩)) (hkeyI (natI hN hk))
  rw [h2 k (natI hN hk)] at hrun
  exact ⟨x, by simpa [hk] using hrun⟩

set_option maxHeartbeats 400000 in
theorem leads_call {w : World} {ao : Option Addr} {N cap : Nat} {R : Nat → Nat → Bool} (h : ReachAt w ao N R) (hN : N ≤ 1000) {a b : Nat} (ha : a < N) (hb : b < N) :
    Calls Try.prog 72 #[.slice ao N cap, .int .i64 (a : Int), .int .i64 (b : Int)] w fun e w' => e = .returned (.bool (R a b)) ∧ Below w.heap.size w w' := by
  obtain ⟨g, bm, F, rfl, c1, hF, hR⟩ := h a ha
  obtain ⟨v, hl⟩ := hF.seen (by omega) hb
  rw [hR b hb] at hl
  have i1 : (0 : Int) ≤ (a : Int) := by omega
  have i2 : (a : Int) < (N : Int) := by omega
  clear hF hR h
  go_enter Try.func72, Try.ntmps72
  go_wp2
  go_ret
  exact ⟨rfl, Below.refl _ _⟩

theorem Try.info94 : (Try.prog.info? 94).map (fun i => (i.zero, i.size, i.bytes)) = some (some (.map none), 1, 8) := by kernel_rfl

/-- What reached has found: from each node the nodes to which a way leads. -/
theorem bfs_has {N : Nat} {e : Nat → Nat → Bool} {v : Nat} {Q : List Nat} {d : Nat → Nat} (h : Bfs N e (fun _ => true) v Q d Q.length) {R : Nat → Nat → Bool} (hR : ∀ v x, R v x = true ↔ Star (St N e allB) v x) (x : Nat) : (farF Q d x).isSome = R v x := by
  rw [Bool.eq_iff_iff, hR]
  have : Star (St N e allB) v x ↔ x ∈ Q := (h.reach x).symm
  rw [this]
  unfold farF
  by_cases hx : x ∈ Q <;> simp [hx]

set_option maxHeartbeats 1000000 in
theorem reached_call {w : World} {ao : Option Addr} {N cap : Nat} {bl : Nat → Nat} {e : Nat → Nat → Bool} (hnear : NearsAt w ao N bl e) (hN : N ≤ 1000) {R : Nat → Nat → Bool} (hR : ∀ v x, R v x = true ↔ Star (St N e allB) v x) :
    Calls Try.prog 51 #[.slice ao N cap] w fun r w' => ∃ ro, r = .returned (.slice ro N N) ∧ ReachAt w' ro N R ∧ Below w.heap.size w w' := by
  obtain ⟨i94, hi, hz0, hz1, hz2⟩ := info_parts Try.info94
  have HN : Hid _ := hnear
  have HR : Hid _ := hR
  have hbl : ∀ i, i < N → bl i < w.heap.size := fun i hi => (hnear.sets i hi).lt
  clear hnear hR
  go_enter Try.func51, Try.ntmps51
  go_wp2_with (first | (at_make; refine wpList_make_full _ rfl _ _ 87 rfl w.heap.size 94 i94 (.map none) 1 Try.underlying87 hi hz0 hz1 .i64 .i64 _ _ N rfl rfl rfl rfl ?_ ?_ ?_ ?_; (rw [hz2]; omega); (unfold maxLen; omega); (omega); intro W1 hmade hg1) | go_in)
  have hrow0 := rowV_made rfl hmade
  have hB1 : Below w.heap.size w W1 := (Below.refl _ _).grown hg1 (Nat.le_refl _) (fun k hk => by cases hk)
  clear hmade hg1
  go_loopw [10] (fun i wr => ∃ (k : Nat) (bs : Nat → Nat), k ≤ N ∧ i = .int .i64 (k : Int) ∧ RowV wr w.heap.size 94 N (fun j => if j < k then .map (some (bs j)) else .map none) ∧ (∀ j, j < k → w.heap.size < bs j ∧ ∃ F, FarAt wr (bs j) N F ∧ ∀ x, x < N → (F x).isSome = R j x) ∧ Below w.heap.size w wr) (fun i _ => N - (numOf i).toNat)
  case atStart => exact ⟨0, fun _ => 0, Nat.zero_le _, rfl, hrow0.congr (fun j _ => by simp), fun j h => absurd h (by omega), hB1⟩
  case round =>
    obtain ⟨k, bs, hk, rfl, hrow, hfar, hB⟩ := hrel
    clear hrow0 hB1
    have hrl := hrow.lt
    by_cases hkN : k < N
    · have i1 : (0 : Int) ≤ (k : Int) := by omega
      have i2 : (k : Int) < (N : Int) := by omega
      have hnr := NearsAt.below HN.out hB
      have HF : Hid _ := hfar
      clear hfar
      go_wp2_with (first
        | (go_at_call 38; refine (all_call N _ (by omega)).mono ?_; rintro r wa ⟨bL, rfl, hbL, hS, hbA⟩; have hra := hrow.below hbA)
        | (go_at_call 57; refine (take_call (hnr.below hbA) hS (fun i hi => by have := hbl i hi; omega) hN hkN).mono ?_; rintro r wb ⟨bm, Q, d, rfl, hbfs, hfm, hSl, hbm, hTb⟩; have hrb := hra.turns hTb (by omega); have cb := hrb.cell hkN; have fb := hrb.free k)
        | go_in)
      go_roundw
      case rel =>
        have hsA := hbA.size
        refine ⟨k + 1, fun j => if j = k then bm else bs j, by omega, by go_num, (hrb.set k (.map (some bm))).congr (fun j _ => ?_), fun j hj => ?_, (hTb.below (below_self hB hbA hB.size) (below_self hB hbA hB.size).size (fun q hq => by omega)).setCell (Nat.le_refl _) _⟩
        · by_cases e1 : j = k
          · subst e1; simp
          · rw [if_neg e1]
            by_cases h2 : j < k
            · rw [if_pos h2, if_pos (by omega)]; simp [e1]
            · rw [if_neg h2, if_neg (by omega)]
        · by_cases e1 : j = k
          · subst e1
            simp only [if_true]
            exact ⟨by omega, _, hfm.turns (setCell_turns _ _ _ _) (by omega), fun x _ => bfs_has hbfs HR.out x⟩
          · simp only [if_neg e1]
            obtain ⟨h1, F, h2, h3⟩ := HF.out j (by omega)
            have := h2.lt
            exact ⟨h1, F, ((h2.block (hbA.block _ h2.lt)).turns hTb (by omega)).turns (setCell_turns _ _ _ _) (by omega), h3⟩
      case measure => simp [numOf]; omega
    · have hkE : k = N := by omega
      subst hkE
      go_wp2
      go_ret
      refine ⟨_, rfl, fun i hi => ?_, hB⟩
      obtain ⟨_, F, h1, h2⟩ := hfar i hi
      exact ⟨_, bs i, F, rfl, by have := hrow.cell hi; simpa [hi] using this, h1, h2⟩
end Go.Proofs.Ytgepibidhebbiab
