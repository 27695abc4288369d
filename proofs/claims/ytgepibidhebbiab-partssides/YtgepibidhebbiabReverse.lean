/- slices.Reverse of a row of numbers. -/
import Derived.Test.YtgepibidhebbiabNearer
namespace Go.Proofs.Ytgepibidhebbiab
open Go.RowKit Go.Maps
attribute [local go_sem ↓] Go.wp_at_zero Go.wp_at_succ

/-- The first n cells of block g are the numbers f tells. -/
def RowN (w : World) (g n : Nat) (f : Nat → Nat) : Prop := ∃ cur, w.heap[g]? = some (.cells cur 3 (0, 0)) ∧ n ≤ cur.size ∧ ∀ j, j < n → cur[j]? = some (.int .i64 (f j : Nat))
theorem RowN.block {w w' : World} {g n : Nat} {f : Nat → Nat} (h : RowN w g n f) (hb : w'.heap[g]? = w.heap[g]?) : RowN w' g n f := by
  obtain ⟨cur, h1, h2⟩ := h
  exact ⟨cur, hb.trans h1, h2⟩
theorem RowN.lt {w : World} {g n : Nat} {f : Nat → Nat} (h : RowN w g n f) : g < w.heap.size := by
  obtain ⟨cur, h1, _⟩ := h; exact lt_of_block h1
theorem RowN.cell {w : World} {g n : Nat} {f : Nat → Nat} (h : RowN w g n f) {j : Nat} (hj : j < n) : w.cell? ⟨g, j, none⟩ = some (.int .i64 (f j : Nat)) := by
  obtain ⟨cur, h1, _, h3⟩ := h
  rw [cell_of_row w g j cur 3 (0, 0) h1]
  exact h3 j hj
theorem RowN.free {w : World} {g n : Nat} {f : Nat → Nat} (h : RowN w g n f) (j : Nat) : w.frozen? ⟨g, j, none⟩ = false := by
  obtain ⟨cur, h1, _⟩ := h
  simp [World.frozen?, h1]
theorem RowN.set {w : World} {g n : Nat} {f : Nat → Nat} (h : RowN w g n f) (y x : Nat) : RowN (w.setCell ⟨g, y, none⟩ (.int .i64 (x : Int))) g n (fun j => if j = y then x else f j) := by
  obtain ⟨cur, h1, h2, h3⟩ := h
  refine ⟨cur.setIfInBounds y (.int .i64 (x : Int)), ?_, by simp [h2], fun j hj => ?_⟩
  · have hl := lt_of_block h1
    simp [World.setCell, Array.getElem?_modify, h1]
  · by_cases e : j = y
    · subst e
      rw [Array.getElem?_setIfInBounds_self_of_lt (by omega)]
      simp
    · rw [Array.getElem?_setIfInBounds_ne (by omega), h3 j hj]
      simp [e]
theorem RowN.congr {w : World} {g n : Nat} {f f' : Nat → Nat} (h : RowN w g n f) (he : ∀ j, j < n → f j = f' j) : RowN w g n f' := by
  obtain ⟨cur, h1, h2, h3⟩ := h
  exact ⟨cur, h1, h2, fun j hj => by rw [h3 j hj, he j hj]⟩
theorem rowN_own {w : World} {base g cap : Nat} {l : List Nat} (h : w.ownsRow base 3 1 (.slice (some ⟨g, 0, none⟩) l.length cap) l.length (qv l)) : RowN w g l.length (fun j => l.getD j 0) := by
  rcases h.2 with ⟨h1, _⟩ | ⟨g', cap', cur, h1, _, h2, h3, _, h4, h5⟩
  · cases h1
  · cases h1
    refine ⟨cur, h2, by omega, fun j hj => ?_⟩
    have : (cur.toList.take (l.length * 1))[j]? = some (.int .i64 (l.getD j 0 : Nat)) := by
      rw [h5]
      simp [qv, hj]
    rw [List.getElem?_take_of_lt (by omega)] at this
    simpa using this

def revF (f : Nat → Nat) (n i x : Nat) : Nat := if x < i ∨ n - 1 - x < i then f (n - 1 - x) else f x
theorem revF_swap {f : Nat → Nat} {n i : Nat} (h : i < n - 1 - i) {x : Nat} (hx : x < n) : revF f n (i + 1) x = if x = n - 1 - i then revF f n i i else if x = i then revF f n i (n - 1 - i) else revF f n i x := by
  unfold revF
  by_cases c1 : x = n - 1 - i
  · subst c1
    have e1 : n - 1 - (n - 1 - i) = i := by omega
    rw [if_pos rfl, if_pos (by omega), if_neg (by omega), e1]
  · rw [if_neg c1]
    by_cases c2 : x = i
    · subst c2
      rw [if_pos rfl, if_pos (by omega), if_neg (by omega)]
    · rw [if_neg c2]
      by_cases c3 : x < i ∨ n - 1 - x < i
      · rw [if_pos (by omega), if_pos c3]
      · rw [if_neg (by omega), if_neg c3]

set_option maxHeartbeats 2000000 in
theorem reverse_call {w : World} {g n cap : Nat} {f : Nat → Nat} (h : RowN w g n f) (hn : n ≤ 1000) :
    Calls Try.prog 64 #[.slice (some ⟨g, 0, none⟩) n cap] w fun r w' => r = .returned (.tuple #[]) ∧ RowN w' g n (fun x => f (n - 1 - x)) ∧ Turns (fun k => k = g) w w' := by
  go_enter Try.func64, Try.ntmps64
  go_wp2
  go_loopw [2, 3] (fun a b wr => ∃ i : Nat, i ≤ n ∧ a = .int .i64 (i : Int) ∧ b = .int .i64 ((n : Int) - 1 - i) ∧ (i : Int) ≤ (n : Int) - 1 - i + 2 ∧ RowN wr g n (revF f n i) ∧ Turns (fun k => k = g) w wr) (fun a _ _ => n - (numOf a).toNat)
  case atStart => exact ⟨0, Nat.zero_le _, rfl, by simp, by omega, h.congr (fun j _ => by simp [revF]), Turns.refl _ _⟩
  case round =>
    obtain ⟨i, hi, rfl, rfl, hi2, hrow, ht⟩ := hrel
    clear h
    by_cases hlt : (i : Int) < (n : Int) - 1 - i
    · obtain ⟨j, hj⟩ : ∃ j : Nat, (n : Int) - 1 - i = (j : Int) := ⟨n - 1 - i, by omega⟩
      have hj' : j = n - 1 - i := by omega
      have hjn : j < n := by omega
      have hin : i < n := by omega
      have hij : i ≠ j := by omega
      rw [hj] at hlt ⊢
      have ci := hrow.cell hin
      have cj := hrow.cell hjn
      have fi := hrow.free i
      have fj := hrow.free j
      have i1 : (0 : Int) ≤ (i : Int) := by omega
      have i2 : (i : Int) < (n : Int) := by omega
      have j1 : (0 : Int) ≤ (j : Int) := by omega
      have j2 : (j : Int) < (n : Int) := by omega
      have HR : Hid _ := hrow
      have HJ : Hid _ := hj
      have HJ' : Hid _ := hj'
      clear hrow hj hj'
      go_upto_region 3 with (fail)
      go_region
      all_goals
        go_wp2
        go_roundw
        case rel =>
          refine ⟨i + 1, by omega, by go_num, ?_, ?_, ?_, ?_⟩
          · have := HJ.out; simp; omega
          · have := HJ.out; omega
          · first
              | (refine RowN.block (w := (wr.setCell ⟨g, i, none⟩ (.int .i64 (revF f n i j : Nat))).setCell ⟨g, j, none⟩ (.int .i64 (revF f n i i : Nat))) (((RowN.set HR.out i _).set j _).congr (fun x hx => ?_)) rfl
                 rw [revF_swap (by have := HJ'.out; omega) hx, ← HJ'.out])
              | (refine RowN.block (w := (wr.setCell ⟨g, j, none⟩ (.int .i64 (revF f n i i : Nat))).setCell ⟨g, i, none⟩ (.int .i64 (revF f n i j : Nat))) (((RowN.set HR.out j _).set i _).congr (fun x hx => ?_)) rfl
                 rw [revF_swap (by have := HJ'.out; omega) hx, ← HJ'.out]
                 by_cases c1 : x = i
                 · subst c1; simp [hij]
                 · simp [c1])
          · exact (ht.trans ((setCell_turns _ _ _ _).trans (setCell_turns _ _ _ _))).trans (Turns.of_below (Below.refl _ _).drew _)
        case measure => simp [numOf]; omega
    · go_wp2
      go_end0
      refine ⟨rfl, hrow.congr (fun x hx => ?_), ht⟩
      unfold revF
      by_cases c : x < i ∨ n - 1 - x < i
      · rw [if_pos c]
      · rw [if_neg c]
        have : n - 1 - x = x := by omega
        rw [this]
end Go.Proofs.Ytgepibidhebbiab
