/- The document's graph with every edge: full. -/
import Derived.Test.YtekokjechbibdaaDoorNotW
namespace Go.Proofs.YtekokjechbibdaaDoor
set_option maxRecDepth 8000
open Go.RowKit Go.Maps
attribute [local go_sem ↓] Go.wp_at_zero Go.wp_at_succ
theorem EdgesAt.box {w w' : World} {v : Value} {es : List Pair} {B : Nat} {x : Value} {n c : Nat} {ao : Option Addr} (h : EdgesAt w v es) (hb : w.heap[B]? = some (Obj.cells #[x, .slice ao n c] 24)) (hc : ∀ a : Addr, a.block ≠ B → w'.cell? a = w.cell? a) : EdgesAt w' v es := by
  obtain ⟨ao, cap, h1, h2, h3, h4⟩ := h
  refine ⟨ao, cap, h1, h2, h3, fun k hk => ?_⟩
  obtain ⟨b, off, e, c0, c1⟩ := h4 k hk
  have hne : b ≠ B := by
    intro e
    subst e
    match hq : off + k * 2 with
    | 0 => rw [hq, (cell_two hb).2] at c1; cases c1
    | 1 => rw [hq, (cell_two hb).2] at c0; cases c0
    | q + 2 =>
      rw [hq, cell_of_row w b _ _ _ _ hb] at c0
      simp at c0
  exact ⟨b, off, e, by rw [hc _ hne]; exact c0, by rw [hc _ hne]; exact c1⟩
/-- Each node but itself. -/
def fullP (m : Nat) : List Pair := allP m (notB (hasB []))
theorem full_call (m : Nat) (w : World) (hm : m ≤ 100) :
    Calls Tryd.prog 21 #[.int .i64 m] w fun e w' => Below w.heap.size w w' ∧ ∃ ao' c, e = .returned (.agg #[.int .i64 m, .slice ao' (fullP m).length c]) ∧ EdgesAt w' (.slice ao' (fullP m).length c) (fullP m) := by
  have H11 : Hid (∀ W : World, Calls Tryd.prog 11 #[.agg #[.int .i64 m, .slice none 0 0]] W fun e w' => Below W.heap.size W w' ∧ ∃ ao cap, e = .returned (.slice ao m cap) ∧ GridAt w' (.slice ao m cap) m (hasB [])) := fun W =>
    gridOf_any m (.slice none 0 0) [] W ⟨none, 0, rfl, Nat.zero_le _, (fun e h => absurd h List.not_mem_nil), fun k h => absurd h (Nat.not_lt_zero _)⟩ hm (Nat.zero_le _) (fun e h => absurd h List.not_mem_nil)
  have HB0 : Hid (Below w.heap.size w (w.alloc (Obj.cells #[.int .i64 0, .slice none 0 0] 24))) := below_alloc (Below.refl w.heap.size w) _
  have hnew := heap_alloc_new w (Obj.cells #[.int .i64 0, .slice none 0 0] 24)
  have hsz : (w.alloc (Obj.cells #[.int .i64 0, .slice none 0 0] 24)).heap.size = w.heap.size + 1 := by simp
  go_enter Tryd.func21, Tryd.ntmps21
  go_upto_region 1 with (fail)
  generalize w.alloc (Obj.cells #[.int .i64 0, .slice none 0 0] 24) = W0 at *
  go_upto_region 2 with (first | (go_at_call 11; refine Calls.mono (H11.out _) ?_; rintro e w1 ⟨b1, ao1, c1, rfl, g1⟩) | (go_at_call 37; refine Calls.mono (not_any m _ _ _ _ g1 hm) ?_; rintro e w2 ⟨b2, ao2, c2, rfl, g2⟩) | (go_at_call 36; refine Calls.mono (ofGrid_any m _ _ _ _ g2 hm) ?_; rintro e w3 ⟨b3, ao3, c3, rfl, g3⟩; have B3 : Below W0.heap.size W0 w3 := below_next (below_next b1 b2) b3; have hb3 := (B3.block w.heap.size (by omega)).trans hnew; obtain ⟨k0, k1⟩ := cell_two hb3; have k2 := box_free hb3 0; have k3 := box_free hb3 1) | fail)
  have hs := box_set (box_set hb3 0 (.int .i64 m)) 1 (.slice ao3 (allP m (notB (hasB []))).length c3)
  have hE := EdgesAt.box (w' := (w3.setCell ⟨w.heap.size, 0, none⟩ (.int .i64 m)).setCell ⟨w.heap.size, 1, none⟩ (.slice ao3 (allP m (notB (hasB []))).length c3)) g3 hb3 (fun a ha => by rw [World.cell?_setCell_far _ _ _ _ (fun e => ha e.symm), World.cell?_setCell_far _ _ _ _ (fun e => ha e.symm)])
  have hBB : Below w.heap.size w ((w3.setCell ⟨w.heap.size, 0, none⟩ (.int .i64 m)).setCell ⟨w.heap.size, 1, none⟩ (.slice ao3 (allP m (notB (hasB []))).length c3)) := ((below_next HB0.out B3).setCell (Nat.le_refl _) _).setCell (Nat.le_refl _) _
  obtain ⟨q0, q1⟩ := cell_two (by simpa using hs)
  generalize (w3.setCell ⟨w.heap.size, 0, none⟩ (.int .i64 m)).setCell ⟨w.heap.size, 1, none⟩ (.slice ao3 (allP m (notB (hasB []))).length c3) = W9 at *
  clear k0 k1 k2 k3 hb3 hnew hs
  refine bodyPost_ret (v := .agg #[.int .i64 m, .slice ao3 (allP m (notB (hasB []))).length c3]) ?_ rfl ⟨hBB, ao3, c3, rfl, hE⟩
  simp [results, Tryd.results21, go_sem, q0, q1]
end Go.Proofs.YtekokjechbibdaaDoor
