/- Costs without a fault, as a table. -/
import Derived.Test.YtmbnaegcichoeaaCost
namespace Go.Proofs.Ytmbnaegcichoeaa
open Go.RowKit Go.Maps

def cellL (ls : List (List Int)) (i j : Nat) : Int := (ls.getD i []).getD j 0
theorem cellL_at {ls : List (List Int)} {i j : Nat} (hi : i < ls.length) (hj : j < (ls[i]).length) : cellL ls i j = (ls[i])[j] := by
  unfold cellL
  rw [getD_lt hi, getD_lt hj]
theorem rows_grid {w : World} {v : Value} {ls : List (List Int)} (h : RowsAt w v ls) (hl : ∀ l ∈ ls, l.length = ls.length) : GridI w w.heap.size v ls.length (cellL ls) := by
  obtain ⟨ao, cap, rfl, _, _, hr⟩ := h
  refine ⟨ao, cap, rfl, fun i hi => ?_⟩
  obtain ⟨b, off, x, e, cx, hx⟩ := hr i hi
  obtain ⟨lo, lc, rfl, _, _, hc⟩ := hx
  have hlen := hl ls[i] (List.getElem_mem hi)
  refine ⟨b, off, lo, lc, e, World.block_lt_of_cell? w _ cx, by rw [cx, hlen], fun j hj => ?_⟩
  have hj' : j < (ls[i]).length := by omega
  obtain ⟨b', off', e', c'⟩ := hc j hj'
  exact ⟨b', off', e', World.block_lt_of_cell? w _ c', by rw [c', cellL_at hi hj']⟩
theorem cellL_bnd {ls : List (List Int)} (h : (costF ls).1 = 0) : ∀ i j, i < ls.length → j < ls.length → -1000000 ≤ cellL ls i j ∧ cellL ls i j ≤ 1000000 := fun i j hi hj => by
  obtain ⟨_, _, h3⟩ := costF_good h
  obtain ⟨h4, h5⟩ := h3 ls[i] (List.getElem_mem hi)
  have hj' : j < (ls[i]).length := by omega
  rw [cellL_at hi hj']
  exact h5 _ (List.getElem_mem hj')
end Go.Proofs.Ytmbnaegcichoeaa
