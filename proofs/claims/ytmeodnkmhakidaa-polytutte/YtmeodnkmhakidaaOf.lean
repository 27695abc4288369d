/- The document's graph of a table. -/
import Derived.Test.YtmeodnkmhakidaaGrid
namespace Go.Proofs.Ytmeodnkmhakidaa
open Go.RowKit Go.Maps

theorem rowTo_le (p : Int → Int → Bool) (u v : Nat) : (rowTo p u v).length ≤ v := by
  unfold rowTo
  rw [List.length_map]
  exact Nat.le_trans (List.length_filter_le _ _) (by simp)
theorem rowsTo_le (n : Nat) (p : Int → Int → Bool) : ∀ u, (rowsTo n p u).length ≤ u * n
  | 0 => by simp [rowsTo]
  | u + 1 => by
    rw [rowsTo_succ, List.length_append, Nat.succ_mul]
    have := rowsTo_le n p u
    have := rowTo_le p u n
    omega

structure OI (w wr : World) (m : Nat) (v : Value) (L : List Pair) : Prop where
  b0 : wr.heap[w.heap.size]? = some (.cells #[.int .i64 0, .slice none 0 0] 24 (0, 0))
  b1 : wr.heap[w.heap.size + 1]? = some (.cells #[.int .i64 m, v] 24 (0, 0))
  own : wr.ownsRow (w.heap.size + 2) 38 2 v L.length (flat L)
  below : Below w.heap.size w wr

theorem OI.push {w wr w1 : World} {m : Nat} {v v' : Value} {L : List Pair} {x y : Int} (h : OI w wr m v L) (hown : w1.ownsRow (w.heap.size + 2) 38 2 v' (L.length + 1) (flat L ++ [.int .i64 x, .int .i64 y])) (hg : (wr.alloc (Obj.cells #[.int .i64 x, .int .i64 y] 38)).grownBy w1 v.ownBlock) :
    w1.heap[w.heap.size + 1]? = some (.cells #[.int .i64 m, v] 24 (0, 0)) ∧ OI w (w1.setCell ⟨w.heap.size + 1, 1, none⟩ v') m v' (L ++ [(x, y)]) := by
  have hn : ∀ k, v.ownBlock = some k → w.heap.size + 2 ≤ k := fun k hk => (h.own.lt k hk).1
  have l0 := lt_of_block h.b0
  have l1 := lt_of_block h.b1
  have q : ∀ j, j < w.heap.size + 2 → w1.heap[j]? = wr.heap[j]? := fun j hj => by
    rw [hg.block j (by simp; omega) (fun e => by have := hn j e.symm; omega), Below.heap_alloc _ _ _ (by omega)]
  have hb1 := (q (w.heap.size + 1) (by omega)).trans h.b1
  refine ⟨hb1, ?_, ?_, ?_, ?_⟩
  · rw [Below.heap_setCell _ _ _ _ (by simp), q _ (by omega)]; exact h.b0
  · simp [World.setCell, Array.getElem?_modify, hb1]
  · have := ownsRow_setCell_below (a := ⟨w.heap.size + 1, 1, none⟩) hown (by simp) v'
    rw [flat_snoc]; simpa using this
  · exact ((h.below.alloc h.below.size _).grown hg (by simp; omega) (fun k hk => by have := hn k hk; omega)).setCell (by simp) _

end Go.Proofs.Ytmeodnkmhakidaa
