/- The document's Has, and parts of the proof for its Check. -/
import Derived.Test.YtbaghbodjpehpabDoorSees
namespace Go.Proofs.YtbaghbodjpehpabDoor
open Go.RowKit Go.Maps
attribute [local go_sem ↓] Go.wp_at_zero Go.wp_at_succ

theorem ret_bool {a b : Bool} (h : a = b) : Ending.returned (.bool a) = .returned (.bool b) := by rw [h]

structure HI (w wr : World) (n0 : Int) (ao : Option Addr) (len cap : Nat) : Prop where
  b0 : wr.heap[w.heap.size]? = some (.cells #[.int .i64 n0, .slice ao len cap] 24 (0, 0))
  below : Below w.heap.size w wr

theorem HI.step {w wr wr' : World} {n0 : Int} {ao : Option Addr} {len cap : Nat} (h : HI w wr n0 ao len cap) (hb : Below wr.heap.size wr wr') : HI w wr' n0 ao len cap :=
  ⟨(hb.block _ (lt_of_block h.b0)).trans h.b0, below_next h.below hb⟩

theorem has_take {es : List Pair} {k : Nat} {x y u v : Int} (hk : k < es.length) (hxy : es[k] = (x, y)) : hasB (es.take (k + 1)) u v = (hasB (es.take k) u v || ((x == u && y == v) || (x == v && y == u))) := by
  rw [List.take_succ_eq_append_getElem hk, hxy, hasB_snoc]

theorem has_of_take {es : List Pair} {k : Nat} {x y u v : Int} (hk : k < es.length) (hxy : es[k] = (x, y)) (h : ((x == u && y == v) || (x == v && y == u)) = true) : hasB es u v = true := by
  unfold hasB
  rw [List.any_eq_true]
  exact ⟨es[k], List.getElem_mem _, by rw [hxy]; exact h⟩

/-- The edges of a part of a list. -/
theorem EdgesAt.take {w : World} {ao : Option Addr} {n cap : Nat} {es : List Pair} (h : EdgesAt w (.slice ao n cap) es) (k : Nat) (hk : k ≤ es.length) (c : Nat) : EdgesAt w (.slice ao k c) (es.take k) := by
  obtain ⟨ao', cap', e, h2, h3, h4⟩ := h
  cases e
  have hl : (es.take k).length = k := by simp; omega
  refine ⟨ao, c, by rw [hl], by omega, fun e he => h3 e (List.mem_of_mem_take he), fun j hj => ?_⟩
  obtain ⟨b, off, e, c0, c1⟩ := h4 j (by omega)
  exact ⟨b, off, e, by simpa using c0, by simpa using c1⟩

structure RC (w wr : World) (n : Int) (ao : Option Addr) (cap : Nat) (es : List Pair) (k : Nat) : Prop where
  b0 : wr.heap[w.heap.size]? = some (.cells #[.int .i64 n, .slice ao es.length cap] 24 (0, 0))
  b1 : wr.heap[w.heap.size + 1]? = some (.cells #[.int .i64 0, .int .i64 0] 27 (0, 0))
  below : Below w.heap.size w wr
  hc : chkFrom n [] es = chkFrom n (es.take k) (es.drop k)

theorem RC.step {w wr wr' : World} {n : Int} {ao : Option Addr} {cap : Nat} {es : List Pair} {k : Nat} (h : RC w wr n ao cap es k) (hb : Below wr.heap.size wr wr') : RC w wr' n ao cap es k :=
  ⟨(hb.block _ (lt_of_block h.b0)).trans h.b0, (hb.block _ (lt_of_block h.b1)).trans h.b1, below_next h.below hb, h.hc⟩
theorem RC.next {w wr : World} {n : Int} {ao : Option Addr} {cap : Nat} {es : List Pair} {k : Nat} (h : RC w wr n ao cap es k) {x y : Int} (hk : k < es.length) (hxy : es[k] = (x, y)) (hb : bad n (es.take k) (x, y) = 0) : RC w wr n ao cap es (k + 1) :=
  ⟨h.b0, h.b1, h.below, by rw [h.hc, chk_step hk, hxy, if_pos hb]⟩
theorem RC.fault {w wr : World} {n : Int} {ao : Option Addr} {cap : Nat} {es : List Pair} {k : Nat} (h : RC w wr n ao cap es k) {x y : Int} (hk : k < es.length) (hxy : es[k] = (x, y)) {c : Int} (hc : c ≠ 0) (hb : bad n (es.take k) (x, y) = c) : chkFrom n [] es = (c, (k : Int)) := by
  rw [h.hc, chk_step hk, hxy, hb, if_neg hc]

theorem rc_keep {w wr : World} {n : Int} {ao : Option Addr} {cap : Nat} {es : List Pair} {k : Nat} (h : RC w wr n ao cap es k) {x y : Int} {w' : World} (hb : Below (wr.alloc (.cells #[.int .i64 x, .int .i64 y] 34)).heap.size (wr.alloc (.cells #[.int .i64 x, .int .i64 y] 34)) w') :
    Below (wr.alloc (.cells #[.int .i64 x, .int .i64 y] 34)).heap.size (wr.alloc (.cells #[.int .i64 x, .int .i64 y] 34)) w' ∧ w'.cell? ⟨w.heap.size, 1, none⟩ = some (.slice ao es.length cap) ∧ w'.cell? ⟨wr.heap.size, 0, none⟩ = some (.int .i64 x) ∧ w'.cell? ⟨wr.heap.size, 1, none⟩ = some (.int .i64 y) := by
  have hl := lt_of_block h.b0
  refine ⟨hb, ?_, ?_, ?_⟩
  · rw [hb.cell (by simp; omega)]; exact all_alloc (cell_two h.b0).2 _
  · rw [hb.cell (by simp)]; exact (cell_two (heap_alloc_new wr _)).1
  · rw [hb.cell (by simp)]; exact (cell_two (heap_alloc_new wr _)).2

theorem ret_fault {p : Int × Int} {c d : Int} (h : p = (c, d)) : Ending.returned (.agg #[.int .i64 c, .int .i64 d]) = .returned (.agg #[.int .i64 p.1, .int .i64 p.2]) := by rw [h]

end Go.Proofs.YtbaghbodjpehpabDoor
