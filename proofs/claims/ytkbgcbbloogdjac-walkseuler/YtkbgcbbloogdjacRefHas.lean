/- The document's Has, and parts of the proof for its Check. -/
import Derived.Test.YtkbgcbbloogdjacSees
namespace Go.Proofs.Ytkbgcbbloogdjac
open Go.RowKit Go.Maps
attribute [local go_sem ↓] Go.wp_at_zero Go.wp_at_succ

theorem ret_bool {a b : Bool} (h : a = b) : Ending.returned (.bool a) = .returned (.bool b) := by rw [h]

set_option maxHeartbeats 400000 in
theorem refF_any (a b : Int) (w : World) : Calls Try.prog 13 #[.int .i64 a, .int .i64 b] w fun e w' => e = .returned (.agg #[.int .i64 a, .int .i64 b]) ∧ Below w.heap.size w w' := by
  go_enter Try.func13, Try.ntmps13
  go_wp2
  refine bodyPost_ret (v := .agg #[.int .i64 a, .int .i64 b]) ?_ rfl ⟨rfl, below_alloc (Below.refl _ _) _⟩
  simp [results, Try.results13, go_sem]

structure HI (w wr : World) (n0 : Int) (ao : Option Addr) (len cap : Nat) : Prop where
  b0 : wr.heap[w.heap.size]? = some (.cells #[.int .i64 n0, .slice ao len cap] 24 (0, 0))
  below : Below w.heap.size w wr

theorem HI.step {w wr wr' : World} {n0 : Int} {ao : Option Addr} {len cap : Nat} (h : HI w wr n0 ao len cap) (hb : Below wr.heap.size wr wr') : HI w wr' n0 ao len cap :=
  ⟨(hb.block _ (lt_of_block h.b0)).trans h.b0, below_next h.below hb⟩

theorem has_take {es : List Pair} {k : Nat} {x y u v : Int} (hk : k < es.length) (hxy : es[k] = (x, y)) : hasB (es.take (k + 1)) u v = (hasB (es.take k) u v || ((x == u && y == v) || (x == v && y == u))) := by
  rw [List.take_succ_eq_append_getElem hk, hxy, hasB_snoc]

theorem has_of_take {es : List Pair} {k : Nat} {x y u v : Int} (hk : k < es.length) (hxy : es[k] = (x, y)) (h : ((x == u && y == v) || (x == v && y == u)) = true) : hasB es u v = true := by
  unfold hasB
  rw [List.any_eq_true]
  exact ⟨es[k], List.getElem_mem _, by rw [hxy]; exact h⟩

set_option maxHeartbeats 1000000 in
theorem refHas_any (n0 : Int) (v : Value) (es : List Pair) (a b : Int) (w : World) (hE : EdgesAt w v es) :
    Calls Try.prog 34 #[.agg #[.int .i64 n0, v], .int .i64 a, .int .i64 b] w fun e w' => e = .returned (.bool (hasB es a b)) ∧ Below w.heap.size w w' := by
  obtain ⟨ao, cap, rfl, hl2, hI, hcells⟩ := hE
  clear hI
  go_enter Try.func34, Try.ntmps34
  go_wp2
  go_loopw [7] (fun i wr => ∃ k : Nat, k ≤ es.length ∧ i = .int .i64 k ∧ HI w wr n0 ao es.length cap ∧ hasB (es.take k) a b = false) (fun i _ => es.length - (intOf i).toNat)
  case atStart => exact ⟨0, Nat.zero_le _, rfl, ⟨heap_alloc_new _ _, below_alloc (Below.refl _ _) _⟩, by simp [hasB]⟩
  case round =>
    obtain ⟨k, hk, rfl, hhi, hno⟩ := hrel
    have c1 := (cell_two hhi.b0).2
    by_cases hlt : k < es.length
    · obtain ⟨bb, off, rfl, cx, cy⟩ := hcells k hlt
      obtain ⟨x, y, hxy⟩ : ∃ x y, es[k] = (x, y) := ⟨es[k].1, es[k].2, rfl⟩
      rw [hxy] at cx cy
      have hb := World.block_lt_of_cell? w _ cx
      rw [← hhi.below.cell (by exact hb)] at cx cy
      have HXY : Hid _ := hxy
      have HNO : Hid _ := hno
      clear hxy hcells hno
      by_cases hyes : ((x == a && y == b) || (x == b && y == a)) = true
      · have hr : hasB es a b = true := has_of_take hlt HXY.out hyes
        have HR : Hid _ := hr
        clear hr
        by_cases e1 : (x == a) = true
        · by_cases e2 : (y == b) = true
          · go_wp2
            go_ret
            exact ⟨ret_bool (Hid.out HR).symm, below_alloc hhi.below _⟩
          · have e2' : (y == b) = false := by simpa using e2
            have e3 : (x == b) = true := by revert hyes; simp [e1, e2']; intro h _; exact h
            have e4 : (y == a) = true := by revert hyes; simp [e1, e2']
            go_wp2
            go_ret
            exact ⟨ret_bool (Hid.out HR).symm, below_alloc hhi.below _⟩
        · have e1' : (x == a) = false := by simpa using e1
          have e3 : (x == b) = true := by revert hyes; simp [e1']; intro h _; exact h
          have e4 : (y == a) = true := by revert hyes; simp [e1']
          go_wp2
          go_ret
          exact ⟨ret_bool (Hid.out HR).symm, below_alloc hhi.below _⟩
      · have hno' : hasB (es.take (k + 1)) a b = false := by rw [has_take hlt HXY.out, HNO.out]; simpa using hyes
        have HNO' : Hid _ := hno'
        clear hno'
        by_cases e1 : (x == a) = true
        · have e2 : (y == b) = false := by revert hyes; simp [e1]; intro h _; exact h
          by_cases e3 : (x == b) = true
          · have e4 : (y == a) = false := by revert hyes; simp [e1, e2, e3]
            go_wp2
            go_roundw
            case rel => exact ⟨k + 1, by omega, by go_num, hhi.step (below_alloc (Below.refl _ _) _), HNO'.out⟩
            case measure => simp [intOf]; omega
          · have e3' : (x == b) = false := by simpa using e3
            go_wp2
            go_roundw
            case rel => exact ⟨k + 1, by omega, by go_num, hhi.step (below_alloc (Below.refl _ _) _), HNO'.out⟩
            case measure => simp [intOf]; omega
        · have e1' : (x == a) = false := by simpa using e1
          by_cases e3 : (x == b) = true
          · have e4 : (y == a) = false := by revert hyes; simp [e1', e3]
            go_wp2
            go_roundw
            case rel => exact ⟨k + 1, by omega, by go_num, hhi.step (below_alloc (Below.refl _ _) _), HNO'.out⟩
            case measure => simp [intOf]; omega
          · have e3' : (x == b) = false := by simpa using e3
            go_wp2
            go_roundw
            case rel => exact ⟨k + 1, by omega, by go_num, hhi.step (below_alloc (Below.refl _ _) _), HNO'.out⟩
            case measure => simp [intOf]; omega
    · have hke : k = es.length := by omega
      subst hke
      rw [List.take_length] at hno
      have HR : Hid _ := hno
      clear hno
      go_wp2
      go_ret
      exact ⟨ret_bool (Hid.out HR).symm, hhi.below⟩

/-- The edges of a part of a list. -/
theorem EdgesAt.take {w : World} {ao : Option Addr} {n cap : Nat} {es : List Pair} (h : EdgesAt w (.slice ao n cap) es) (k : Nat) (hk : k ≤ es.length) (c : Nat) : EdgesAt w (.slice ao k c) (es.take k) := by
  obtain ⟨ao', cap', e, h2, h3, h4⟩ := h
  cases e
  have hl : (es.take k).length = k := by simp; omega
  refine ⟨ao, c, by rw [hl], by omega, fun e he => h3 e (List.mem_of_mem_take he), fun j hj => ?_⟩
  obtain ⟨b, off, e, c0, c1⟩ := h4 j (by omega)
  exact ⟨b, off, e, by simpa using c0, by simpa using c1⟩

structure RC (w wr : World) (n : Int) (ao : Option Addr) (cap : Nat) (es : List Pair) (k : Nat) : Prop where
  b0 : wr.heap[w.heap.size]? = some (.cells #[.int .i64 n, .slice ao es.length cap] 24 (0, 0))
  b1 : wr.heap[w.heap.size + 1]? = some (.cells #[.int .i64 0, .int .i64 0] 27 (0, 0))
  below : Below w.heap.size w wr
  hc : chkFrom n [] es = chkFrom n (es.take k) (es.drop k)

theorem RC.step {w wr wr' : World} {n : Int} {ao : Option Addr} {cap : Nat} {es : List Pair} {k : Nat} (h : RC w wr n ao cap es k) (hb : Below wr.heap.size wr wr') : RC w wr' n ao cap es k :=
  ⟨(hb.block _ (lt_of_block h.b0)).trans h.b0, (hb.block _ (lt_of_block h.b1)).trans h.b1, below_next h.below hb, h.hc⟩
theorem RC.next {w wr : World} {n : Int} {ao : Option Addr} {cap : Nat} {es : List Pair} {k : Nat} (h : RC w wr n ao cap es k) {x y : Int} (hk : k < es.length) (hxy : es[k] = (x, y)) (hb : bad n (es.take k) (x, y) = 0) : RC w wr n ao cap es (k + 1) :=
  ⟨h.b0, h.b1, h.below, by rw [h.hc, chk_step hk, hxy, if_pos hb]⟩
theorem RC.fault {w wr : World} {n : Int} {ao : Option Addr} {cap : Nat} {es : List Pair} {k : Nat} (h : RC w wr n ao cap es k) {x y : Int} (hk : k < es.length) (hxy : es[k] = (x, y)) {c : Int} (hc : c ≠ 0) (hb : bad n (es.take k) (x, y) = c) : chkFrom n [] es = (c, (k : Int)) := by
  rw [h.hc, chk_step hk, hxy, hb, if_neg hc]

theorem rc_keep {w wr : World} {n : Int} {ao : Option Addr} {cap : Nat} {es : List Pair} {k : Nat} (h : RC w wr n ao cap es k) {x y : Int} {w' : World} (hb : Below (wr.alloc (.cells #[.int .i64 x, .int .i64 y] 59)).heap.size (wr.alloc (.cells #[.int .i64 x, .int .i64 y] 59)) w') :
    Below (wr.alloc (.cells #[.int .i64 x, .int .i64 y] 59)).heap.size (wr.alloc (.cells #[.int .i64 x, .int .i64 y] 59)) w' ∧ w'.cell? ⟨w.heap.size, 1, none⟩ = some (.slice ao es.length cap) ∧ w'.cell? ⟨wr.heap.size, 0, none⟩ = some (.int .i64 x) ∧ w'.cell? ⟨wr.heap.size, 1, none⟩ = some (.int .i64 y) := by
  have hl := lt_of_block h.b0
  refine ⟨hb, ?_, ?_, ?_⟩
  · rw [hb.cell (by simp; omega)]; exact all_alloc (cell_two h.b0).2 _
  · rw [hb.cell (by simp)]; exact (cell_two (heap_alloc_new wr _)).1
  · rw [hb.cell (by simp)]; exact (cell_two (heap_alloc_new wr _)).2

theorem ret_fault {p : Int × Int} {c d : Int} (h : p = (c, d)) : Ending.returned (.agg #[.int .i64 c, .int .i64 d]) = .returned (.agg #[.int .i64 p.1, .int .i64 p.2]) := by rw [h]

end Go.Proofs.Ytkbgcbbloogdjac
