/- widthBegun is true. -/
import Derived.Test.YtdalconphfgepaaDoorFiveM
import Derived.Test.YtdalconphfgepaaDoorLeastW
namespace Go.Proofs.YtdalconphfgepaaDoor
set_option maxRecDepth 8000
open Go.RowKit Go.Maps
attribute [local go_sem ↓] Go.wp_at_zero Go.wp_at_succ
set_option maxHeartbeats 2000000 in
theorem five_call (w : World) : Calls Tryd.prog 29 #[] w fun e w' => ∃ ao c, e = .returned (.agg #[.int .i64 5, .slice ao 5 c]) ∧ EdgesAt w' (.slice ao 5 c) (pz es5) ∧ Below w.heap.size w w' := by
  go_enter Tryd.func29, Tryd.ntmps29
  go_wp2
  have hB : Below w.heap.size w ((w.alloc (Obj.cells #[.int .i64 5, .slice (some ⟨w.heap.size + 1, 0, none⟩) 5 5] 24)).alloc (Obj.cells #[.int .i64 0, .int .i64 1, .int .i64 1, .int .i64 2, .int .i64 2, .int .i64 3, .int .i64 3, .int .i64 4, .int .i64 0, .int .i64 4] 64)) := below_alloc (below_alloc (Below.refl _ w) _) _
  have hb := heap_alloc_new (w.alloc (Obj.cells #[.int .i64 5, .slice (some ⟨w.heap.size + 1, 0, none⟩) 5 5] 24)) (Obj.cells #[.int .i64 0, .int .i64 1, .int .i64 1, .int .i64 2, .int .i64 2, .int .i64 3, .int .i64 3, .int .i64 4, .int .i64 0, .int .i64 4] 64)
  rw [show (w.alloc (Obj.cells #[.int .i64 5, .slice (some ⟨w.heap.size + 1, 0, none⟩) 5 5] 24)).heap.size = w.heap.size + 1 by simp] at hb
  have y0 := two_alloc (two_new w (.int .i64 5) (.slice (some ⟨w.heap.size + 1, 0, none⟩) 5 5) 24) (Obj.cells #[.int .i64 0, .int .i64 1, .int .i64 1, .int .i64 2, .int .i64 2, .int .i64 3, .int .i64 3, .int .i64 4, .int .i64 0, .int .i64 4] 64)
  obtain ⟨c0, c1⟩ := cell_two y0
  generalize (w.alloc (Obj.cells #[.int .i64 5, .slice (some ⟨w.heap.size + 1, 0, none⟩) 5 5] 24)).alloc (Obj.cells #[.int .i64 0, .int .i64 1, .int .i64 1, .int .i64 2, .int .i64 2, .int .i64 3, .int .i64 3, .int .i64 4, .int .i64 0, .int .i64 4] 64) = W at *
  have hE : EdgesAt W (.slice (some ⟨w.heap.size + 1, 0, none⟩) 5 5) (pz es5) := by
    refine ⟨_, _, rfl, by decide, fun e he => ?_, fun k hk => ⟨w.heap.size + 1, 0, rfl, ?_⟩⟩
    · simp [pz, es5] at he
      rcases he with rfl | rfl | rfl | rfl | rfl <;> exact ⟨⟨by decide, by decide⟩, ⟨by decide, by decide⟩⟩
    · match k, hk with
      | 0, _ => exact ⟨box_cell hb rfl, box_cell hb rfl⟩
      | 1, _ => exact ⟨box_cell hb rfl, box_cell hb rfl⟩
      | 2, _ => exact ⟨box_cell hb rfl, box_cell hb rfl⟩
      | 3, _ => exact ⟨box_cell hb rfl, box_cell hb rfl⟩
      | 4, _ => exact ⟨box_cell hb rfl, box_cell hb rfl⟩
      | k + 5, hk => exact absurd hk (by show ¬ (k + 5 < 5); omega)
  refine bodyPost_ret (v := .agg #[.int .i64 5, .slice (some ⟨w.heap.size + 1, 0, none⟩) 5 5]) ?_ rfl ⟨_, _, rfl, hE, hB⟩
  simp [results, Tryd.results29, go_sem, c0, c1]
set_option maxHeartbeats 2000000 in
theorem begun_call {w : World} (ht : T64 w) : Calls Tryd.prog 9 #[] w fun e w' => e = .returned (.bool true) ∧ Below w.heap.size w w' := by
  have HT : Hid (T64 w) := ht
  have C29 : Hid (∀ A, Calls Tryd.prog 29 #[] A fun e w' => ∃ ao c, e = .returned (.agg #[.int .i64 5, .slice ao 5 c]) ∧ EdgesAt w' (.slice ao 5 c) (pz es5) ∧ Below A.heap.size A w') := fun A => five_call A
  have C8 : Hid (∀ A ao c, Below w.heap.size w A → EdgesAt A (.slice ao 5 c) (pz es5) → Calls Tryd.prog 8 #[.agg #[.int .i64 5, .slice ao 5 c]] A fun e w' => (∃ bv uv, e = .returned (.tuple #[.int .i64 2, bv, uv, .agg #[.int .i64 0, .int .i64 0]])) ∧ Below A.heap.size A w') := fun A ao c hA hE => by
    have := least_ok (n := 5) (es := es5) (ao := ao) (cap := c) hE chk5 (by decide) (by decide) (by decide) (HT.out.under hA) (fun j hj => by
      have := List.all_eq_true.1 ord5 j (List.mem_range.2 hj)
      exact of_decide_eq_true this)
    rw [wid5] at this
    exact this
  clear ht
  go_enter Tryd.func9, Tryd.ntmps9
  go_upto_region 2 with (first | (go_at_call 29; refine Calls.mono (C29.out _) ?_; rintro e w1 ⟨ao1, c1, rfl, hE1, h1⟩) | (go_at_call 8; refine Calls.mono (C8.out _ _ _ h1 hE1) ?_; rintro e w2 ⟨⟨bv, uv, rfl⟩, h2⟩) | fail)
  have hB2 := below_next h1 h2
  have x4 := two_new w2 (.int .i64 0) (.int .i64 0) 27
  have hB3 : Below w.heap.size w (w2.alloc (Obj.cells #[.int .i64 0, .int .i64 0] 27)) := below_alloc hB2 _
  generalize w2.alloc (Obj.cells #[.int .i64 0, .int .i64 0] 27) = w3 at *
  generalize w2.heap.size = b4 at *
  obtain ⟨c0, c1⟩ := cell_two x4
  go_wp2
  go_ret
  exact ⟨rfl, hB3⟩
end Go.Proofs.YtdalconphfgepaaDoor
