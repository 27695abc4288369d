/- five. -/
import Derived.Test.YthjkjanibkpgiaaDoorWiW
namespace Go.Proofs.YthjkjanibkpgiaaDoor
set_option maxRecDepth 8000
open Go.RowKit Go.Maps
attribute [local go_sem ↓] Go.wp_at_zero Go.wp_at_succ
def es5 : List E2 := [(0, 1), (1, 2), (2, 3), (3, 4), (0, 4)]
def es3 : List E2 := [(0, 1), (0, 2), (1, 2)]
set_option maxHeartbeats 2000000 in
theorem five_call (w : World) : Calls Tryd.prog 25 #[] w fun e w' => ∃ ao c, e = .returned (.agg #[.int .i64 5, .slice ao 5 c]) ∧ EdgesAt w' (.slice ao 5 c) (pzT es5) ∧ Below w.heap.size w w' := by
  go_enter Tryd.func25, Tryd.ntmps25
  go_wp2
  have hB : Below w.heap.size w ((w.alloc (Obj.cells #[.int .i64 5, .slice (some ⟨w.heap.size + 1, 0, none⟩) 5 5] 24)).alloc (Obj.cells #[.int .i64 0, .int .i64 1, .int .i64 1, .int .i64 2, .int .i64 2, .int .i64 3, .int .i64 3, .int .i64 4, .int .i64 0, .int .i64 4] 61)) := below_alloc (below_alloc (Below.refl _ w) _) _
  have hb := heap_alloc_new (w.alloc (Obj.cells #[.int .i64 5, .slice (some ⟨w.heap.size + 1, 0, none⟩) 5 5] 24)) (Obj.cells #[.int .i64 0, .int .i64 1, .int .i64 1, .int .i64 2, .int .i64 2, .int .i64 3, .int .i64 3, .int .i64 4, .int .i64 0, .int .i64 4] 61)
  rw [show (w.alloc (Obj.cells #[.int .i64 5, .slice (some ⟨w.heap.size + 1, 0, none⟩) 5 5] 24)).heap.size = w.heap.size + 1 by simp] at hb
  have y0 := two_alloc (two_new w (.int .i64 5) (.slice (some ⟨w.heap.size + 1, 0, none⟩) 5 5) 24) (Obj.cells #[.int .i64 0, .int .i64 1, .int .i64 1, .int .i64 2, .int .i64 2, .int .i64 3, .int .i64 3, .int .i64 4, .int .i64 0, .int .i64 4] 61)
  obtain ⟨c0, c1⟩ := cell_two y0
  generalize (w.alloc (Obj.cells #[.int .i64 5, .slice (some ⟨w.heap.size + 1, 0, none⟩) 5 5] 24)).alloc (Obj.cells #[.int .i64 0, .int .i64 1, .int .i64 1, .int .i64 2, .int .i64 2, .int .i64 3, .int .i64 3, .int .i64 4, .int .i64 0, .int .i64 4] 61) = W at *
  have hE : EdgesAt W (.slice (some ⟨w.heap.size + 1, 0, none⟩) 5 5) (pzT es5) := by
    refine ⟨_, _, rfl, by decide, fun e he => ?_, fun k hk => ⟨w.heap.size + 1, 0, rfl, ?_⟩⟩
    · simp [pzT, es5] at he
      rcases he with rfl | rfl | rfl | rfl | rfl <;> exact ⟨⟨by decide, by decide⟩, ⟨by decide, by decide⟩⟩
    · match k, hk with
      | 0, _ => exact ⟨box_cell hb rfl, box_cell hb rfl⟩
      | 1, _ => exact ⟨box_cell hb rfl, box_cell hb rfl⟩
      | 2, _ => exact ⟨box_cell hb rfl, box_cell hb rfl⟩
      | 3, _ => exact ⟨box_cell hb rfl, box_cell hb rfl⟩
      | 4, _ => exact ⟨box_cell hb rfl, box_cell hb rfl⟩
      | k + 5, hk => exact absurd hk (by show ¬ (k + 5 < 5); omega)
  refine bodyPost_ret (v := .agg #[.int .i64 5, .slice (some ⟨w.heap.size + 1, 0, none⟩) 5 5]) ?_ rfl ⟨_, _, rfl, hE, hB⟩
  simp [results, Tryd.results25, go_sem, c0, c1]
/-- Within finds no three nodes of a ring of five that have all edges. -/
theorem fit53 : fitL 5 (gB (nearF es5)) (hB (nearF es3)) 3 [] = none := by decide +kernel
theorem chk53 : chk2 5 (pzT es5) 3 (pzT es3) = (0, 0) := by decide +kernel
end Go.Proofs.YthjkjanibkpgiaaDoor
