/- Embed, where the graph is at fault. -/
import Derived.Test.YtekokjechbibdaaDoorBegunM
import Derived.Test.YtekokjechbibdaaDoorTail2
namespace Go.Proofs.YtekokjechbibdaaDoor
set_option maxRecDepth 8000
open Go.RowKit Go.Maps
attribute [local go_sem ↓] Go.wp_at_zero Go.wp_at_succ
set_option maxHeartbeats 4000000 in
theorem embed_bad {w : World} {n : Int} {v : Value} {es : List Pair} (hE : EdgesAt w v es) (hc : (chk n es).1 ≠ 0) :
    Calls Tryd.prog 8 #[.agg #[.int .i64 n, v]] w fun e w' => e = .returned (.tuple #[.slice none 0 0, .slice none 0 0, .agg #[.int .i64 (chk n es).1, .int .i64 (chk n es).2]]) ∧ Below w.heap.size w w' := by
  have hfS : formS n es = ⟨0, [], (chk n es).1, (chk n es).2⟩ := by unfold formS; rw [if_neg hc]
  have C23 : Hid (∀ A, Below w.heap.size w A → Calls Tryd.prog 23 #[.agg #[.int .i64 n, v]] A fun e w' => Below A.heap.size A w' ∧ ∃ ao cap, e = .returned (.tuple #[.agg #[.int .i64 0, .slice ao 0 cap], .agg #[.int .i64 (chk n es).1, .int .i64 (chk n es).2]])) := fun A hA => by
    have := form_tellsC n v es A (hE.below hA)
    unfold TellsC at this
    rw [hfS] at this
    exact this.mono fun e w' ⟨h1, ao, cap, h2, _⟩ => ⟨h1, ao, cap, h2⟩
  obtain ⟨ao0, cap0, hv⟩ := hE.form
  subst hv
  generalize chk n es = ck at *
  obtain ⟨c, d⟩ := ck
  simp only at hc C23 ⊢
  clear hE hfS
  generalize es.length = el at *
  go_enter Tryd.func8, Tryd.ntmps8
  go_upto_region 1 with (fail)
  obtain ⟨q, hq⟩ : ∃ q, q = w.heap.size := ⟨_, rfl⟩
  have x1 : Two ((w.alloc (Obj.cells #[Value.int IntKind.i64 n, Value.slice ao0 el cap0] 24)).alloc (Obj.cells #[Value.int IntKind.i64 0, Value.int IntKind.i64 0] 27)) q (.int .i64 n) (.slice ao0 el cap0) 24 := by rw [hq]; exact two_alloc (two_new _ _ _ _) _
  have x4 : Two ((w.alloc (Obj.cells #[Value.int IntKind.i64 n, Value.slice ao0 el cap0] 24)).alloc (Obj.cells #[Value.int IntKind.i64 0, Value.int IntKind.i64 0] 27)) (q + 1) (.int .i64 0) (.int .i64 0) 27 := by rw [hq]; exact two_nxt _ _ _ _ _
  have hB2 : Below w.heap.size w ((w.alloc (Obj.cells #[Value.int IntKind.i64 n, Value.slice ao0 el cap0] 24)).alloc (Obj.cells #[Value.int IntKind.i64 0, Value.int IntKind.i64 0] 27)) := below_alloc (below_alloc (Below.refl _ w) _) _
  rw [← hq]
  generalize ((w.alloc (Obj.cells #[Value.int IntKind.i64 n, Value.slice ao0 el cap0] 24)).alloc (Obj.cells #[Value.int IntKind.i64 0, Value.int IntKind.i64 0] 27)) = W2 at *
  have C23' : Hid (Calls Tryd.prog 23 #[.agg #[.int .i64 n, .slice ao0 el cap0]] W2 fun e w' => Below W2.heap.size W2 w' ∧ ∃ ao cap, e = .returned (.tuple #[.agg #[.int .i64 0, .slice ao 0 cap], .agg #[.int .i64 c, .int .i64 d]])) := C23.out W2 hB2
  have HB2 : Hid (Below w.heap.size w W2 ∧ Two W2 (q + 1) (.int .i64 0) (.int .i64 0) 27 ∧ w.heap.size = q) := ⟨hB2, x4, hq.symm⟩
  have hc1 : (c != 0) = true := by simpa using hc
  obtain ⟨c0, c1⟩ := cell_two x1
  clear hq hB2 C23 x1 x4
  go_upto_region 2 with (first | (go_at_call 23; refine Calls.mono C23'.out ?_; rintro e w3 ⟨h3, ao, cap, rfl⟩; have y4 : Two (w3.alloc (Obj.cells #[.int .i64 0, .slice ao 0 cap] 24)) (q + 1) (.int .i64 0) (.int .i64 0) 27 := two_alloc (two_next HB2.out.2.1 h3) _; obtain ⟨d0, d1⟩ := cell_two y4; have f0 := box_free y4 0; have f1 := box_free y4 1; have z4 := box_set y4 0 (.int .i64 c); have d2 := box_cell z4 (i := 1) rfl; have f2 := box_free z4 1) | fail)
  have y6 : Two (((w3.alloc (Obj.cells #[.int .i64 0, .slice ao 0 cap] 24)).setCell ⟨q + 1, 0, none⟩ (.int .i64 c)).setCell ⟨q + 1, 1, none⟩ (.int .i64 d)) (q + 1) (.int .i64 c) (.int .i64 d) 27 := two_setN y4
  have hqw : w.heap.size ≤ q + 1 := by have := HB2.out.2.2; omega
  have hB4 : Below w.heap.size w (((w3.alloc (Obj.cells #[.int .i64 0, .slice ao 0 cap] 24)).setCell ⟨q + 1, 0, none⟩ (.int .i64 c)).setCell ⟨q + 1, 1, none⟩ (.int .i64 d)) := ((below_alloc (below_next HB2.out.1 h3) _).setCell hqw _).setCell hqw _
  generalize ((w3.alloc (Obj.cells #[.int .i64 0, .slice ao 0 cap] 24)).setCell ⟨q + 1, 0, none⟩ (.int .i64 c)).setCell ⟨q + 1, 1, none⟩ (.int .i64 d) = w4 at *
  generalize w3.heap.size = b5 at *
  have HW4 : Hid (Below w.heap.size w w4 ∧ Two w4 (q + 1) (.int .i64 c) (.int .i64 d) 27) := ⟨hB4, y6⟩
  obtain ⟨a0, a1⟩ := cell_two y6
  have g0 := cell_growD a0
  have g1 := cell_growD a1
  clear c0 c1 d0 d1 f0 f1 f2 d2 z4 y4 y6 hB4 h3 C23'
  go_upto_region 3 with (fail)
  clear a0 a1
  refine wp_region_tailT 3 (by kernel_rfl) (by kernel_rfl) (by kernel_rfl) (by decide) ?_
  simp only [List.take_succ_cons, List.take_zero, List.drop_succ_cons, List.drop_zero]
  repeat (quiet_step (fail))
  refine wpQuiet_nil ?_
  rintro _ ⟨gp, rfl⟩
  have hB8 := growD_below w4 gp
  clear g0 g1
  generalize growD w4 gp = w8 at *
  have y5 := two_next HW4.out.2 hB8
  obtain ⟨k0, k1⟩ := cell_two y5
  have f0 := box_free y5 0
  have z6 := box_set y5 0 (.int .i64 c)
  have k2 := box_cell z6 (i := 1) rfl
  have f2 := box_free z6 1
  have y7 := two_setN (x' := .int .i64 c) (y' := .int .i64 d) y5
  obtain ⟨l0, l1⟩ := cell_two y7
  have HB8 : Hid (Below w.heap.size w w8) := below_next HW4.out.1 hB8
  clear hB8 y5 z6 y7
  go_wp2
  refine bodyPost_ret (v := .tuple #[.slice none 0 0, .slice none 0 0, .agg #[.int .i64 c, .int .i64 d]]) ?_ rfl ?_
  · simp [results, Tryd.results8, go_sem, l0, l1]
  · exact ⟨rfl, (HB8.out.setCell hqw _).setCell hqw _⟩
end Go.Proofs.YtekokjechbibdaaDoor
