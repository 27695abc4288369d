/- The bags as sets, or the first thing that is wrong: width.open. -/
import Derived.Test.YtdalconphfgepaaDoorAboveW
import Derived.Test.YtdalconphfgepaaDoorTailM
namespace Go.Proofs.YtdalconphfgepaaDoor
set_option maxRecDepth 8000
open Go.RowKit Go.Maps
attribute [local go_sem ↓] Go.wp_at_zero Go.wp_at_succ
theorem EdgesAt.form' {w : World} {v : Value} {es : List Pair} (h : EdgesAt w v es) : ∃ ao cap, v = .slice ao es.length cap := by
  obtain ⟨ao, cap, h1, _⟩ := h
  exact ⟨ao, cap, h1⟩
set_option maxHeartbeats 2000000 in
theorem open_bad {w : World} {n : Int} {v : Value} {es : List Pair} {xo uo : Option Addr} {xl xc ul uc : Nat} (hE : EdgesAt w v es) (hc : (chk n es).1 ≠ 0) :
    Calls Tryd.prog 37 #[.agg #[.int .i64 n, v], .slice xo xl xc, .slice uo ul uc] w fun e w' => e = .returned (.tuple #[.slice none 0 0, .agg #[.int .i64 (chk n es).1, .int .i64 (chk n es).2]]) ∧ Below w.heap.size w w' := by
  obtain ⟨ao0, cap0, hv⟩ := hE.form'
  subst hv
  have C25 : Hid (∀ A, Below w.heap.size w A → Calls Tryd.prog 25 #[.agg #[.int .i64 n, .slice ao0 es.length cap0]] A fun e w' => e = .returned (.agg #[.int .i64 (chk n es).1, .int .i64 (chk n es).2]) ∧ Below A.heap.size A w') := fun A hA => check_any n _ es A (hE.below hA)
  generalize chk n es = ck at *
  generalize es.length = el at *
  obtain ⟨c, d⟩ := ck
  simp only at hc C25 ⊢
  clear hE
  go_enter Tryd.func37, Tryd.ntmps37
  go_upto_region 1 with (fail)
  have x2 := two_new w (.int .i64 n) (.slice ao0 el cap0) 24
  have hB2 : Below w.heap.size w ((w.alloc (Obj.cells #[.int .i64 n, .slice ao0 el cap0] 24)).alloc (Obj.cells #[.int .i64 0, .int .i64 0] 27)) := below_alloc (below_alloc (Below.refl _ w) _) _
  have y2 : Two ((w.alloc (Obj.cells #[.int .i64 n, .slice ao0 el cap0] 24)).alloc (Obj.cells #[.int .i64 0, .int .i64 0] 27)) w.heap.size (.int .i64 n) (.slice ao0 el cap0) 24 := two_alloc x2 _
  have y5 : Two ((w.alloc (Obj.cells #[.int .i64 n, .slice ao0 el cap0] 24)).alloc (Obj.cells #[.int .i64 0, .int .i64 0] 27)) (w.heap.size + 1) (.int .i64 0) (.int .i64 0) 27 := two_nxt _ _ _ _ _
  obtain ⟨q, hq⟩ : ∃ q, q = w.heap.size := ⟨_, rfl⟩
  rw [← hq] at y2 y5 ⊢
  generalize (w.alloc (Obj.cells #[.int .i64 n, .slice ao0 el cap0] 24)).alloc (Obj.cells #[.int .i64 0, .int .i64 0] 27) = W2 at *
  have HB2 : Hid (Below w.heap.size w W2 ∧ Two W2 (q + 1) (.int .i64 0) (.int .i64 0) 27 ∧ w.heap.size = q) := ⟨hB2, y5, hq.symm⟩
  obtain ⟨c0, c1⟩ := cell_two y2
  have C25' : Hid (Calls Tryd.prog 25 #[.agg #[.int .i64 n, .slice ao0 el cap0]] W2 fun e w' => e = .returned (.agg #[.int .i64 c, .int .i64 d]) ∧ Below W2.heap.size W2 w') := C25.out W2 hB2
  have hc1 : (c != 0) = true := by simpa using hc
  clear hq x2 hB2 y2 y5 C25
  go_upto_region 3 with (first | (go_at_call 25; refine Calls.mono C25'.out ?_; rintro e w3 ⟨rfl, h3⟩) | fail)
  have hB4 : Below W2.heap.size W2 (w3.alloc (Obj.cells #[.int .i64 c, .int .i64 d] 27)) := below_alloc h3 _
  have x6 := two_new w3 (.int .i64 c) (.int .i64 d) 27
  have x5 : Two (w3.alloc (Obj.cells #[.int .i64 c, .int .i64 d] 27)) (q + 1) (.int .i64 0) (.int .i64 0) 27 := two_next HB2.out.2.1 hB4
  generalize w3.alloc (Obj.cells #[.int .i64 c, .int .i64 d] 27) = w4 at *
  generalize w3.heap.size = b6 at *
  have HW4 : Hid (Below w.heap.size w w4 ∧ Two w4 (q + 1) (.int .i64 0) (.int .i64 0) 27) := ⟨below_next HB2.out.1 hB4, x5⟩
  obtain ⟨a0, a1⟩ := cell_two x6
  have g0 := cell_growD a0
  have g1 := cell_growD a1
  clear h3 hB4 C25' c0 c1 a0 a1 x6 x5
  refine wp_region_tailT 2 (by kernel_rfl) (by kernel_rfl) (by kernel_rfl) (by decide) ?_
  simp only [List.take_succ_cons, List.take_zero, List.drop_succ_cons, List.drop_zero]
  repeat (quiet_step (fail))
  refine wpQuiet_nil ?_
  rintro _ ⟨gp, rfl⟩
  have hB8 := growD_below w4 gp
  clear g0 g1
  generalize growD w4 gp = w8 at *
  have y5 := two_next HW4.out.2 hB8
  obtain ⟨k0, k1⟩ := cell_two y5
  have f0 := box_free y5 0
  have z6 := box_set y5 0 (.int .i64 c)
  have k2 := box_cell z6 (i := 1) rfl
  have f2 := box_free z6 1
  have y7 := two_setN (x' := .int .i64 c) (y' := .int .i64 d) y5
  obtain ⟨l0, l1⟩ := cell_two y7
  have HB8 : Hid (Below w.heap.size w w8) := below_next HW4.out.1 hB8
  clear hB8 y5 z6 y7
  go_wp2
  refine bodyPost_ret (v := .tuple #[.slice none 0 0, .agg #[.int .i64 c, .int .i64 d]]) ?_ rfl ?_
  · simp [results, Tryd.results37, go_sem, l0, l1]
  · have hq1 : w.heap.size ≤ q + 1 := by have := HB2.out.2.2; omega
    exact ⟨rfl, (HB8.out.setCell hq1 _).setCell hq1 _⟩
end Go.Proofs.YtdalconphfgepaaDoor
