/- drawBegun. -/
import Derived.Test.YtnboonhlffkimaaGreatDoorJnW
import Derived.Test.YtnboonhlffkimaaGreatDoorOfC
namespace Go.Proofs.YtnboonhlffkimaaGreatDoor
set_option maxRecDepth 8000
open Go.RowKit Go.Maps
attribute [local go_sem ↓] Go.wp_at_zero Go.wp_at_succ
theorem pf3 (w : World) : PF (w.alloc (Obj.cells #[.int .i64 0, .int .i64 0, .int .i64 2, .int .i64 0, .int .i64 1, .int .i64 1] 32)) (some ⟨w.heap.size, 0, none⟩) 3 p3 := fun j hj => by
  have hb : Box (w.alloc (Obj.cells #[.int .i64 0, .int .i64 0, .int .i64 2, .int .i64 0, .int .i64 1, .int .i64 1] 32)) w.heap.size #[.int .i64 0, .int .i64 0, .int .i64 2, .int .i64 0, .int .i64 1, .int .i64 1] 32 := heap_alloc_new _ _
  refine ⟨w.heap.size, 0, rfl, ?_, ?_⟩
  · match j, hj with
    | 0, _ => exact box_cell hb (i := 0) rfl
    | 1, _ => exact box_cell hb (i := 2) rfl
    | 2, _ => exact box_cell hb (i := 4) rfl
  · match j, hj with
    | 0, _ => exact box_cell hb (i := 1) rfl
    | 1, _ => exact box_cell hb (i := 3) rfl
    | 2, _ => exact box_cell hb (i := 5) rfl
set_option maxHeartbeats 4000000 in
theorem begun_call {w : World} (ht : T64 w) : Calls Tryz.prog 8 #[] w fun e w' => e = .returned (.bool true) ∧ Below w.heap.size w w' := by
  have HT : Hid (T64 w) := ht
  have F3 : Hid (∀ A : World, Calls Tryz.prog 16 #[.int .i64 3] A fun e w' => Below A.heap.size A w' ∧ ∃ ao' c, e = .returned (.agg #[.int .i64 3, .slice ao' 3 c]) ∧ EdgesAt w' (.slice ao' 3 c) (fullP 3) ∧ 3 ≤ c) := fun A => by
    have h := full_cap 3 A (by omega)
    rw [len_3] at h
    exact h
  have F5 : Hid (∀ A : World, Calls Tryz.prog 16 #[.int .i64 5] A fun e w' => Below A.heap.size A w' ∧ ∃ ao' c, e = .returned (.agg #[.int .i64 5, .slice ao' 10 c]) ∧ EdgesAt w' (.slice ao' 10 c) (fullP 5)) := fun A => by
    have h := full_call 5 A (by omega)
    rw [len_5] at h
    exact h
  have C7 : Hid (∀ A v c, EdgesAt A (.slice v 3 c) (fullP 3) → 3 ≤ c → Calls Tryz.prog 7 #[.agg #[.int .i64 3, .slice v 3 c], .slice (some ⟨A.heap.size, 0, none⟩) 3 3] (A.alloc (Obj.cells #[.int .i64 0, .int .i64 0, .int .i64 2, .int .i64 0, .int .i64 1, .int .i64 1] 32)) fun e w' => e = .returned (.tuple #[.bool true, .agg #[.int .i64 0, .int .i64 0]]) ∧ Below A.heap.size A w') := fun A v c hE hc => by
    have hB := below_alloc (Below.refl _ A) (Obj.cells #[.int .i64 0, .int .i64 0, .int .i64 2, .int .i64 0, .int .i64 1, .int .i64 1] 32)
    have h := clear_call (n := 3) (eo := v) (ec := c) (es := fullP 3) (ac := 3) (by rw [len_3]; exact hE.below hB) (by rw [len_3]; exact hc) (pf3 A) (by omega) (by omega)
    rw [len_3, clr3, clear3] at h
    exact h.mono fun e w' ⟨h1, h2⟩ => ⟨h1, below_next hB h2⟩
  have C17 : Hid (∀ A v c, Below w.heap.size w A → EdgesAt A (.slice v 10 c) (fullP 5) → Calls Tryz.prog 17 #[.agg #[.int .i64 5, .slice v 10 c]] A fun e w' => e = .returned (.tuple #[.slice none 0 0, .agg #[.int .i64 9, .int .i64 0]]) ∧ Below A.heap.size A w') := fun A v c hA hE => draw5_call hE (HT.out.under hA)
  have C6 : Hid (∀ (a b : Int) A, Calls Tryz.prog 6 #[.int .i64 a, .int .i64 b] A fun e w' => e = .returned (.agg #[.int .i64 a, .int .i64 b]) ∧ Below A.heap.size A w') := fun a b A => refF_any a b A
  have heq := eql28 9 0
  clear ht
  go_enter Tryz.func8, Tryz.ntmps8
  go_upto_region 2 with (first | (go_at_call 16; refine Calls.mono (F3.out _) ?_; rintro e w1 ⟨h1, ao1, c1, rfl, hE1, hc1⟩) | (go_at_call 7; refine Calls.mono (C7.out _ _ _ hE1 hc1) ?_; rintro e w2 ⟨rfl, h2⟩) | fail)
  have x2 := two_new w2 (.int .i64 0) (.int .i64 0) 28
  have hB3 : Below w.heap.size w (w2.alloc (Obj.cells #[.int .i64 0, .int .i64 0] 28)) := below_alloc (below_next h1 h2) _
  generalize w2.heap.size = b2 at *
  generalize w2.alloc (Obj.cells #[.int .i64 0, .int .i64 0] 28) = w3 at *
  have HX : Hid (Two w3 b2 (.int .i64 0) (.int .i64 0) 28 ∧ Below w.heap.size w w3) := ⟨x2, hB3⟩
  clear h1 h2 x2 hB3 hE1 hc1 C7
  go_upto_region 3 with (first | (go_at_call 16; refine Calls.mono (F5.out _) ?_; rintro e w4 ⟨h4, ao4, c4, rfl, hE4⟩) | (go_at_call 17; refine Calls.mono (C17.out _ _ _ (below_next HX.out.2 h4) hE4) ?_; rintro e w5 ⟨rfl, h5⟩) | fail)
  have x6 := two_new w5 (.int .i64 9) (.int .i64 0) 28
  have hB6 : Below w3.heap.size w3 (w5.alloc (Obj.cells #[.int .i64 9, .int .i64 0] 28)) := below_alloc (below_next h4 h5) _
  generalize w5.heap.size = b4 at *
  generalize w5.alloc (Obj.cells #[.int .i64 9, .int .i64 0] 28) = w6 at *
  obtain ⟨c0, c1'⟩ := cell_two (two_next HX.out.1 hB6)
  obtain ⟨d0, d1⟩ := cell_two x6
  have HB6 : Hid (Below w.heap.size w w6) := below_next HX.out.2 hB6
  have g0 := cell_growD c0
  have g1 := cell_growD d0
  have g2 := cell_growD d1
  clear h4 h5 hB6 x6 hE4 c0 c1' d0 d1 C17 F3 F5
  refine wp_region_below (by kernel_rfl) (by kernel_rfl) ?_
  repeat (go_big_quiet_step (first | (go_at_call 6; exact Calls.belowQ (fun W hW => C6.out _ _ W))))
  refine wpQuiet_nil ?_
  rintro _ ⟨gp, rfl⟩
  have HB8 : Hid (Below w.heap.size w (growD w6 gp)) := below_next HB6.out (growD_below w6 gp)
  clear g0 g1 g2
  generalize growD w6 gp = w8 at *
  go_wp2
  go_ret
  exact ⟨rfl, HB8.out⟩
end Go.Proofs.YtnboonhlffkimaaGreatDoor
