/- Least: the walk behind newDeal. -/
import Derived.Test.YtmbnaegcichoeaaServe
import Derived.Test.YtmbnaegcichoeaaTable
namespace Go.Proofs.Ytmbnaegcichoeaa
open Go.RowKit Go.Maps
attribute [local go_sem ↓] Go.wp_at_zero Go.wp_at_succ

set_option maxRecDepth 4000 in
set_option maxHeartbeats 2000000 in
theorem least_bad {w : World} {v : Value} {ls : List (List Int)} (h : RowsAt w v ls) {fc fd : Int} (hf : costF ls = (fc, fd)) (hne : fc ≠ 0) :
    Calls Try.prog 7 #[v] w fun e w' => e = .returned (.tuple #[.slice none 0 0, .slice none 0 0, .slice none 0 0, .int .i64 0, .agg #[.int .i64 fc, .int .i64 fd]]) ∧ Below w.heap.size w w' := by
  obtain ⟨ao, cap, e0, _⟩ := id h
  subst e0
  have h18 : ∀ W, Below w.heap.size w W → Calls Try.prog 18 #[.slice ao ls.length cap] W fun e w' => e = .returned (.agg #[.int .i64 fc, .int .i64 fd]) ∧ Below W.heap.size W w' := fun W hW => by
    have := checkCost_call (h.below hW)
    rw [hf] at this
    exact this
  have H18 : Hid (∀ W, Below w.heap.size w W → Calls Try.prog 18 #[.slice ao ls.length cap] W fun e w' => e = .returned (.agg #[.int .i64 fc, .int .i64 fd]) ∧ Below W.heap.size W w') := h18
  have k1 : (fc != 0) = true := by simp [hne]
  clear h18 h hf hne
  go_enter Try.func7, Try.ntmps7
  go_upto_region 1 with (fail)
  have t6 := two_new w (.int .i64 0) (.int .i64 0) 25
  have hB0 := below_alloc (Below.refl _ w) (Obj.cells #[.int .i64 0, .int .i64 0] 25)
  generalize w.alloc (Obj.cells #[.int .i64 0, .int .i64 0] 25) = W0 at t6 hB0 ⊢
  go_upto_region 2 with (first | (go_at_call 18; refine (H18.out _ hB0).mono ?_; rintro e W1 ⟨rfl, hb1⟩) | go_in)
  have t7 := two_new W1 (.int .i64 fc) (.int .i64 fd) 25
  have hb1a := below_alloc hb1 (Obj.cells #[.int .i64 fc, .int .i64 fd] 25)
  have t6' := two_next t6 hb1a
  have hB1 := below_next hB0 hb1a
  obtain ⟨b7, hb7⟩ : ∃ b, b = W1.heap.size := ⟨_, rfl⟩
  rw [← hb7] at t7 ⊢
  generalize W1.alloc (Obj.cells #[.int .i64 fc, .int .i64 fd] 25) = W2 at t7 t6' hB1 ⊢
  clear t6 hB0 hb1 hb1a hb7 H18
  obtain ⟨q0, q1⟩ := cell_two t7
  obtain ⟨q2, q3⟩ := cell_two t6'
  have ff := free_two t6'
  go_upto_region 3 with (fail)
  go_region
  all_goals
    go_wp2
    have x9 := two_setN (x' := .int .i64 fc) (y' := .int .i64 fd) t6'
    have hB3 := (hB1.setCell (p := ⟨w.heap.size, 0, none⟩) (Nat.le_refl _) (.int .i64 fc)).setCell (p := ⟨w.heap.size, 1, none⟩) (Nat.le_refl _) (.int .i64 fd)
    generalize ((W2.setCell ⟨w.heap.size, 0, none⟩ (.int .i64 fc)).setCell ⟨w.heap.size, 1, none⟩ (.int .i64 fd)) = W3 at x9 hB3 ⊢
    have z9 : Two W3.drew w.heap.size (.int .i64 fc) (.int .i64 fd) 25 := x9
    obtain ⟨n8, n81⟩ := cell_two z9
    refine bodyPost_ret (v := .tuple #[.slice none 0 0, .slice none 0 0, .slice none 0 0, .int .i64 0, .agg #[.int .i64 fc, .int .i64 fd]]) ?_ rfl ⟨rfl, hB3.drew⟩
    simp [results, Try.results7, go_sem, n8, n81]
end Go.Proofs.Ytmbnaegcichoeaa
