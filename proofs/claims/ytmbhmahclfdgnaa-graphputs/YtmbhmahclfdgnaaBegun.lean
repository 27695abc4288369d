/- begun: the example of the document comes out. -/
import Derived.Test.YtmbhmahclfdgnaaCompl
import Derived.Test.YtmbhmahclfdgnaaSame
namespace Go.Proofs.Ytmbhmahclfdgnaa
open Go.RowKit Go.Maps

theorem begun_ans : complS 3 [(1, 0), (2, 1)] = ⟨3, [(0, 2)], 0, 0⟩ := by
  kernel_rfl

theorem edges_two {w : World} {b : Nat} {x y x' y' : Int} (h : w.heap[b]? = some (.cells #[.int .i64 x, .int .i64 y, .int .i64 x', .int .i64 y'] 47 (0, 0))) (hI : ∀ e ∈ [(x, y), (x', y')], I64 e.1 ∧ I64 e.2) : EdgesAt w (.slice (some ⟨b, 0, none⟩) 2 2) [(x, y), (x', y')] := by
  refine ⟨_, 2, rfl, by simp, hI, fun k hk => ⟨b, 0, rfl, ?_⟩⟩
  match k, hk with
  | 0, _ => simp [World.cell?, h]
  | 1, _ => simp [World.cell?, h]

theorem edges_one {w : World} {b : Nat} {x y : Int} (h : w.heap[b]? = some (.cells #[.int .i64 x, .int .i64 y] 47 (0, 0))) (hI : ∀ e ∈ [(x, y)], I64 e.1 ∧ I64 e.2) : EdgesAt w (.slice (some ⟨b, 0, none⟩) 1 1) [(x, y)] := by
  refine ⟨_, 1, rfl, by simp, hI, fun k hk => ⟨b, 0, rfl, ?_⟩⟩
  match k, hk with
  | 0, _ => simp [World.cell?, h]

set_option maxHeartbeats 1000000 in
theorem begun_true (w : World) : Calls Try.prog 11 #[] w fun e w' => e = .returned (.bool true) ∧ Below w.heap.size w w' := by
  go_enter Try.func11, Try.ntmps11
  go_wp2_with (first | (go_at_call 19; refine (compl_tells 3 _ [(1, 0), (2, 1)] _ ?_).mono ?_; exact edges_two (heap_alloc_new w _) (by intro e he; simp at he; rcases he with rfl | rfl <;> (constructor <;> constructor <;> decide)); rw [begun_ans]; rintro e w1 ⟨hb, ao, cap, rfl, hE, hfr⟩) | (go_at_call 15; refine (same_true 3 _ _ [(0, 2)] _ ?_ ?_).mono ?_; exact hE.below (below3 _ _ _); exact edges_one (by simpa using heap_alloc_new ((w1.alloc _).alloc _) _) (by intro e he; simp at he; subst he; constructor <;> constructor <;> decide); rintro e w2 ⟨rfl, hb2⟩))
  go_ret
  exact ⟨rfl, below_next (below_next (below_next (below_alloc (Below.refl _ _) _) hb) (below3 _ _ _)) hb2⟩
end Go.Proofs.Ytmbhmahclfdgnaa
