/- matchBegun: the cover of the star and the count of the ring. -/
import Derived.BigQuiet
import Derived.Test.YtenjkhgpfmfgmaaDoorStarM
import Derived.Test.YtenjkhgpfmfgmaaDoorRingM
import Derived.Test.YtenjkhgpfmfgmaaDoorSame
import Derived.Test.YtenjkhgpfmfgmaaDoorTutteLaw
namespace Go.Proofs.YtenjkhgpfmfgmaaDoor
open Go.RowKit Go.Maps
attribute [local go_sem ↓] Go.wp_at_zero Go.wp_at_succ

theorem edgesS (w : World) : EdgesAt (w.alloc (Obj.cells #[.int .i64 0, .int .i64 1, .int .i64 0, .int .i64 2, .int .i64 0, .int .i64 3] 50)) (.slice (some ⟨w.heap.size, 0, none⟩) 3 3) esS := by
  refine ⟨_, _, rfl, by simp [esS], fun e he => ?_, fun k hk => ⟨w.heap.size, 0, rfl, ?_⟩⟩
  · simp [esS] at he
    rcases he with rfl | rfl | rfl <;> (unfold I64; omega)
  · match k, hk with
    | 0, _ => simp [esS]
    | 1, _ => simp [esS]
    | 2, _ => simp [esS]

theorem edges4 (w : World) : EdgesAt (w.alloc (Obj.cells #[.int .i64 0, .int .i64 1, .int .i64 1, .int .i64 2, .int .i64 2, .int .i64 3, .int .i64 0, .int .i64 3] 50)) (.slice (some ⟨w.heap.size, 0, none⟩) 4 4) es4 := by
  refine ⟨_, _, rfl, by simp [es4], fun e he => ?_, fun k hk => ⟨w.heap.size, 0, rfl, ?_⟩⟩
  · simp [es4] at he
    rcases he with rfl | rfl | rfl | rfl <;> (unfold I64; omega)
  · match k, hk with
    | 0, _ => simp [es4]
    | 1, _ => simp [es4]
    | 2, _ => simp [es4]
    | 3, _ => simp [es4]

theorem ints0 (w : World) : IntsAt (w.alloc (Obj.cells #[.int .i64 0] 3)) (.slice (some ⟨w.heap.size, 0, none⟩) 1 1) [0] := by
  refine ⟨_, _, rfl, by simp, fun e he => ?_, fun k hk => ⟨w.heap.size, 0, rfl, ?_⟩⟩
  · simp at he
    subst he
    unfold I64; omega
  · match k, hk with
    | 0, _ => simp

set_option maxRecDepth 4000 in
set_option maxHeartbeats 2000000 in
theorem begun_call (w : World) (ht : Tab32 w) : Calls Tryd.prog 10 #[] w fun r w' => r = .returned (.bool true) ∧ Below w.heap.size w w' := by
  have HT : Hid _ := ht
  clear ht

  go_enter Tryd.func10, Tryd.ntmps10
  go_upto_region 2 with (go_in)
  have hB1 := below2 (w := w) (Obj.cells #[.int .i64 0, .int .i64 1, .int .i64 0, .int .i64 2, .int .i64 0, .int .i64 3] 50) (Obj.cells #[.int .i64 4, .slice (some ⟨w.heap.size, 0, none⟩) 3 3] 24)
  have hE1 := EdgesAt.below (edgesS w) (below_alloc (Below.refl _ _) (Obj.cells #[.int .i64 4, .slice (some ⟨w.heap.size, 0, none⟩) 3 3] 24))
  have t1 := two_new1 w (Obj.cells #[.int .i64 0, .int .i64 1, .int .i64 0, .int .i64 2, .int .i64 0, .int .i64 3] 50) (.int .i64 4) (.slice (some ⟨w.heap.size, 0, none⟩) 3 3) 24
  obtain ⟨x1, x2⟩ := cell_two t1
  generalize (w.alloc (Obj.cells #[.int .i64 0, .int .i64 1, .int .i64 0, .int .i64 2, .int .i64 0, .int .i64 3] 50)).alloc (Obj.cells #[.int .i64 4, .slice (some ⟨w.heap.size, 0, none⟩) 3 3] 24) = W1 at hB1 hE1 t1 x1 x2 ⊢
  have HC : Hid _ := cover_star hE1
  clear hE1 t1
  go_upto_region 3 with (go_at_call 19; refine Calls.mono HC.out ?_; rintro e W2 ⟨po, pc, co, cc, rfl, hI, hB2⟩)
  have t2 := two_new W2 (.int .i64 0) (.int .i64 0) 27
  have hB3 := below_alloc (below_next hB1 hB2) (Obj.cells #[.int .i64 0, .int .i64 0] 27)
  have hI3 := IntsAt.below hI (below_alloc (Below.refl _ W2) (Obj.cells #[.int .i64 0, .int .i64 0] 27))
  generalize W2.alloc (Obj.cells #[.int .i64 0, .int .i64 0] 27) = W3 at t2 hB3 hI3 ⊢
  generalize W2.heap.size = b2 at t2 ⊢
  clear hB1 hB2 hI x1 x2 HC
  have HC : Hid _ := count_ring (edges4 W3) (Tab32.below HT.out (below_alloc hB3 _))
  go_upto_region 4 with (first
    | (go_at_call 22; refine Calls.mono HC.out ?_; rintro e W4 ⟨rfl, hB4⟩)
    | go_in)
  have t4 := two_new W4 (.int .i64 0) (.int .i64 0) 27
  have hb34 : Below W3.heap.size W3 (W4.alloc (Obj.cells #[.int .i64 0, .int .i64 0] 27)) := below_alloc (below_next (below_alloc (Below.refl _ W3) _) hB4) _
  have t24 := two_next t2 hb34
  have hI4 := IntsAt.below hI3 hb34
  have hB5 := below_next hB3 hb34
  generalize W4.alloc (Obj.cells #[.int .i64 0, .int .i64 0] 27) = W5 at t4 t24 hB5 hI4 ⊢
  generalize W4.heap.size = b4 at t4 ⊢
  obtain ⟨y1, y2⟩ := cell_two t24
  obtain ⟨z1, z2⟩ := cell_two t4
  have HI : Hid _ := hI4
  clear hI4 hI3 t2 t4 t24 hB3 hB4 hb34 HC
  go_wp2_with (first
    | (go_at_call 18; refine Calls.mono (ints_true _ _ [0] _ (IntsAt.below HI.out (below_alloc (Below.refl _ _) _)) (ints0 _)) ?_; rintro e W6 ⟨rfl, hB6⟩)
    | go_in)
  go_ret
  exact ⟨by simp, below_next (below_alloc hB5 _) hB6⟩

theorem begunAt (w : World) (ht : Tab32 w) : BegunAt w := fun w' hb => begun_call w' (Tab32.below ht hb)
end Go.Proofs.YtenjkhgpfmfgmaaDoor
