/- codecBegun: the examples of the document come out. -/
import Derived.Test.YtbaghbodjpehpabDoorPack
namespace Go.Proofs.YtbaghbodjpehpabDoor
open Go.RowKit Go.Maps
attribute [local go_sem ↓] Go.wp_at_zero Go.wp_at_succ

def exs : List Pair := [(1, 0), (2, 1)]
theorem ex_chk : chk (3 : Nat) exs = (0, 0) := by kernel_rfl
theorem ex_all : allP 3 (hasB exs) = [(0, 1), (1, 2)] := by kernel_rfl
theorem ex_pack : strOfNums (packB 3 (hasB exs)) = ByteArray.mk #[66, 103] := by
  have : packB 3 (hasB exs) = [66, 103] := by kernel_rfl
  rw [this]
  rfl
theorem ex_line : strB (lineB 3 (allP 3 (hasB exs))) = ByteArray.mk #[51, 58, 32, 48, 45, 49, 32, 49, 45, 50, 10] := by
  rw [ex_all]
  have : lineB 3 [(0, 1), (1, 2)] = [51, 58, 32, 48, 45, 49, 32, 49, 45, 50, 10] := by
    simp only [lineB, edgesB, edgeB, List.flatMap_cons, List.flatMap_nil]
    rw [Lib.decDigits_one (show 3 < 10 by decide), Lib.decDigits_one (show (0 : Int).toNat < 10 by decide), Lib.decDigits_one (show (1 : Int).toNat < 10 by decide), Lib.decDigits_one (show (2 : Int).toNat < 10 by decide)]
    rfl
  rw [this]
  rfl

theorem edges_two {w : World} {b : Nat} {x y x' y' : Int} (h : w.heap[b]? = some (.cells #[.int .i64 x, .int .i64 y, .int .i64 x', .int .i64 y'] 34 (0, 0))) (hI : ∀ e ∈ [(x, y), (x', y')], I64 e.1 ∧ I64 e.2) : EdgesAt w (.slice (some ⟨b, 0, none⟩) 2 2) [(x, y), (x', y')] := by
  refine ⟨_, 2, rfl, by simp, hI, fun k hk => ⟨b, 0, rfl, ?_⟩⟩
  match k, hk with
  | 0, _ => simp [World.cell?, h]
  | 1, _ => simp [World.cell?, h]

theorem pack_ex {v : Value} {w : World} (hE : EdgesAt w v exs) : Says 5 #[.agg #[.int .i64 3, v]] w (ByteArray.mk #[66, 103]) 0 0 := by
  have := pack_good 3 v exs w hE (by rw [ex_chk])
  rw [ex_pack] at this
  exact this
theorem print_ex {v : Value} {w : World} (hE : EdgesAt w v exs) : Says 6 #[.agg #[.int .i64 3, v]] w (ByteArray.mk #[51, 58, 32, 48, 45, 49, 32, 49, 45, 50, 10]) 0 0 := by
  have := print_good 3 v exs w hE (by rw [ex_chk]) (itoa_small w (by decide))
  rw [ex_line] at this
  exact this

set_option maxRecDepth 100000 in
set_option maxHeartbeats 4000000 in
theorem codecBegun_true (w : World) : Calls Tryd.prog 4 #[] w fun e w' => e = .returned (.bool true) ∧ Below w.heap.size w w' := by
  have hex : EdgesAt (w.alloc (Obj.cells #[.int .i64 1, .int .i64 0, .int .i64 2, .int .i64 1] 34)) (.slice (some ⟨w.heap.size, 0, none⟩) 2 2) exs := edges_two (heap_alloc_new w _) (by intro e he; simp at he; rcases he with rfl | rfl <;> (constructor <;> constructor <;> decide))
  have HX : Hid _ := hex
  clear hex
  have hb0 := below2 (w := w) (Obj.cells #[.int .i64 1, .int .i64 0, .int .i64 2, .int .i64 1] 34) (Obj.cells #[.int .i64 3, .slice (some ⟨w.heap.size, 0, none⟩) 2 2] 24)
  have tg := two_newb w (Obj.cells #[.int .i64 1, .int .i64 0, .int .i64 2, .int .i64 1] 34) (.int .i64 3) (.slice (some ⟨w.heap.size, 0, none⟩) 2 2) 24
  go_enter Tryd.func4, Tryd.ntmps4
  go_upto_region 2 with fail
  have hEW : EdgesAt ((w.alloc (Obj.cells #[.int .i64 1, .int .i64 0, .int .i64 2, .int .i64 1] 34)).alloc (Obj.cells #[.int .i64 3, .slice (some ⟨w.heap.size, 0, none⟩) 2 2] 24)) (.slice (some ⟨w.heap.size, 0, none⟩) 2 2) exs := EdgesAt.below HX.out (below_alloc (Below.refl _ _) _)
  generalize (w.alloc (Obj.cells #[.int .i64 1, .int .i64 0, .int .i64 2, .int .i64 1] 34)).alloc (Obj.cells #[.int .i64 3, .slice (some ⟨w.heap.size, 0, none⟩) 2 2] 24) = W at hb0 tg hEW ⊢
  clear HX
  obtain ⟨a0, a1⟩ := cell_two tg
  go_upto_region 3 with (go_at_call 5; refine (pack_ex hEW).mono ?_; rintro e w1 ⟨rfl, hb1⟩)
  have tf := two_new w1 (.int .i64 0) (.int .i64 0) 27
  have q1 := below_next hb1 (below_alloc (Below.refl _ _) (Obj.cells #[.int .i64 0, .int .i64 0] 27))
  have tg1 := two_next tg q1
  have hE1 := hEW.below q1
  have hb1' := below_next hb0 q1
  generalize w1.heap.size = bf at tf ⊢
  generalize w1.alloc (Obj.cells #[.int .i64 0, .int .i64 0] 27) = W1 at tf tg1 hE1 hb1' ⊢
  clear a0 a1 tg hEW hb0 hb1 q1
  obtain ⟨a0, a1⟩ := cell_two tg1
  go_upto_region 4 with (go_at_call 6; refine (print_ex hE1).mono ?_; rintro e w2 ⟨rfl, hb2⟩)
  have te := two_new w2 (.int .i64 0) (.int .i64 0) 27
  have q2 := below_next hb2 (below_alloc (Below.refl _ _) (Obj.cells #[.int .i64 0, .int .i64 0] 27))
  have tf2 := two_next tf q2
  have hb2' := below_next hb1' q2
  generalize w2.heap.size = be at te ⊢
  generalize w2.alloc (Obj.cells #[.int .i64 0, .int .i64 0] 27) = W2 at te tf2 hb2' ⊢
  clear a0 a1 tg1 hE1 hb1' hb2 q2 tf
  obtain ⟨c0, c1⟩ := cell_two tf2
  obtain ⟨d0, d1⟩ := cell_two te
  go_wp2
  go_ret
  exact ⟨rfl, hb2'⟩
end Go.Proofs.YtbaghbodjpehpabDoor
