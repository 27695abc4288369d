/- The walk of CodecReads, over what the four readers tell: it answers true, and what was there stays. -/
import Derived.Test.YtbaghbodjpehpaaDoorBegun
namespace Go.Proofs.YtbaghbodjpehpaaDoor
open Go.RowKit Go.Maps
attribute [local go_sem ↓] Go.wp_at_zero Go.wp_at_succ

set_option maxRecDepth 100000 in
set_option maxHeartbeats 8000000 in
theorem reads_walk (s : ByteArray) (w : World) (A B : Ans) (h13 : ∀ w, Tells 13 #[.string s] w A) (h14 : ∀ w, Tells 14 #[.string s] w B) (h15 : ∀ w, Tells 15 #[.string s] w A) (h16 : ∀ w, Tells 16 #[.string s] w B) :
    Calls Tryd.prog 4 #[.string s] w fun e w' => e = .returned (.bool true) ∧ Below w.heap.size w w' := by
  have H13 : Hid _ := h13
  have H14 : Hid _ := h14
  have H15 : Hid _ := h15
  have H16 : Hid _ := h16
  clear h13 h14 h15 h16
  go_enter Tryd.func4, Tryd.ntmps4
  go_upto_region 2 with (go_at_call 13; refine (H13.out _).mono ?_; rintro e w1 ⟨hb1, ao1, c1, rfl, hE1, hf1⟩)
  have q1 := below2 (w := w1) (Obj.cells #[.int .i64 A.n, .slice ao1 A.es.length c1] 24) (Obj.cells #[.int .i64 A.c, .int .i64 A.pos] 27)
  have ta1 := two_alloc (two_new w1 (.int .i64 A.n) (.slice ao1 A.es.length c1) 24) (Obj.cells #[.int .i64 A.c, .int .i64 A.pos] 27)
  have tf1 := two_newb w1 (Obj.cells #[.int .i64 A.n, .slice ao1 A.es.length c1] 24) (.int .i64 A.c) (.int .i64 A.pos) 27
  have hY1 := hE1.below q1
  have hB1 := below_next hb1 q1
  generalize w1.heap.size = b1 at ta1 tf1 ⊢
  generalize (w1.alloc (Obj.cells #[.int .i64 A.n, .slice ao1 A.es.length c1] 24)).alloc (Obj.cells #[.int .i64 A.c, .int .i64 A.pos] 27) = W1 at ta1 tf1 hY1 hB1 ⊢
  clear q1 hE1 hb1 hf1 
  go_upto_region 3 with (go_at_call 14; refine (H14.out _).mono ?_; rintro e w2 ⟨hb2, ao2, c2, rfl, hE2, hf2⟩)
  have q2 := below2 (w := w2) (Obj.cells #[.int .i64 B.n, .slice ao2 B.es.length c2] 24) (Obj.cells #[.int .i64 B.c, .int .i64 B.pos] 27)
  have ta2 := two_alloc (two_new w2 (.int .i64 B.n) (.slice ao2 B.es.length c2) 24) (Obj.cells #[.int .i64 B.c, .int .i64 B.pos] 27)
  have tf2 := two_newb w2 (Obj.cells #[.int .i64 B.n, .slice ao2 B.es.length c2] 24) (.int .i64 B.c) (.int .i64 B.pos) 27
  have hY2 := hE2.below q2
  have qq2 := below_next hb2 q2
  have hB2 := below_next hB1 qq2
  replace ta1 := two_next ta1 qq2
  replace tf1 := two_next tf1 qq2
  replace hY1 := hY1.below qq2
  generalize w2.heap.size = b2 at ta2 tf2 ⊢
  generalize (w2.alloc (Obj.cells #[.int .i64 B.n, .slice ao2 B.es.length c2] 24)).alloc (Obj.cells #[.int .i64 B.c, .int .i64 B.pos] 27) = W2 at ta1 tf1 hY1 ta2 tf2 hY2 hB2 ⊢
  clear q2 hE2 hb2 hf2 qq2 hB1
  go_upto_region 4 with (go_at_call 15; refine (H15.out _).mono ?_; rintro e w3 ⟨hb3, ao3, c3, rfl, hE3, hf3⟩)
  have q3 := below2 (w := w3) (Obj.cells #[.int .i64 A.n, .slice ao3 A.es.length c3] 24) (Obj.cells #[.int .i64 A.c, .int .i64 A.pos] 27)
  have ta3 := two_alloc (two_new w3 (.int .i64 A.n) (.slice ao3 A.es.length c3) 24) (Obj.cells #[.int .i64 A.c, .int .i64 A.pos] 27)
  have tf3 := two_newb w3 (Obj.cells #[.int .i64 A.n, .slice ao3 A.es.length c3] 24) (.int .i64 A.c) (.int .i64 A.pos) 27
  have hY3 := hE3.below q3
  have qq3 := below_next hb3 q3
  have hB3 := below_next hB2 qq3
  replace ta1 := two_next ta1 qq3
  replace tf1 := two_next tf1 qq3
  replace hY1 := hY1.below qq3
  replace ta2 := two_next ta2 qq3
  replace tf2 := two_next tf2 qq3
  replace hY2 := hY2.below qq3
  generalize w3.heap.size = b3 at ta3 tf3 ⊢
  generalize (w3.alloc (Obj.cells #[.int .i64 A.n, .slice ao3 A.es.length c3] 24)).alloc (Obj.cells #[.int .i64 A.c, .int .i64 A.pos] 27) = W3 at ta1 tf1 hY1 ta2 tf2 hY2 ta3 tf3 hY3 hB3 ⊢
  clear q3 hE3 hb3 hf3 qq3 hB2
  go_upto_region 5 with (go_at_call 16; refine (H16.out _).mono ?_; rintro e w4 ⟨hb4, ao4, c4, rfl, hE4, hf4⟩)
  have q4 := below2 (w := w4) (Obj.cells #[.int .i64 B.n, .slice ao4 B.es.length c4] 24) (Obj.cells #[.int .i64 B.c, .int .i64 B.pos] 27)
  have ta4 := two_alloc (two_new w4 (.int .i64 B.n) (.slice ao4 B.es.length c4) 24) (Obj.cells #[.int .i64 B.c, .int .i64 B.pos] 27)
  have tf4 := two_newb w4 (Obj.cells #[.int .i64 B.n, .slice ao4 B.es.length c4] 24) (.int .i64 B.c) (.int .i64 B.pos) 27
  have hY4 := hE4.below q4
  have qq4 := below_next hb4 q4
  have hB4 := below_next hB3 qq4
  replace ta1 := two_next ta1 qq4
  replace tf1 := two_next tf1 qq4
  replace hY1 := hY1.below qq4
  replace ta2 := two_next ta2 qq4
  replace tf2 := two_next tf2 qq4
  replace hY2 := hY2.below qq4
  replace ta3 := two_next ta3 qq4
  replace tf3 := two_next tf3 qq4
  replace hY3 := hY3.below qq4
  generalize w4.heap.size = b4 at ta4 tf4 ⊢
  generalize (w4.alloc (Obj.cells #[.int .i64 B.n, .slice ao4 B.es.length c4] 24)).alloc (Obj.cells #[.int .i64 B.c, .int .i64 B.pos] 27) = W4 at ta1 tf1 hY1 ta2 tf2 hY2 ta3 tf3 hY3 ta4 tf4 hY4 hB4 ⊢
  clear q4 hE4 hb4 hf4 qq4 hB3
  have hne := eql27
  go_wp2_with (first | (go_at_call 9; refine (codecBegun_true _).mono ?_; rintro e w6 ⟨rfl, hb6⟩; obtain ⟨k1, k2⟩ := cell_two (two_next ta1 hb6); obtain ⟨k3, k4⟩ := cell_two (two_next tf1 hb6); obtain ⟨k5, k6⟩ := cell_two (two_next ta2 hb6); obtain ⟨k7, k8⟩ := cell_two (two_next tf2 hb6); obtain ⟨k9, k10⟩ := cell_two (two_next ta3 hb6); obtain ⟨k11, k12⟩ := cell_two (two_next tf3 hb6); obtain ⟨k13, k14⟩ := cell_two (two_next ta4 hb6); obtain ⟨k15, k16⟩ := cell_two (two_next tf4 hb6)) | (go_at_call 10; (fail_if_success (have hh := G1)); refine (same_true A.n _ _ A.es _ ?_ ?_).mono ?_; exact hY1.below hb6; exact hY3.below hb6; rintro e w7 ⟨rfl, hb7⟩; have G1 : True := trivial; have hb67 := below_next hb6 hb7; obtain ⟨m5, m6⟩ := cell_two (two_next ta2 hb67); obtain ⟨m13, m14⟩ := cell_two (two_next ta4 hb67)) | (go_at_call 10; refine (same_true B.n _ _ B.es _ ?_ ?_).mono ?_; exact hY2.below hb67; exact hY4.below hb67; rintro e w8 ⟨rfl, hb8⟩))
  go_ret
  exact ⟨rfl, below_next hB4 (below_next hb67 hb8)⟩
end Go.Proofs.YtbaghbodjpehpaaDoor
