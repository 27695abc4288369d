/- The walk of CodecWrites: it answers true, and what was there stays. -/
import Derived.Test.YtmbhmahclfdgnaaDoorBegun
namespace Go.Proofs.YtmbhmahclfdgnaaDoor
open Go.RowKit Go.Maps
attribute [local go_sem ↓] Go.wp_at_zero Go.wp_at_succ

set_option maxRecDepth 100000 in
set_option maxHeartbeats 8000000 in
theorem writes_walk (n : Int) (ao : Option Addr) (cap : Nat) (es : List Pair) (w : World) (hE : EdgesAt w (.slice ao es.length cap) es) (hcap : es.length ≤ cap) {c d : Int} {s t : ByteArray} (hchk : chk n es = (c, d))
    (hP : ∀ w' v, EdgesAt w' v es → Says 7 #[.agg #[.int .i64 n, v]] w' s c d) (hQ : ∀ w' v, Below w.heap.size w w' → EdgesAt w' v es → Says 8 #[.agg #[.int .i64 n, v]] w' t c d)
    (hcase : (c ≠ 0 ∧ s = ByteArray.mk #[] ∧ t = ByteArray.mk #[]) ∨ (c = 0 ∧ d = 0 ∧ ∃ m : Nat, n = m ∧ m ≤ 100 ∧ es.length ≤ 1000 ∧ (∀ e ∈ es, (0 ≤ e.1 ∧ e.1 < m ∧ 0 ≤ e.2 ∧ e.2 < m) ∧ e.1 ≠ e.2) ∧ s = strOfNums (packB m (hasB es)) ∧ t = strB (lineB m (allP m (hasB es))))) :
    Calls Tryd.prog 3 #[.agg #[.int .i64 n, .slice ao es.length cap]] w fun e w' => e = .returned (.bool true) ∧ Below w.heap.size w w' := by
  have HE : Hid _ := hE
  have H1 : Hid _ := hchk
  have H2 : Hid _ := hP
  have H3 : Hid _ := hQ
  have H5 : Hid _ := hcase
  clear hE hchk hP hQ hcase
  have tg0 := two_new w (.int .i64 n) (.slice ao es.length cap) 24
  have hb0 := below_alloc (Below.refl w.heap.size w) (Obj.cells #[.int .i64 n, .slice ao es.length cap] 24)
  go_enter Tryd.func3, Tryd.ntmps3
  go_upto_region 2 with (go_at_call 5; refine (own_any n ao cap es _ ?_).mono ?_; exact EdgesAt.below HE.out hb0; rintro e w1 ⟨hb1, ao1, c1, rfl, hE1, hcap1⟩)
  have q1 := below_next hb1 (below_alloc (Below.refl _ _) (Obj.cells #[.int .i64 n, .slice ao1 es.length c1] 24))
  have tg := two_next tg0 q1
  have to := two_new w1 (.int .i64 n) (.slice ao1 es.length c1) 24
  have hEo := hE1.below (below_alloc (Below.refl _ _) (Obj.cells #[.int .i64 n, .slice ao1 es.length c1] 24))
  have hBW := below_next hb0 q1
  generalize w1.heap.size = bo at to ⊢
  generalize w1.alloc (Obj.cells #[.int .i64 n, .slice ao1 es.length c1] 24) = W at tg to hEo hBW ⊢
  clear tg0 hb0 hb1 hE1 q1
  obtain ⟨a1, a2⟩ := cell_two tg
  go_upto_region 3 with (go_at_call 6; refine (refCheck_as ?_ hcap H1.out).mono ?_; exact EdgesAt.below HE.out hBW; rintro e w3 ⟨rfl, hb3⟩)
  have q3 := below_next hb3 (below_alloc (Below.refl _ _) (Obj.cells #[.int .i64 c, .int .i64 d] 27))
  have tg3 := two_next tg q3
  have to3 := two_next to q3
  have tw3 := two_new w3 (.int .i64 c) (.int .i64 d) 27
  have hEo3 := hEo.below q3
  have hB3 := below_next hBW q3
  generalize w3.heap.size = bw at tw3 ⊢
  generalize w3.alloc (Obj.cells #[.int .i64 c, .int .i64 d] 27) = W3 at tg3 to3 tw3 hEo3 hB3 ⊢
  clear tg to hEo hBW hb3 q3 a1 a2
  obtain ⟨a1, a2⟩ := cell_two to3
  go_upto_region 4 with (go_at_call 7; refine (H2.out _ _ hEo3).mono ?_; rintro e w4 ⟨rfl, hb4⟩)
  have q4 := below_next hb4 (below_alloc (Below.refl _ _) (Obj.cells #[.int .i64 c, .int .i64 d] 27))
  have tg4 := two_next tg3 q4
  have to4 := two_next to3 q4
  have tw4 := two_next tw3 q4
  have tf4 := two_new w4 (.int .i64 c) (.int .i64 d) 27
  have hEo4 := hEo3.below q4
  have hB4 := below_next hB3 q4
  generalize w4.heap.size = bf at tf4 ⊢
  generalize w4.alloc (Obj.cells #[.int .i64 c, .int .i64 d] 27) = W4 at tg4 to4 tw4 tf4 hEo4 hB4 ⊢
  clear tg3 to3 tw3 hEo3 hB3 hb4 q4 a1 a2
  obtain ⟨a1, a2⟩ := cell_two to4
  go_upto_region 5 with (go_at_call 8; refine (H3.out _ _ hB4 hEo4).mono ?_; rintro e w5 ⟨rfl, hb5⟩)
  have q5 := below_next hb5 (below_alloc (Below.refl _ _) (Obj.cells #[.int .i64 c, .int .i64 d] 27))
  have tg5 := two_next tg4 q5
  have to5 := two_next to4 q5
  have tw5 := two_next tw4 q5
  have tf5 := two_next tf4 q5
  have te5 := two_new w5 (.int .i64 c) (.int .i64 d) 27
  have hEo5 := hEo4.below q5
  have hB5 := below_next hB4 q5
  generalize w5.heap.size = be at te5 ⊢
  generalize w5.alloc (Obj.cells #[.int .i64 c, .int .i64 d] 27) = W5 at tg5 to5 tw5 tf5 te5 hEo5 hB5 ⊢
  clear tg4 to4 tw4 tf4 hEo4 hB4 hb5 q5 a1 a2
  have hne := neq27
  go_upto_region 7 with (first | (go_at_call 9; refine (codecBegun_true _).mono ?_; rintro e w6 ⟨rfl, hb6⟩; obtain ⟨b1, b2⟩ := cell_two (two_next tf5 hb6); obtain ⟨b3, b4⟩ := cell_two (two_next te5 hb6); obtain ⟨b5, b6⟩ := cell_two (two_next tw5 hb6); obtain ⟨b7, b8⟩ := cell_two (two_next to5 hb6); obtain ⟨b9, b10⟩ := cell_two (two_next tg5 hb6)) | (go_at_call 10; refine (same_true n _ _ es _ ?_ ?_).mono ?_; exact hEo5.below hb6; exact EdgesAt.below HE.out (below_next hB5 hb6); rintro e w7 ⟨rfl, hb7⟩; have hb67 := below_next hb6 hb7))
  have tw7 := two_next tw5 hb67
  have tg7 := two_next tg5 hb67
  have hB7 := below_next hB5 hb67
  clear b1 b2 b3 b4 b5 b6 b7 b8 b9 b10 tg5 to5 tw5 tf5 te5 hEo5 hB5 hb6 hb7 hb67
  obtain ⟨p1, p2⟩ := cell_two tw7
  rcases H5.out with ⟨hc, rfl, rfl⟩ | ⟨rfl, rfl, m, rfl, hm, hl, hgood, rfl, rfl⟩
  · have hc1 : (c != 0) = true := by simpa using hc
    go_wp2
    go_ret
    exact ⟨rfl, hB7⟩
  · obtain ⟨p3, p4⟩ := cell_two tg7
    have HG : Hid _ := hgood
    clear hgood H1 H2 H3 H5
    go_wp2_with (first | (go_at_call 11; refine (packed_any m _ es _ (EdgesAt.below HE.out hB7) hm hl HG.out).mono ?_; rintro e w8 ⟨rfl, hb8⟩; obtain ⟨p5, p6⟩ := cell_two (two_next tg7 hb8); have hB8 := below_next hB7 hb8) | (go_at_call 12; refine (printed_any m _ es _ (EdgesAt.below HE.out hB8) hm hl HG.out).mono ?_; rintro e w9 ⟨rfl, hb9⟩))
    go_ret
    exact ⟨rfl, below_next hB8 hb9⟩

theorem writes_any (n : Int) (ao : Option Addr) (cap : Nat) (es : List Pair) (w : World) (hE : EdgesAt w (.slice ao es.length cap) es) (hcap : es.length ≤ cap) (hI : ∀ m : Nat, m ≤ 100 → ItoaAt w m) :
    Calls Tryd.prog 3 #[.agg #[.int .i64 n, .slice ao es.length cap]] w fun e w' => e = .returned (.bool true) ∧ Below w.heap.size w w' := by
  by_cases h0 : (chk n es).1 = 0
  · obtain ⟨h1, h2, h3, h4, h5⟩ := chk_good h0
    obtain ⟨m, rfl⟩ : ∃ m : Nat, n = m := ⟨n.toNat, by omega⟩
    have hm : m ≤ 100 := by omega
    exact writes_walk m ao cap es w hE hcap h1 (fun w' v h => pack_good m v es w' h h0) (fun w' v hb h => print_good m v es w' h h0 ((hI m hm).below hb)) (Or.inr ⟨rfl, rfl, m, rfl, hm, h4, h5, rfl, rfl⟩)
  · have e : chk n es = ((chk n es).1, (chk n es).2) := rfl
    exact writes_walk n ao cap es w hE hcap e (fun w' v h => pack_bad n v es w' h e h0) (fun w' v _ h => print_bad n v es w' h e h0) (Or.inl ⟨h0, rfl, rfl⟩)
end Go.Proofs.YtmbhmahclfdgnaaDoor
