/- Poly of a graph with a fault. -/
import Derived.Test.YtdnmoifbkojnlaaPolyC
namespace Go.Proofs.Ytdnmoifbkojnlaa
open Go.RowKit Go.Maps
attribute [local go_sem ↓] Go.wp_at_zero Go.wp_at_succ

set_option maxRecDepth 4000 in
set_option maxHeartbeats 2000000 in
theorem poly_bad {w : World} {v : Value} {n : Int} {es : List Pair} (hE : EdgesAt w v es) {c d : Int} (hs : smallF n es 12 = (c, d)) (hc : c ≠ 0) :
    Calls Try.prog 14 #[.agg #[.int .i64 n, v]] w fun e w' => e = .returned (.tuple #[.slice none 0 0, .agg #[.int .i64 c, .int .i64 d]]) ∧ Below w.heap.size w w' := by
  obtain ⟨vo, vc, rfl⟩ := hE.form
  have H23 : Hid (∀ W, Below w.heap.size w W → Calls Try.prog 23 #[.agg #[.int .i64 n, .slice vo es.length vc], .int .i64 12] W fun e w' => e = .returned (.tuple #[.slice none 0 0, .agg #[.int .i64 c, .int .i64 d]]) ∧ Below W.heap.size W w') := fun W hW => openSmall_bad (most := 12) (hE.below hW) hs hc
  have k1 : (c != 0) = true := by simp [hc]
  clear hE hs hc
  go_enter Try.func14, Try.ntmps14
  go_upto_region 1 with (fail)
  have t1 : Two ((w.alloc (Obj.cells #[.int .i64 n, .slice vo es.length vc] 24)).alloc (Obj.cells #[.int .i64 0, .int .i64 0] 27)) w.heap.size (.int .i64 n) (.slice vo es.length vc) 24 := two_alloc (two_new w _ _ _) _
  have t4 : Two ((w.alloc (Obj.cells #[.int .i64 n, .slice vo es.length vc] 24)).alloc (Obj.cells #[.int .i64 0, .int .i64 0] 27)) (w.heap.size + 1) (.int .i64 0) (.int .i64 0) 27 := two_nxt _ _ _ _ _
  have hB0 : Below w.heap.size w ((w.alloc (Obj.cells #[.int .i64 n, .slice vo es.length vc] 24)).alloc (Obj.cells #[.int .i64 0, .int .i64 0] 27)) := below2 _ _
  obtain ⟨b1, hb1⟩ : ∃ b, b = w.heap.size := ⟨_, rfl⟩
  obtain ⟨b4, hb4⟩ : ∃ b, b = w.heap.size + 1 := ⟨_, rfl⟩
  rw [← hb1] at t1
  rw [← hb4] at t4
  rw [← hb4, ← hb1]
  generalize ((w.alloc (Obj.cells #[.int .i64 n, .slice vo es.length vc] 24)).alloc (Obj.cells #[.int .i64 0, .int .i64 0] 27)) = W0 at t1 t4 hB0 ⊢
  have hlow : w.heap.size ≤ b4 := by omega
  have HT4 : Hid (Two W0 b4 (.int .i64 0) (.int .i64 0) 27) := t4
  obtain ⟨q0, q1⟩ := cell_two t1
  clear hb1 hb4 t4
  go_upto_region 2 with (first | (go_at_call 23; refine (H23.out _ hB0).mono ?_; rintro e W1 ⟨rfl, hbb⟩) | go_in)
  have t5 := two_new W1 (.int .i64 c) (.int .i64 d) 27
  have hb5a := below_alloc hbb (Obj.cells #[.int .i64 c, .int .i64 d] 27)
  have t41 := two_next HT4.out hb5a
  have hB1 := below_next hB0 hb5a
  obtain ⟨b5, hb5⟩ : ∃ b, b = W1.heap.size := ⟨_, rfl⟩
  rw [← hb5] at t5 ⊢
  generalize W1.alloc (Obj.cells #[.int .i64 c, .int .i64 d] 27) = W2 at t5 t41 hB1 hb5a ⊢
  obtain ⟨q2, q3⟩ := cell_two t5
  have ff := free_two t41
  obtain ⟨q4, q5⟩ := cell_two t41
  clear q0 q1 t1 hbb H23 hb5 t5 hb5a
  go_upto_region 3 with (fail)
  go_region
  all_goals
    go_wp2
    have y9 := two_setN (x' := .int .i64 c) (y' := .int .i64 d) t41
    have hB8 := (hB1.setCell (p := ⟨b4, 0, none⟩) hlow (.int .i64 c)).setCell (p := ⟨b4, 1, none⟩) hlow (.int .i64 d)
    generalize ((W2.setCell ⟨b4, 0, none⟩ (.int .i64 c)).setCell ⟨b4, 1, none⟩ (.int .i64 d)) = W3 at y9 hB8 ⊢
    have z9 : Two W3.drew b4 (.int .i64 c) (.int .i64 d) 27 := y9
    obtain ⟨n8, n81⟩ := cell_two z9
    refine bodyPost_ret (v := .tuple #[.slice none 0 0, .agg #[.int .i64 c, .int .i64 d]]) ?_ rfl ⟨rfl, hB8.drew⟩
    simp [results, Try.results14, go_sem, n8, n81]
end Go.Proofs.Ytdnmoifbkojnlaa
