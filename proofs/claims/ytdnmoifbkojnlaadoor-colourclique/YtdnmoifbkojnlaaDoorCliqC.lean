/- Clique. -/
import Derived.Test.YtdnmoifbkojnlaaDoorGreat
import Derived.Test.YtdnmoifbkojnlaaDoorPolyC
namespace Go.Proofs.YtdnmoifbkojnlaaDoor
open Go.RowKit Go.Maps
attribute [local go_sem ↓] Go.wp_at_zero Go.wp_at_succ

set_option maxRecDepth 4000 in
set_option maxHeartbeats 2000000 in
theorem clique_bad {w : World} {v : Value} {n : Int} {es : List Pair} (hE : EdgesAt w v es) {c d : Int} (hs : smallF n es 24 = (c, d)) (hc : c ≠ 0) :
    Calls Tryd.prog 6 #[.agg #[.int .i64 n, v]] w fun e w' => e = .returned (.tuple #[.slice none 0 0, .agg #[.int .i64 c, .int .i64 d]]) ∧ Below w.heap.size w w' := by
  obtain ⟨vo, vc, rfl⟩ := hE.form
  have H23 : Hid (∀ W, Below w.heap.size w W → Calls Tryd.prog 15 #[.agg #[.int .i64 n, .slice vo es.length vc], .int .i64 24] W fun e w' => e = .returned (.tuple #[.slice none 0 0, .agg #[.int .i64 c, .int .i64 d]]) ∧ Below W.heap.size W w') := fun W hW => openSmall_bad (most := 24) (hE.below hW) hs hc
  have k1 : (c != 0) = true := by simp [hc]
  clear hE hs hc
  go_enter Tryd.func6, Tryd.ntmps6
  go_upto_region 1 with (fail)
  have t1 : Two ((w.alloc (Obj.cells #[.int .i64 n, .slice vo es.length vc] 24)).alloc (Obj.cells #[.int .i64 0, .int .i64 0] 27)) w.heap.size (.int .i64 n) (.slice vo es.length vc) 24 := two_alloc (two_new w _ _ _) _
  have t4 : Two ((w.alloc (Obj.cells #[.int .i64 n, .slice vo es.length vc] 24)).alloc (Obj.cells #[.int .i64 0, .int .i64 0] 27)) (w.heap.size + 1) (.int .i64 0) (.int .i64 0) 27 := two_nxt _ _ _ _ _
  have hB0 : Below w.heap.size w ((w.alloc (Obj.cells #[.int .i64 n, .slice vo es.length vc] 24)).alloc (Obj.cells #[.int .i64 0, .int .i64 0] 27)) := below2 _ _
  obtain ⟨b1, hb1⟩ : ∃ b, b = w.heap.size := ⟨_, rfl⟩
  obtain ⟨b4, hb4⟩ : ∃ b, b = w.heap.size + 1 := ⟨_, rfl⟩
  rw [← hb1] at t1
  rw [← hb4] at t4
  rw [← hb4, ← hb1]
  generalize ((w.alloc (Obj.cells #[.int .i64 n, .slice vo es.length vc] 24)).alloc (Obj.cells #[.int .i64 0, .int .i64 0] 27)) = W0 at t1 t4 hB0 ⊢
  have hlow : w.heap.size ≤ b4 := by omega
  have HT4 : Hid (Two W0 b4 (.int .i64 0) (.int .i64 0) 27) := t4
  obtain ⟨q0, q1⟩ := cell_two t1
  clear hb1 hb4 t4
  go_upto_region 2 with (first | (go_at_call 15; refine (H23.out _ hB0).mono ?_; rintro e W1 ⟨rfl, hbb⟩) | go_in)
  have t5 := two_new W1 (.int .i64 c) (.int .i64 d) 27
  have hb5a := below_alloc hbb (Obj.cells #[.int .i64 c, .int .i64 d] 27)
  have t41 := two_next HT4.out hb5a
  have hB1 := below_next hB0 hb5a
  obtain ⟨b5, hb5⟩ : ∃ b, b = W1.heap.size := ⟨_, rfl⟩
  rw [← hb5] at t5 ⊢
  generalize W1.alloc (Obj.cells #[.int .i64 c, .int .i64 d] 27) = W2 at t5 t41 hB1 hb5a ⊢
  obtain ⟨q2, q3⟩ := cell_two t5
  have ff := free_two t41
  obtain ⟨q4, q5⟩ := cell_two t41
  clear q0 q1 t1 hbb H23 hb5 t5 hb5a
  go_upto_region 3 with (fail)
  go_region
  all_goals
    go_wp2
    have y9 := two_setN (x' := .int .i64 c) (y' := .int .i64 d) t41
    have hB8 := (hB1.setCell (p := ⟨b4, 0, none⟩) hlow (.int .i64 c)).setCell (p := ⟨b4, 1, none⟩) hlow (.int .i64 d)
    generalize ((W2.setCell ⟨b4, 0, none⟩ (.int .i64 c)).setCell ⟨b4, 1, none⟩ (.int .i64 d)) = W3 at y9 hB8 ⊢
    have z9 : Two W3.drew b4 (.int .i64 c) (.int .i64 d) 27 := y9
    obtain ⟨n8, n81⟩ := cell_two z9
    refine bodyPost_ret (v := .tuple #[.slice none 0 0, .agg #[.int .i64 c, .int .i64 d]]) ?_ rfl ⟨rfl, hB8.drew⟩
    simp [results, Tryd.results6, go_sem, n8, n81]
set_option maxRecDepth 4000 in
set_option maxHeartbeats 2000000 in
theorem clique_ok {w : World} {v : Value} {N : Nat} {es : List Pair} (hE : EdgesAt w v es) (hs : (chk N es).1 = 0) (hN : N ≤ 24) (ht : T32 w) {T : List Nat} {tn : Nat} (hT : T = cq (adjE es) (List.range N) [] []) (htn : tn = T.length) :
    Calls Tryd.prog 6 #[.agg #[.int .i64 (N : Int), v]] w fun e w' => ∃ bo bc, e = .returned (.tuple #[.slice bo tn bc, .agg #[.int .i64 0, .int .i64 0]]) ∧ NumsAt w' bo T ∧ Below w.heap.size w w' := by
  obtain ⟨vo, vc, rfl⟩ := hE.form
  obtain ⟨_, _, _, _, hg⟩ := chk_good hs
  have HG : Hid (∀ e ∈ es, (0 ≤ e.1 ∧ e.1 < (N : Int) ∧ 0 ≤ e.2 ∧ e.2 < (N : Int)) ∧ e.1 ≠ e.2) := hg
  have H23 : Hid (∀ W, Below w.heap.size w W → Calls Tryd.prog 15 #[.agg #[.int .i64 (N : Int), .slice vo es.length vc], .int .i64 24] W fun e w' => ∃ gn, e = .returned (.tuple #[sl gn N, .agg #[.int .i64 0, .int .i64 0]]) ∧ W.heap.size ≤ gn ∧ RowV w' gn 57 N (fun i => .int .u32 ((nearN es i : Nat) : Int)) ∧ Below W.heap.size W w') := fun W hW => openSmall_ok (most := 24) (hE.below hW) hs hN hN
  have HT : Hid (T = cq (adjE es) (List.range N) [] []) := hT
  have HTN : Hid (tn = T.length) := htn
  have HTAB : Hid (T32 w) := ht
  clear hE hs hg hT htn ht
  go_enter Tryd.func6, Tryd.ntmps6
  go_upto_region 1 with (fail)
  have t1 : Two ((w.alloc (Obj.cells #[.int .i64 (N : Int), .slice vo es.length vc] 24)).alloc (Obj.cells #[.int .i64 0, .int .i64 0] 27)) w.heap.size (.int .i64 (N : Int)) (.slice vo es.length vc) 24 := two_alloc (two_new w _ _ _) _
  have t4 : Two ((w.alloc (Obj.cells #[.int .i64 (N : Int), .slice vo es.length vc] 24)).alloc (Obj.cells #[.int .i64 0, .int .i64 0] 27)) (w.heap.size + 1) (.int .i64 0) (.int .i64 0) 27 := two_nxt _ _ _ _ _
  have hB0 : Below w.heap.size w ((w.alloc (Obj.cells #[.int .i64 (N : Int), .slice vo es.length vc] 24)).alloc (Obj.cells #[.int .i64 0, .int .i64 0] 27)) := below2 _ _
  obtain ⟨b1, hb1⟩ : ∃ b, b = w.heap.size := ⟨_, rfl⟩
  obtain ⟨b3, hb3⟩ : ∃ b, b = w.heap.size + 1 := ⟨_, rfl⟩
  rw [← hb1] at t1
  rw [← hb3] at t4
  rw [← hb3, ← hb1]
  generalize ((w.alloc (Obj.cells #[.int .i64 (N : Int), .slice vo es.length vc] 24)).alloc (Obj.cells #[.int .i64 0, .int .i64 0] 27)) = W0 at t1 t4 hB0 ⊢
  have hlow : w.heap.size ≤ b3 := by omega
  have HT3 : Hid (Two W0 b3 (.int .i64 0) (.int .i64 0) 27) := t4
  obtain ⟨q0, q1⟩ := cell_two t1
  clear hb1 hb3 t4
  go_upto_region 2 with (first | (go_at_call 15; refine (H23.out _ hB0).mono ?_; rintro e W1 ⟨gn, rfl, hgn, hrg, hbb⟩) | go_in)
  have hb1a := below_alloc hbb (Obj.cells #[.int .i64 0, .int .i64 0] 27)
  have t5 := two_new W1 (.int .i64 0) (.int .i64 0) 27
  have t31 := two_next HT3.out hb1a
  have hr1 := rowV_next hrg (below_alloc (Below.refl _ W1) (Obj.cells #[.int .i64 0, .int .i64 0] 27))
  have hB1 := below_next hB0 hb1a
  obtain ⟨b5, hb5⟩ : ∃ b, b = W1.heap.size := ⟨_, rfl⟩
  rw [← hb5] at t5 ⊢
  generalize W1.alloc (Obj.cells #[.int .i64 0, .int .i64 0] 27) = W2 at t5 t31 hr1 hB1 ⊢
  obtain ⟨q2, q3⟩ := cell_two t5
  have HT31 : Hid (Two W2 b3 (.int .i64 0) (.int .i64 0) 27) := t31
  have hb32 := lt_of_block t31
  have ht2 : T32 W2 := t32_turns HTAB.out (Turns.of_below hB1 (fun _ => False)) id
  have h16 := greatest_call (adj := adjE es) hN hr1 (fun v z hv => nearN_bit v es HG.out z) (fun v hv => Nat.lt_of_lt_of_le (nearN_lt v HG.out) (by have : (2 : Nat) ^ N ≤ 2 ^ 32 := Nat.pow_le_pow_right (by omega) (by omega); simpa using this)) ht2 HT.out
  rw [← HTN.out] at h16
  have H16 : Hid (Calls Tryd.prog 16 #[sl gn N] W2 fun e w' => ∃ bo bc, e = .returned (.slice bo tn bc) ∧ NumsAt w' bo T ∧ (∀ x, bo = some x → W2.heap.size ≤ x.block) ∧ Below W2.heap.size W2 w') := h16
  clear q0 q1 t1 HT3 H23 hb1a hbb hrg hr1 hb5 h16 t31 HG
  go_upto_region 4 with (fail)
  clear q2 q3 t5
  go_wp2_with (first | (go_at_call 16; refine Calls.mono H16.out ?_; rintro e W4 ⟨bo, bc, rfl, hn4, hbl4, hb4⟩; have HBL : Hid (∀ x, bo = some x → W2.heap.size ≤ x.block) := hbl4; clear hbl4; have t34 := two_next HT31.out hb4; have ff := free_two t34; obtain ⟨q2, q3⟩ := cell_two t34; have HN4 : Hid (NumsAt W4 bo T) := hn4; clear hn4) | go_in)
  have hB4 := below_next hB1 hb4
  have x9 := two_setN (x' := .int .i64 0) (y' := .int .i64 0) t34
  have hB9 := (hB4.setCell (p := ⟨b3, 0, none⟩) hlow (.int .i64 0)).setCell (p := ⟨b3, 1, none⟩) hlow (.int .i64 0)
  have r9 : NumsAt ((W4.setCell ⟨b3, 0, none⟩ (.int .i64 0)).setCell ⟨b3, 1, none⟩ (.int .i64 0)) bo T := fun i u hu => by
    obtain ⟨b, e, hc⟩ := HN4.out i u hu
    refine ⟨b, e, ?_⟩
    have hge : W2.heap.size ≤ b := HBL.out _ e
    have hne : b ≠ b3 := by omega
    rw [World.cell?_of_block (w := W4)]
    · exact hc
    · rw [Below.heap_setCell _ _ _ _ hne, Below.heap_setCell _ _ _ _ hne]
  generalize ((W4.setCell ⟨b3, 0, none⟩ (.int .i64 0)).setCell ⟨b3, 1, none⟩ (.int .i64 0)) = W9 at x9 hB9 r9 ⊢
  obtain ⟨n8, n81⟩ := cell_two x9
  refine bodyPost_ret (v := .tuple #[.slice bo tn bc, .agg #[.int .i64 0, .int .i64 0]]) ?_ rfl ⟨bo, bc, rfl, r9, hB9⟩
  simp [results, Tryd.results6, go_sem, n8, n81]
end Go.Proofs.YtdnmoifbkojnlaaDoor
