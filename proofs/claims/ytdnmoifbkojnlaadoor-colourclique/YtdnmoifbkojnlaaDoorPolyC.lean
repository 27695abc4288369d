/- Poly, and colourBegun. -/
import Derived.Test.YtdnmoifbkojnlaaDoorPartW
namespace Go.Proofs.YtdnmoifbkojnlaaDoor
open Go.RowKit Go.Maps
attribute [local go_sem ↓] Go.wp_at_zero Go.wp_at_succ

/-- The coefficients that Poly answers. -/
def polyE (N : Nat) (es : List Pair) : Nat → Int := sumF (waysE N es) (N + 1)
set_option maxRecDepth 4000 in
set_option maxHeartbeats 2000000 in
theorem poly_ok {w : World} {v : Value} {N : Nat} {es : List Pair} (hE : EdgesAt w v es) (hs : (chk N es).1 = 0) (hN : N ≤ 12) :
    Calls Tryd.prog 17 #[.agg #[.int .i64 (N : Int), v]] w fun e w' => ∃ g, e = .returned (.tuple #[sl g (N + 1), .agg #[.int .i64 0, .int .i64 0]]) ∧ w.heap.size ≤ g ∧ RowV w' g 3 (N + 1) (iv (polyE N es)) ∧ Below w.heap.size w w' := by
  obtain ⟨vo, vc, rfl⟩ := hE.form
  obtain ⟨_, _, _, _, hg⟩ := chk_good hs
  have HG : Hid (∀ e ∈ es, (0 ≤ e.1 ∧ e.1 < (N : Int) ∧ 0 ≤ e.2 ∧ e.2 < (N : Int)) ∧ e.1 ≠ e.2) := hg
  have H23 : Hid (∀ W, Below w.heap.size w W → Calls Tryd.prog 15 #[.agg #[.int .i64 (N : Int), .slice vo es.length vc], .int .i64 12] W fun e w' => ∃ gn, e = .returned (.tuple #[sl gn N, .agg #[.int .i64 0, .int .i64 0]]) ∧ W.heap.size ≤ gn ∧ RowV w' gn 57 N (fun i => .int .u32 ((nearN es i : Nat) : Int)) ∧ Below W.heap.size W w') := fun W hW => openSmall_ok (most := 12) (hE.below hW) hs hN (by omega)
  obtain ⟨n1, hn1⟩ : ∃ n1, n1 = N + 1 := ⟨_, rfl⟩
  have HN1 : Hid (n1 = N + 1) := hn1
  rw [← hn1]
  clear hE hs hg hn1
  go_enter Tryd.func17, Tryd.ntmps17
  go_upto_region 1 with (fail)
  have t1 : Two ((w.alloc (Obj.cells #[.int .i64 (N : Int), .slice vo es.length vc] 24)).alloc (Obj.cells #[.int .i64 0, .int .i64 0] 27)) w.heap.size (.int .i64 (N : Int)) (.slice vo es.length vc) 24 := two_alloc (two_new w _ _ _) _
  have t4 : Two ((w.alloc (Obj.cells #[.int .i64 (N : Int), .slice vo es.length vc] 24)).alloc (Obj.cells #[.int .i64 0, .int .i64 0] 27)) (w.heap.size + 1) (.int .i64 0) (.int .i64 0) 27 := two_nxt _ _ _ _ _
  have hB0 : Below w.heap.size w ((w.alloc (Obj.cells #[.int .i64 (N : Int), .slice vo es.length vc] 24)).alloc (Obj.cells #[.int .i64 0, .int .i64 0] 27)) := below2 _ _
  obtain ⟨b1, hb1⟩ : ∃ b, b = w.heap.size := ⟨_, rfl⟩
  obtain ⟨b3, hb3⟩ : ∃ b, b = w.heap.size + 1 := ⟨_, rfl⟩
  rw [← hb1] at t1
  rw [← hb3] at t4
  rw [← hb3, ← hb1]
  generalize ((w.alloc (Obj.cells #[.int .i64 (N : Int), .slice vo es.length vc] 24)).alloc (Obj.cells #[.int .i64 0, .int .i64 0] 27)) = W0 at t1 t4 hB0 ⊢
  have hlow : w.heap.size ≤ b3 := by omega
  have HT3 : Hid (Two W0 b3 (.int .i64 0) (.int .i64 0) 27) := t4
  obtain ⟨q0, q1⟩ := cell_two t1
  clear hb1 hb3 t4
  go_upto_region 2 with (first | (go_at_call 15; refine (H23.out _ hB0).mono ?_; rintro e W1 ⟨gn, rfl, hgn, hrg, hbb⟩) | go_in)
  have hb1a := below_alloc hbb (Obj.cells #[.int .i64 0, .int .i64 0] 27)
  have t5 := two_new W1 (.int .i64 0) (.int .i64 0) 27
  have t31 := two_next HT3.out hb1a
  have hr1 := rowV_next hrg (below_alloc (Below.refl _ W1) (Obj.cells #[.int .i64 0, .int .i64 0] 27))
  have hB1 := below_next hB0 hb1a
  obtain ⟨b5, hb5⟩ : ∃ b, b = W1.heap.size := ⟨_, rfl⟩
  rw [← hb5] at t5 ⊢
  generalize W1.alloc (Obj.cells #[.int .i64 0, .int .i64 0] 27) = W2 at t5 t31 hr1 hB1 ⊢
  obtain ⟨q2, q3⟩ := cell_two t5
  have HT31 : Hid (Two W2 b3 (.int .i64 0) (.int .i64 0) 27) := t31
  have hb32 := lt_of_block t31
  have h30 := partings_call hN hr1 HG.out
  have H30 : Hid (Calls Tryd.prog 31 #[sl gn N] W2 fun e w' => ∃ g, e = .returned (sl g (N + 1)) ∧ W2.heap.size ≤ g ∧ RowV w' g 3 (N + 1) (iv (waysE N es)) ∧ Below W2.heap.size W2 w') := h30
  have H29 : Hid (∀ (W : World) (g : Nat), RowV W g 3 (N + 1) (iv (waysE N es)) → Calls Tryd.prog 30 #[sl g (N + 1)] W fun e w' => ∃ g', e = .returned (sl g' (N + 1)) ∧ W.heap.size ≤ g' ∧ RowV w' g' 3 (N + 1) (iv (polyE N es)) ∧ Below W.heap.size W w') := fun W g h => sumOfFalling_call h (by omega)
  rw [← HN1.out] at H30 H29
  clear q0 q1 t1 HT3 H23 hb1a hbb hrg hr1 hb5 h30 t31 HG
  go_upto_region 4 with (fail)
  clear q2 q3 t5
  go_wp2_with (first | (go_at_call 31; refine Calls.mono H30.out ?_; rintro e W3 ⟨g3, rfl, hg3, hr3, hb3⟩; have HR3 : Hid (RowV W3 g3 3 n1 (iv (waysE N es))) := hr3; clear hr3) | (go_at_call 30; refine Calls.mono (H29.out _ _ HR3.out) ?_; rintro e W4 ⟨g4, rfl, hg4, hr4, hb4⟩; have t34 := two_next HT31.out (below_next hb3 hb4); have ff := free_two t34; obtain ⟨q2, q3⟩ := cell_two t34; have HR4 : Hid (RowV W4 g4 3 n1 (iv (polyE N es))) := hr4; clear hr4) | go_in)
  have hB4 := below_next hB1 (below_next hb3 hb4)
  have x9 := two_setN (x' := .int .i64 0) (y' := .int .i64 0) t34
  have hB9 := (hB4.setCell (p := ⟨b3, 0, none⟩) hlow (.int .i64 0)).setCell (p := ⟨b3, 1, none⟩) hlow (.int .i64 0)
  have T9 := (setCell_turns W4 b3 0 (.int .i64 0)).trans (setCell_turns (W4.setCell ⟨b3, 0, none⟩ (.int .i64 0)) b3 1 (.int .i64 0))
  have hz1 := hb3.size
  have hz2 := hB1.size
  have r9 := HR4.out.turns T9 (fun e => by omega)
  clear T9
  generalize ((W4.setCell ⟨b3, 0, none⟩ (.int .i64 0)).setCell ⟨b3, 1, none⟩ (.int .i64 0)) = W9 at x9 hB9 r9 ⊢
  obtain ⟨n8, n81⟩ := cell_two x9
  refine bodyPost_ret (v := .tuple #[sl g4 n1, .agg #[.int .i64 0, .int .i64 0]]) ?_ rfl ⟨g4, rfl, by omega, r9, hB9⟩
  simp [results, Tryd.results17, go_sem, n8, n81]
def ring5 : List Pair := [(0, 1), (1, 2), (2, 3), (3, 4), (0, 4)]
theorem ring5_ok : (chk ((5 : Nat) : Int) ring5).1 = 0 := by decide +kernel
theorem ring5_poly : polyE 5 ring5 0 = 0 ∧ polyE 5 ring5 1 = 4 ∧ polyE 5 ring5 2 = -10 ∧ polyE 5 ring5 3 = 10 ∧ polyE 5 ring5 4 = -5 ∧ polyE 5 ring5 5 = 1 := by decide +kernel
theorem edges5 {w : World} {b : Nat} (h : Box w b #[.int .i64 0, .int .i64 1, .int .i64 1, .int .i64 2, .int .i64 2, .int .i64 3, .int .i64 3, .int .i64 4, .int .i64 0, .int .i64 4] 52) : EdgesAt w (.slice (some ⟨b, 0, none⟩) 5 5) ring5 := by
  refine ⟨_, 5, rfl, by simp [ring5], fun e he => ?_, fun k hk => ⟨b, 0, rfl, ?_⟩⟩
  · simp [ring5] at he
    rcases he with rfl | rfl | rfl | rfl | rfl <;> exact ⟨I64.mk (by omega) (by omega), I64.mk (by omega) (by omega)⟩
  · match k, hk with
    | 0, _ => exact ⟨box_cell h rfl, box_cell h rfl⟩
    | 1, _ => exact ⟨box_cell h rfl, box_cell h rfl⟩
    | 2, _ => exact ⟨box_cell h rfl, box_cell h rfl⟩
    | 3, _ => exact ⟨box_cell h rfl, box_cell h rfl⟩
    | 4, _ => exact ⟨box_cell h rfl, box_cell h rfl⟩
set_option maxHeartbeats 1000000 in
theorem five_call (w : World) : Calls Tryd.prog 18 #[] w fun e w' => ∃ v, e = .returned (.agg #[.int .i64 5, v]) ∧ EdgesAt w' v ring5 ∧ Below w.heap.size w w' := by
  go_enter Tryd.func18, Tryd.ntmps18
  go_wp2
  have hx : Box ((w.alloc (Obj.cells #[.int .i64 5, .slice (some ⟨w.heap.size + 1, 0, none⟩) 5 5] 24)).alloc (Obj.cells #[.int .i64 0, .int .i64 1, .int .i64 1, .int .i64 2, .int .i64 2, .int .i64 3, .int .i64 3, .int .i64 4, .int .i64 0, .int .i64 4] 52)) (w.heap.size + 1) #[.int .i64 0, .int .i64 1, .int .i64 1, .int .i64 2, .int .i64 2, .int .i64 3, .int .i64 3, .int .i64 4, .int .i64 0, .int .i64 4] 52 := atk (by simp)
  have t0 : Two ((w.alloc (Obj.cells #[.int .i64 5, .slice (some ⟨w.heap.size + 1, 0, none⟩) 5 5] 24)).alloc (Obj.cells #[.int .i64 0, .int .i64 1, .int .i64 1, .int .i64 2, .int .i64 2, .int .i64 3, .int .i64 3, .int .i64 4, .int .i64 0, .int .i64 4] 52)) w.heap.size (.int .i64 5) (.slice (some ⟨w.heap.size + 1, 0, none⟩) 5 5) 24 := two_alloc (two_new _ _ _ _) _
  have hB : Below w.heap.size w ((w.alloc (Obj.cells #[.int .i64 5, .slice (some ⟨w.heap.size + 1, 0, none⟩) 5 5] 24)).alloc (Obj.cells #[.int .i64 0, .int .i64 1, .int .i64 1, .int .i64 2, .int .i64 2, .int .i64 3, .int .i64 3, .int .i64 4, .int .i64 0, .int .i64 4] 52)) := below2 _ _
  generalize ((w.alloc (Obj.cells #[.int .i64 5, .slice (some ⟨w.heap.size + 1, 0, none⟩) 5 5] 24)).alloc (Obj.cells #[.int .i64 0, .int .i64 1, .int .i64 1, .int .i64 2, .int .i64 2, .int .i64 3, .int .i64 3, .int .i64 4, .int .i64 0, .int .i64 4] 52)) = W9 at hx t0 hB ⊢
  obtain ⟨n8, n81⟩ := cell_two t0
  refine bodyPost_ret (v := .agg #[.int .i64 5, .slice (some ⟨w.heap.size + 1, 0, none⟩) 5 5]) ?_ rfl ⟨_, rfl, edges5 hx, hB⟩
  simp [results, Tryd.results18, go_sem, n8, n81]
theorem row6_ints {w : World} {b : Nat} {f : Nat → Int} (h : RowV w b 3 6 (iv f)) (h0 : f 0 = 0) (h1 : f 1 = 4) (h2 : f 2 = -10) (h3 : f 3 = 10) (h4 : f 4 = -5) (h5 : f 5 = 1) : IntsAt w (sl b 6) [0, 4, -10, 10, -5, 1] := by
  refine ⟨_, 6, rfl, by simp, fun z hz => ?_, fun k hk => ⟨b, 0, rfl, ?_⟩⟩
  · simp at hz
    rcases hz with rfl | rfl | rfl | rfl | rfl | rfl <;> exact I64.mk (by omega) (by omega)
  · have hc := h.cell (j := k) hk
    unfold iv at hc
    rw [Nat.zero_add]
    match k, hk with
    | 0, _ => rw [hc, h0]; rfl
    | 1, _ => rw [hc, h1]; rfl
    | 2, _ => rw [hc, h2]; rfl
    | 3, _ => rw [hc, h3]; rfl
    | 4, _ => rw [hc, h4]; rfl
    | 5, _ => rw [hc, h5]; rfl
theorem box6_ints {w : World} {b : Nat} (h : Box w b #[.int .i64 0, .int .i64 4, .int .i64 (-10), .int .i64 10, .int .i64 (-5), .int .i64 1] 3) : IntsAt w (sl b 6) [0, 4, -10, 10, -5, 1] := by
  refine ⟨_, 6, rfl, by simp, fun z hz => ?_, fun k hk => ⟨b, 0, rfl, ?_⟩⟩
  · simp at hz
    rcases hz with rfl | rfl | rfl | rfl | rfl | rfl <;> exact I64.mk (by omega) (by omega)
  · rw [Nat.zero_add]
    match k, hk with
    | 0, _ => exact box_cell h rfl
    | 1, _ => exact box_cell h rfl
    | 2, _ => exact box_cell h rfl
    | 3, _ => exact box_cell h rfl
    | 4, _ => exact box_cell h rfl
    | 5, _ => exact box_cell h rfl
set_option maxRecDepth 4000 in
set_option maxHeartbeats 1000000 in
theorem begun_call (w : World) : Calls Tryd.prog 7 #[] w fun e w' => e = .returned (.bool true) ∧ Below w.heap.size w w' := by
  have H14 : Hid (∀ (W : World) (v : Value), EdgesAt W v ring5 → Calls Tryd.prog 17 #[.agg #[.int .i64 5, v]] W fun e w' => ∃ g, e = .returned (.tuple #[sl g 6, .agg #[.int .i64 0, .int .i64 0]]) ∧ IntsAt w' (sl g 6) [0, 4, -10, 10, -5, 1] ∧ Below W.heap.size W w') := fun W v h => by
    refine (poly_ok (N := 5) h ring5_ok (by omega)).mono ?_
    rintro e w' ⟨g, rfl, _, hr, hb⟩
    obtain ⟨h0, h1, h2, h3, h4, h5⟩ := ring5_poly
    exact ⟨g, rfl, row6_ints hr h0 h1 h2 h3 h4 h5, hb⟩
  go_enter Tryd.func7, Tryd.ntmps7
  go_upto_region 2 with (first | (go_at_call 18; refine Calls.mono (five_call _) ?_; rintro e W1 ⟨v, rfl, hE, hb1⟩; have HE : Hid (EdgesAt W1 v ring5) := hE; clear hE) | (go_at_call 17; refine Calls.mono (H14.out _ _ HE.out) ?_; rintro e W2 ⟨g, rfl, hi, hb2⟩; have HI : Hid (IntsAt W2 (sl g 6) [0, 4, -10, 10, -5, 1]) := hi; clear hi) | go_in)
  have hB2 := below_next hb1 hb2
  have t2 := two_new W2 (.int .i64 0) (.int .i64 0) 27
  have hb3 := below_alloc (Below.refl _ W2) (Obj.cells #[.int .i64 0, .int .i64 0] 27)
  have HI3 : Hid (IntsAt (W2.alloc (Obj.cells #[.int .i64 0, .int .i64 0] 27)) (sl g 6) [0, 4, -10, 10, -5, 1]) := HI.out.below hb3
  have hB3 := below_next hB2 hb3
  obtain ⟨b2, hb2'⟩ : ∃ b, b = W2.heap.size := ⟨_, rfl⟩
  rw [← hb2'] at t2 ⊢
  generalize W2.alloc (Obj.cells #[.int .i64 0, .int .i64 0] 27) = W3 at t2 HI3 hB3 ⊢
  obtain ⟨q0, q1⟩ := cell_two t2
  have h26 := ints_true (sl g 6) (sl W3.heap.size 6) [0, 4, -10, 10, -5, 1] (W3.alloc (Obj.cells #[.int .i64 0, .int .i64 4, .int .i64 (-10), .int .i64 10, .int .i64 (-5), .int .i64 1] 3)) (HI3.out.below (below_alloc (Below.refl _ W3) _)) (box6_ints (heap_alloc_new _ _))
  have H26 : Hid (Calls Tryd.prog 9 #[sl g 6, sl W3.heap.size 6] (W3.alloc (Obj.cells #[.int .i64 0, .int .i64 4, .int .i64 (-10), .int .i64 10, .int .i64 (-5), .int .i64 1] 3)) fun e w' => e = .returned (.bool true) ∧ Below (W3.alloc (Obj.cells #[.int .i64 0, .int .i64 4, .int .i64 (-10), .int .i64 10, .int .i64 (-5), .int .i64 1] 3)).heap.size (W3.alloc (Obj.cells #[.int .i64 0, .int .i64 4, .int .i64 (-10), .int .i64 10, .int .i64 (-5), .int .i64 1] 3)) w') := h26
  clear h26 HI HI3 H14 hb1 hb2 hb3 hB2 hb2' t2
  go_wp2_with (first | (go_at_call 9; refine Calls.mono H26.out ?_; rintro e W9 ⟨rfl, hb9⟩) | go_in)
  go_ret
  exact ⟨rfl, below_next (below_alloc hB3 _) hb9⟩
end Go.Proofs.YtdnmoifbkojnlaaDoor
