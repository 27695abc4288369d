/- ColourVizing's walk. -/
import Derived.Test.YtdnmoifbkojnlaaEdgesV
import Derived.Test.YtdnmoifbkojnlaaOfG
import Derived.Test.YtdnmoifbkojnlaaPolyC
import Derived.Test.YtdnmoifbkojnlaaSmallF
namespace Go.Proofs.Ytdnmoifbkojnlaa
open Go.RowKit Go.Maps
attribute [local go_sem ↓] Go.wp_at_zero Go.wp_at_succ

set_option maxRecDepth 4000 in
set_option maxHeartbeats 3000000 in
theorem vizLaw_bad {w : World} {n : Int} {vo : Option Addr} {vc : Nat} {es : List Pair} (hE : EdgesAt w (.slice vo es.length vc) es) (hcap : es.length ≤ vc) {c d : Int} (hs : chk n es = (c, d)) (hc : c ≠ 0) :
    Calls Try.prog 5 #[.agg #[.int .i64 n, .slice vo es.length vc]] w fun e w' => e = .returned (.bool true) ∧ Below w.heap.size w w' := by
  have HE : Hid (EdgesAt w (.slice vo es.length vc) es) := hE
  have HS : Hid (chk n es = (c, d)) := hs
  have HFS : Hid (formS n es = ⟨0, [], c, d⟩) := by
    show formS n es = ⟨0, [], c, d⟩
    unfold formS
    rw [hs, if_neg hc]
  have HC : Hid (c ≠ 0) := hc
  have kc : (c != 0) = true := by simp [hc]
  clear hE hs hc
  go_enter Try.func5, Try.ntmps5
  go_upto_region 1 with (fail)
  have t1 := two_new w (.int .i64 n) (.slice vo es.length vc) 24
  have hB0 := below_alloc (Below.refl _ w) (Obj.cells #[.int .i64 n, .slice vo es.length vc] 24)
  obtain ⟨b1, hb1⟩ : ∃ b, b = w.heap.size := ⟨_, rfl⟩
  rw [← hb1] at t1 ⊢
  generalize w.alloc (Obj.cells #[.int .i64 n, .slice vo es.length vc] 24) = W0 at t1 hB0 ⊢
  have HT1 : Hid (Two W0 b1 (.int .i64 n) (.slice vo es.length vc) 24) := t1
  obtain ⟨q0, q1⟩ := cell_two t1
  have h6 := own_any n vo vc es W0 (HE.out.below hB0)
  have H6 : Hid (Calls Try.prog 6 #[.agg #[.int .i64 n, .slice vo es.length vc]] W0 fun e w' => Below W0.heap.size W0 w' ∧ ∃ ao c, e = .returned (.agg #[.int .i64 n, .slice ao es.length c]) ∧ EdgesAt w' (.slice ao es.length c) es ∧ es.length ≤ c) := h6
  clear hb1 h6 t1
  go_upto_region 2 with (first | (go_at_call 6; refine Calls.mono H6.out ?_; rintro e W1 ⟨hb1, ao, ac, rfl, hEo, _⟩) | go_in)
  have hb1a := below_alloc hb1 (Obj.cells #[.int .i64 n, .slice ao es.length ac] 24)
  have t3 := two_new W1 (.int .i64 n) (.slice ao es.length ac) 24
  have HEO : Hid (EdgesAt (W1.alloc (Obj.cells #[.int .i64 n, .slice ao es.length ac] 24)) (.slice ao es.length ac) es) := hEo.below (below_alloc (Below.refl _ W1) _)
  obtain ⟨b3, hb3⟩ : ∃ b, b = W1.heap.size := ⟨_, rfl⟩
  rw [← hb3] at t3 ⊢
  generalize W1.alloc (Obj.cells #[.int .i64 n, .slice ao es.length ac] 24) = W2 at t3 hb1a HEO ⊢
  have t12 := two_next HT1.out hb1a
  have HT12 : Hid (Two W2 b1 (.int .i64 n) (.slice vo es.length vc) 24) := t12
  have HT3 : Hid (Two W2 b3 (.int .i64 n) (.slice ao es.length ac) 24) := t3
  have hB2 := below_next hB0 hb1a
  clear q0 q1 H6 hb1 hEo hb3 hb1a t3 HT1 hB0
  obtain ⟨q0, q1⟩ := cell_two t12
  clear t12
  have h7 := refCheck_as (HE.out.below hB2) hcap HS.out
  have H7 : Hid (Calls Try.prog 18 #[.agg #[.int .i64 n, .slice vo es.length vc]] W2 fun e w' => e = .returned (.agg #[.int .i64 c, .int .i64 d]) ∧ Below W2.heap.size W2 w') := h7
  clear h7
  go_upto_region 3 with (first | (go_at_call 18; refine Calls.mono H7.out ?_; rintro e W3 ⟨rfl, hb3⟩) | go_in)
  have hb3a := below_alloc hb3 (Obj.cells #[.int .i64 c, .int .i64 d] 27)
  have t4 := two_new W3 (.int .i64 c) (.int .i64 d) 27
  have HEO4 : Hid (EdgesAt (W3.alloc (Obj.cells #[.int .i64 c, .int .i64 d] 27)) (.slice ao es.length ac) es) := HEO.out.below hb3a
  obtain ⟨b4, hb4⟩ : ∃ b, b = W3.heap.size := ⟨_, rfl⟩
  rw [← hb4] at t4 ⊢
  generalize W3.alloc (Obj.cells #[.int .i64 c, .int .i64 d] 27) = W4 at t4 hb3a HEO4 ⊢
  have HT4 : Hid (Two W4 b4 (.int .i64 c) (.int .i64 d) 27) := t4
  have t14 := two_next HT12.out hb3a
  have t34 := two_next HT3.out hb3a
  have HT14 : Hid (Two W4 b1 (.int .i64 n) (.slice vo es.length vc) 24) := t14
  have HT34 : Hid (Two W4 b3 (.int .i64 n) (.slice ao es.length ac) 24) := t34
  have hB4 := below_next hB2 hb3a
  clear q0 q1 H7 hb3 hb4 hb3a t4 t14 HT12 HT3 hB2 HEO
  obtain ⟨q0, q1⟩ := cell_two t34
  clear t34
  go_upto_region 4 with (first | (go_at_call 19; refine Calls.mono (edges_bad HEO4.out HFS.out ⟨rfl, rfl⟩ HC.out) ?_; rintro e W5 ⟨rfl, hb5⟩) | go_in)
  have t7 := two_new W5 (.int .i64 c) (.int .i64 d) 27
  have hb5a := below_alloc hb5 (Obj.cells #[.int .i64 c, .int .i64 d] 27)
  obtain ⟨b7, hb7⟩ : ∃ b, b = W5.heap.size := ⟨_, rfl⟩
  rw [← hb7] at t7 ⊢
  generalize W5.alloc (Obj.cells #[.int .i64 c, .int .i64 d] 27) = W6 at t7 hb5a ⊢
  have HT7 : Hid (Two W6 b7 (.int .i64 c) (.int .i64 d) 27) := t7
  have HT46 : Hid (Two W6 b4 (.int .i64 c) (.int .i64 d) 27) := two_next HT4.out hb5a
  have HT16 : Hid (Two W6 b1 (.int .i64 n) (.slice vo es.length vc) 24) := two_next HT14.out hb5a
  have HT36 : Hid (Two W6 b3 (.int .i64 n) (.slice ao es.length ac) 24) := two_next HT34.out hb5a
  have HEO6 : Hid (EdgesAt W6 (.slice ao es.length ac) es) := HEO4.out.below hb5a
  have hB6 := below_next hB4 hb5a
  have H9 : Hid (Calls Try.prog 9 #[] W6 fun e w' => e = .returned (.bool true) ∧ Below W6.heap.size W6 w') := begun_call W6
  have H10 : Hid (∀ W, Below W6.heap.size W6 W → Calls Try.prog 10 #[.agg #[.int .i64 n, .slice ao es.length ac], .agg #[.int .i64 n, .slice vo es.length vc]] W fun e w' => e = .returned (.bool true) ∧ Below W.heap.size W w') := fun W hW => kept_true n _ _ es W (HEO6.out.below hW) (HE.out.below (below_next hB6 hW))
  have hneq := neq27 c d
  clear q0 q1 hb5 hb5a hb7 t7 HT4 HT14 HT34 HEO4 hB4
  go_upto_region 6 with (first
    | (go_at_call 9; refine Calls.mono H9.out ?_; rintro e W7 ⟨rfl, hb7⟩; have t77 := two_next HT7.out hb7; have t47 := two_next HT46.out hb7; have t17 := two_next HT16.out hb7; have t37 := two_next HT36.out hb7; obtain ⟨q0, q1⟩ := cell_two t77; obtain ⟨q2, q3⟩ := cell_two t47; obtain ⟨q4, q5⟩ := cell_two t17; obtain ⟨q6, q7⟩ := cell_two t37)
    | (go_at_call 10; refine Calls.mono (H10.out _ hb7) ?_; rintro e W8 ⟨rfl, hb8⟩)
    | go_in)
  have hb68 := below_next hb7 hb8
  have hB8 := below_next hB6 hb68
  have t48 := two_next HT46.out hb68
  have t18 := two_next HT16.out hb68
  clear q0 q1 q2 q3 q4 q5 q6 q7 t77 t47 t17 t37 hb7 hb8 H9 H10 hneq HT7 HT46 HT16 HT36 HEO6 hB6
  obtain ⟨q2, q3⟩ := cell_two t48
  obtain ⟨q4, q5⟩ := cell_two t18
  go_wp2
  go_ret
  exact ⟨rfl, hB8⟩
set_option maxRecDepth 4000 in
set_option maxHeartbeats 3000000 in
theorem vizLaw_ok {w : World} {N : Nat} {vo : Option Addr} {vc : Nat} {es : List Pair} (hE : EdgesAt w (.slice vo es.length vc) es) (hcap : es.length ≤ vc) (hs : (chk N es).1 = 0) :
    Calls Try.prog 5 #[.agg #[.int .i64 (N : Int), .slice vo es.length vc]] w fun e w' => e = .returned (.bool true) ∧ Below w.heap.size w w' := by
  have HE : Hid (EdgesAt w (.slice vo es.length vc) es) := hE
  obtain ⟨hs0, _, hN', hle, hgd⟩ := chk_good hs
  have hN : N ≤ 100 := by omega
  have HS : Hid (chk (N : Int) es = (0, 0)) := hs0
  obtain ⟨fes, hfes⟩ : ∃ fes, fes = allP N (hasB es) := ⟨_, rfl⟩
  obtain ⟨fl, hfl⟩ : ∃ fl, fl = fes.length := ⟨_, rfl⟩
  obtain ⟨M, hM⟩ : ∃ M, M = dgM (fun v z => hasB es (v : Int) (z : Int)) N N := ⟨_, rfl⟩
  have HFES : Hid (fes = allP N (hasB es)) := hfes
  have HFL : Hid (fl = fes.length) := hfl
  have HM : Hid (M = dgM (fun v z => hasB es (v : Int) (z : Int)) N N) := hM
  have hMle : M ≤ N := by rw [hM]; exact dgM_le _ _ _
  have hl1 : fl ≤ 1000 := by
    rw [hfl, hfes]
    exact Nat.le_trans (allP_has_le N es) hle
  have HMX : Hid (M = mxL (fun i => nbOf fes i) N) := by
    show M = _
    rw [hM, hfes]
    refine (mxL_dgM N (fun i hi => ?_)).symm
    rw [nbOf_all (fun u v => hasB_comm es u v) (fun u => by
      cases hh : hasB es u u
      · rfl
      · unfold hasB at hh
        obtain ⟨q, hq, hqq⟩ := List.any_eq_true.1 hh
        have := (hgd q hq).2
        simp at hqq
        omega) hi]
    rfl
  have HFS : Hid (formS (N : Int) es = ⟨N, fes, 0, 0⟩) := by
    show formS (N : Int) es = ⟨N, fes, 0, 0⟩
    rw [hfes]; exact formS_good hs
  have HRS : Hid (Rsn N fes) := by
    show Rsn N fes
    rw [hfes]; exact rsn_allP N _
  clear hfes hfl hM hs0 hN' hle hgd
  have HCHK : Hid ((chk (N : Int) es).1 = 0) := hs
  clear hE hs
  go_enter Try.func5, Try.ntmps5
  go_upto_region 1 with (fail)
  have t1 := two_new w (.int .i64 (N : Int)) (.slice vo es.length vc) 24
  have hB0 := below_alloc (Below.refl _ w) (Obj.cells #[.int .i64 (N : Int), .slice vo es.length vc] 24)
  obtain ⟨b1, hb1⟩ : ∃ b, b = w.heap.size := ⟨_, rfl⟩
  rw [← hb1] at t1 ⊢
  generalize w.alloc (Obj.cells #[.int .i64 (N : Int), .slice vo es.length vc] 24) = W0 at t1 hB0 ⊢
  have HT1 : Hid (Two W0 b1 (.int .i64 (N : Int)) (.slice vo es.length vc) 24) := t1
  obtain ⟨q0, q1⟩ := cell_two t1
  have h6 := own_any (N : Int) vo vc es W0 (HE.out.below hB0)
  have H6 : Hid (Calls Try.prog 6 #[.agg #[.int .i64 (N : Int), .slice vo es.length vc]] W0 fun e w' => Below W0.heap.size W0 w' ∧ ∃ ao c, e = .returned (.agg #[.int .i64 (N : Int), .slice ao es.length c]) ∧ EdgesAt w' (.slice ao es.length c) es ∧ es.length ≤ c) := h6
  clear hb1 h6 t1
  go_upto_region 2 with (first | (go_at_call 6; refine Calls.mono H6.out ?_; rintro e W1 ⟨hb1, ao, ac, rfl, hEo, _⟩) | go_in)
  have hb1a := below_alloc hb1 (Obj.cells #[.int .i64 (N : Int), .slice ao es.length ac] 24)
  have t3 := two_new W1 (.int .i64 (N : Int)) (.slice ao es.length ac) 24
  have HEO : Hid (EdgesAt (W1.alloc (Obj.cells #[.int .i64 (N : Int), .slice ao es.length ac] 24)) (.slice ao es.length ac) es) := hEo.below (below_alloc (Below.refl _ W1) _)
  obtain ⟨b3, hb3⟩ : ∃ b, b = W1.heap.size := ⟨_, rfl⟩
  rw [← hb3] at t3 ⊢
  generalize W1.alloc (Obj.cells #[.int .i64 (N : Int), .slice ao es.length ac] 24) = W2 at t3 hb1a HEO ⊢
  have t12 := two_next HT1.out hb1a
  have HT12 : Hid (Two W2 b1 (.int .i64 (N : Int)) (.slice vo es.length vc) 24) := t12
  have HT3 : Hid (Two W2 b3 (.int .i64 (N : Int)) (.slice ao es.length ac) 24) := t3
  have hB2 := below_next hB0 hb1a
  clear q0 q1 H6 hb1 hEo hb3 hb1a t3 HT1 hB0
  obtain ⟨q0, q1⟩ := cell_two t12
  clear t12
  have h7 := refCheck_as (HE.out.below hB2) hcap HS.out
  have H7 : Hid (Calls Try.prog 18 #[.agg #[.int .i64 (N : Int), .slice vo es.length vc]] W2 fun e w' => e = .returned (.agg #[.int .i64 0, .int .i64 0]) ∧ Below W2.heap.size W2 w') := h7
  clear h7
  go_upto_region 3 with (first | (go_at_call 18; refine Calls.mono H7.out ?_; rintro e W3 ⟨rfl, hb3⟩) | go_in)
  have hb3a := below_alloc hb3 (Obj.cells #[.int .i64 0, .int .i64 0] 27)
  have t4 := two_new W3 (.int .i64 0) (.int .i64 0) 27
  have HEO4 : Hid (EdgesAt (W3.alloc (Obj.cells #[.int .i64 0, .int .i64 0] 27)) (.slice ao es.length ac) es) := HEO.out.below hb3a
  obtain ⟨b4, hb4⟩ : ∃ b, b = W3.heap.size := ⟨_, rfl⟩
  rw [← hb4] at t4 ⊢
  generalize W3.alloc (Obj.cells #[.int .i64 0, .int .i64 0] 27) = W4 at t4 hb3a HEO4 ⊢
  have HT4 : Hid (Two W4 b4 (.int .i64 0) (.int .i64 0) 27) := t4
  have t14 := two_next HT12.out hb3a
  have t34 := two_next HT3.out hb3a
  have HT14 : Hid (Two W4 b1 (.int .i64 (N : Int)) (.slice vo es.length vc) 24) := t14
  have HT34 : Hid (Two W4 b3 (.int .i64 (N : Int)) (.slice ao es.length ac) 24) := t34
  have hB4 := below_next hB2 hb3a
  clear q0 q1 H7 hb3 hb4 hb3a t4 t14 HT12 HT3 hB2 HEO
  obtain ⟨q0, q1⟩ := cell_two t34
  clear t34
  have H19 : Hid (Calls Try.prog 19 #[.agg #[.int .i64 (N : Int), .slice ao es.length ac]] W4 fun e w' => ∃ po pc, e = .returned (.tuple #[.slice po fl pc, .agg #[.int .i64 0, .int .i64 0]]) ∧ EdgEnd W4 (M + 1) fes po w') := edges_go HEO4.out HFS.out hN HFL.out hl1 HRS.out HMX.out rfl (by omega)
  go_upto_region 4 with (first | (go_at_call 19; refine Calls.mono H19.out ?_; rintro e W5 ⟨po, pc, rfl, hend⟩) | go_in)
  obtain ⟨L, hLl, hnum, hfit, hb5⟩ := hend
  have HLL : Hid (L.length = fes.length) := hLl
  have HFIT : Hid (FitE (M + 1) fes L) := hfit
  clear hLl hfit
  have t7 := two_new W5 (.int .i64 0) (.int .i64 0) 27
  have hb5a := below_alloc hb5 (Obj.cells #[.int .i64 0, .int .i64 0] 27)
  have hnum6 := hnum.below (below_alloc (Below.refl _ W5) (Obj.cells #[.int .i64 0, .int .i64 0] 27))
  obtain ⟨b7, hb7⟩ : ∃ b, b = W5.heap.size := ⟨_, rfl⟩
  rw [← hb7] at t7 ⊢
  generalize W5.alloc (Obj.cells #[.int .i64 0, .int .i64 0] 27) = W6 at t7 hb5a hnum6 ⊢
  have HNUM6 : Hid (NumsAt W6 po L) := hnum6
  clear hnum hnum6 H19
  have HT7 : Hid (Two W6 b7 (.int .i64 0) (.int .i64 0) 27) := t7
  have HT46 : Hid (Two W6 b4 (.int .i64 0) (.int .i64 0) 27) := two_next HT4.out hb5a
  have HT16 : Hid (Two W6 b1 (.int .i64 (N : Int)) (.slice vo es.length vc) 24) := two_next HT14.out hb5a
  have HT36 : Hid (Two W6 b3 (.int .i64 (N : Int)) (.slice ao es.length ac) 24) := two_next HT34.out hb5a
  have HEO6 : Hid (EdgesAt W6 (.slice ao es.length ac) es) := HEO4.out.below hb5a
  have hB6 := below_next hB4 hb5a
  have H9 : Hid (Calls Try.prog 9 #[] W6 fun e w' => e = .returned (.bool true) ∧ Below W6.heap.size W6 w') := begun_call W6
  have H10 : Hid (∀ W, Below W6.heap.size W6 W → Calls Try.prog 10 #[.agg #[.int .i64 (N : Int), .slice ao es.length ac], .agg #[.int .i64 (N : Int), .slice vo es.length vc]] W fun e w' => e = .returned (.bool true) ∧ Below W.heap.size W w') := fun W hW => kept_true (N : Int) _ _ es W (HEO6.out.below hW) (HE.out.below (below_next hB6 hW))
  have hneq := neq27 0 0
  clear q0 q1 hb5 hb5a hb7 t7 HT4 HT14 HT34 HEO4 hB4
  go_upto_region 6 with (first
    | (go_at_call 9; refine Calls.mono H9.out ?_; rintro e W7 ⟨rfl, hb7⟩; have t77 := two_next HT7.out hb7; have t47 := two_next HT46.out hb7; have t17 := two_next HT16.out hb7; have t37 := two_next HT36.out hb7; obtain ⟨q0, q1⟩ := cell_two t77; obtain ⟨q2, q3⟩ := cell_two t47; obtain ⟨q4, q5⟩ := cell_two t17; obtain ⟨q6, q7⟩ := cell_two t37)
    | (go_at_call 10; refine Calls.mono (H10.out _ hb7) ?_; rintro e W8 ⟨rfl, hb8⟩)
    | go_in)
  have hb68 := below_next hb7 hb8
  have hB8 := below_next hB6 hb68
  have t48 := two_next HT46.out hb68
  have t18 := two_next HT16.out hb68
  clear q0 q1 q2 q3 q4 q5 q6 q7 t77 t47 t17 t37 hb7 hb8 H9 H10 hneq HT7 HT46 HT16 HT36 HEO6 hB6
  have HT18 : Hid (Two W8 b1 (.int .i64 (N : Int)) (.slice vo es.length vc) 24) := t18
  obtain ⟨q2, q3⟩ := cell_two t48
  obtain ⟨q4, q5⟩ := cell_two t18
  have HNUM8 : Hid (NumsAt W8 po L) := HNUM6.out.below hb68
  obtain ⟨_, _, _, hlen, hgood⟩ := chk_good HCHK.out
  have h11 := gridOf_any N _ es W8 (HE.out.below hB8) (by omega) hlen hgood
  have H11 : Hid (Calls Try.prog 11 #[.agg #[.int .i64 (N : Int), .slice vo es.length vc]] W8 fun e w' => Below W8.heap.size W8 w' ∧ ∃ ao cap, e = .returned (.slice ao N cap) ∧ GridAt w' (.slice ao N cap) N (hasB es)) := h11
  clear h11 hgood hlen
  go_upto_region 9 with (first | (go_at_call 11; refine Calls.mono H11.out ?_; rintro e W9 ⟨hb9, gao, gcap, rfl, hG⟩) | go_in)
  have HG : Hid (GridAt W9 (.slice gao N gcap) N (hasB es)) := hG
  have hB9 := below_next hB8 hb9
  have HNUM9 : Hid (NumsAt W9 po L) := HNUM8.out.below hb9
  have h20 := ofGrid_any N gao gcap (hasB es) W9 hG hN
  rw [← HFES.out, ← HFL.out] at h20
  have H20 : Hid (Calls Try.prog 20 #[.slice gao N gcap] W9 fun e w' => Below W9.heap.size W9 w' ∧ ∃ ao' c, e = .returned (.agg #[.int .i64 (N : Int), .slice ao' fl c]) ∧ EdgesAt w' (.slice ao' fl c) fes) := h20
  clear hG h20 q2 q3 q4 q5 t48 t18 H11
  have hfd : ∀ (eo : Option Addr) (ec : Nat) (w : World), (Instr.field 24 (.agg #[.int .i64 (N : Int), .slice eo fl ec]) 1).run Try.prog w = .ok (.slice eo fl ec) w := fun _ _ _ => by kernel_rfl
  go_upto_region 10 with (first | (go_at_call 20; refine Calls.mono H20.out ?_; rintro e Wx ⟨hbx, eo, ec, rfl, hEx⟩) | go_in)
  have HEX : Hid (EdgesAt Wx (.slice eo fl ec) fes) := hEx
  have HNX : Hid (NumsAt Wx po L) := HNUM9.out.below hbx
  have h21 := degree_call hN (HG.out.below hbx)
  rw [← HM.out] at h21
  have H21 : Hid (Calls Try.prog 21 #[.slice gao N gcap] Wx fun e w' => e = .returned (.int .i64 (M : Int)) ∧ w' = Wx) := h21
  have hBx := below_next hB9 hbx
  have HBX : Hid (Below w.heap.size w Wx) := hBx
  have hcell : ∀ W, Below Wx.heap.size Wx W → ∀ i, i < fl → ∃ (b eb off : Nat) (c x y : Nat), po = some ⟨b, 0, none⟩ ∧ eo = some ⟨eb, off, none⟩ ∧ L[i]? = some c ∧ fes[i]? = some ((x : Int), (y : Int)) ∧ c < M + 1 ∧ W.cell? ⟨b, i, none⟩ = some (.int .i64 (c : Int)) ∧ W.cell? ⟨eb, off + i * 2, none⟩ = some (.int .i64 (x : Int)) ∧ W.cell? ⟨eb, off + i * 2 + 1, none⟩ = some (.int .i64 (y : Int)) := fun W hW i hi => by
    have hi1 : i < fes.length := by rw [← HFL.out]; exact hi
    have hL : L[i]? = some (L[i]'(by rw [HLL.out]; exact hi1)) := List.getElem?_eq_getElem _
    obtain ⟨b, e1, cb⟩ := (HNX.out.below hW) i _ hL
    obtain ⟨ao', cap', e2, _, _, hc⟩ := HEX.out.below hW
    cases e2
    obtain ⟨eb, off, e3, d1, d2⟩ := hc i hi1
    have hg : fes[i]? = some fes[i] := List.getElem?_eq_getElem hi1
    obtain ⟨x, y, e4, _, _⟩ := HRS.out.mem i _ hg
    rw [e4] at d1 d2 hg
    exact ⟨b, eb, off, _, x, y, e1, e3, hL, hg, HFIT.out.1 i _ hL, cb, d1, d2⟩
  have HCELL : Hid (∀ W, Below Wx.heap.size Wx W → ∀ i, i < fl → ∃ (b eb off : Nat) (c x y : Nat), po = some ⟨b, 0, none⟩ ∧ eo = some ⟨eb, off, none⟩ ∧ L[i]? = some c ∧ fes[i]? = some ((x : Int), (y : Int)) ∧ c < M + 1 ∧ W.cell? ⟨b, i, none⟩ = some (.int .i64 (c : Int)) ∧ W.cell? ⟨eb, off + i * 2, none⟩ = some (.int .i64 (x : Int)) ∧ W.cell? ⟨eb, off + i * 2 + 1, none⟩ = some (.int .i64 (y : Int))) := hcell
  clear hEx h21 hbx hBx hcell H20
  go_wp2_with (first | (go_at_call 21; refine Calls.mono H21.out ?_; rintro e Wy ⟨rfl, rfl⟩) | go_in)
  clear H21
  go_loopw [10] (fun i wr => ∃ n1 : Nat, n1 ≤ fl ∧ i = .int .i64 (n1 : Int) ∧ Below Wy.heap.size Wy wr) (fun i _ => fl - (numOf i).toNat)
  case atStart => exact ⟨0, Nat.zero_le _, rfl, Below.refl _ _⟩
  case round =>
    obtain ⟨i, hi, rfl, hbi⟩ := hrel
    by_cases hlt : i < fl
    · have i1 : (0 : Int) ≤ (i : Int) := by omega
      have i2 : (i : Int) < (fl : Int) := by omega
      obtain ⟨b, eb, off, c, x, y, rfl, rfl, hLi, hfi, hcM, ci, _, _⟩ := HCELL.out _ hbi i hlt
      have k1 : ¬ (c : Int) < 0 := by omega
      have k2 : ¬ (c : Int) > (M : Int) := by omega
      have HLI : Hid (L[i]? = some c) := hLi
      have HFI : Hid (fes[i]? = some ((x : Int), (y : Int))) := hfi
      clear hLi hfi
      go_wp2
      obtain ⟨Wo, hWo⟩ : ∃ Wo, Wo = wr := ⟨_, rfl⟩
      rw [← hWo] at hbi ⊢
      clear hWo ci
      go_loopw [11] (fun jv wr => ∃ j : Nat, j ≤ i ∧ jv = .int .i64 (j : Int) ∧ Below Wy.heap.size Wy wr) (fun jv _ => i - (numOf jv).toNat)
      case atStart => exact ⟨0, Nat.zero_le _, rfl, hbi⟩
      case round =>
        obtain ⟨j, hj, rfl, hbj⟩ := hrel
        by_cases hlt2 : j < i
        · have j1 : (0 : Int) ≤ (j : Int) := by omega
          have j2 : (j : Int) < (i : Int) := by omega
          have j3 : (j : Int) < (fl : Int) := by omega
          obtain ⟨b', eb', off', c0, x0, y0, e1, e2, g1, g2, _, ci, cx, cy⟩ := HCELL.out _ hbj i hlt
          cases e1
          cases e2
          rw [HLI.out] at g1
          cases g1
          rw [HFI.out] at g2
          have gx : x = x0 := by simp at g2; omega
          have gy : y = y0 := by simp at g2; omega
          subst gx gy
          obtain ⟨b', eb', off', d, x', y', e1, e2, g3, g4, _, di, dx, dy⟩ := HCELL.out _ hbj j (by omega)
          cases e1
          cases e2
          by_cases hcd : c = d
          · subst hcd
            have hno := HFIT.out.2 i j c _ _ _ _ hlt2 HLI.out g3 HFI.out g4
            have n1 : ((x : Int) == (x' : Int)) = false := by rw [beq_eq_false_iff_ne]; exact fun e => hno (Or.inl e)
            have n2 : ((x : Int) == (y' : Int)) = false := by rw [beq_eq_false_iff_ne]; exact fun e => hno (Or.inr (Or.inl e))
            have n3 : ((y : Int) == (x' : Int)) = false := by rw [beq_eq_false_iff_ne]; exact fun e => hno (Or.inr (Or.inr (Or.inl e)))
            have n4 : ((y : Int) == (y' : Int)) = false := by rw [beq_eq_false_iff_ne]; exact fun e => hno (Or.inr (Or.inr (Or.inr e)))
            have n0 : ((c : Int) == (c : Int)) = true := by simp
            clear hno g2 g3 g4
            go_upto_region 21 with (fail)
            go_quiet (fail)
            all_goals
              go_wp2
              go_roundw
              case rel => exact ⟨j + 1, by omega, by go_num, below_next hbj (drewN_below _ _)⟩
              case measure => simp [numOf]; omega
          · have n0 : ((c : Int) == (d : Int)) = false := by rw [beq_eq_false_iff_ne]; omega
            clear g2 g3 g4 hcd
            go_upto_region 21 with (fail)
            go_quiet (fail)
            all_goals
              go_wp2
              go_roundw
              case rel => exact ⟨j + 1, by omega, by go_num, below_next hbj (drewN_below _ _)⟩
              case measure => simp [numOf]; omega
        · have j2 : ¬ (j : Int) < (i : Int) := by omega
          go_wp2
          go_roundw
          case rel => exact ⟨i + 1, by omega, by go_num, hbj⟩
          case measure => simp [numOf]; omega
    · have i2 : ¬ (i : Int) < (fl : Int) := by omega
      go_wp2
      go_ret
      exact ⟨rfl, below_next HBX.out hbi⟩
end Go.Proofs.Ytdnmoifbkojnlaa
