/- ChordsCliques' walk. -/
import Derived.BigQuiet
import Derived.Test.YtkkfjfphmlcieaaBegun
import Derived.Test.YtkkfjfphmlcieaaRefQ
import Derived.Test.YtkkfjfphmlcieaaSmallR
namespace Go.Proofs.Ytkkfjfphmlcieaa
open Go.RowKit Go.Maps
attribute [local go_sem ↓] Go.wp_at_zero Go.wp_at_succ
set_option maxHeartbeats 1000000 in
theorem whole_zero {w : World} {ao : Option Addr} {cap : Nat} : Calls Try.prog 28 #[.slice ao 0 cap] w fun r w' => r = .returned (.slice none 0 0) ∧ Below w.heap.size w w' := by
  go_enter Try.func28, Try.ntmps28
  go_wp2
  go_ret
  exact ⟨rfl, below_alloc (Below.refl _ w) _⟩
set_option maxHeartbeats 2000000 in
theorem cliq_bad {w : World} {n : Int} {vo : Option Addr} {vc : Nat} {es : List Pair} (hE : EdgesAt w (.slice vo es.length vc) es) {c d : Int} (hs : smallF n es 24 = (c, d)) (hc : c ≠ 0) :
    Calls Try.prog 14 #[.agg #[.int .i64 n, .slice vo es.length vc]] w fun e w' => e = .returned (.tuple #[.slice none 0 0, .agg #[.int .i64 c, .int .i64 d]]) ∧ Below w.heap.size w w' := by
  have HE : Hid (EdgesAt w (.slice vo es.length vc) es) := hE
  have HS : Hid (smallF n es 24 = (c, d)) := hs
  have kc : (c != 0) = true := by simp [hc]
  clear hE hs
  go_enter Try.func14, Try.ntmps14
  go_upto_region 1 with (fail)
  have t1 := two_alloc (two_new w (.int .i64 n) (.slice vo es.length vc) 24) (Obj.cells #[.int .i64 0, .int .i64 0] 27)
  have t4 := two_nxt w (Obj.cells #[.int .i64 n, .slice vo es.length vc] 24) (.int .i64 0) (.int .i64 0) 27
  have hB0 := below_alloc (below_alloc (Below.refl _ w) (Obj.cells #[.int .i64 n, .slice vo es.length vc] 24)) (Obj.cells #[.int .i64 0, .int .i64 0] 27)
  obtain ⟨b1, hb1⟩ : ∃ b, b = w.heap.size := ⟨_, rfl⟩
  obtain ⟨b4, hb4⟩ : ∃ b, b = w.heap.size + 1 := ⟨_, rfl⟩
  have HB4 : Hid (w.heap.size ≤ b4) := by show w.heap.size ≤ b4; omega
  rw [← hb4] at t4 ⊢
  rw [← hb1] at t1 ⊢
  generalize (w.alloc (Obj.cells #[.int .i64 n, .slice vo es.length vc] 24)).alloc (Obj.cells #[.int .i64 0, .int .i64 0] 27) = W0 at t1 t4 hB0 ⊢
  clear hb1 hb4
  obtain ⟨q0, q1⟩ := cell_two t1
  have H27 : Hid (Calls Try.prog 27 #[.agg #[.int .i64 n, .slice vo es.length vc], .int .i64 24] W0 fun e w' => e = .returned (.agg #[.int .i64 c, .int .i64 d]) ∧ Below W0.heap.size W0 w') := by
    have := small_call (n := n) (vc := vc) (HE.out.below hB0) 24
    rw [HS.out] at this
    exact this
  go_upto_region 2 with (first | (go_at_call 27; refine Calls.mono H27.out ?_; rintro e W1 ⟨rfl, hb1⟩) | go_in)
  have hb1a := below_alloc hb1 (Obj.cells #[.int .i64 c, .int .i64 d] 27)
  have t5 := two_new W1 (.int .i64 c) (.int .i64 d) 27
  obtain ⟨b5, hb5⟩ : ∃ b, b = W1.heap.size := ⟨_, rfl⟩
  rw [← hb5] at t5 ⊢
  generalize W1.alloc (Obj.cells #[.int .i64 c, .int .i64 d] 27) = W2 at t5 hb1a ⊢
  have t4' := two_next t4 hb1a
  have HBW : Hid (Below w.heap.size w W2) := below_next hB0 hb1a
  clear q0 q1 H27 hb1 hb1a hb5 t1 t4 hB0
  obtain ⟨q0, q1⟩ := cell_two t5
  obtain ⟨q2, q3⟩ := cell_two t4'
  have f0 := free_two t4'
  go_upto_region 3 with (fail)
  go_region
  all_goals
    go_wp2
    obtain ⟨s0, s1⟩ := cell_two (two_setN (x' := .int .i64 c) (y' := .int .i64 d) t4')
    have hBf := ((HBW.out.setCell (p := ⟨b4, 0, none⟩) HB4.out (.int .i64 c)).setCell (p := ⟨b4, 1, none⟩) HB4.out (.int .i64 d)).drew
    refine bodyPost_ret (v := .tuple #[.slice none 0 0, .agg #[.int .i64 c, .int .i64 d]]) ?_ rfl ⟨rfl, hBf⟩
    simp [results, Try.results14, go_sem, s0, s1]
set_option maxHeartbeats 4000000 in
theorem cliq_zero {w : World} {N : Nat} {vo : Option Addr} {vc : Nat} {es : List Pair} (hE : EdgesAt w (.slice vo es.length vc) es) (hs : (chk N es).1 = 0) (hN0 : N = 0) :
    Calls Try.prog 14 #[.agg #[.int .i64 (N : Int), .slice vo es.length vc]] w fun r w' => r = .returned (.tuple #[.slice none 0 0, .agg #[.int .i64 0, .int .i64 0]]) ∧ Below w.heap.size w w' := by
  have HN0 : Hid (N = 0) := hN0
  have hN : N ≤ 24 := by omega
  obtain ⟨hs0, _, hN', hle, hgd⟩ := chk_good hs
  have HE : Hid (EdgesAt w (.slice vo es.length vc) es) := hE
  have HS : Hid (smallF (N : Int) es 24 = (0, 0)) := by
    show smallF (N : Int) es 24 = (0, 0)
    unfold smallF
    rw [if_neg (fun h => h hs), if_neg (by omega)]
  have HGD : Hid (∀ e ∈ es, (0 ≤ e.1 ∧ e.1 < (N : Int) ∧ 0 ≤ e.2 ∧ e.2 < (N : Int)) ∧ e.1 ≠ e.2) := hgd
  clear hE hs hs0 hN' hle hgd
  clear hN0
  go_enter Try.func14, Try.ntmps14
  go_upto_region 1 with (fail)
  have t1 := two_alloc (two_new w (.int .i64 (N : Int)) (.slice vo es.length vc) 24) (Obj.cells #[.int .i64 0, .int .i64 0] 27)
  have t4 := two_nxt w (Obj.cells #[.int .i64 (N : Int), .slice vo es.length vc] 24) (.int .i64 0) (.int .i64 0) 27
  have hB0 := below_alloc (below_alloc (Below.refl _ w) (Obj.cells #[.int .i64 (N : Int), .slice vo es.length vc] 24)) (Obj.cells #[.int .i64 0, .int .i64 0] 27)
  obtain ⟨b1, hb1⟩ : ∃ b, b = w.heap.size := ⟨_, rfl⟩
  obtain ⟨b4, hb4⟩ : ∃ b, b = w.heap.size + 1 := ⟨_, rfl⟩
  have HB4 : Hid (w.heap.size ≤ b4) := by show w.heap.size ≤ b4; omega
  rw [← hb4] at t4 ⊢
  rw [← hb1] at t1 ⊢
  generalize (w.alloc (Obj.cells #[.int .i64 (N : Int), .slice vo es.length vc] 24)).alloc (Obj.cells #[.int .i64 0, .int .i64 0] 27) = W0 at t1 t4 hB0 ⊢
  clear hb1 hb4
  obtain ⟨q0, q1⟩ := cell_two t1
  have H27 : Hid (Calls Try.prog 27 #[.agg #[.int .i64 (N : Int), .slice vo es.length vc], .int .i64 24] W0 fun e w' => e = .returned (.agg #[.int .i64 0, .int .i64 0]) ∧ Below W0.heap.size W0 w') := by
    have := small_call (n := (N : Int)) (vc := vc) (HE.out.below hB0) 24
    rw [HS.out] at this
    exact this
  go_upto_region 2 with (first | (go_at_call 27; refine Calls.mono H27.out ?_; rintro e W1 ⟨rfl, hb1⟩) | go_in)
  have hb1a := below_alloc hb1 (Obj.cells #[.int .i64 0, .int .i64 0] 27)
  have t5 := two_new W1 (.int .i64 0) (.int .i64 0) 27
  obtain ⟨b5, hb5⟩ : ∃ b, b = W1.heap.size := ⟨_, rfl⟩
  rw [← hb5] at t5 ⊢
  generalize W1.alloc (Obj.cells #[.int .i64 0, .int .i64 0] 27) = W2 at t5 hb1a ⊢
  have HT1 : Hid (Two W2 b1 (.int .i64 (N : Int)) (.slice vo es.length vc) 24) := two_next t1 hb1a
  have HT4 : Hid (Two W2 b4 (.int .i64 0) (.int .i64 0) 27) := two_next t4 hb1a
  have HBW : Hid (Below w.heap.size w W2) := below_next hB0 hb1a
  obtain ⟨q2, q3⟩ := cell_two t5
  clear q0 q1 H27 hb1 hb1a hb5 t5 t1 t4 hB0
  obtain ⟨q0, q1⟩ := cell_two HT1.out
  have H20 : Hid (Calls Try.prog 20 #[.agg #[.int .i64 (N : Int), .slice vo es.length vc]] W2 fun r w' => ∃ ao, r = .returned (.slice ao N N) ∧ (∀ g, ao = some g → W2.heap.size ≤ g.block) ∧ ∃ bl, NearsAt w' ao N bl (bothB es) ∧ (∀ i, i < N → W2.heap.size ≤ bl i) ∧ Below W2.heap.size W2 w') := nearBy_call N vo vc es W2 (HE.out.below HBW.out) (by omega) (fun e he => (HGD.out e he).1)
  have H28 : Hid (∀ (W : World) (ao : Option Addr), Calls Try.prog 28 #[.slice ao N N] W fun r w' => r = .returned (.slice none 0 0) ∧ Below W.heap.size W w') := fun W ao => by rw [HN0.out]; exact whole_zero
  go_wp2_with (first | (go_at_call 20; refine Calls.mono H20.out ?_; rintro e W3 ⟨ao, rfl, hao, bl, hnr, hbl, hb3⟩) | (go_at_call 28; refine Calls.mono (H28.out _ _) ?_; rintro e W6 ⟨rfl, hb6⟩; have t46 := two_next (two_next HT4.out hb3) hb6; obtain ⟨z0, z1⟩ := cell_two t46; have f0 := free_two t46 0; have f1 := free_two t46 1; have y0 : (W6.setCell ⟨b4, 0, none⟩ (.int .i64 0)).cell? ⟨b4, 1, none⟩ = some (.int .i64 0) := box_cell (box_set t46 0 (.int .i64 0)) rfl; have y1 : (W6.setCell ⟨b4, 0, none⟩ (.int .i64 0)).frozen? ⟨b4, 1, none⟩ = false := box_free (box_set t46 0 (.int .i64 0)) 1) | go_in)
  have tz := two_setN t46 (x' := .int .i64 0) (y' := .int .i64 0)
  obtain ⟨x0, x1⟩ := cell_two tz
  refine bodyPost_ret (v := .tuple #[.slice none 0 0, .agg #[.int .i64 0, .int .i64 0]]) ?_ rfl ⟨rfl, ?_⟩
  · simp [results, Try.results14, go_sem, *]
  · exact ((below_next (below_next HBW.out hb3) hb6).setCell HB4.out _).setCell HB4.out _
/-- What Cliques answers, as the law reads it. -/
structure ListR (N : Nat) (es : List Pair) (base : Nat) (w : World) (v : Value) (Ls : List (List Nat)) : Prop where
  lists : ListsAt w base v Ls
  same : ∀ F, RefI N (bothB es) (2 ^ N) F → F = Ls
theorem ListR.below {N : Nat} {es : List Pair} {base : Nat} {w w' : World} {v : Value} {Ls : List (List Nat)} (h : ListR N es base w v Ls) (hb : Below w.heap.size w w') : ListR N es base w' v Ls := ⟨h.lists.below hb, h.same⟩
theorem cliq_any {w : World} {N : Nat} {vo : Option Addr} {vc : Nat} {es : List Pair} (hE : EdgesAt w (.slice vo es.length vc) es) (hs : (chk N es).1 = 0) (hN : N ≤ 24) :
    Calls Try.prog 14 #[.agg #[.int .i64 (N : Int), .slice vo es.length vc]] w fun r w' => ∃ (so : Option Addr) (Ls : List (List Nat)) (sc : Nat), r = .returned (.tuple #[.slice so Ls.length sc, .agg #[.int .i64 0, .int .i64 0]]) ∧ ListR N es w.heap.size w' (.slice so Ls.length sc) Ls ∧ Below w.heap.size w w' := by
  rcases Nat.eq_zero_or_pos N with h0 | h0
  · refine (cliq_zero hE hs h0).mono ?_
    subst h0
    rintro r w' ⟨rfl, hb⟩
    refine ⟨none, [], 0, rfl, ⟨listsAt_nil _ _, fun F hF => ?_⟩, hb⟩
    rw [List.eq_nil_iff_forall_not_mem]
    intro l hl
    obtain ⟨t, h1, h2, _⟩ := (hF.mem l).1 hl
    have h3 : (2 : Nat) ^ 0 = 1 := rfl
    omega
  · refine (cliq_ok hE hs hN h0).mono ?_
    rintro r w' ⟨⟨v, rfl, v', Ls, L, e, h1, h2, h3, h4⟩, hb⟩
    injection e with e
    subst e
    obtain ⟨so, sc, rfl⟩ := h1.form
    exact ⟨so, Ls, sc, rfl, ⟨h1, fun F hF => (hF.same h0 h2 h3 h4).symm⟩, hb⟩
set_option maxRecDepth 8000 in
set_option maxHeartbeats 4000000 in
theorem cliLaw_bad {w : World} {n : Int} {vo : Option Addr} {vc : Nat} {es : List Pair} (hE : EdgesAt w (.slice vo es.length vc) es) (hcap : es.length ≤ vc) {c d : Int} (hs : smallF n es 24 = (c, d)) (hc : c ≠ 0) :
    Calls Try.prog 4 #[.agg #[.int .i64 n, .slice vo es.length vc]] w fun e w' => e = .returned (.bool true) ∧ Below w.heap.size w w' := by
  have HE : Hid (EdgesAt w (.slice vo es.length vc) es) := hE
  have HS : Hid (smallF n es 24 = (c, d)) := hs
  have HC : Hid (c ≠ 0) := hc
  have kc : (c != 0) = true := by simp [hc]
  clear hE hs hc
  go_enter Try.func4, Try.ntmps4
  go_upto_region 1 with (fail)
  have t1 := two_new w (.int .i64 n) (.slice vo es.length vc) 24
  have hB0 := below_alloc (Below.refl _ w) (Obj.cells #[.int .i64 n, .slice vo es.length vc] 24)
  obtain ⟨b1, hb1⟩ : ∃ b, b = w.heap.size := ⟨_, rfl⟩
  rw [← hb1] at t1 ⊢
  generalize w.alloc (Obj.cells #[.int .i64 n, .slice vo es.length vc] 24) = W0 at t1 hB0 ⊢
  have HT1 : Hid (Two W0 b1 (.int .i64 n) (.slice vo es.length vc) 24) := t1
  obtain ⟨q0, q1⟩ := cell_two t1
  have h6 := own_any n vo vc es W0 (HE.out.below hB0)
  have H6 : Hid (Calls Try.prog 5 #[.agg #[.int .i64 n, .slice vo es.length vc]] W0 fun e w' => Below W0.heap.size W0 w' ∧ ∃ ao c, e = .returned (.agg #[.int .i64 n, .slice ao es.length c]) ∧ EdgesAt w' (.slice ao es.length c) es ∧ es.length ≤ c) := h6
  clear hb1 h6 t1
  go_upto_region 2 with (first | (go_at_call 5; refine Calls.mono H6.out ?_; rintro e W1 ⟨hb1, ao, ac, rfl, hEo, _⟩) | go_in)
  have hb1a := below_alloc hb1 (Obj.cells #[.int .i64 n, .slice ao es.length ac] 24)
  have t3 := two_new W1 (.int .i64 n) (.slice ao es.length ac) 24
  have HEO : Hid (EdgesAt (W1.alloc (Obj.cells #[.int .i64 n, .slice ao es.length ac] 24)) (.slice ao es.length ac) es) := hEo.below (below_alloc (Below.refl _ W1) _)
  obtain ⟨b3, hb3⟩ : ∃ b, b = W1.heap.size := ⟨_, rfl⟩
  rw [← hb3] at t3 ⊢
  generalize W1.alloc (Obj.cells #[.int .i64 n, .slice ao es.length ac] 24) = W2 at t3 hb1a HEO ⊢
  have t12 := two_next HT1.out hb1a
  have HT12 : Hid (Two W2 b1 (.int .i64 n) (.slice vo es.length vc) 24) := t12
  have HT3 : Hid (Two W2 b3 (.int .i64 n) (.slice ao es.length ac) 24) := t3
  have hB2 := below_next hB0 hb1a
  clear q0 q1 H6 hb1 hEo hb3 hb1a t3 HT1 hB0
  obtain ⟨q0, q1⟩ := cell_two t12
  clear t12
  have H7 : Hid (Calls Try.prog 13 #[.agg #[.int .i64 n, .slice vo es.length vc], .int .i64 24] W2 fun e w' => e = .returned (.agg #[.int .i64 c, .int .i64 d]) ∧ Below W2.heap.size W2 w') := by
    have h7 := smallFault_call (n := n) (most := 24) (HE.out.below hB2) hcap
    have e7 : smallF n es ((24 : Nat) : Int) = (c, d) := HS.out
    rw [e7] at h7
    exact h7
  go_upto_region 3 with (first | (go_at_call 13; refine Calls.mono H7.out ?_; rintro e W3 ⟨rfl, hb3⟩) | go_in)
  have hb3a := below_alloc hb3 (Obj.cells #[.int .i64 c, .int .i64 d] 27)
  have t4 := two_new W3 (.int .i64 c) (.int .i64 d) 27
  have HEO4 : Hid (EdgesAt (W3.alloc (Obj.cells #[.int .i64 c, .int .i64 d] 27)) (.slice ao es.length ac) es) := HEO.out.below hb3a
  obtain ⟨b4, hb4⟩ : ∃ b, b = W3.heap.size := ⟨_, rfl⟩
  rw [← hb4] at t4 ⊢
  generalize W3.alloc (Obj.cells #[.int .i64 c, .int .i64 d] 27) = W4 at t4 hb3a HEO4 ⊢
  have HT4 : Hid (Two W4 b4 (.int .i64 c) (.int .i64 d) 27) := t4
  have t14 := two_next HT12.out hb3a
  have t34 := two_next HT3.out hb3a
  have HT14 : Hid (Two W4 b1 (.int .i64 n) (.slice vo es.length vc) 24) := t14
  have HT34 : Hid (Two W4 b3 (.int .i64 n) (.slice ao es.length ac) 24) := t34
  have hB4 := below_next hB2 hb3a
  clear q0 q1 H7 hb3 hb4 hb3a t4 t14 HT12 HT3 hB2 HEO
  obtain ⟨q0, q1⟩ := cell_two t34
  clear t34
  go_upto_region 4 with (first | (go_at_call 14; refine Calls.mono (cliq_bad HEO4.out HS.out HC.out) ?_; rintro e W5 ⟨rfl, hb5⟩) | go_in)
  have t7 := two_new W5 (.int .i64 c) (.int .i64 d) 27
  have hb5a := below_alloc hb5 (Obj.cells #[.int .i64 c, .int .i64 d] 27)
  have hb55 := below_alloc (Below.refl _ W5) (Obj.cells #[.int .i64 c, .int .i64 d] 27)
  obtain ⟨b7, hb7⟩ : ∃ b, b = W5.heap.size := ⟨_, rfl⟩
  rw [← hb7] at t7 ⊢
  generalize W5.alloc (Obj.cells #[.int .i64 c, .int .i64 d] 27) = W6 at t7 hb5a hb55 ⊢
  have HB56 : Hid (Below W5.heap.size W5 W6) := hb55
  have HT7 : Hid (Two W6 b7 (.int .i64 c) (.int .i64 d) 27) := t7
  have HT46 : Hid (Two W6 b4 (.int .i64 c) (.int .i64 d) 27) := two_next HT4.out hb5a
  have HT16 : Hid (Two W6 b1 (.int .i64 n) (.slice vo es.length vc) 24) := two_next HT14.out hb5a
  have HT36 : Hid (Two W6 b3 (.int .i64 n) (.slice ao es.length ac) 24) := two_next HT34.out hb5a
  have HEO6 : Hid (EdgesAt W6 (.slice ao es.length ac) es) := HEO4.out.below hb5a
  have hB6 := below_next hB4 hb5a
  have H9 : Hid (Calls Try.prog 8 #[] W6 fun e w' => e = .returned (.bool true) ∧ Below W6.heap.size W6 w') := begun_call W6
  have H10 : Hid (∀ W, Below W6.heap.size W6 W → Calls Try.prog 9 #[.agg #[.int .i64 n, .slice ao es.length ac], .agg #[.int .i64 n, .slice vo es.length vc]] W fun e w' => e = .returned (.bool true) ∧ Below W.heap.size W w') := fun W hW => kept_true n _ _ es W (HEO6.out.below hW) (HE.out.below (below_next hB6 hW))
  have hneq := neq27 c d
  clear q0 q1 hb5 hb5a hb55 hb7 t7 HT4 HT14 HT34 HEO4 hB4
  go_upto_region 6 with (first
    | (go_at_call 8; refine Calls.mono H9.out ?_; rintro e W7 ⟨rfl, hb7⟩; have t77 := two_next HT7.out hb7; have t47 := two_next HT46.out hb7; have t17 := two_next HT16.out hb7; have t37 := two_next HT36.out hb7; obtain ⟨q0, q1⟩ := cell_two t77; obtain ⟨q2, q3⟩ := cell_two t47; obtain ⟨q4, q5⟩ := cell_two t17; obtain ⟨q6, q7⟩ := cell_two t37)
    | (go_at_call 9; refine Calls.mono (H10.out _ hb7) ?_; rintro e W8 ⟨rfl, hb8⟩)
    | go_in)
  have hb68 := below_next hb7 hb8
  have hB8 := below_next hB6 hb68
  have t48 := two_next HT46.out hb68
  have t18 := two_next HT16.out hb68
  have HB68 : Hid (Below W6.heap.size W6 W8) := hb68
  have HT18 : Hid (Two W8 b1 (.int .i64 n) (.slice vo es.length vc) 24) := t18
  clear q0 q1 q2 q3 q4 q5 q6 q7 t77 t47 t17 t37 hb7 hb8 hb68 H9 H10 HT7 HT46 HT16 HT36 HEO6 hB6 hneq
  obtain ⟨q2, q3⟩ := cell_two t48
  obtain ⟨q4, q5⟩ := cell_two t18
  clear t48 t18
  go_wp2
  go_ret
  exact ⟨rfl, hB8⟩
set_option maxRecDepth 8000 in
set_option maxHeartbeats 4000000 in
theorem cliLaw_good {w : World} {N : Nat} {vo : Option Addr} {vc : Nat} {es : List Pair} (hE : EdgesAt w (.slice vo es.length vc) es) (hcap : es.length ≤ vc) (hs : (chk N es).1 = 0) (hN : N ≤ 24) :
    Calls Try.prog 4 #[.agg #[.int .i64 (N : Int), .slice vo es.length vc]] w fun e w' => e = .returned (.bool true) ∧ Below w.heap.size w w' := by
  have HE : Hid (EdgesAt w (.slice vo es.length vc) es) := hE
  have HS : Hid (smallF (N : Int) es 24 = (0, 0)) := by
    show smallF (N : Int) es 24 = (0, 0)
    unfold smallF
    rw [if_neg (fun h => h hs), if_neg (by omega)]
  have HCHK : Hid ((chk (N : Int) es).1 = 0) := hs
  clear hE hs
  go_enter Try.func4, Try.ntmps4
  go_upto_region 1 with (fail)
  have t1 := two_new w (.int .i64 (N : Int)) (.slice vo es.length vc) 24
  have hB0 := below_alloc (Below.refl _ w) (Obj.cells #[.int .i64 (N : Int), .slice vo es.length vc] 24)
  obtain ⟨b1, hb1⟩ : ∃ b, b = w.heap.size := ⟨_, rfl⟩
  rw [← hb1] at t1 ⊢
  generalize w.alloc (Obj.cells #[.int .i64 (N : Int), .slice vo es.length vc] 24) = W0 at t1 hB0 ⊢
  have HT1 : Hid (Two W0 b1 (.int .i64 (N : Int)) (.slice vo es.length vc) 24) := t1
  obtain ⟨q0, q1⟩ := cell_two t1
  have h6 := own_any (N : Int) vo vc es W0 (HE.out.below hB0)
  have H6 : Hid (Calls Try.prog 5 #[.agg #[.int .i64 (N : Int), .slice vo es.length vc]] W0 fun e w' => Below W0.heap.size W0 w' ∧ ∃ ao c, e = .returned (.agg #[.int .i64 (N : Int), .slice ao es.length c]) ∧ EdgesAt w' (.slice ao es.length c) es ∧ es.length ≤ c) := h6
  clear hb1 h6 t1
  go_upto_region 2 with (first | (go_at_call 5; refine Calls.mono H6.out ?_; rintro e W1 ⟨hb1, ao, ac, rfl, hEo, _⟩) | go_in)
  have hb1a := below_alloc hb1 (Obj.cells #[.int .i64 (N : Int), .slice ao es.length ac] 24)
  have t3 := two_new W1 (.int .i64 (N : Int)) (.slice ao es.length ac) 24
  have HEO : Hid (EdgesAt (W1.alloc (Obj.cells #[.int .i64 (N : Int), .slice ao es.length ac] 24)) (.slice ao es.length ac) es) := hEo.below (below_alloc (Below.refl _ W1) _)
  obtain ⟨b3, hb3⟩ : ∃ b, b = W1.heap.size := ⟨_, rfl⟩
  rw [← hb3] at t3 ⊢
  generalize W1.alloc (Obj.cells #[.int .i64 (N : Int), .slice ao es.length ac] 24) = W2 at t3 hb1a HEO ⊢
  have t12 := two_next HT1.out hb1a
  have HT12 : Hid (Two W2 b1 (.int .i64 (N : Int)) (.slice vo es.length vc) 24) := t12
  have HT3 : Hid (Two W2 b3 (.int .i64 (N : Int)) (.slice ao es.length ac) 24) := t3
  have hB2 := below_next hB0 hb1a
  clear q0 q1 H6 hb1 hEo hb3 hb1a t3 HT1 hB0
  obtain ⟨q0, q1⟩ := cell_two t12
  clear t12
  have H7 : Hid (Calls Try.prog 13 #[.agg #[.int .i64 (N : Int), .slice vo es.length vc], .int .i64 24] W2 fun e w' => e = .returned (.agg #[.int .i64 0, .int .i64 0]) ∧ Below W2.heap.size W2 w') := by
    have h7 := smallFault_call (n := (N : Int)) (most := 24) (HE.out.below hB2) hcap
    have e7 : smallF (N : Int) es ((24 : Nat) : Int) = (0, 0) := HS.out
    rw [e7] at h7
    exact h7
  go_upto_region 3 with (first | (go_at_call 13; refine Calls.mono H7.out ?_; rintro e W3 ⟨rfl, hb3⟩) | go_in)
  have hb3a := below_alloc hb3 (Obj.cells #[.int .i64 0, .int .i64 0] 27)
  have t4 := two_new W3 (.int .i64 0) (.int .i64 0) 27
  have HEO4 : Hid (EdgesAt (W3.alloc (Obj.cells #[.int .i64 0, .int .i64 0] 27)) (.slice ao es.length ac) es) := HEO.out.below hb3a
  obtain ⟨b4, hb4⟩ : ∃ b, b = W3.heap.size := ⟨_, rfl⟩
  rw [← hb4] at t4 ⊢
  generalize W3.alloc (Obj.cells #[.int .i64 0, .int .i64 0] 27) = W4 at t4 hb3a HEO4 ⊢
  have HT4 : Hid (Two W4 b4 (.int .i64 0) (.int .i64 0) 27) := t4
  have t14 := two_next HT12.out hb3a
  have t34 := two_next HT3.out hb3a
  have HT14 : Hid (Two W4 b1 (.int .i64 (N : Int)) (.slice vo es.length vc) 24) := t14
  have HT34 : Hid (Two W4 b3 (.int .i64 (N : Int)) (.slice ao es.length ac) 24) := t34
  have hB4 := below_next hB2 hb3a
  clear q0 q1 H7 hb3 hb4 hb3a t4 t14 HT12 HT3 hB2 HEO
  obtain ⟨q0, q1⟩ := cell_two t34
  clear t34
  have H14 : Hid (Calls Try.prog 14 #[.agg #[.int .i64 (N : Int), .slice ao es.length ac]] W4 fun r w' => ∃ (so : Option Addr) (Ls : List (List Nat)) (sc : Nat), r = .returned (.tuple #[.slice so Ls.length sc, .agg #[.int .i64 0, .int .i64 0]]) ∧ ListR N es W4.heap.size w' (.slice so Ls.length sc) Ls ∧ Below W4.heap.size W4 w') := cliq_any HEO4.out HCHK.out hN
  go_upto_region 4 with (first | (go_at_call 14; refine Calls.mono H14.out ?_; rintro e W5 ⟨so, Ls, sc, rfl, hlr, hb5⟩) | go_in)
  have HLR : Hid (ListR N es W4.heap.size W5 (.slice so Ls.length sc) Ls) := hlr
  clear hlr H14
  have t7 := two_new W5 (.int .i64 0) (.int .i64 0) 27
  have hb5a := below_alloc hb5 (Obj.cells #[.int .i64 0, .int .i64 0] 27)
  have hb55 := below_alloc (Below.refl _ W5) (Obj.cells #[.int .i64 0, .int .i64 0] 27)
  obtain ⟨b7, hb7⟩ : ∃ b, b = W5.heap.size := ⟨_, rfl⟩
  rw [← hb7] at t7 ⊢
  generalize W5.alloc (Obj.cells #[.int .i64 0, .int .i64 0] 27) = W6 at t7 hb5a hb55 ⊢
  have HB56 : Hid (Below W5.heap.size W5 W6) := hb55
  have HT7 : Hid (Two W6 b7 (.int .i64 0) (.int .i64 0) 27) := t7
  have HT46 : Hid (Two W6 b4 (.int .i64 0) (.int .i64 0) 27) := two_next HT4.out hb5a
  have HT16 : Hid (Two W6 b1 (.int .i64 (N : Int)) (.slice vo es.length vc) 24) := two_next HT14.out hb5a
  have HT36 : Hid (Two W6 b3 (.int .i64 (N : Int)) (.slice ao es.length ac) 24) := two_next HT34.out hb5a
  have HEO6 : Hid (EdgesAt W6 (.slice ao es.length ac) es) := HEO4.out.below hb5a
  have hB6 := below_next hB4 hb5a
  have H9 : Hid (Calls Try.prog 8 #[] W6 fun e w' => e = .returned (.bool true) ∧ Below W6.heap.size W6 w') := begun_call W6
  have H10 : Hid (∀ W, Below W6.heap.size W6 W → Calls Try.prog 9 #[.agg #[.int .i64 (N : Int), .slice ao es.length ac], .agg #[.int .i64 (N : Int), .slice vo es.length vc]] W fun e w' => e = .returned (.bool true) ∧ Below W.heap.size W w') := fun W hW => kept_true (N : Int) _ _ es W (HEO6.out.below hW) (HE.out.below (below_next hB6 hW))
  have hneq := neq27 0 0
  clear q0 q1 hb5 hb5a hb55 hb7 t7 HT4 HT14 HT34 HEO4 hB4
  go_upto_region 6 with (first
    | (go_at_call 8; refine Calls.mono H9.out ?_; rintro e W7 ⟨rfl, hb7⟩; have t77 := two_next HT7.out hb7; have t47 := two_next HT46.out hb7; have t17 := two_next HT16.out hb7; have t37 := two_next HT36.out hb7; obtain ⟨q0, q1⟩ := cell_two t77; obtain ⟨q2, q3⟩ := cell_two t47; obtain ⟨q4, q5⟩ := cell_two t17; obtain ⟨q6, q7⟩ := cell_two t37)
    | (go_at_call 9; refine Calls.mono (H10.out _ hb7) ?_; rintro e W8 ⟨rfl, hb8⟩)
    | go_in)
  have hb68 := below_next hb7 hb8
  have hB8 := below_next hB6 hb68
  have t48 := two_next HT46.out hb68
  have t18 := two_next HT16.out hb68
  have HB68 : Hid (Below W6.heap.size W6 W8) := hb68
  have HT18 : Hid (Two W8 b1 (.int .i64 (N : Int)) (.slice vo es.length vc) 24) := t18
  clear q0 q1 q2 q3 q4 q5 q6 q7 t77 t47 t17 t37 hb7 hb8 hb68 H9 H10 HT7 HT46 HT16 HT36 HEO6 hB6 hneq
  obtain ⟨q2, q3⟩ := cell_two t48
  obtain ⟨q4, q5⟩ := cell_two t18
  clear t48 t18
  by_cases hbig : N > 11
  · have k1 : (N : Int) > 11 := by omega
    obtain ⟨sl, hsl⟩ : ∃ sl, sl = Ls.length := ⟨_, rfl⟩
    rw [← hsl]
    clear hsl
    go_wp2
    go_ret
    exact ⟨rfl, hB8⟩
  · have k1 : ¬ (N : Int) > 11 := by omega
    obtain ⟨_, _, _, hlen, hgood⟩ := chk_good HCHK.out
    have h10 : Calls Try.prog 10 #[.agg #[.int .i64 (N : Int), .slice vo es.length vc]] W8 fun e w' => Below W8.heap.size W8 w' ∧ ∃ ao cap, e = .returned (.slice ao N cap) ∧ GridAt w' (.slice ao N cap) N (hasB es) := gridOf_any N _ es W8 (HE.out.below hB8) (by omega) hlen hgood
    have H10 : Hid (Calls Try.prog 10 #[.agg #[.int .i64 (N : Int), .slice vo es.length vc]] W8 fun e w' => Below W8.heap.size W8 w' ∧ ∃ ao cap, e = .returned (.slice ao N cap) ∧ GridAt w' (.slice ao N cap) N (hasB es)) := h10
    have H16 : Hid (∀ (W : World) (ao : Option Addr) (cap : Nat), GridAt W (.slice ao N cap) N (hasB es) → Calls Try.prog 16 #[.slice ao N cap] W fun r w' => ∃ (so' : Option Addr) (sc' : Nat), r = .returned (.slice so' Ls.length sc') ∧ ListsAt w' W.heap.size (.slice so' Ls.length sc') Ls ∧ RefI N (bothB es) (2 ^ N) Ls ∧ Below W.heap.size W w') := fun W ao cap hg => by
      refine (refCliques_call hg (by omega)).mono ?_
      rintro r w' ⟨so', F, sc', rfl, h1, h2, h3⟩
      have e := HLR.out.same F h2
      subst e
      exact ⟨so', sc', rfl, h1, h2, h3⟩
    have H15 : Hid (∀ (W : World) (so' : Option Addr) (sc' b' : Nat), Below W8.heap.size W8 W → ListsAt W b' (.slice so' Ls.length sc') Ls → RefI N (bothB es) (2 ^ N) Ls → Calls Try.prog 15 #[.slice so Ls.length sc, .slice so' Ls.length sc'] W fun e w' => e = .returned (.bool true) ∧ Below W.heap.size W w') := fun W so' sc' b' hb h1 h2 => by
      refine (listsL_true (HLR.out.below (below_next HB56.out (below_next HB68.out hb))).lists h1 (h2.len hN) (fun l hl => by have := h2.rows l hl; omega)).mono ?_
      rintro e w' ⟨rfl, m, rfl⟩
      exact ⟨rfl, drewN_below _ _⟩
    obtain ⟨sl, hsl⟩ : ∃ sl, sl = Ls.length := ⟨_, rfl⟩
    rw [← hsl] at H16 H15 ⊢
    clear hgood hlen h10 hsl hbig
    go_wp2_with (first
      | (go_at_call 10; refine Calls.mono H10.out ?_; rintro e W9 ⟨hb9, gao, gcap, rfl, hG⟩)
      | (go_at_call 16; refine Calls.mono (H16.out _ _ _ hG) ?_; rintro e Wa ⟨so', sc', rfl, h1, h2, hba⟩)
      | (go_at_call 15; refine Calls.mono (H15.out _ _ _ _ (below_next hb9 hba) h1 h2) ?_; rintro e Wb ⟨rfl, hbb⟩)
      | go_in)
    go_ret
    exact ⟨rfl, below_next hB8 (below_next (below_next hb9 hba) hbb)⟩
end Go.Proofs.Ytkkfjfphmlcieaa
