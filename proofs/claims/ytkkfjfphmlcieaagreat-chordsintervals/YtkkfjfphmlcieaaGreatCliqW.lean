/- checkSmall; Cliques. -/
import Derived.Test.YtkkfjfphmlcieaaGreatOrderW
import Derived.Test.YtkkfjfphmlcieaaGreatWholeW
namespace Go.Proofs.YtkkfjfphmlcieaaGreat
open Go.RowKit Go.Maps
attribute [local go_sem ↓] Go.wp_at_zero Go.wp_at_succ
/-- The faults of a graph that must be small. -/
def smallF (n : Int) (es : List Pair) (lim : Int) : Pair := if (chk n es).1 ≠ 0 then chk n es else if lim < n then (2, 0) else (0, 0)
set_option maxHeartbeats 2000000 in
theorem small_call {w : World} {n : Int} {vo : Option Addr} {vc : Nat} {es : List Pair} (hE : EdgesAt w (.slice vo es.length vc) es) (lim : Int) :
    Calls Tryz.prog 20 #[.agg #[.int .i64 n, .slice vo es.length vc], .int .i64 lim] w fun e w' => e = .returned (.agg #[.int .i64 (smallF n es lim).1, .int .i64 (smallF n es lim).2]) ∧ Below w.heap.size w w' := by
  have HE : Hid (EdgesAt w (.slice vo es.length vc) es) := hE
  obtain ⟨c, d, hs⟩ : ∃ c d, chk n es = (c, d) := ⟨_, _, rfl⟩
  obtain ⟨x, y, hxy⟩ : ∃ x y, smallF n es lim = (x, y) := ⟨_, _, rfl⟩
  have HS : Hid (chk n es = (c, d)) := hs
  have HX : Hid (smallF n es lim = (x, y)) := hxy
  rw [hxy]
  clear hE hs hxy
  show Calls Tryz.prog 20 #[.agg #[.int .i64 n, .slice vo es.length vc], .int .i64 lim] w fun e w' => e = .returned (.agg #[.int .i64 x, .int .i64 y]) ∧ Below w.heap.size w w'
  go_enter Tryz.func20, Tryz.ntmps20
  go_upto_region 1 with (fail)
  have t1 := two_alloc (two_new w (.int .i64 n) (.slice vo es.length vc) 24) (Obj.cells #[.int .i64 0, .int .i64 0] 27)
  have t4 := two_nxt w (Obj.cells #[.int .i64 n, .slice vo es.length vc] 24) (.int .i64 0) (.int .i64 0) 27
  have hB0 := below_alloc (below_alloc (Below.refl _ w) (Obj.cells #[.int .i64 n, .slice vo es.length vc] 24)) (Obj.cells #[.int .i64 0, .int .i64 0] 27)
  obtain ⟨b1, hb1⟩ : ∃ b, b = w.heap.size := ⟨_, rfl⟩
  obtain ⟨b4, hb4⟩ : ∃ b, b = w.heap.size + 1 := ⟨_, rfl⟩
  have HB4 : Hid (w.heap.size ≤ b4) := by show w.heap.size ≤ b4; omega
  rw [← hb4] at t4 ⊢
  rw [← hb1] at t1 ⊢
  generalize (w.alloc (Obj.cells #[.int .i64 n, .slice vo es.length vc] 24)).alloc (Obj.cells #[.int .i64 0, .int .i64 0] 27) = W0 at t1 t4 hB0 ⊢
  clear hb1 hb4
  obtain ⟨q0, q1⟩ := cell_two t1
  have H19 : Hid (Calls Tryz.prog 34 #[.agg #[.int .i64 n, .slice vo es.length vc]] W0 fun e w' => e = .returned (.agg #[.int .i64 c, .int .i64 d]) ∧ Below W0.heap.size W0 w') := check_as (HE.out.below hB0) HS.out
  go_upto_region 2 with (first | (go_at_call 34; refine Calls.mono H19.out ?_; rintro e W1 ⟨rfl, hb1⟩) | go_in)
  have hb1a := below_alloc hb1 (Obj.cells #[.int .i64 c, .int .i64 d] 27)
  have t5 := two_new W1 (.int .i64 c) (.int .i64 d) 27
  obtain ⟨b5, hb5⟩ : ∃ b, b = W1.heap.size := ⟨_, rfl⟩
  rw [← hb5] at t5 ⊢
  generalize W1.alloc (Obj.cells #[.int .i64 c, .int .i64 d] 27) = W2 at t5 hb1a ⊢
  have t4' := two_next t4 hb1a
  have t1' := two_next t1 hb1a
  have HBW : Hid (Below w.heap.size w W2) := below_next hB0 hb1a
  clear q0 q1 H19 hb1 hb1a hb5 t1 t4 hB0
  obtain ⟨q0, q1⟩ := cell_two t5
  obtain ⟨q2, q3⟩ := cell_two t4'
  obtain ⟨q4, q5⟩ := cell_two t1'
  have f0 := free_two t4'
  have hend : ∀ u v : Int, (W2.setCell ⟨b4, 0, none⟩ (.int .i64 u)).cell? ⟨b4, 1, none⟩ = some (.int .i64 0) := fun u v => box_cell (box_set t4' 0 (.int .i64 u)) rfl
  have hfre : ∀ u : Int, (W2.setCell ⟨b4, 0, none⟩ (.int .i64 u)).frozen? ⟨b4, 1, none⟩ = false := fun u => box_free (box_set t4' 0 (.int .i64 u)) 1
  obtain ⟨s0, s1⟩ := cell_two (two_setN (x' := .int .i64 x) (y' := .int .i64 y) t4')
  have HBF : Hid (Below w.heap.size w ((W2.setCell ⟨b4, 0, none⟩ (.int .i64 x)).setCell ⟨b4, 1, none⟩ (.int .i64 y))) := (HBW.out.setCell (p := ⟨b4, 0, none⟩) HB4.out (.int .i64 x)).setCell (p := ⟨b4, 1, none⟩) HB4.out (.int .i64 y)
  by_cases hc : c = 0
  · have kc : (c != 0) = false := by simp [hc]
    by_cases hl : lim < n
    · have hx : (x, y) = (2, 0) := by
        rw [← HX.out]
        unfold smallF
        rw [HS.out, if_neg (fun h => h hc), if_pos hl]
      injection hx with e1 e2
      subst e1
      subst e2
      have k1 : n > lim := hl
      clear hc hend
      go_wp2
      refine bodyPost_ret (v := .agg #[.int .i64 2, .int .i64 0]) ?_ rfl ⟨rfl, HBF.out⟩
      simp [results, Tryz.results20, go_sem, s0, s1]
    · have hx : (x, y) = (0, 0) := by
        rw [← HX.out]
        unfold smallF
        rw [HS.out, if_neg (fun h => h hc), if_neg hl]
      injection hx with e1 e2
      subst e1
      subst e2
      have k1 : ¬ n > lim := hl
      clear hc hend
      go_wp2
      refine bodyPost_ret (v := .agg #[.int .i64 0, .int .i64 0]) ?_ rfl ⟨rfl, HBF.out⟩
      simp [results, Tryz.results20, go_sem, s0, s1]
  · have kc : (c != 0) = true := by simp [hc]
    have hx : (x, y) = (c, d) := by
      rw [← HX.out]
      unfold smallF
      rw [HS.out, if_pos hc]
    injection hx with e1 e2
    subst e1
    subst e2
    clear hc hend
    go_wp2
    refine bodyPost_ret (v := .agg #[.int .i64 x, .int .i64 y]) ?_ rfl ⟨rfl, HBF.out⟩
    simp [results, Tryz.results20, go_sem, s0, s1]
set_option maxHeartbeats 4000000 in
theorem cliq_ok {w : World} {N : Nat} {vo : Option Addr} {vc : Nat} {es : List Pair} (hE : EdgesAt w (.slice vo es.length vc) es) (hs : (chk N es).1 = 0) (hN : N ≤ 24) (hN0 : 0 < N) :
    Calls Tryz.prog 25 #[.agg #[.int .i64 (N : Int), .slice vo es.length vc]] w fun r w' => (∃ v, r = .returned (.tuple #[v, .agg #[.int .i64 0, .int .i64 0]]) ∧ CliEnd N (bothB es) w.heap.size (.returned v) w') ∧ Below w.heap.size w w' := by
  obtain ⟨hs0, _, hN', hle, hgd⟩ := chk_good hs
  have HE : Hid (EdgesAt w (.slice vo es.length vc) es) := hE
  have HS : Hid (smallF (N : Int) es 24 = (0, 0)) := by
    show smallF (N : Int) es 24 = (0, 0)
    unfold smallF
    rw [if_neg (fun h => h hs), if_neg (by omega)]
  have HGD : Hid (∀ e ∈ es, (0 ≤ e.1 ∧ e.1 < (N : Int) ∧ 0 ≤ e.2 ∧ e.2 < (N : Int)) ∧ e.1 ≠ e.2) := hgd
  clear hE hs hs0 hN' hle hgd
  go_enter Tryz.func25, Tryz.ntmps25
  go_upto_region 1 with (fail)
  have t1 := two_alloc (two_new w (.int .i64 (N : Int)) (.slice vo es.length vc) 24) (Obj.cells #[.int .i64 0, .int .i64 0] 27)
  have t4 := two_nxt w (Obj.cells #[.int .i64 (N : Int), .slice vo es.length vc] 24) (.int .i64 0) (.int .i64 0) 27
  have hB0 := below_alloc (below_alloc (Below.refl _ w) (Obj.cells #[.int .i64 (N : Int), .slice vo es.length vc] 24)) (Obj.cells #[.int .i64 0, .int .i64 0] 27)
  obtain ⟨b1, hb1⟩ : ∃ b, b = w.heap.size := ⟨_, rfl⟩
  obtain ⟨b4, hb4⟩ : ∃ b, b = w.heap.size + 1 := ⟨_, rfl⟩
  have HB4 : Hid (w.heap.size ≤ b4) := by show w.heap.size ≤ b4; omega
  rw [← hb4] at t4 ⊢
  rw [← hb1] at t1 ⊢
  generalize (w.alloc (Obj.cells #[.int .i64 (N : Int), .slice vo es.length vc] 24)).alloc (Obj.cells #[.int .i64 0, .int .i64 0] 27) = W0 at t1 t4 hB0 ⊢
  clear hb1 hb4
  obtain ⟨q0, q1⟩ := cell_two t1
  have H27 : Hid (Calls Tryz.prog 20 #[.agg #[.int .i64 (N : Int), .slice vo es.length vc], .int .i64 24] W0 fun e w' => e = .returned (.agg #[.int .i64 0, .int .i64 0]) ∧ Below W0.heap.size W0 w') := by
    have := small_call (n := (N : Int)) (vc := vc) (HE.out.below hB0) 24
    rw [HS.out] at this
    exact this
  go_upto_region 2 with (first | (go_at_call 20; refine Calls.mono H27.out ?_; rintro e W1 ⟨rfl, hb1⟩) | go_in)
  have hb1a := below_alloc hb1 (Obj.cells #[.int .i64 0, .int .i64 0] 27)
  have t5 := two_new W1 (.int .i64 0) (.int .i64 0) 27
  obtain ⟨b5, hb5⟩ : ∃ b, b = W1.heap.size := ⟨_, rfl⟩
  rw [← hb5] at t5 ⊢
  generalize W1.alloc (Obj.cells #[.int .i64 0, .int .i64 0] 27) = W2 at t5 hb1a ⊢
  have HT1 : Hid (Two W2 b1 (.int .i64 (N : Int)) (.slice vo es.length vc) 24) := two_next t1 hb1a
  have HT4 : Hid (Two W2 b4 (.int .i64 0) (.int .i64 0) 27) := two_next t4 hb1a
  have HBW : Hid (Below w.heap.size w W2) := below_next hB0 hb1a
  obtain ⟨q2, q3⟩ := cell_two t5
  clear q0 q1 H27 hb1 hb1a hb5 t5 t1 t4 hB0
  obtain ⟨q0, q1⟩ := cell_two HT1.out
  have H20 : Hid (Calls Tryz.prog 33 #[.agg #[.int .i64 (N : Int), .slice vo es.length vc]] W2 fun r w' => ∃ ao, r = .returned (.slice ao N N) ∧ (∀ g, ao = some g → W2.heap.size ≤ g.block) ∧ ∃ bl, NearsAt w' ao N bl (bothB es) ∧ (∀ i, i < N → W2.heap.size ≤ bl i) ∧ Below W2.heap.size W2 w') := nearBy_call N vo vc es W2 (HE.out.below HBW.out) (by omega) (fun e he => (HGD.out e he).1)
  have H28 : Hid (∀ (W : World) (ao : Option Addr) (bl : Nat → Nat), NearsAt W ao N bl (bothB es) → Calls Tryz.prog 41 #[.slice ao N N] W fun r w' => (∃ v, r = .returned v ∧ CliEnd N (bothB es) W.heap.size (.returned v) w') ∧ Below W.heap.size W w') := fun W ao bl h => by
    refine (whole_call h hN hN0 (bothB_sym es) (fun x => bothB_irr HGD.out x)).mono ?_
    rintro r w' ⟨hc, hb⟩
    obtain ⟨v, Ls, L, rfl, h1⟩ := hc
    exact ⟨⟨v, rfl, v, Ls, L, rfl, h1⟩, hb⟩
  go_wp2_with (first | (go_at_call 33; refine Calls.mono H20.out ?_; rintro e W3 ⟨ao, rfl, hao, bl, hnr, hbl, hb3⟩) | (go_at_call 41; refine Calls.mono (H28.out _ _ _ hnr) ?_; rintro e W6 ⟨⟨v, rfl, hce⟩, hb6⟩; have t46 := two_next (two_next HT4.out hb3) hb6; obtain ⟨z0, z1⟩ := cell_two t46; have f0 := free_two t46 0; have f1 := free_two t46 1; have y0 : (W6.setCell ⟨b4, 0, none⟩ (.int .i64 0)).cell? ⟨b4, 1, none⟩ = some (.int .i64 0) := box_cell (box_set t46 0 (.int .i64 0)) rfl; have y1 : (W6.setCell ⟨b4, 0, none⟩ (.int .i64 0)).frozen? ⟨b4, 1, none⟩ = false := box_free (box_set t46 0 (.int .i64 0)) 1) | go_in)
  have tz := two_setN t46 (x' := .int .i64 0) (y' := .int .i64 0)
  obtain ⟨x0, x1⟩ := cell_two tz
  have hl4 := lt_of_block HT4.out
  have hszw := HBW.out.size
  have hsz3 := hb3.size
  refine bodyPost_ret (v := .tuple #[v, .agg #[.int .i64 0, .int .i64 0]]) ?_ rfl ⟨⟨v, rfl, ?_⟩, ?_⟩
  · simp [results, Tryz.results25, go_sem, *]
  · obtain ⟨v', Ls, L, e, h1, h2⟩ := hce
    injection e with e
    subst e
    refine ⟨v, Ls, L, rfl, ListsAt.lower (h1.turns ((setCell_turns W6 b4 0 _).trans (setCell_turns _ b4 1 _)) (fun k hk => Or.inl ?_)) (by omega), h2⟩
    have : k = b4 := hk
    omega
  · exact ((below_next (below_next HBW.out hb3) hb6).setCell HB4.out _).setCell HB4.out _
end Go.Proofs.YtkkfjfphmlcieaaGreat
