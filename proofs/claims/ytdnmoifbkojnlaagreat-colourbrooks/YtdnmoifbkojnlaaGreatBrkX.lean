/- Brooks: whatever graph it is given. -/
import Derived.Test.YtdnmoifbkojnlaaGreatBrkA
import Derived.Test.YtdnmoifbkojnlaaGreatBrkB
import Derived.Test.YtdnmoifbkojnlaaGreatBrkC
namespace Go.Proofs.YtdnmoifbkojnlaaGreat
open Go.RowKit Go.Maps
attribute [local go_sem ↓] Go.wp_at_zero Go.wp_at_succ
theorem brooks_call {w : World} {N : Nat} {vo : Option Addr} {vc : Nat} {es : List Pair} (hE : EdgesAt w (.slice vo es.length vc) es) (hs : (chk N es).1 = 0) {R : Nat → Nat → Bool} (hR : ∀ v x, R v x = true ↔ Star (St N (eB es) allB) v x) :
    Calls Tryz.prog 6 #[.agg #[.int .i64 (N : Int), .slice vo es.length vc]] w fun e w' => ((Kind N es R ∧ e = .returned (.tuple #[.slice none 0 0, .agg #[.int .i64 8, .int .i64 0]])) ∨ (¬ Kind N es R ∧ ∃ (ro : Option Addr) (rc : Nat) (M : List Nat), e = .returned (.tuple #[.slice ro N rc, .agg #[.int .i64 0, .int .i64 0]]) ∧ NumF w' ro N (fun i => (M.getD i 0 : Int)) ∧ M.length = N ∧ Prop' (dgM (eB es) N N) (fun v z => hasB es (v : Int) (z : Int)) M)) ∧ Below w.heap.size w w' := by
  by_cases h1 : partsN N allB R = 1
  · by_cases h2 : 2 * es.length = N * (N - 1)
    · refine (brooks_kind hE hs hR (Or.inr h2)).mono ?_
      rintro e w' ⟨h, hb⟩
      exact ⟨Or.inl ⟨Or.inr (Or.inl h2), h⟩, hb⟩
    · by_cases h3 : 2 < dgM (eB es) N N
      · refine (brooks_few hE hs hR h1 h2 h3).mono ?_
        rintro e w' ⟨h, hb⟩
        refine ⟨Or.inr ⟨?_, h⟩, hb⟩
        rintro (h | h | h)
        · exact h h1
        · exact h2 h
        · omega
      · refine (brooks_two hE hs hR h1 h2 (by omega)).mono ?_
        rintro e w' ⟨⟨h, he⟩ | ⟨h, he⟩, hb⟩
        · exact ⟨Or.inl ⟨Or.inr (Or.inr h), he⟩, hb⟩
        · refine ⟨Or.inr ⟨?_, he⟩, hb⟩
          rintro (h' | h' | h')
          · exact h' h1
          · exact h2 h'
          · exact h h'
  · refine (brooks_kind hE hs hR (Or.inl h1)).mono ?_
    rintro e w' ⟨h, hb⟩
    exact ⟨Or.inl ⟨Or.inl h1, h⟩, hb⟩
set_option maxRecDepth 4000 in
set_option maxHeartbeats 2000000 in
theorem brooks_bad {w : World} {n : Int} {vo : Option Addr} {vc : Nat} {es : List Pair} (hE : EdgesAt w (.slice vo es.length vc) es) {c d : Int} {a : Ans} (hs : formS n es = a) (ha : a.c = c ∧ a.pos = d) (hc : c ≠ 0) :
    Calls Tryz.prog 6 #[.agg #[.int .i64 n, .slice vo es.length vc]] w fun e w' => e = .returned (.tuple #[.slice none 0 0, .agg #[.int .i64 c, .int .i64 d]]) ∧ Below w.heap.size w w' := by
  have HE : Hid (EdgesAt w (.slice vo es.length vc) es) := hE
  have HFS : Hid (formS n es = a) := hs
  have HA : Hid (a.c = c ∧ a.pos = d) := ha
  have kc : (c != 0) = true := by simp [hc]
  clear hE hs ha
  go_enter Tryz.func6, Tryz.ntmps6
  go_upto_region 1 with (fail)
  have t1 := two_alloc (two_new w (.int .i64 n) (.slice vo es.length vc) 24) (Obj.cells #[.int .i64 0, .int .i64 0] 27)
  have t3 := two_nxt w (Obj.cells #[.int .i64 n, .slice vo es.length vc] 24) (.int .i64 0) (.int .i64 0) 27
  have hB0 := below_alloc (below_alloc (Below.refl _ w) (Obj.cells #[.int .i64 n, .slice vo es.length vc] 24)) (Obj.cells #[.int .i64 0, .int .i64 0] 27)
  obtain ⟨b1, hb1⟩ : ∃ b, b = w.heap.size := ⟨_, rfl⟩
  obtain ⟨b3, hb3⟩ : ∃ b, b = w.heap.size + 1 := ⟨_, rfl⟩
  have HB3 : Hid (w.heap.size ≤ b3) := by show w.heap.size ≤ b3; omega
  rw [← hb3] at t3 ⊢
  rw [← hb1] at t1 ⊢
  generalize (w.alloc (Obj.cells #[.int .i64 n, .slice vo es.length vc] 24)).alloc (Obj.cells #[.int .i64 0, .int .i64 0] 27) = W0 at t1 t3 hB0 ⊢
  clear hb1 hb3
  obtain ⟨q0, q1⟩ := cell_two t1
  have h34 := form_as (HE.out.below hB0) HFS.out
  obtain ⟨an, fes, ac, ap⟩ := a
  obtain ⟨rfl, rfl⟩ := HA.out
  obtain ⟨fl, hfl⟩ : ∃ fl, fl = fes.length := ⟨_, rfl⟩
  have H34 : Hid (Calls Tryz.prog 15 #[.agg #[.int .i64 n, .slice vo es.length vc]] W0 fun e w' => Below W0.heap.size W0 w' ∧ ∃ ao cap, e = .returned (.tuple #[.agg #[.int .i64 an, .slice ao fl cap], .agg #[.int .i64 ac, .int .i64 ap]])) := h34.mono (by
    rintro e w' ⟨hb, ao, cap, rfl, hEl, _⟩
    rw [hfl]
    exact ⟨hb, ao, cap, rfl⟩)
  have kc' : (ac != 0) = true := kc
  clear h34 hfl HFS HA kc
  go_upto_region 2 with (first | (go_at_call 15; refine Calls.mono H34.out ?_; rintro e W1 ⟨hb, lo, lc, rfl⟩) | go_in)
  have t5 := two_nxt W1 (Obj.cells #[.int .i64 an, .slice lo fl lc] 24) (.int .i64 ac) (.int .i64 ap) 27
  have hB2 := below_alloc (below_alloc hb (Obj.cells #[.int .i64 an, .slice lo fl lc] 24)) (Obj.cells #[.int .i64 ac, .int .i64 ap] 27)
  obtain ⟨b4, hb4⟩ : ∃ b, b = W1.heap.size := ⟨_, rfl⟩
  obtain ⟨b5, hb5⟩ : ∃ b, b = W1.heap.size + 1 := ⟨_, rfl⟩
  rw [← hb5] at t5 ⊢
  rw [← hb4]
  generalize (W1.alloc (Obj.cells #[.int .i64 an, .slice lo fl lc] 24)).alloc (Obj.cells #[.int .i64 ac, .int .i64 ap] 27) = W2 at t5 hB2 ⊢
  have t3' := two_next t3 hB2
  have HBW : Hid (Below w.heap.size w W2) := below_next hB0 hB2
  clear hb4 hb5 q0 q1 H34 hb hB2 hB0 t1 t3
  obtain ⟨q0, q1⟩ := cell_two t5
  obtain ⟨q2, q3⟩ := cell_two t3'
  have f0 := free_two t3'
  go_upto_region 3 with (fail)
  go_region
  all_goals
    go_wp2
    obtain ⟨s0, s1⟩ := cell_two (two_setN (x' := .int .i64 ac) (y' := .int .i64 ap) t3')
    have hBf := ((HBW.out.setCell (p := ⟨b3, 0, none⟩) HB3.out (.int .i64 ac)).setCell (p := ⟨b3, 1, none⟩) HB3.out (.int .i64 ap)).drew
    refine bodyPost_ret (v := .tuple #[.slice none 0 0, .agg #[.int .i64 ac, .int .i64 ap]]) ?_ rfl ⟨rfl, hBf⟩
    simp [results, Tryz.results6, go_sem, s0, s1]
end Go.Proofs.YtdnmoifbkojnlaaGreat
