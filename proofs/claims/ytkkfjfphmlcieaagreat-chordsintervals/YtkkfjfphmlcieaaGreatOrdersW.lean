/- Orders: its walk. -/
import Derived.Test.YtkkfjfphmlcieaaGreatDirectMW
import Derived.Test.YtkkfjfphmlcieaaGreatFormW
import Derived.Test.YtkkfjfphmlcieaaGreatNearW
import Derived.Test.YtkkfjfphmlcieaaGreatParts
namespace Go.Proofs.YtkkfjfphmlcieaaGreat
set_option maxRecDepth 8000
open Go.RowKit Go.Maps
attribute [local go_sem ↓] Go.wp_at_zero Go.wp_at_succ
/-- What direct leaves, by its two answers. -/
def DirRes (w : World) (N : Nat) (bl : Nat → Nat) (A : Nat → Nat → Bool) (v : Value) (bb : Bool) (w' : World) : Prop :=
  ((v = .slice none 0 0 ∧ bb = false ∧ ¬ Good A) ∨ (bb = true ∧ ∃ L : List (Nat × Nat), w'.ownsRow w.heap.size 38 2 v (toP L).length (flat (toP L)) ∧ Dir A (fun x y => (x, y) ∈ L) ∧ L.Nodup ∧ (toP L).Pairwise (fun a b => 0 ≤ cmpP b a))) ∧ Turns (Marks N bl) w w'
theorem DirEnd.res {w : World} {N : Nat} {bl : Nat → Nat} {A : Nat → Nat → Bool} {e : Ending} {w' : World} (h : DirEnd w N bl A e w') : ∃ v bb, e = .returned (.tuple #[v, .bool bb]) ∧ DirRes w N bl A v bb w' := by
  obtain ⟨⟨rfl, h1⟩ | ⟨v, L, rfl, h1, h2, h3, h4⟩, ht⟩ := h
  · exact ⟨_, _, rfl, Or.inl ⟨rfl, rfl, h1⟩, ht⟩
  · exact ⟨_, _, rfl, Or.inr ⟨rfl, L, h1, h2, h3, h4⟩, ht⟩
/-- What Orders answers. -/
def OrdsEnd (w : World) (A : Nat → Nat → Bool) (e : Ending) (w' : World) : Prop :=
  ((e = .returned (.tuple #[.slice none 0 0, .agg #[.int .i64 9, .int .i64 0]]) ∧ ¬ Good A) ∨ ∃ (v : Value) (L : List (Nat × Nat)), e = .returned (.tuple #[v, .agg #[.int .i64 0, .int .i64 0]]) ∧ w'.ownsRow w.heap.size 38 2 v (toP L).length (flat (toP L)) ∧ Dir A (fun x y => (x, y) ∈ L) ∧ L.Nodup ∧ (toP L).Pairwise (fun a b => 0 ≤ cmpP b a)) ∧ Below w.heap.size w w'
theorem bothB_allP {N : Nat} {es : List Pair} (hgd : ∀ e ∈ es, (0 ≤ e.1 ∧ e.1 < (N : Int) ∧ 0 ≤ e.2 ∧ e.2 < (N : Int)) ∧ e.1 ≠ e.2) (x y : Nat) : bothB (allP N (hasB es)) x y = bothB es x y := by
  unfold bothB
  rw [Bool.eq_iff_iff]
  constructor
  · intro h
    simp only [hasB, List.any_eq_true] at h
    obtain ⟨e, he, h⟩ := h
    obtain ⟨u, v, h1, h2, h3, rfl⟩ := allP_mem.1 he
    simp at h
    rcases h with ⟨h, h'⟩ | ⟨h, h'⟩
    · have e1 : u = x := by omega
      have e2 : v = y := by omega
      rw [← e1, ← e2]; exact h3
    · have e1 : u = y := by omega
      have e2 : v = x := by omega
      rw [hasB_comm, ← e1, ← e2]; exact h3
  · intro h
    have h0 := h
    simp only [hasB, List.any_eq_true] at h
    obtain ⟨e, he, h⟩ := h
    obtain ⟨⟨g1, g2, g3, g4⟩, g5⟩ := hgd e he
    simp only [hasB, List.any_eq_true]
    have hxy : x ≠ y ∧ x < N ∧ y < N := by
      simp at h
      rcases h with ⟨h, h'⟩ | ⟨h, h'⟩ <;> (refine ⟨?_, ?_, ?_⟩ <;> omega)
    rcases Nat.lt_or_gt_of_ne hxy.1 with hlt | hlt
    · exact ⟨((x : Int), (y : Int)), allP_mem.2 ⟨x, y, hlt, hxy.2.2, h0, rfl⟩, by simp⟩
    · exact ⟨((y : Int), (x : Int)), allP_mem.2 ⟨y, x, hlt, hxy.2.1, by rw [hasB_comm]; exact h0, rfl⟩, by simp⟩
theorem bothB_lt {N : Nat} {es : List Pair} (hgd : ∀ e ∈ es, (0 ≤ e.1 ∧ e.1 < (N : Int) ∧ 0 ≤ e.2 ∧ e.2 < (N : Int)) ∧ e.1 ≠ e.2) {x y : Nat} (h : bothB es x y = true) : x < N ∧ y < N := by
  simp only [bothB, hasB, List.any_eq_true] at h
  obtain ⟨e, he, h⟩ := h
  obtain ⟨⟨g1, g2, g3, g4⟩, g5⟩ := hgd e he
  simp at h
  rcases h with ⟨h, h'⟩ | ⟨h, h'⟩ <;> (constructor <;> omega)
theorem bothB_irr {N : Nat} {es : List Pair} (hgd : ∀ e ∈ es, (0 ≤ e.1 ∧ e.1 < (N : Int) ∧ 0 ≤ e.2 ∧ e.2 < (N : Int)) ∧ e.1 ≠ e.2) (x : Nat) : bothB es x x = false := by
  cases h : bothB es x x with
  | false => rfl
  | true =>
    simp only [bothB, hasB, List.any_eq_true] at h
    obtain ⟨e, he, h⟩ := h
    have := (hgd e he).2
    simp at h
    omega
theorem bothB_sym (es : List Pair) (x y : Nat) : bothB es x y = bothB es y x := hasB_comm es x y
set_option maxHeartbeats 4000000 in
theorem orders_ok {w : World} {N : Nat} {vo : Option Addr} {vc : Nat} {es : List Pair} (hE : EdgesAt w (.slice vo es.length vc) es) (hs : (chk N es).1 = 0) :
    Calls Tryz.prog 15 #[.agg #[.int .i64 (N : Int), .slice vo es.length vc]] w fun e w' => OrdsEnd w (bothB es) e w' := by
  obtain ⟨hs0, _, hN', hle, hgd⟩ := chk_good hs
  have hN : N ≤ 100 := by omega
  have HE : Hid (EdgesAt w (.slice vo es.length vc) es) := hE
  have HGD : Hid (∀ e ∈ es, (0 ≤ e.1 ∧ e.1 < (N : Int) ∧ 0 ≤ e.2 ∧ e.2 < (N : Int)) ∧ e.1 ≠ e.2) := hgd
  have hfl : (allP N (hasB es)).length ≤ 1000 := Nat.le_trans (allP_has_le N es) hle
  obtain ⟨fes, hfes⟩ : ∃ fes, fes = allP N (hasB es) := ⟨_, rfl⟩
  have HFES : Hid (fes = allP N (hasB es)) := hfes
  have h31 : ∀ W : World, Below w.heap.size w W → Calls Tryz.prog 31 #[.agg #[.int .i64 (N : Int), .slice vo es.length vc]] W fun e w' => Below W.heap.size W w' ∧ ∃ ao cap, e = .returned (.tuple #[.agg #[.int .i64 (N : Int), .slice ao fes.length cap], .agg #[.int .i64 0, .int .i64 0]]) ∧ EdgesAt w' (.slice ao fes.length cap) fes := fun W hW => by
    have := form_tells (N : Int) (.slice vo es.length vc) es W (hE.below hW)
    have e : formS (N : Int) es = ⟨N, allP N (hasB es), 0, 0⟩ := by
      unfold formS
      rw [if_pos hs]
      exact buildS_ok (by simpa using hN) (by simpa using hfl)
    rw [e] at this
    refine Calls.mono this ?_
    rintro e w' ⟨h1, ao, cap, rfl, h2, _⟩
    rw [hfes]
    exact ⟨h1, ao, cap, rfl, h2⟩
  have H31 : Hid (∀ W : World, Below w.heap.size w W → Calls Tryz.prog 31 #[.agg #[.int .i64 (N : Int), .slice vo es.length vc]] W fun e w' => Below W.heap.size W w' ∧ ∃ ao cap, e = .returned (.tuple #[.agg #[.int .i64 (N : Int), .slice ao fes.length cap], .agg #[.int .i64 0, .int .i64 0]]) ∧ EdgesAt w' (.slice ao fes.length cap) fes) := h31
  have HFG : Hid (∀ e ∈ fes, ∃ u v : Nat, e = ((u : Int), (v : Int)) ∧ u < N ∧ v < N) := fun e he => by
    rw [hfes] at he
    obtain ⟨u, v, h1, h2, _, rfl⟩ := allP_mem.1 he
    exact ⟨u, v, rfl, by omega, h2⟩
  have HFA : Hid (∀ x y : Nat, bothB es x y = true → ((x : Int), (y : Int)) ∈ fes ∨ ((y : Int), (x : Int)) ∈ fes) := fun x y h => by
    have hxy := bothB_lt hgd h
    rw [hfes]
    rcases Nat.lt_trichotomy x y with h1 | h1 | h1
    · exact Or.inl (allP_mem.2 ⟨x, y, h1, hxy.2, h, rfl⟩)
    · subst h1
      rw [bothB_irr hgd] at h; cases h
    · exact Or.inr (allP_mem.2 ⟨y, x, h1, hxy.1, (hasB_comm es y x).trans h, rfl⟩)
  have hfl' : fes.length ≤ 1000 := by rw [hfes]; exact hfl
  clear hE hs hs0 hN' hle hgd hfl hfes h31
  go_enter Tryz.func15, Tryz.ntmps15
  go_upto_region 1 with (fail)
  have t1 := two_alloc (two_new w (.int .i64 (N : Int)) (.slice vo es.length vc) 24) (Obj.cells #[.int .i64 0, .int .i64 0] 27)
  have t3 := two_nxt w (Obj.cells #[.int .i64 (N : Int), .slice vo es.length vc] 24) (.int .i64 0) (.int .i64 0) 27
  have hB0 := below_alloc (below_alloc (Below.refl _ w) (Obj.cells #[.int .i64 (N : Int), .slice vo es.length vc] 24)) (Obj.cells #[.int .i64 0, .int .i64 0] 27)
  obtain ⟨b1, hb1⟩ : ∃ b, b = w.heap.size := ⟨_, rfl⟩
  obtain ⟨b3, hb3⟩ : ∃ b, b = w.heap.size + 1 := ⟨_, rfl⟩
  have HB3 : Hid (w.heap.size ≤ b3) := by show w.heap.size ≤ b3; omega
  rw [← hb3] at t3 ⊢
  rw [← hb1] at t1 ⊢
  generalize (w.alloc (Obj.cells #[.int .i64 (N : Int), .slice vo es.length vc] 24)).alloc (Obj.cells #[.int .i64 0, .int .i64 0] 27) = W0 at t1 t3 hB0 ⊢
  clear hb1 hb3
  obtain ⟨q0, q1⟩ := cell_two t1
  have h31 := H31.out W0 hB0
  go_upto_region 2 with (first | (go_at_call 31; refine Calls.mono h31 ?_; rintro e W1 ⟨hb1, ao1, cap1, rfl, hE1⟩) | go_in)
  have t4 := two_alloc (two_new W1 (.int .i64 (N : Int)) (.slice ao1 fes.length cap1) 24) (Obj.cells #[.int .i64 0, .int .i64 0] 27)
  have t5 := two_nxt W1 (Obj.cells #[.int .i64 (N : Int), .slice ao1 fes.length cap1] 24) (.int .i64 0) (.int .i64 0) 27
  have hB2 := below_alloc (below_alloc (Below.refl _ W1) (Obj.cells #[.int .i64 (N : Int), .slice ao1 fes.length cap1] 24)) (Obj.cells #[.int .i64 0, .int .i64 0] 27)
  obtain ⟨b4, hb4⟩ : ∃ b, b = W1.heap.size := ⟨_, rfl⟩
  obtain ⟨b5, hb5⟩ : ∃ b, b = W1.heap.size + 1 := ⟨_, rfl⟩
  rw [← hb5] at t5 ⊢
  rw [← hb4] at t4 ⊢
  generalize (W1.alloc (Obj.cells #[.int .i64 (N : Int), .slice ao1 fes.length cap1] 24)).alloc (Obj.cells #[.int .i64 0, .int .i64 0] 27) = W2 at t4 t5 hB2 ⊢
  have HBW : Hid (Below w.heap.size w W2) := below_next (below_next hB0 hb1) hB2
  have HT3 : Hid (Two W2 b3 (.int .i64 0) (.int .i64 0) 27) := two_next (two_next t3 hb1) hB2
  have HE2 : Hid (EdgesAt W2 (.slice ao1 fes.length cap1) fes) := hE1.below hB2
  have HT4 : Hid (Two W2 b4 (.int .i64 (N : Int)) (.slice ao1 fes.length cap1) 24) := t4
  clear q0 q1 h31 hb1 hB2 hb4 hb5 hE1 t1 t3 hB0
  obtain ⟨q0, q1⟩ := cell_two t4
  obtain ⟨q2, q3⟩ := cell_two t5
  have H33 : Hid (Calls Tryz.prog 33 #[.agg #[.int .i64 (N : Int), .slice ao1 fes.length cap1]] W2.drew fun r w' => ∃ ao, r = .returned (.slice ao N N) ∧ ∃ bl, NearsAt w' ao N bl (bothB es) ∧ (∀ i, i < N → W2.heap.size ≤ bl i) ∧ Below W2.heap.size W2 w') := by
    refine Calls.mono (nearBy_call N ao1 cap1 fes W2.drew (HE2.out.below (drewN_below W2 1)) (by omega) (fun e he => ?_)) ?_
    · obtain ⟨u, v, rfl, h1, h2⟩ := HFG.out e he
      simp; omega
    · rintro e w' ⟨ao, rfl, h1, bl, h2, h3, h4⟩
      exact ⟨ao, rfl, bl, h2.congr (fun x y hx hy => by rw [HFES.out]; exact bothB_allP HGD.out x y), h3, below_next (drewN_below W2 1) h4⟩
  have H32 : Hid (∀ (W : World) (ao : Option Addr) (bl : Nat → Nat), Below W2.heap.size W2 W → NearsAt W ao N bl (bothB es) → Calls Tryz.prog 32 #[.slice ao N N, .slice ao1 fes.length cap1] W fun e w' => ∃ v bb, e = .returned (.tuple #[v, .bool bb]) ∧ DirRes W N bl (bothB es) v bb w') := fun W ao bl hW hn =>
    Calls.mono (direct_call (by omega) (bothB_sym es) (bothB_irr HGD.out) (fun x y h => bothB_lt HGD.out h) hn (HE2.out.below hW) HFG.out HFA.out (by omega)) (fun e w' h => h.res)
  clear t4 t5
  go_upto_region 4 with (fail)
  go_region_with (first
    | (go_at_call 33; refine Calls.mono H33.out ?_; rintro e' w3 ⟨ao3, rfl, bl, hn3, hbl3, hb3⟩; have q5 := (cell_two (two_next HT4.out hb3)).2)
    | (go_at_call 32; refine Calls.mono (H32.out _ _ _ hb3 hn3) ?_; rintro e' w4 ⟨v4, bb, rfl, hres⟩))
  all_goals
    obtain ⟨hres, ht⟩ := hres
    have hszm : ∀ k, Marks N bl k → W2.heap.size ≤ k := fun k ⟨i, hi, e⟩ => by rw [e]; exact hbl3 i hi
    have hBw : Below w.heap.size w w4 := Turns.below (below_next HBW.out hb3) ht (below_next HBW.out hb3).size (fun k hk => Nat.le_trans HBW.out.size (hszm k hk))
    have t3 : Two w4 b3 (.int .i64 0) (.int .i64 0) 27 := (ht.block b3 (lt_of_block (two_next HT3.out hb3)) (fun hk => by have := hszm b3 hk; have := lt_of_block HT3.out; omega)).trans (two_next HT3.out hb3)
    have hrw : w.heap.size ≤ w3.heap.size := (below_next HBW.out hb3).size
    have hl3 : b3 < w3.heap.size := lt_of_block (two_next HT3.out hb3)
    clear hn3 hb3 q0 q1 q2 q3 q5 ht hszm hbl3
    obtain ⟨z0, z1⟩ := cell_two t3
    have f0 := free_two t3 0
    have f1 := free_two t3 1
    rcases hres with ⟨rfl, rfl, hng⟩ | ⟨rfl, L, ho, hd, hnd, hw⟩
    · have y0 : (w4.setCell ⟨b3, 0, none⟩ (.int .i64 9)).cell? ⟨b3, 1, none⟩ = some (.int .i64 0) := box_cell (box_set t3 0 (.int .i64 9)) rfl
      have y1 : (w4.setCell ⟨b3, 0, none⟩ (.int .i64 9)).frozen? ⟨b3, 1, none⟩ = false := box_free (box_set t3 0 (.int .i64 9)) 1
      obtain ⟨x0, x1⟩ := cell_two (two_setN t3 (x' := .int .i64 9) (y' := .int .i64 0))
      have HNG : Hid (¬ Good (bothB es)) := hng
      clear hng
      go_wp2
      refine bodyPost_ret (v := .tuple #[.slice none 0 0, .agg #[.int .i64 9, .int .i64 0]]) ?_ rfl ⟨Or.inl ⟨rfl, HNG.out⟩, (hBw.setCell HB3.out _).setCell HB3.out _⟩
      simp [results, Tryz.results15, go_sem, *]
    · have y0 : (w4.setCell ⟨b3, 0, none⟩ (.int .i64 0)).cell? ⟨b3, 1, none⟩ = some (.int .i64 0) := box_cell (box_set t3 0 (.int .i64 0)) rfl
      have y1 : (w4.setCell ⟨b3, 0, none⟩ (.int .i64 0)).frozen? ⟨b3, 1, none⟩ = false := box_free (box_set t3 0 (.int .i64 0)) 1
      obtain ⟨x0, x1⟩ := cell_two (two_setN t3 (x' := .int .i64 0) (y' := .int .i64 0))
      have HRES : Hid (w4.ownsRow w3.heap.size 38 2 v4 (toP L).length (flat (toP L)) ∧ Dir (bothB es) (fun x y => (x, y) ∈ L) ∧ L.Nodup ∧ (toP L).Pairwise (fun a b => 0 ≤ cmpP b a)) := ⟨ho, hd, hnd, hw⟩
      clear ho hd hnd hw
      go_wp2
      refine bodyPost_ret (v := .tuple #[v4, .agg #[.int .i64 0, .int .i64 0]]) ?_ rfl ⟨Or.inr ⟨v4, L, rfl, ?_, HRES.out.2⟩, (hBw.setCell HB3.out _).setCell HB3.out _⟩
      · simp [results, Tryz.results15, go_sem, *]
      · have ho := HRES.out.1
        exact ownsRow_mono (ownsRow_blocks ho (fun k hk => ((setCell_turns w4 b3 0 _).trans (setCell_turns _ b3 1 _)).block k (ho.lt k hk).2 (fun e => by have := (ho.lt k hk).1; omega))) hrw
set_option maxHeartbeats 2000000 in
theorem orders_bad {w : World} {n : Int} {vo : Option Addr} {vc : Nat} {es : List Pair} (hE : EdgesAt w (.slice vo es.length vc) es) {c d : Int} (hs : chk n es = (c, d)) (hc : c ≠ 0) :
    Calls Tryz.prog 15 #[.agg #[.int .i64 n, .slice vo es.length vc]] w fun e w' => e = .returned (.tuple #[.slice none 0 0, .agg #[.int .i64 c, .int .i64 d]]) ∧ Below w.heap.size w w' := by
  have HE : Hid (EdgesAt w (.slice vo es.length vc) es) := hE
  have kc : (c != 0) = true := by simp [hc]
  have h31 : ∀ W : World, Below w.heap.size w W → Calls Tryz.prog 31 #[.agg #[.int .i64 n, .slice vo es.length vc]] W fun e w' => Below W.heap.size W w' ∧ ∃ ao cap, e = .returned (.tuple #[.agg #[.int .i64 0, .slice ao 0 cap], .agg #[.int .i64 c, .int .i64 d]]) := fun W hW => by
    have := form_tells n (.slice vo es.length vc) es W (hE.below hW)
    have e : formS n es = ⟨0, [], c, d⟩ := by
      unfold formS
      rw [hs, if_neg hc]
    rw [e] at this
    refine Calls.mono this ?_
    rintro e w' ⟨h1, ao, cap, rfl, h2, _⟩
    exact ⟨h1, ao, cap, rfl⟩
  have H31 : Hid (∀ W : World, Below w.heap.size w W → Calls Tryz.prog 31 #[.agg #[.int .i64 n, .slice vo es.length vc]] W fun e w' => Below W.heap.size W w' ∧ ∃ ao cap, e = .returned (.tuple #[.agg #[.int .i64 0, .slice ao 0 cap], .agg #[.int .i64 c, .int .i64 d]])) := h31
  clear hE hs h31 hc
  go_enter Tryz.func15, Tryz.ntmps15
  go_upto_region 1 with (fail)
  have t1 := two_alloc (two_new w (.int .i64 n) (.slice vo es.length vc) 24) (Obj.cells #[.int .i64 0, .int .i64 0] 27)
  have t3 := two_nxt w (Obj.cells #[.int .i64 n, .slice vo es.length vc] 24) (.int .i64 0) (.int .i64 0) 27
  have hB0 := below_alloc (below_alloc (Below.refl _ w) (Obj.cells #[.int .i64 n, .slice vo es.length vc] 24)) (Obj.cells #[.int .i64 0, .int .i64 0] 27)
  obtain ⟨b1, hb1⟩ : ∃ b, b = w.heap.size := ⟨_, rfl⟩
  obtain ⟨b3, hb3⟩ : ∃ b, b = w.heap.size + 1 := ⟨_, rfl⟩
  have HB3 : Hid (w.heap.size ≤ b3) := by show w.heap.size ≤ b3; omega
  rw [← hb3] at t3 ⊢
  rw [← hb1] at t1 ⊢
  generalize (w.alloc (Obj.cells #[.int .i64 n, .slice vo es.length vc] 24)).alloc (Obj.cells #[.int .i64 0, .int .i64 0] 27) = W0 at t1 t3 hB0 ⊢
  clear hb1 hb3
  obtain ⟨q0, q1⟩ := cell_two t1
  have h31 := H31.out W0 hB0
  go_upto_region 2 with (first | (go_at_call 31; refine Calls.mono h31 ?_; rintro e W1 ⟨hb1, ao1, cap1, rfl⟩) | go_in)
  have t5 := two_nxt W1 (Obj.cells #[.int .i64 0, .slice ao1 0 cap1] 24) (.int .i64 c) (.int .i64 d) 27
  have hB2 := below_alloc (below_alloc (Below.refl _ W1) (Obj.cells #[.int .i64 0, .slice ao1 0 cap1] 24)) (Obj.cells #[.int .i64 c, .int .i64 d] 27)
  obtain ⟨b4, hb4⟩ : ∃ b, b = W1.heap.size := ⟨_, rfl⟩
  obtain ⟨b5, hb5⟩ : ∃ b, b = W1.heap.size + 1 := ⟨_, rfl⟩
  rw [← hb5] at t5 ⊢
  rw [← hb4]
  generalize (W1.alloc (Obj.cells #[.int .i64 0, .slice ao1 0 cap1] 24)).alloc (Obj.cells #[.int .i64 c, .int .i64 d] 27) = W2 at t5 hB2 ⊢
  have HBW : Hid (Below w.heap.size w W2) := below_next (below_next hB0 hb1) hB2
  have t3' := two_next (two_next t3 hb1) hB2
  clear q0 q1 h31 hb1 hB2 hb4 hb5 t1 t3 hB0
  obtain ⟨q0, q1⟩ := cell_two t5
  obtain ⟨q2, q3⟩ := cell_two t3'
  have f0 := free_two t3'
  go_upto_region 3 with (fail)
  go_region
  all_goals
    go_wp2
    obtain ⟨s0, s1⟩ := cell_two (two_setN (x' := .int .i64 c) (y' := .int .i64 d) t3')
    have hBf := ((HBW.out.setCell (p := ⟨b3, 0, none⟩) HB3.out (.int .i64 c)).setCell (p := ⟨b3, 1, none⟩) HB3.out (.int .i64 d)).drew
    refine bodyPost_ret (v := .tuple #[.slice none 0 0, .agg #[.int .i64 c, .int .i64 d]]) ?_ rfl ⟨rfl, hBf⟩
    simp [results, Tryz.results15, go_sem, s0, s1]
end Go.Proofs.YtkkfjfphmlcieaaGreat
