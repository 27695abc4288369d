/- PlaneEuler's walk, by what it calls. -/
import Derived.Test.YtekokjechbibdaaDoorPartsM
import Derived.Test.YtekokjechbibdaaDoorKitC
namespace Go.Proofs.YtekokjechbibdaaDoor
set_option maxRecDepth 8000
open Go.RowKit Go.Maps
attribute [local go_sem ↓] Go.wp_at_zero Go.wp_at_succ
set_option maxHeartbeats 4000000 in
theorem eulerLaw_bad {w : World} {n c d : Int} {vo : Option Addr} {vl vc : Nat} (hc : c ≠ 0)
    (h9 : ∀ A, Below w.heap.size w A → Calls Tryd.prog 9 #[] A fun e w' => e = .returned (.bool true) ∧ Below A.heap.size A w')
    (h8 : ∀ A, Below w.heap.size w A → Calls Tryd.prog 8 #[.agg #[.int .i64 n, .slice vo vl vc]] A fun e w' => e = .returned (.tuple #[.slice none 0 0, .slice none 0 0, .agg #[.int .i64 c, .int .i64 d]]) ∧ Below A.heap.size A w') :
    Calls Tryd.prog 5 #[.agg #[.int .i64 n, .slice vo vl vc]] w fun e w' => e = .returned (.bool true) ∧ Below w.heap.size w w' := by
  have H9 : Hid _ := h9
  have H8 : Hid _ := h8
  have kc : (c != 0) = true := by simpa using hc
  clear h9 h8
  go_enter Tryd.func5, Tryd.ntmps5
  go_upto_region 1 with (fail)
  have t1 := two_new w (.int .i64 n) (.slice vo vl vc) 24
  have hB0 := below_alloc (Below.refl _ w) (Obj.cells #[.int .i64 n, .slice vo vl vc] 24)
  generalize w.heap.size = b1 at t1 ⊢
  generalize w.alloc (Obj.cells #[.int .i64 n, .slice vo vl vc] 24) = W0 at *
  have HW0 : Hid (Two W0 b1 (.int .i64 n) (.slice vo vl vc) 24 ∧ Below w.heap.size w W0) := ⟨t1, hB0⟩
  clear t1 hB0
  go_upto_region 3 with (first | (go_at_call 9; refine Calls.mono (H9.out _ HW0.out.2) ?_; rintro e W1 ⟨rfl, h1⟩) | fail)
  obtain ⟨q0, q1⟩ := cell_two (two_next HW0.out.1 h1)
  go_upto_region 4 with (first | (go_at_call 8; refine Calls.mono (H8.out _ (below_next HW0.out.2 h1)) ?_; rintro e W2 ⟨rfl, h2⟩) | fail)
  have t5 := two_new W2 (.int .i64 c) (.int .i64 d) 27
  have hB3 : Below w.heap.size w (W2.alloc (Obj.cells #[.int .i64 c, .int .i64 d] 27)) := below_alloc (below_next HW0.out.2 (below_next h1 h2)) _
  generalize W2.heap.size = b5 at t5 ⊢
  generalize W2.alloc (Obj.cells #[.int .i64 c, .int .i64 d] 27) = W3 at *
  obtain ⟨p0, p1⟩ := cell_two t5
  clear q0 q1 h1 h2
  go_wp2
  go_ret
  exact ⟨rfl, hB3⟩
set_option maxHeartbeats 4000000 in
theorem eulerLaw_good {w : World} {N : Nat} {vo : Option Addr} {vl vc : Nat} (hN : N ≤ 100) {Q : Nat → World → Value → Prop}
    (h9 : ∀ A, Below w.heap.size w A → Calls Tryd.prog 9 #[] A fun e w' => e = .returned (.bool true) ∧ Below A.heap.size A w')
    (h8 : ∀ A, Below w.heap.size w A → Calls Tryd.prog 8 #[.agg #[.int .i64 (N : Int), .slice vo vl vc]] A fun e w' => ∃ ro rl rc y, e = .returned (.tuple #[.slice ro rl rc, y, .agg #[.int .i64 0, .int .i64 0]]) ∧ (3 ≤ N → rl = 0 ∨ vl + 6 ≤ 3 * N) ∧ Below A.heap.size A w')
    (h21 : ∀ A k, Below w.heap.size w A → 3 ≤ k → k ≤ 6 → Calls Tryd.prog 21 #[.int .i64 (k : Nat)] A fun e w' => ∃ v, e = .returned v ∧ Q k w' v ∧ Below A.heap.size A w')
    (h8k : ∀ A k v, Below w.heap.size w A → 3 ≤ k → k ≤ 6 → Q k A v → Calls Tryd.prog 8 #[v] A fun e w' => ∃ y bo bl bc, e = .returned (.tuple #[y, .slice bo bl bc, .agg #[.int .i64 0, .int .i64 0]]) ∧ (0 < bl ↔ 4 < k) ∧ Below A.heap.size A w') :
    Calls Tryd.prog 5 #[.agg #[.int .i64 (N : Int), .slice vo vl vc]] w fun e w' => e = .returned (.bool true) ∧ Below w.heap.size w w' := by
  have H9 : Hid _ := h9
  have H8 : Hid _ := h8
  have H21 : Hid _ := h21
  have H8K : Hid _ := h8k
  clear h9 h8 h21 h8k
  go_enter Tryd.func5, Tryd.ntmps5
  go_upto_region 1 with (fail)
  have t1 := two_new w (.int .i64 (N : Int)) (.slice vo vl vc) 24
  have hB0 := below_alloc (Below.refl _ w) (Obj.cells #[.int .i64 (N : Int), .slice vo vl vc] 24)
  generalize w.heap.size = b1 at t1 ⊢
  generalize w.alloc (Obj.cells #[.int .i64 (N : Int), .slice vo vl vc] 24) = W0 at *
  have HW0 : Hid (Two W0 b1 (.int .i64 (N : Int)) (.slice vo vl vc) 24 ∧ Below w.heap.size w W0) := ⟨t1, hB0⟩
  clear t1 hB0
  go_upto_region 3 with (first | (go_at_call 9; refine Calls.mono (H9.out _ HW0.out.2) ?_; rintro e W1 ⟨rfl, h1⟩) | fail)
  obtain ⟨q0, q1⟩ := cell_two (two_next HW0.out.1 h1)
  go_upto_region 4 with (first | (go_at_call 8; refine Calls.mono (H8.out _ (below_next HW0.out.2 h1)) ?_; rintro e W2 ⟨ro, rl, rc, y, rfl, hrl, h2⟩) | fail)
  have t5 := two_new W2 (.int .i64 0) (.int .i64 0) 27
  have hB3 : Below W0.heap.size W0 (W2.alloc (Obj.cells #[.int .i64 0, .int .i64 0] 27)) := below_alloc (below_next h1 h2) _
  have hb5 : w.heap.size ≤ W2.heap.size := (below_next HW0.out.2 (below_next h1 h2)).size
  have hb15 : b1 < W2.heap.size := lt_of_block (two_next HW0.out.1 (below_next h1 h2))
  generalize W2.heap.size = b5 at t5 hb5 hb15 ⊢
  generalize W2.alloc (Obj.cells #[.int .i64 0, .int .i64 0] 27) = W3 at *
  have HW3 : Hid (Two W3 b5 (.int .i64 0) (.int .i64 0) 27 ∧ Two W3 b1 (.int .i64 (N : Int)) (.slice vo vl vc) 24 ∧ Below w.heap.size w W3 ∧ w.heap.size ≤ b5 ∧ b1 < b5) := ⟨t5, two_next HW0.out.1 hB3, below_next HW0.out.2 hB3, hb5, hb15⟩
  clear q0 q1 h1 h2 t5 hB3 HW0 H9 H8
  obtain ⟨p0, p1⟩ := cell_two HW3.out.1
  obtain ⟨q0, q1⟩ := cell_two HW3.out.2.1
  by_cases h3 : N < 3
  · have k1 : decide ((N : Int) < 3) = true := by simp; omega
    go_wp2
    go_ret
    exact ⟨rfl, HW3.out.2.2.1⟩
  · have k1 : decide ((N : Int) < 3) = false := by simp; omega
    obtain ⟨k, hk⟩ : ∃ k : Nat, k = 3 + N % 4 := ⟨_, rfl⟩
    have HK : Hid (k = 3 + N % 4 ∧ 3 ≤ k ∧ k ≤ 6) := ⟨hk, by omega, by omega⟩
    have hrl' := hrl (by omega)
    have hk4 : (3 + (N : Int) % 4) = (k : Int) := by omega
    have HT : Hid (Calls Tryd.prog 21 #[.int .i64 (3 + (N : Int) % 4)] W3 fun e w' => ∃ v, e = .returned v ∧ Q k w' v ∧ Below W3.heap.size W3 w') := by
      rw [hk4]
      exact H21.out W3 k HW3.out.2.2.1 HK.out.2.1 HK.out.2.2
    have HK4 : Hid ((3 + (N : Int) % 4) = (k : Int)) := hk4
    clear hk4
    clear hrl H21
    by_cases hm : vl + 6 ≤ 3 * N
    · have k2 : decide (3 * (N : Int) - 6 < (vl : Int)) = false := by simp; omega
      clear hrl' hk
      go_upto_region 8 with (fail)
      go_upto_region 9 with (first
        | (go_at_call 21; refine Calls.mono HT.out ?_; rintro e W4 ⟨v, rfl, hQ, h4⟩)
        | (go_at_call 8; refine Calls.mono (H8K.out W4 k v (below_next HW3.out.2.2.1 h4) HK.out.2.1 HK.out.2.2 hQ) ?_; rintro e W5 ⟨y5, bo, bl, bc, rfl, hbl, h5⟩; have z5 := two_next HW3.out.1 (below_next h4 h5); have ff := free_two z5; obtain ⟨r0, r1⟩ := cell_two z5)
        | fail)
      have HB5 : Hid (Below w.heap.size w ((W5.setCell ⟨b5, 0, none⟩ (.int .i64 0)).setCell ⟨b5, 1, none⟩ (.int .i64 0))) := ((below_next HW3.out.2.2.1 (below_next h4 h5)).setCell HW3.out.2.2.2.1 _).setCell HW3.out.2.2.2.1 _
      have z6 := two_setN (x' := .int .i64 0) (y' := .int .i64 0) z5
      have z7 := two_next HW3.out.2.1 (below_next h4 h5)
      have hne : b1 ≠ b5 := by have := HW3.out.2.2.2.2; omega
      have z8 : Two ((W5.setCell ⟨b5, 0, none⟩ (.int .i64 0)).setCell ⟨b5, 1, none⟩ (.int .i64 0)) b1 (.int .i64 (N : Int)) (.slice vo vl vc) 24 := two_far (two_far z7 hne) hne
      generalize (W5.setCell ⟨b5, 0, none⟩ (.int .i64 0)).setCell ⟨b5, 1, none⟩ (.int .i64 0) = W6 at *
      obtain ⟨m0, m1⟩ := cell_two z6
      obtain ⟨m2, m3⟩ := cell_two z8
      clear r0 r1 ff z5 z6 z7 z8 h4 h5 hQ
      by_cases h4k : 4 < k
      · have k6 : decide (4 < 3 + (N : Int) % 4) = true := by rw [HK4.out]; simp; omega
        have k7 : decide ((0 : Int) < (bl : Int)) = true := by simp; exact hbl.2 h4k
        go_wp2
        go_ret
        exact ⟨rfl, HB5.out⟩
      · have k6 : decide (4 < 3 + (N : Int) % 4) = false := by rw [HK4.out]; simp; omega
        have k7 : decide ((0 : Int) < (bl : Int)) = false := by have : ¬ 0 < bl := fun h => h4k (hbl.1 h); simp; omega
        go_wp2
        go_ret
        exact ⟨rfl, HB5.out⟩
    · have k2 : decide (3 * (N : Int) - 6 < (vl : Int)) = true := by simp; omega
      have hr0 : rl = 0 := by omega
      subst hr0
      clear hrl' hk
      go_upto_region 8 with (fail)
      go_upto_region 9 with (first
        | (go_at_call 21; refine Calls.mono HT.out ?_; rintro e W4 ⟨v, rfl, hQ, h4⟩)
        | (go_at_call 8; refine Calls.mono (H8K.out W4 k v (below_next HW3.out.2.2.1 h4) HK.out.2.1 HK.out.2.2 hQ) ?_; rintro e W5 ⟨y5, bo, bl, bc, rfl, hbl, h5⟩; have z5 := two_next HW3.out.1 (below_next h4 h5); have ff := free_two z5; obtain ⟨r0, r1⟩ := cell_two z5)
        | fail)
      have HB5 : Hid (Below w.heap.size w ((W5.setCell ⟨b5, 0, none⟩ (.int .i64 0)).setCell ⟨b5, 1, none⟩ (.int .i64 0))) := ((below_next HW3.out.2.2.1 (below_next h4 h5)).setCell HW3.out.2.2.2.1 _).setCell HW3.out.2.2.2.1 _
      have z6 := two_setN (x' := .int .i64 0) (y' := .int .i64 0) z5
      have z7 := two_next HW3.out.2.1 (below_next h4 h5)
      have hne : b1 ≠ b5 := by have := HW3.out.2.2.2.2; omega
      have z8 : Two ((W5.setCell ⟨b5, 0, none⟩ (.int .i64 0)).setCell ⟨b5, 1, none⟩ (.int .i64 0)) b1 (.int .i64 (N : Int)) (.slice vo vl vc) 24 := two_far (two_far z7 hne) hne
      generalize (W5.setCell ⟨b5, 0, none⟩ (.int .i64 0)).setCell ⟨b5, 1, none⟩ (.int .i64 0) = W6 at *
      obtain ⟨m0, m1⟩ := cell_two z6
      obtain ⟨m2, m3⟩ := cell_two z8
      clear r0 r1 ff z5 z6 z7 z8 h4 h5 hQ
      by_cases h4k : 4 < k
      · have k6 : decide (4 < 3 + (N : Int) % 4) = true := by rw [HK4.out]; simp; omega
        have k7 : decide ((0 : Int) < (bl : Int)) = true := by simp; exact hbl.2 h4k
        go_wp2
        go_ret
        exact ⟨rfl, HB5.out⟩
      · have k6 : decide (4 < 3 + (N : Int) % 4) = false := by rw [HK4.out]; simp; omega
        have k7 : decide ((0 : Int) < (bl : Int)) = false := by have : ¬ 0 < bl := fun h => h4k (hbl.1 h); simp; omega
        go_wp2
        go_ret
        exact ⟨rfl, HB5.out⟩
end Go.Proofs.YtekokjechbibdaaDoor
