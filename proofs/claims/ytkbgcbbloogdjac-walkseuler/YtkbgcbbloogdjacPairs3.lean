/- nearestPairs of two nodes. -/
import Derived.Test.YtkbgcbbloogdjacPairs2
namespace Go.Proofs.Ytkbgcbbloogdjac
open Go.RowKit Go.Maps
attribute [local go_sem ↓] Go.wp_at_zero Go.wp_at_succ

set_option maxRecDepth 4000 in
set_option maxHeartbeats 2000000 in
theorem nearestTwo_call {w : World} {bx go oc a b : Nat} {z : Int} (ca : w.cell? ⟨go, 0, none⟩ = some (.int .i64 (a : Int))) (cb : w.cell? ⟨go, 1, none⟩ = some (.int .i64 (b : Int))) (hoc : 2 ≤ oc) (hab : a < 1000 ∧ b < 1000) (hgo : go < w.heap.size)
    (hf : ∀ w', Below w.heap.size w w' → Calls Try.prog 58 #[.int .i64 (a : Int), .int .i64 (b : Int), .pointer (some ⟨bx, 0, none⟩)] w' fun r w'' => r = .returned (.int .i64 z) ∧ w'' = w') :
    Calls Try.prog 57 #[.slice (some ⟨go, 0, none⟩) 2 oc, .func (.func 58) #[] #[.pointer (some ⟨bx, 0, none⟩)]] w fun r w' => ∃ ao c, r = .returned (.slice ao 1 c) ∧ EdgesAt w' (.slice ao 1 c) [((a : Int), (b : Int))] ∧ (∀ x, ao = some x → w.heap.size ≤ x.block) ∧ Below w.heap.size w w' := by
  have hF := enter68
  have HFR : Hid _ := hf
  clear hf
  go_enter Try.func57, Try.ntmps57
  go_upto_region 1 with (fail)
  obtain ⟨fv, hfv⟩ : ∃ fv, fv = Value.func (.func 58) #[] #[.pointer (some ⟨bx, 0, none⟩)] := ⟨_, rfl⟩
  rw [← hfv]
  have t6 : One (w.alloc (Obj.cells #[fv] 92)) w.heap.size fv 92 := one_new w _ _
  have hB := below_alloc (Below.refl w.heap.size w) (Obj.cells #[fv] 92)
  have hz : (w.alloc (Obj.cells #[fv] 92)).heap.size = w.heap.size + 1 := by simp
  generalize w.alloc (Obj.cells #[fv] 92) = W0 at t6 hB hz ⊢
  go_upto_region 2 with (fail)
  have u6 := one_alloc (one_alloc t6 (Obj.cells #[.slice none 0 0] 22)) (Obj.cells #[.slice none 0 0] 22)
  have u3 := one_alloc (one_new W0 (.slice none 0 0) 22) (Obj.cells #[.slice none 0 0] 22)
  have u4 := one_new (W0.alloc (Obj.cells #[.slice none 0 0] 22)) (.slice none 0 0) 22
  have hB1 := below_alloc (below_alloc hB (Obj.cells #[.slice none 0 0] 22)) (Obj.cells #[.slice none 0 0] 22)
  have hz1 : ((W0.alloc (Obj.cells #[.slice none 0 0] 22)).alloc (Obj.cells #[.slice none 0 0] 22)).heap.size = w.heap.size + 3 := by simp [hz]
  have hz1' : (W0.alloc (Obj.cells #[.slice none 0 0] 22)).heap.size = w.heap.size + 2 := by simp [hz]
  rw [hz1'] at u4
  rw [hz] at u3
  generalize (W0.alloc (Obj.cells #[.slice none 0 0] 22)).alloc (Obj.cells #[.slice none 0 0] 22) = W1 at u6 u3 u4 hB1 hz1 ⊢
  clear t6 hB hz1'
  go_upto_region 3 with (fail)
  have x6 := one_alloc u6 (Obj.cells #[.int .i64 (-1)] 3)
  have x3 := one_alloc u3 (Obj.cells #[.int .i64 (-1)] 3)
  have x4 := one_alloc u4 (Obj.cells #[.int .i64 (-1)] 3)
  have x2 := one_new W1 (.int .i64 (-1)) 3
  have hB2 := below_alloc hB1 (Obj.cells #[.int .i64 (-1)] 3)
  have hz2 : (W1.alloc (Obj.cells #[.int .i64 (-1)] 3)).heap.size = w.heap.size + 4 := by simp [hz1]
  rw [hz1] at x2
  generalize W1.alloc (Obj.cells #[.int .i64 (-1)] 3) = W2 at x6 x3 x4 x2 hB2 hz2 ⊢
  clear u6 u3 u4 hB1 hz1 hz
  go_upto_region 4 with (fail)
  have y6 := one_alloc x6 (Obj.cells #[.nilFunc] 111)
  have y3 := one_alloc x3 (Obj.cells #[.nilFunc] 111)
  have y4 := one_alloc x4 (Obj.cells #[.nilFunc] 111)
  have y2 := one_alloc x2 (Obj.cells #[.nilFunc] 111)
  have y5 := one_new W2 .nilFunc 111
  have hB3 := below_alloc hB2 (Obj.cells #[.nilFunc] 111)
  have hz3 : (W2.alloc (Obj.cells #[.nilFunc] 111)).heap.size = w.heap.size + 5 := by simp [hz2]
  rw [hz2] at y5
  generalize W2.alloc (Obj.cells #[.nilFunc] 111) = W3 at y6 y3 y4 y2 y5 hB3 hz3 ⊢
  clear x6 x3 x4 x2 hB2 hz2
  have c5 := cell_of_one y5
  have f5 := one_free y5
  go_upto_region 5 with (fail)
  obtain ⟨cl, hcl⟩ : ∃ cl, cl = Value.func (.func 68) #[] #[.pointer (some ⟨w.heap.size + 3, 0, none⟩), .pointer (some ⟨w.heap.size + 1, 0, none⟩), .pointer (some ⟨w.heap.size + 1 + 1, 0, none⟩), .pointer (some ⟨w.heap.size + 4, 0, none⟩), .pointer (some ⟨w.heap.size, 0, none⟩)] := ⟨_, rfl⟩
  rw [← hcl]
  have z6 := one_far (b' := w.heap.size + 4) (o := 0) (u := cl) y6 (by omega)
  have z3 := one_far (b' := w.heap.size + 4) (o := 0) (u := cl) y3 (by omega)
  have z4 := one_far (b' := w.heap.size + 4) (o := 0) (u := cl) y4 (by omega)
  have z2 := one_far (b' := w.heap.size + 4) (o := 0) (u := cl) y2 (by omega)
  have z5 := one_set (y := cl) y5
  have hB4 := hB3.setCell (p := ⟨w.heap.size + 4, 0, none⟩) (by simp) cl
  generalize W3.setCell ⟨w.heap.size + 4, 0, none⟩ cl = W4 at z6 z3 z4 z2 z5 hB4 ⊢
  clear y6 y3 y4 y2 y5 hB3 hz3 c5 f5
  have k5 := cell_of_one z5
  rw [hcl] at k5
  rw [hfv] at z6
  have da := (hB4.cell (p := ⟨go, 0, none⟩) hgo).trans ca
  have db := (hB4.cell (p := ⟨go, 1, none⟩) hgo).trans cb
  have hcall := pairsTwo_call (a := a) (b := b) (z := z) (oc := oc) (go := go) (bx := bx) z2 z3 z4 (by rw [← hcl]; exact z5) z6 da db hoc hab (by omega) (by omega) (fun w' hT => HFR.out w' (Turns.below hB4 hT hB4.size (fun k hk => by omega)))
  have HC : Hid _ := hcall
  clear hcall
  go_wp2_with (first
    | (go_at_call 68; refine Calls.mono HC.out ?_; rintro r wa ⟨rfl, ao, c, k4, kE, ka, kT⟩; have c4 := cell_of_one k4)
    | go_in)
  go_ret
  exact ⟨ao, c, rfl, kE, (fun x hx => by have := ka x hx; have := hB4.size; omega), Turns.below hB4 kT hB4.size (fun k hk => by omega)⟩
end Go.Proofs.Ytkbgcbbloogdjac
