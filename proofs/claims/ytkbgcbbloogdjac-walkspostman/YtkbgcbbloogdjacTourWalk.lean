/- plan.walk. -/
import Derived.Laws.EntriesVeiled
import Derived.Test.YtkbgcbbloogdjacLeave
namespace Go.Proofs.Ytkbgcbbloogdjac
open Go.RowKit Go.Maps
attribute [local go_sem ↓] Go.wp_at_zero Go.wp_at_succ

set_option maxRecDepth 4000 in
set_option maxHeartbeats 2000000 in
theorem walk_call {w : World} {base g N : Nat} {bs : Nat → Nat} {P : Nat → Nat → Int} (h : PlanL w base g N bs P) (hN : N ≤ 100) (hgd : Good N P) (htot : tot N P ≤ 50000) {v : Nat} (hv : v < N) :
    Calls Try.prog 41 #[.slice (some ⟨g, 0, none⟩) N N, .int .i64 (v : Int)] w fun r w' => ∃ pv P' A, r = .returned pv ∧ GoOn N v 0 P P' A ∧ A.length ≤ tot N P ∧ w'.ownsRow base 3 1 pv (A ++ [v]).length (qv (A ++ [v])) ∧ Below base w w' := by
  have hF := enter54
  have hlt := h.row.lt
  have hge := h.ge.1
  have HP : Hid _ := h
  have HG : Hid _ := hgd
  clear h hgd
  go_enter Try.func41, Try.ntmps41
  go_upto_region 3 with (fail)
  have t2 : One (((w.alloc (Obj.cells #[.slice (some ⟨g, 0, none⟩) N N] 67)).alloc (Obj.cells #[.slice none 0 0] 29)).alloc (Obj.cells #[.nilFunc] 88)) w.heap.size (.slice (some ⟨g, 0, none⟩) N N) 67 := one_alloc (one_alloc (one_new w _ _) _) _
  have t5 : One (((w.alloc (Obj.cells #[.slice (some ⟨g, 0, none⟩) N N] 67)).alloc (Obj.cells #[.slice none 0 0] 29)).alloc (Obj.cells #[.nilFunc] 88)) (w.heap.size + 1) (.slice none 0 0) 29 := one_alloc (by simpa [One] using heap_alloc_new (w.alloc (Obj.cells #[.slice (some ⟨g, 0, none⟩) N N] 67)) (Obj.cells #[.slice none 0 0] 29)) _
  have t6 : One (((w.alloc (Obj.cells #[.slice (some ⟨g, 0, none⟩) N N] 67)).alloc (Obj.cells #[.slice none 0 0] 29)).alloc (Obj.cells #[.nilFunc] 88)) (w.heap.size + 1 + 1) .nilFunc 88 := by simpa [One] using heap_alloc_new ((w.alloc (Obj.cells #[.slice (some ⟨g, 0, none⟩) N N] 67)).alloc (Obj.cells #[.slice none 0 0] 29)) (Obj.cells #[.nilFunc] 88)
  have hB := below_alloc (below2 (w := w) (Obj.cells #[.slice (some ⟨g, 0, none⟩) N N] 67) (Obj.cells #[.slice none 0 0] 29)) (Obj.cells #[.nilFunc] 88)
  generalize ((w.alloc (Obj.cells #[.slice (some ⟨g, 0, none⟩) N N] 67)).alloc (Obj.cells #[.slice none 0 0] 29)).alloc (Obj.cells #[.nilFunc] 88) = W at t2 t5 t6 hB ⊢
  have c6 := cell_of_one t6
  have f6 := one_free t6
  go_upto_region 4 with (fail)
  obtain ⟨cl, hcl⟩ : ∃ cl, cl = Value.func (.func 54) #[] #[.pointer (some ⟨w.heap.size, 0, none⟩), .pointer (some ⟨w.heap.size + 1 + 1, 0, none⟩), .pointer (some ⟨w.heap.size + 1, 0, none⟩)] := ⟨_, rfl⟩
  have s2 := one_far (b' := w.heap.size + 1 + 1) (o := 0) (u := cl) t2 (by omega)
  have s5 := one_far (b' := w.heap.size + 1 + 1) (o := 0) (u := cl) t5 (by omega)
  have s6 := one_set (y := cl) t6
  have hB2 := hB.setCell (p := ⟨w.heap.size + 1 + 1, 0, none⟩) (by simp; omega) cl
  have hbb : ∀ i, i < N → bs i < w.heap.size := fun i hi => (HP.out.rows i hi).lt
  have hws : WS (W.setCell ⟨w.heap.size + 1 + 1, 0, none⟩ cl) base w.heap.size (w.heap.size + 1) (w.heap.size + 1 + 1) g N bs P [] := by
    refine ⟨HP.out.below hB2, s2, by rw [← hcl]; exact s6, ⟨none, 0, s5, by simpa [qv] using World.ownsRow_nil _ _ _ _, fun i hi => by simp [Value.ownBlock]⟩, by omega, by omega, by omega, by omega, fun i hi => ?_⟩
    have := hbb i hi
    omega
  have hcall := leave_call (base := base) (b2 := w.heap.size) (b5 := w.heap.size + 1) (b6 := w.heap.size + 1 + 1) (g := g) (bs := bs) hN (tot N P + 1) _ P [] v hv HG.out (by omega) (by simp; omega) hws
  rw [← hcl]
  have c6' := cell_of_one s6
  have HC : Hid _ := hcall
  generalize W.setCell ⟨w.heap.size + 1 + 1, 0, none⟩ cl = W2 at s2 s5 s6 hB2 c6' HC ⊢
  rw [hcl] at c6'
  clear t2 t5 t6 hB c6 f6 hcall hws s2 s5 s6
  go_wp2_with (first
    | (go_at_call 54; refine Calls.mono HC.out ?_; rintro r wa ⟨rfl, P', A, hgo, hgd', hle, hws, hBa⟩; obtain ⟨oo, oc, h5, hrow, _⟩ := hws.out; have c5 := cell_of_one h5)
    | go_in)
  go_ret
  refine ⟨_, P', A, rfl, hgo, by omega, by simpa using hrow, ?_⟩
  exact (hB2.mono (by omega)).trans hBa
end Go.Proofs.Ytkbgcbbloogdjac
