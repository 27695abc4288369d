/- Tree of a good graph with good weights. -/
import Derived.Test.YtkakmaalmhofmaaTreeC
namespace Go.Proofs.Ytkakmaalmhofmaa
open Go.RowKit Go.Maps
attribute [local go_sem ↓] Go.wp_at_zero Go.wp_at_succ

set_option maxHeartbeats 4000000 in
theorem tree_ok {N : Nat} {v : Value} {es : List Pair} {wo : Option Addr} {wc0 : Nat} {ws : List Int} {w : World} (hE : EdgesAt w v es) (hW : NumsZ w wo ws) (hN : N ≤ 100) (hl : es.length ≤ 1000) (hg : ∀ e ∈ es, 0 ≤ e.1 ∧ e.1 < N ∧ 0 ≤ e.2 ∧ e.2 < N) (hf1 : chk N es = (0, 0)) (hwl : ws.length = es.length) (hws : ∀ x ∈ ws, isV x = true) :
    Calls Try.prog 24 #[.agg #[.int .i64 (N : Int), v], .slice wo es.length wc0] w fun r w' => ∃ uv cv, r = .returned (.tuple #[uv, cv, .agg #[.int .i64 0, .int .i64 0]]) ∧ TreeAns N es ws w.heap.size w' uv cv ∧ Below w.heap.size w w' := by
  have hel : es.length ≤ 8796093022208 := by omega
  obtain ⟨ao, cap, rfl⟩ := hE.form
  obtain ⟨n, hn⟩ : ∃ n : Int, n = (N : Int) := ⟨_, rfl⟩
  rw [← hn] at hf1 ⊢
  have hf2 : wsF es.length ws = (0, 0) := wsF_good hwl hws
  have hws2 : ∀ x ∈ ws, 0 ≤ x ∧ x ≤ 1000000 := fun x hx => by have := hws x hx; simpa [isV] using this
  have hwl2 : ws.length ≤ 17592186044416 := by omega
  have hck : ∀ W, Below w.heap.size w W → Calls Try.prog 47 #[.agg #[.int .i64 n, .slice ao es.length cap]] W fun e w' => e = .returned (.agg #[.int .i64 0, .int .i64 0]) ∧ Below W.heap.size W w' := fun W hW' => check_as (hE.below hW') hf1
  have hcw : ∀ W, Below w.heap.size w W → Calls Try.prog 48 #[.agg #[.int .i64 n, .slice ao es.length cap], .slice wo es.length wc0] W fun e w' => e = .returned (.agg #[.int .i64 0, .int .i64 0]) ∧ Below W.heap.size W w' := fun W hW' => by
    have h := checkW_call n ao es.length cap wo wc0 ws W (hW.below hW' rfl) hwl2 hel
    rw [hf2, hwl] at h
    exact h
  have HCK : Hid _ := hck
  have HCW : Hid _ := hcw
  have HE : Hid _ := hE
  have HW : Hid _ := hW
  have HG : Hid _ := hg
  have HWS : Hid _ := hws2
  have HWL : Hid _ := hwl
  have HNN : Hid _ := hn
  clear hE hW hck hcw hf1 hf2 hws hws2 hg hwl hn
  go_enter Try.func24, Try.ntmps24
  go_upto_region 1 with (fail)
  have t0 : Two ((w.alloc (Obj.cells #[.int .i64 n, .slice ao es.length cap] 40)).alloc (Obj.cells #[.int .i64 0, .int .i64 0] 26)) w.heap.size (.int .i64 n) (.slice ao es.length cap) 40 := by
    show _ = _
    rw [Below.heap_alloc _ _ _ (by simp)]; exact heap_alloc_new _ _
  have t1 := two_nxt w (Obj.cells #[.int .i64 n, .slice ao es.length cap] 40) (.int .i64 0) (.int .i64 0) 26
  have hB0 := below2 (w := w) (Obj.cells #[.int .i64 n, .slice ao es.length cap] 40) (Obj.cells #[.int .i64 0, .int .i64 0] 26)
  generalize (w.alloc (Obj.cells #[.int .i64 n, .slice ao es.length cap] 40)).alloc (Obj.cells #[.int .i64 0, .int .i64 0] 26) = W0 at t0 t1 hB0 ⊢
  have q0 := cell_two t0
  go_upto_region 2 with (first | (go_at_call 47; refine (HCK.out _ hB0).mono ?_; rintro e W1 ⟨rfl, hb1⟩) | go_in)
  have t2 := two_new W1 (.int .i64 0) (.int .i64 0) 26
  have hb1a := below_alloc hb1 (Obj.cells #[.int .i64 0, .int .i64 0] 26)
  have u0 : Two (W1.alloc (Obj.cells #[.int .i64 0, .int .i64 0] 26)) w.heap.size (.int .i64 n) (.slice ao es.length cap) 40 := (hb1a.block _ (lt_of_block t0)).trans t0
  have u1 : Two (W1.alloc (Obj.cells #[.int .i64 0, .int .i64 0] 26)) (w.heap.size + 1) (.int .i64 0) (.int .i64 0) 26 := (hb1a.block _ (lt_of_block t1)).trans t1
  have hB1 := below_next hB0 hb1a
  generalize W1.alloc (Obj.cells #[.int .i64 0, .int .i64 0] 26) = W2 at t2 u0 u1 hB1 ⊢
  clear t0 t1 hB0 hb1 hb1a q0
  have q0 := cell_two u0
  have q1 := cell_two u1
  have q2 := cell_two t2
  have f1 := free_two u1
  go_upto_region 5 with (first | (go_at_call 48; refine (HCW.out _ hB1).mono ?_; rintro e W3 ⟨rfl, hb3⟩) | go_in)
  have t3 := two_new W3 (.int .i64 0) (.int .i64 0) 26
  have hb3a := below_alloc hb3 (Obj.cells #[.int .i64 0, .int .i64 0] 26)
  have v0 : Two (W3.alloc (Obj.cells #[.int .i64 0, .int .i64 0] 26)) w.heap.size (.int .i64 n) (.slice ao es.length cap) 40 := (hb3a.block _ (lt_of_block u0)).trans u0
  have v1 : Two (W3.alloc (Obj.cells #[.int .i64 0, .int .i64 0] 26)) (w.heap.size + 1) (.int .i64 0) (.int .i64 0) 26 := (hb3a.block _ (lt_of_block u1)).trans u1
  have hB3 := below_next hB1 hb3a
  generalize W3.alloc (Obj.cells #[.int .i64 0, .int .i64 0] 26) = W4 at t3 v0 v1 hB3 ⊢
  clear t2 u0 u1 hB1 hb3 hb3a q0 q1 q2 f1
  have q0 := cell_two v0
  have q1 := cell_two v1
  have q3 := cell_two t3
  have f1 := free_two v1
  have hn := HNN.out
  subst hn
  by_cases h0 : N = 0
  · have z1 : ((N : Int) == 0) = true := by rw [h0]; rfl
    have z2 : (N == 0) = true := by rw [h0]; rfl
    have H0 : Hid _ := h0
    clear h0
    go_wp2
    refine bodyPost_ret (v := .tuple #[.slice none 0 0, .slice none 0 0, .agg #[.int .i64 0, .int .i64 0]]) ?_ rfl ⟨_, _, rfl, Or.inl ⟨H0.out, rfl, rfl⟩, (hB3.setCell (by simp) _).setCell (by simp) _⟩
    simp [results, Try.results24, go_sem, q1.1, q1.2]
  · have z1 : ((N : Int) == 0) = false := by rw [beq_eq_false_iff_ne]; omega
    have z2 : (N == 0) = false := by rw [beq_eq_false_iff_ne]; exact h0
    have hct := cutTree_call (wc0 := wc0) (EdgesAt.below HE.out hB3) (NumsZ.below HW.out hB3 rfl) (by omega) hN hl HWL.out HG.out HWS.out
    have HCT : Hid _ := hct
    have l1 := lt_of_block v1
    clear hct
    go_wp2_with (first | (go_at_call 49; refine Calls.mono HCT.out ?_; rintro r W5 ⟨bu, bc, rfl, htr, hge, hb5⟩; have y1 := two_next v1 hb5; have p1 := cell_two y1; have g1 := free_two y1) | go_in)
    refine bodyPost_ret (v := .tuple #[sl bu N, sl bc N, .agg #[.int .i64 0, .int .i64 0]]) ?_ rfl ⟨_, _, rfl, Or.inr ⟨by omega, bu, bc, rfl, rfl, (htr.far (by omega) (by omega)).far (by omega) (by omega), by omega, by omega⟩, ((below_next hB3 hb5).setCell (by simp) _).setCell (by simp) _⟩
    simp [results, Try.results24, go_sem, p1.1, p1.2]
end Go.Proofs.Ytkakmaalmhofmaa
