/- Apart of whatever comes in. -/
import Derived.Test.YtkakmaalmhofmaaApartW
namespace Go.Proofs.Ytkakmaalmhofmaa
open Go.RowKit Go.Maps
attribute [local go_sem ↓] Go.wp_at_zero Go.wp_at_succ

set_option maxRecDepth 4000 in
set_option maxHeartbeats 2000000 in
theorem apart_bad {n s t : Int} {v : Value} {es : List Pair} {w : World} (hE : EdgesAt w v es) {gn : Int} {gl : List Pair} {c d : Int} (ho : openS n es s t = ⟨gn, gl, c, d⟩) (hc : c ≠ 0) :
    Calls Try.prog 15 #[.agg #[.int .i64 n, v], .int .i64 s, .int .i64 t] w fun r w' => r = .returned (.tuple #[.slice none 0 0, .slice none 0 0, .agg #[.int .i64 c, .int .i64 d]]) ∧ Below w.heap.size w w' := by
  obtain ⟨eo, ec, rfl⟩ := hE.form
  have h34 : ∀ W, Below w.heap.size w W → Calls Try.prog 34 #[.agg #[.int .i64 n, .slice eo es.length ec], .int .i64 s, .int .i64 t] W fun e w' => Below W.heap.size W w' ∧ ∃ ao cap, e = .returned (.tuple #[.agg #[.int .i64 gn, .slice ao gl.length cap], .agg #[.int .i64 c, .int .i64 d]]) ∧ EdgesAt w' (.slice ao gl.length cap) gl ∧ ∀ x, ao = some x → W.heap.size ≤ x.block := fun W hW => by
    have := openForm_call n s t (.slice eo es.length ec) es W (hE.below hW)
    rw [ho] at this
    exact this
  have H34 : Hid (∀ W, Below w.heap.size w W → Calls Try.prog 34 #[.agg #[.int .i64 n, .slice eo es.length ec], .int .i64 s, .int .i64 t] W fun e w' => Below W.heap.size W w' ∧ ∃ ao cap, e = .returned (.tuple #[.agg #[.int .i64 gn, .slice ao gl.length cap], .agg #[.int .i64 c, .int .i64 d]]) ∧ EdgesAt w' (.slice ao gl.length cap) gl ∧ ∀ x, ao = some x → W.heap.size ≤ x.block) := h34
  have k1 : (c != 0) = true := by simp [hc]
  clear h34 hE ho hc
  go_enter Try.func15, Try.ntmps15
  go_upto_region 1 with (fail)
  have t3 : Two ((w.alloc (Obj.cells #[.int .i64 n, .slice eo es.length ec] 40)).alloc (Obj.cells #[.int .i64 0, .int .i64 0] 26)) w.heap.size (.int .i64 n) (.slice eo es.length ec) 40 := two_alloc (two_new w _ _ 40) _
  have t8 := two_nxt w (Obj.cells #[.int .i64 n, .slice eo es.length ec] 40) (.int .i64 0) (.int .i64 0) 26
  have hB0 := below2 (w := w) (Obj.cells #[.int .i64 n, .slice eo es.length ec] 40) (Obj.cells #[.int .i64 0, .int .i64 0] 26)
  generalize (w.alloc (Obj.cells #[.int .i64 n, .slice eo es.length ec] 40)).alloc (Obj.cells #[.int .i64 0, .int .i64 0] 26) = W0 at t3 t8 hB0 ⊢
  obtain ⟨b8, hb8⟩ : ∃ b, b = w.heap.size + 1 := ⟨_, rfl⟩
  rw [← hb8] at t8 ⊢
  have hb8w : w.heap.size < b8 := by omega
  clear hb8
  obtain ⟨q0, q1⟩ := cell_two t3
  have F8 : Hid (∀ W, Below W0.heap.size W0 W → Two W b8 (.int .i64 0) (.int .i64 0) 26) := fun W h => two_next t8 h
  go_upto_region 2 with (first | (go_at_call 34; refine (H34.out _ hB0).mono ?_; rintro e W1 ⟨hb1, fo, fc, rfl, hE1, hfo⟩; have y8 := F8.out _ (below_alloc hb1 (Obj.cells #[.int .i64 gn, .slice fo gl.length fc] 40)); have g8 := free_two y8; obtain ⟨z8, z81⟩ := cell_two y8) | go_in)
  have hBa := below_alloc hb1 (Obj.cells #[.int .i64 gn, .slice fo gl.length fc] 40)
  have x8 : Two (((W1.alloc (Obj.cells #[.int .i64 gn, .slice fo gl.length fc] 40)).setCell ⟨b8, 0, none⟩ (.int .i64 c)).setCell ⟨b8, 1, none⟩ (.int .i64 d)) b8 (.int .i64 c) (.int .i64 d) 26 := two_setN y8
  have hB2 : Below w.heap.size w (((W1.alloc (Obj.cells #[.int .i64 gn, .slice fo gl.length fc] 40)).setCell ⟨b8, 0, none⟩ (.int .i64 c)).setCell ⟨b8, 1, none⟩ (.int .i64 d)) := ((below_next hB0 hBa).setCell (p := ⟨b8, 0, none⟩) (by show w.heap.size ≤ b8; omega) _).setCell (p := ⟨b8, 1, none⟩) (by show w.heap.size ≤ b8; omega) _
  generalize (((W1.alloc (Obj.cells #[.int .i64 gn, .slice fo gl.length fc] 40)).setCell ⟨b8, 0, none⟩ (.int .i64 c)).setCell ⟨b8, 1, none⟩ (.int .i64 d)) = W2 at x8 hB2 ⊢
  clear t3 t8 hB0 q0 q1 F8 hb1 hE1 hfo y8 g8 z8 z81 hBa H34
  obtain ⟨z8, z81⟩ := cell_two x8
  have f8 := free_two x8
  go_upto_region 3 with (fail)
  go_region
  all_goals
    go_wp2
    have x9 := two_setN (x' := .int .i64 c) (y' := .int .i64 d) x8
    have hB3 := (hB2.setCell (p := ⟨b8, 0, none⟩) (by show w.heap.size ≤ b8; omega) (.int .i64 c)).setCell (p := ⟨b8, 1, none⟩) (by show w.heap.size ≤ b8; omega) (.int .i64 d)
    generalize ((W2.setCell ⟨b8, 0, none⟩ (.int .i64 c)).setCell ⟨b8, 1, none⟩ (.int .i64 d)) = W3 at x9 hB3 ⊢
    have z9 : Two W3.drew b8 (.int .i64 c) (.int .i64 d) 26 := x9
    obtain ⟨n8, n81⟩ := cell_two z9
    refine bodyPost_ret (v := .tuple #[.slice none 0 0, .slice none 0 0, .agg #[.int .i64 c, .int .i64 d]]) ?_ rfl ⟨rfl, hB3.drew⟩
    simp [results, Try.results15, go_sem, n8, n81]
/-- The law's fault. -/
def apartF (n : Int) (es : List Pair) (s t : Int) : Int × Int := if (chk n es).1 = 0 then endsF n s t else chk n es
theorem endsF_zero {n s t : Int} (h : (endsF n s t).1 = 0) : endsF n s t = (0, 0) ∧ 0 ≤ s ∧ s < n ∧ 0 ≤ t ∧ t < n ∧ s ≠ t := by
  unfold endsF at h ⊢
  by_cases a : isN n s = false
  · rw [if_pos a] at h; simp at h
  · rw [if_neg a] at h ⊢
    by_cases b : isN n t = false
    · rw [if_pos b] at h; simp at h
    · rw [if_neg b] at h ⊢
      by_cases c : s = t
      · rw [if_pos c] at h; simp at h
      · rw [if_neg c]
        simp [isN] at a b
        exact ⟨rfl, by omega, by omega, by omega, by omega, c⟩
theorem apart_any (n s t : Int) (v : Value) (es : List Pair) (w : World) (hE : EdgesAt w v es) :
    Calls Try.prog 15 #[.agg #[.int .i64 n, v], .int .i64 s, .int .i64 t] w fun r w' => ∃ wv cv c d, r = .returned (.tuple #[wv, cv, .agg #[.int .i64 c, .int .i64 d]]) ∧ apartF n es s t = (c, d) ∧ ((c ≠ 0 ∧ wv = .slice none 0 0 ∧ cv = .slice none 0 0) ∨ (c = 0 ∧ d = 0 ∧ ∃ N u z : Nat, n = N ∧ s = u ∧ t = z ∧ N ≤ 100 ∧ es.length ≤ 1000 ∧ (∀ e ∈ es, (0 ≤ e.1 ∧ e.1 < N ∧ 0 ≤ e.2 ∧ e.2 < N) ∧ e.1 ≠ e.2) ∧ u < N ∧ z < N ∧ u ≠ z ∧ ApartIs N u z (allP N (hasB es)) w.heap.size w' wv cv)) ∧ Below w.heap.size w w' := by
  unfold apartF
  by_cases h1 : (chk n es).1 = 0
  · obtain ⟨hz, hn0, hn1, hl, hg⟩ := chk_good h1
    rw [if_pos h1]
    obtain ⟨N, rfl⟩ : ∃ N : Nat, n = N := ⟨n.toNat, by omega⟩
    have hfs := formS_good h1
    by_cases h2 : (endsF N s t).1 = 0
    · obtain ⟨he, h3, h4, h5, h6, h7⟩ := endsF_zero h2
      obtain ⟨u, rfl⟩ : ∃ u : Nat, s = u := ⟨s.toNat, by omega⟩
      obtain ⟨z, rfl⟩ : ∃ z : Nat, t = z := ⟨t.toNat, by omega⟩
      have ho : openS (N : Int) es (u : Int) (z : Int) = ⟨N, allP N (hasB es), 0, 0⟩ := by
        unfold openS
        rw [hfs]
        simp [he]
      refine (apart_ok hE rfl ho (by omega) (Nat.le_trans (allP_has_le N es) hl) (by omega) (by omega) (by omega)).mono ?_
      rintro r w' ⟨wv, cv, rfl, ha, hb⟩
      exact ⟨wv, cv, 0, 0, rfl, he, Or.inr ⟨rfl, rfl, N, u, z, rfl, rfl, rfl, by omega, hl, hg, by omega, by omega, by omega, ha⟩, hb⟩
    · have ho : openS (N : Int) es s t = ⟨0, [], (endsF N s t).1, (endsF N s t).2⟩ := by
        unfold openS
        rw [hfs]
        simp [h2]
      refine (apart_bad hE ho h2).mono ?_
      rintro r w' ⟨rfl, hb⟩
      exact ⟨_, _, _, _, rfl, rfl, Or.inl ⟨h2, rfl, rfl⟩, hb⟩
  · rw [if_neg h1]
    have ho : openS n es s t = ⟨0, [], (chk n es).1, (chk n es).2⟩ := by
      unfold openS formS
      simp [h1]
    refine (apart_bad hE ho h1).mono ?_
    rintro r w' ⟨rfl, hb⟩
    exact ⟨_, _, _, _, rfl, rfl, Or.inl ⟨h1, rfl, rfl⟩, hb⟩
end Go.Proofs.Ytkakmaalmhofmaa
