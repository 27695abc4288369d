/- minor.check. -/
import Derived.Test.YthjkjanibkpgiaaDoorFstW
import Derived.Test.YthjkjanibkpgiaaDoorPartsM
namespace Go.Proofs.YthjkjanibkpgiaaDoor
set_option maxRecDepth 8000
open Go.RowKit Go.Maps
attribute [local go_sem ↓] Go.wp_at_zero Go.wp_at_succ
/-- What is wrong with the one graph, then with the other one, then that one of them has too many nodes. -/
def chk2 (n : Int) (es : List Pair) (n2 : Int) (es2 : List Pair) : Int × Int := if (chk n es).1 ≠ 0 then chk n es else if (chk n2 es2).1 ≠ 0 then chk n2 es2 else if 10 < n ∨ 6 < n2 then (2, 0) else (0, 0)
set_option maxHeartbeats 8000000 in
theorem check2_call {w : World} {n n2 : Int} {v v2 : Value} {es es2 : List Pair} (hE : EdgesAt w v es) (hE2 : EdgesAt w v2 es2) :
    Calls Tryd.prog 18 #[.agg #[.int .i64 n, v], .agg #[.int .i64 n2, v2]] w fun e w' => e = .returned (.agg #[.int .i64 (chk2 n es n2 es2).1, .int .i64 (chk2 n es n2 es2).2]) ∧ Below w.heap.size w w' := by
  have C23 : Hid (∀ A, Below w.heap.size w A → Calls Tryd.prog 33 #[.agg #[.int .i64 n, v]] A fun e w' => e = .returned (.agg #[.int .i64 (chk n es).1, .int .i64 (chk n es).2]) ∧ Below A.heap.size A w') := fun A hA => check_any n v es A (hE.below hA)
  have C24 : Hid (∀ A, Below w.heap.size w A → Calls Tryd.prog 33 #[.agg #[.int .i64 n2, v2]] A fun e w' => e = .returned (.agg #[.int .i64 (chk n2 es2).1, .int .i64 (chk n2 es2).2]) ∧ Below A.heap.size A w') := fun A hA => check_any n2 v2 es2 A (hE2.below hA)
  have HP : Hid (chk2 n es n2 es2 = if (chk n es).1 ≠ 0 then chk n es else if (chk n2 es2).1 ≠ 0 then chk n2 es2 else if 10 < n ∨ 6 < n2 then (2, 0) else (0, 0)) := rfl
  clear hE hE2
  generalize chk2 n es n2 es2 = P at *
  generalize chk n es = Q at *
  generalize chk n2 es2 = U at *
  obtain ⟨q1, q2⟩ := Q
  obtain ⟨u1, u2⟩ := U
  obtain ⟨p1, p2⟩ := P
  simp only at HP C23 C24
  go_enter Tryd.func18, Tryd.ntmps18
  go_upto_region 1 with (fail)
  have t2 : Two ((((w.alloc (Obj.cells #[.int .i64 n, v] 24)).alloc (Obj.cells #[.int .i64 n2, v2] 24)).alloc (Obj.cells #[.int .i64 0, .int .i64 0] 27))) w.heap.size (.int .i64 n) v 24 := two_alloc (two_alloc (two_new _ _ _ _) _) _
  have t3 : Two ((((w.alloc (Obj.cells #[.int .i64 n, v] 24)).alloc (Obj.cells #[.int .i64 n2, v2] 24)).alloc (Obj.cells #[.int .i64 0, .int .i64 0] 27))) (w.heap.size + 1) (.int .i64 n2) v2 24 := by
    have := two_alloc (two_new (w.alloc (Obj.cells #[.int .i64 n, v] 24)) (.int .i64 n2) v2 24) (Obj.cells #[.int .i64 0, .int .i64 0] 27)
    simpa using this
  have t4 : Two ((((w.alloc (Obj.cells #[.int .i64 n, v] 24)).alloc (Obj.cells #[.int .i64 n2, v2] 24)).alloc (Obj.cells #[.int .i64 0, .int .i64 0] 27))) (w.heap.size + 1 + 1) (.int .i64 0) (.int .i64 0) 27 := by
    have := two_new ((w.alloc (Obj.cells #[.int .i64 n, v] 24)).alloc (Obj.cells #[.int .i64 n2, v2] 24)) (.int .i64 0) (.int .i64 0) 27
    simpa using this
  have hB0 : Below w.heap.size w ((((w.alloc (Obj.cells #[.int .i64 n, v] 24)).alloc (Obj.cells #[.int .i64 n2, v2] 24)).alloc (Obj.cells #[.int .i64 0, .int .i64 0] 27))) := below_alloc (below_alloc (below_alloc (Below.refl _ w) _) _) _
  obtain ⟨b2, hb2⟩ : ∃ b, b = w.heap.size := ⟨_, rfl⟩
  obtain ⟨b3, hb3⟩ : ∃ b, b = w.heap.size + 1 := ⟨_, rfl⟩
  obtain ⟨b4, hb4⟩ : ∃ b, b = w.heap.size + 1 + 1 := ⟨_, rfl⟩
  rw [← hb4] at t4 ⊢
  rw [← hb3] at t3 ⊢
  rw [← hb2] at t2 ⊢
  generalize ((((w.alloc (Obj.cells #[.int .i64 n, v] 24)).alloc (Obj.cells #[.int .i64 n2, v2] 24)).alloc (Obj.cells #[.int .i64 0, .int .i64 0] 27))) = W1 at *
  have HW1 : Hid (Two W1 b4 (.int .i64 0) (.int .i64 0) 27 ∧ Below w.heap.size w W1 ∧ (Two W1 b2 (.int .i64 n) v 24 ∧ Two W1 b3 (.int .i64 n2) v2 24) ∧ w.heap.size ≤ b4) := ⟨t4, hB0, ⟨t2, t3⟩, by omega⟩
  obtain ⟨c0, c1⟩ := cell_two t2
  clear t2 t3 t4 hB0 hb2 hb3 hb4
  go_upto_region 2 with (first | (go_at_call 33; refine Calls.mono (C23.out _ HW1.out.2.1) ?_; rintro e W2 ⟨rfl, h2⟩) | fail)
  have x5 := two_new W2 (.int .i64 q1) (.int .i64 q2) 27
  have hB3 := below_alloc (Below.refl _ W2) (Obj.cells #[.int .i64 q1, .int .i64 q2] 27)
  generalize W2.heap.size = b5 at x5 ⊢
  generalize W2.alloc (Obj.cells #[.int .i64 q1, .int .i64 q2] 27) = W3 at *
  have HW3 : Hid (Two W3 b4 (.int .i64 0) (.int .i64 0) 27 ∧ Below w.heap.size w W3 ∧ Two W3 b2 (.int .i64 n) v 24 ∧ Two W3 b3 (.int .i64 n2) v2 24) := ⟨two_next HW1.out.1 (below_next h2 hB3), below_next HW1.out.2.1 (below_next h2 hB3), two_next HW1.out.2.2.1.1 (below_next h2 hB3), two_next HW1.out.2.2.1.2 (below_next h2 hB3)⟩
  obtain ⟨d0, d1⟩ := cell_two x5
  clear h2 hB3 x5 c0 c1
  by_cases h : q1 = 0
  · have k1 : (q1 != 0) = false := by simpa using h
    go_upto_region 4 with (fail)
    obtain ⟨c0, c1⟩ := cell_two HW3.out.2.2.2
    clear d0 d1
    go_upto_region 5 with (first | (go_at_call 33; refine Calls.mono (C24.out _ HW3.out.2.1) ?_; rintro e W4 ⟨rfl, h4⟩) | fail)
    have x6 := two_new W4 (.int .i64 u1) (.int .i64 u2) 27
    have hB5 := below_alloc (Below.refl _ W4) (Obj.cells #[.int .i64 u1, .int .i64 u2] 27)
    generalize W4.heap.size = b6 at x6 ⊢
    generalize W4.alloc (Obj.cells #[.int .i64 u1, .int .i64 u2] 27) = W5 at *
    have HW5 : Hid (Two W5 b4 (.int .i64 0) (.int .i64 0) 27 ∧ Below w.heap.size w W5 ∧ Two W5 b2 (.int .i64 n) v 24 ∧ Two W5 b3 (.int .i64 n2) v2 24) := ⟨two_next HW3.out.1 (below_next h4 hB5), below_next HW3.out.2.1 (below_next h4 hB5), two_next HW3.out.2.2.1 (below_next h4 hB5), two_next HW3.out.2.2.2 (below_next h4 hB5)⟩
    obtain ⟨d0, d1⟩ := cell_two x6
    clear h4 hB5 x6 c0 c1 HW3
    by_cases g : u1 = 0
    · have k2 : (u1 != 0) = false := by simpa using g
      go_upto_region 7 with (fail)
      obtain ⟨c0, c1⟩ := cell_two HW5.out.2.2.1
      obtain ⟨c2, c3⟩ := cell_two HW5.out.2.2.2
      clear d0 d1
      by_cases h10 : 10 < n
      · have k3 : decide ((10 : Int) < n) = true := by simpa using h10
        have hp : (p1, p2) = (2, 0) := by rw [HP.out, if_neg (by simpa using h), if_neg (by simpa using g), if_pos (Or.inl h10)]
        simp only [Prod.mk.injEq] at hp
        obtain ⟨rfl, rfl⟩ := hp
        clear h10 g
        obtain ⟨s1, s2, s3, s4, s5, s6⟩ := store_two' HW5.out.1 (.int .i64 2) (.int .i64 0)
        clear h HP
        go_wp2
        refine bodyPost_ret (v := .agg #[.int .i64 2, .int .i64 0]) ?_ rfl ⟨rfl, (HW5.out.2.1.setCell HW1.out.2.2.2 _).setCell HW1.out.2.2.2 _⟩
        simp [results, Tryd.results18, go_sem, s5, s6]
      · have k3 : decide ((10 : Int) < n) = false := by simpa using h10
        by_cases h6 : 6 < n2
        · have k4 : decide ((6 : Int) < n2) = true := by simpa using h6
          have hp : (p1, p2) = (2, 0) := by rw [HP.out, if_neg (by simpa using h), if_neg (by simpa using g), if_pos (Or.inr h6)]
          simp only [Prod.mk.injEq] at hp
          obtain ⟨rfl, rfl⟩ := hp
          clear h10 h6 g
          obtain ⟨s1, s2, s3, s4, s5, s6⟩ := store_two' HW5.out.1 (.int .i64 2) (.int .i64 0)
          clear h HP
          go_wp2
          refine bodyPost_ret (v := .agg #[.int .i64 2, .int .i64 0]) ?_ rfl ⟨rfl, (HW5.out.2.1.setCell HW1.out.2.2.2 _).setCell HW1.out.2.2.2 _⟩
          simp [results, Tryd.results18, go_sem, s5, s6]
        · have k4 : decide ((6 : Int) < n2) = false := by simpa using h6
          have hp : (p1, p2) = (0, 0) := by rw [HP.out, if_neg (by simpa using h), if_neg (by simpa using g), if_neg (fun hc => hc.elim h10 h6)]
          simp only [Prod.mk.injEq] at hp
          obtain ⟨rfl, rfl⟩ := hp
          clear h10 h6 g
          obtain ⟨s1, s2, s3, s4, s5, s6⟩ := store_two' HW5.out.1 (.int .i64 0) (.int .i64 0)
          clear h HP
          go_wp2
          refine bodyPost_ret (v := .agg #[.int .i64 0, .int .i64 0]) ?_ rfl ⟨rfl, (HW5.out.2.1.setCell HW1.out.2.2.2 _).setCell HW1.out.2.2.2 _⟩
          simp [results, Tryd.results18, go_sem, s5, s6]
    · have k2 : (u1 != 0) = true := by simpa using g
      have hp : (p1, p2) = (u1, u2) := by rw [HP.out, if_neg (by simpa using h), if_pos g]
      simp only [Prod.mk.injEq] at hp
      obtain ⟨rfl, rfl⟩ := hp
      clear g
      obtain ⟨s1, s2, s3, s4, s5, s6⟩ := store_two' HW5.out.1 (.int .i64 p1) (.int .i64 p2)
      clear h HP
      go_wp2
      refine bodyPost_ret (v := .agg #[.int .i64 p1, .int .i64 p2]) ?_ rfl ⟨rfl, (HW5.out.2.1.setCell HW1.out.2.2.2 _).setCell HW1.out.2.2.2 _⟩
      simp [results, Tryd.results18, go_sem, s5, s6]
  · have k1 : (q1 != 0) = true := by simpa using h
    have hp : (p1, p2) = (q1, q2) := by rw [HP.out, if_pos h]
    simp only [Prod.mk.injEq] at hp
    obtain ⟨rfl, rfl⟩ := hp
    obtain ⟨s1, s2, s3, s4, s5, s6⟩ := store_two' HW3.out.1 (.int .i64 p1) (.int .i64 p2)
    clear h HP
    go_wp2
    refine bodyPost_ret (v := .agg #[.int .i64 p1, .int .i64 p2]) ?_ rfl ⟨rfl, (HW3.out.2.1.setCell HW1.out.2.2.2 _).setCell HW1.out.2.2.2 _⟩
    simp [results, Tryd.results18, go_sem, s5, s6]
theorem chk2_good {n n2 : Int} {es es2 : List Pair} (h : (chk2 n es n2 es2).1 = 0) : chk2 n es n2 es2 = (0, 0) ∧ (chk n es).1 = 0 ∧ (chk n2 es2).1 = 0 ∧ n ≤ 10 ∧ n2 ≤ 6 := by
  unfold chk2 at h ⊢
  by_cases h1 : (chk n es).1 ≠ 0
  · rw [if_pos h1] at h
    exact absurd h h1
  · rw [if_neg h1] at h ⊢
    by_cases h2 : (chk n2 es2).1 ≠ 0
    · rw [if_pos h2] at h
      exact absurd h h2
    · rw [if_neg h2] at h ⊢
      by_cases h3 : 10 < n ∨ 6 < n2
      · rw [if_pos h3] at h; cases h
      · rw [if_neg h3]
        exact ⟨rfl, Classical.byContradiction h1, Classical.byContradiction h2, by omega, by omega⟩
end Go.Proofs.YthjkjanibkpgiaaDoor
