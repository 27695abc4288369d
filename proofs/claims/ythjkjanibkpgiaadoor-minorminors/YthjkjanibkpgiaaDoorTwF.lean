/- twoFault. -/
import Derived.Test.YthjkjanibkpgiaaDoorCk2
namespace Go.Proofs.YthjkjanibkpgiaaDoor
set_option maxRecDepth 8000
open Go.RowKit Go.Maps
attribute [local go_sem ↓] Go.wp_at_zero Go.wp_at_succ
set_option maxHeartbeats 8000000 in
theorem twoF_call {w : World} {n n2 : Int} {ao ao2 : Option Addr} {cap cap2 : Nat} {es es2 : List Pair} (hE : EdgesAt w (.slice ao es.length cap) es) (hcap : es.length ≤ cap) (hE2 : EdgesAt w (.slice ao2 es2.length cap2) es2) (hcap2 : es2.length ≤ cap2) :
    Calls Tryd.prog 6 #[.agg #[.int .i64 n, .slice ao es.length cap], .agg #[.int .i64 n2, .slice ao2 es2.length cap2]] w fun e w' => e = .returned (.agg #[.int .i64 (chk2 n es n2 es2).1, .int .i64 (chk2 n es n2 es2).2]) ∧ Below w.heap.size w w' := by
  have C23 : Hid (∀ A, Below w.heap.size w A → Calls Tryd.prog 16 #[.agg #[.int .i64 n, .slice ao es.length cap]] A fun e w' => e = .returned (.agg #[.int .i64 (chk n es).1, .int .i64 (chk n es).2]) ∧ Below A.heap.size A w') := fun A hA => refCheck_any n ao cap es A (hE.below hA) hcap
  have C24 : Hid (∀ A, Below w.heap.size w A → Calls Tryd.prog 16 #[.agg #[.int .i64 n2, .slice ao2 es2.length cap2]] A fun e w' => e = .returned (.agg #[.int .i64 (chk n2 es2).1, .int .i64 (chk n2 es2).2]) ∧ Below A.heap.size A w') := fun A hA => refCheck_any n2 ao2 cap2 es2 A (hE2.below hA) hcap2
  have CF : Hid (∀ (a b : Int) A, Calls Tryd.prog 17 #[.int .i64 a, .int .i64 b] A fun e w' => e = .returned (.agg #[.int .i64 a, .int .i64 b]) ∧ Below A.heap.size A w') := fun a b A => refF_any a b A
  have HZ : Hid ((chk n2 es2).1 = 0 → (chk n2 es2).2 = 0) := fun h => by rw [(chk_good h).1]
  have HP : Hid (chk2 n es n2 es2 = if (chk n es).1 ≠ 0 then chk n es else if (chk n2 es2).1 ≠ 0 then chk n2 es2 else if 10 < n ∨ 6 < n2 then (2, 0) else (0, 0)) := rfl
  clear hE hE2 hcap hcap2
  generalize chk2 n es n2 es2 = P at *
  generalize chk n es = Q at *
  generalize chk n2 es2 = U at *
  generalize es.length = eg at *
  generalize es2.length = eh at *
  obtain ⟨q1, q2⟩ := Q
  obtain ⟨u1, u2⟩ := U
  obtain ⟨p1, p2⟩ := P
  simp only at HP C23 C24 HZ
  go_enter Tryd.func6, Tryd.ntmps6
  go_upto_region 1 with (fail)
  have t2 : Two ((((w.alloc (Obj.cells #[.int .i64 n, .slice ao eg cap] 24)).alloc (Obj.cells #[.int .i64 n2, .slice ao2 eh cap2] 24)).alloc (Obj.cells #[.int .i64 0, .int .i64 0] 27))) w.heap.size (.int .i64 n) (.slice ao eg cap) 24 := two_alloc (two_alloc (two_new _ _ _ _) _) _
  have t3 : Two ((((w.alloc (Obj.cells #[.int .i64 n, .slice ao eg cap] 24)).alloc (Obj.cells #[.int .i64 n2, .slice ao2 eh cap2] 24)).alloc (Obj.cells #[.int .i64 0, .int .i64 0] 27))) (w.heap.size + 1) (.int .i64 n2) (.slice ao2 eh cap2) 24 := by
    have := two_alloc (two_new (w.alloc (Obj.cells #[.int .i64 n, .slice ao eg cap] 24)) (.int .i64 n2) (.slice ao2 eh cap2) 24) (Obj.cells #[.int .i64 0, .int .i64 0] 27)
    simpa using this
  have t4 : Two ((((w.alloc (Obj.cells #[.int .i64 n, .slice ao eg cap] 24)).alloc (Obj.cells #[.int .i64 n2, .slice ao2 eh cap2] 24)).alloc (Obj.cells #[.int .i64 0, .int .i64 0] 27))) (w.heap.size + 1 + 1) (.int .i64 0) (.int .i64 0) 27 := by
    have := two_new ((w.alloc (Obj.cells #[.int .i64 n, .slice ao eg cap] 24)).alloc (Obj.cells #[.int .i64 n2, .slice ao2 eh cap2] 24)) (.int .i64 0) (.int .i64 0) 27
    simpa using this
  have hB0 : Below w.heap.size w ((((w.alloc (Obj.cells #[.int .i64 n, .slice ao eg cap] 24)).alloc (Obj.cells #[.int .i64 n2, .slice ao2 eh cap2] 24)).alloc (Obj.cells #[.int .i64 0, .int .i64 0] 27))) := below_alloc (below_alloc (below_alloc (Below.refl _ w) _) _) _
  obtain ⟨b2, hb2⟩ : ∃ b, b = w.heap.size := ⟨_, rfl⟩
  obtain ⟨b3, hb3⟩ : ∃ b, b = w.heap.size + 1 := ⟨_, rfl⟩
  obtain ⟨b4, hb4⟩ : ∃ b, b = w.heap.size + 1 + 1 := ⟨_, rfl⟩
  rw [← hb4] at t4 ⊢
  rw [← hb3] at t3 ⊢
  rw [← hb2] at t2 ⊢
  generalize ((((w.alloc (Obj.cells #[.int .i64 n, .slice ao eg cap] 24)).alloc (Obj.cells #[.int .i64 n2, .slice ao2 eh cap2] 24)).alloc (Obj.cells #[.int .i64 0, .int .i64 0] 27))) = W1 at *
  have HW1 : Hid (Two W1 b4 (.int .i64 0) (.int .i64 0) 27 ∧ Below w.heap.size w W1 ∧ (Two W1 b2 (.int .i64 n) (.slice ao eg cap) 24 ∧ Two W1 b3 (.int .i64 n2) (.slice ao2 eh cap2) 24) ∧ w.heap.size ≤ b4) := ⟨t4, hB0, ⟨t2, t3⟩, by omega⟩
  have HD : Hid (b2 < b4 ∧ b3 < b4) := ⟨by omega, by omega⟩
  obtain ⟨c0, c1⟩ := cell_two t2
  clear t2 t3 t4 hB0 hb2 hb3 hb4
  go_upto_region 2 with (first | (go_at_call 16; refine Calls.mono (C23.out _ HW1.out.2.1) ?_; rintro e W2 ⟨rfl, h2⟩) | fail)
  have x5 := two_new W2 (.int .i64 q1) (.int .i64 q2) 27
  have hB3 := below_alloc (Below.refl _ W2) (Obj.cells #[.int .i64 q1, .int .i64 q2] 27)
  have HNE : Hid (b4 ≠ W2.heap.size ∧ w.heap.size ≤ W2.heap.size) := ⟨by have := lt_of_block (two_next HW1.out.1 h2); omega, by have := HW1.out.2.1.size; have := h2.size; omega⟩
  generalize W2.heap.size = b5 at x5 HNE ⊢
  generalize W2.alloc (Obj.cells #[.int .i64 q1, .int .i64 q2] 27) = W3 at *
  have HW3 : Hid (Two W3 b4 (.int .i64 0) (.int .i64 0) 27 ∧ Below w.heap.size w W3 ∧ Two W3 b2 (.int .i64 n) (.slice ao eg cap) 24 ∧ Two W3 b3 (.int .i64 n2) (.slice ao2 eh cap2) 24 ∧ Two W3 b5 (.int .i64 q1) (.int .i64 q2) 27) := ⟨two_next HW1.out.1 (below_next h2 hB3), below_next HW1.out.2.1 (below_next h2 hB3), two_next HW1.out.2.2.1.1 (below_next h2 hB3), two_next HW1.out.2.2.1.2 (below_next h2 hB3), x5⟩
  have HN2 : Hid (b2 ≠ b5 ∧ b3 ≠ b5) := by
    have h4 : W3.heap[b5]? = _ := HW3.out.2.2.2.2
    have h1 : W3.heap[b2]? = _ := HW3.out.2.2.1
    have h3 : W3.heap[b3]? = _ := HW3.out.2.2.2.1
    exact ⟨fun e => (by rw [← e, h1] at h4; cases h4), fun e => (by rw [← e, h3] at h4; cases h4)⟩
  obtain ⟨d0, d1⟩ := cell_two x5
  clear h2 hB3 x5 c0 c1
  by_cases h : q1 = 0
  · have k1 : (q1 == 0) = true := by simpa using h
    have HQ : Hid (q1 = 0) := h
    clear h
    obtain ⟨c0, c1⟩ := cell_two HW3.out.2.2.2.1
    go_upto_region 4 with (first | (go_at_call 16; refine Calls.mono (C24.out _ HW3.out.2.1) ?_; rintro e W4 ⟨rfl, h4⟩; obtain ⟨v1, v2, v3, v4, v5, v6⟩ := store_two' (two_next HW3.out.2.2.2.2 h4) (.int .i64 u1) (.int .i64 u2)) | fail)
    have x6 : Two ((W4.setCell ⟨b5, 0, none⟩ (.int .i64 u1)).setCell ⟨b5, 1, none⟩ (.int .i64 u2)) b5 (.int .i64 u1) (.int .i64 u2) 27 := two_setN (two_next HW3.out.2.2.2.2 h4)
    have HW5 : Hid (Two ((W4.setCell ⟨b5, 0, none⟩ (.int .i64 u1)).setCell ⟨b5, 1, none⟩ (.int .i64 u2)) b4 (.int .i64 0) (.int .i64 0) 27 ∧ Below w.heap.size w ((W4.setCell ⟨b5, 0, none⟩ (.int .i64 u1)).setCell ⟨b5, 1, none⟩ (.int .i64 u2)) ∧ Two ((W4.setCell ⟨b5, 0, none⟩ (.int .i64 u1)).setCell ⟨b5, 1, none⟩ (.int .i64 u2)) b2 (.int .i64 n) (.slice ao eg cap) 24 ∧ Two ((W4.setCell ⟨b5, 0, none⟩ (.int .i64 u1)).setCell ⟨b5, 1, none⟩ (.int .i64 u2)) b3 (.int .i64 n2) (.slice ao2 eh cap2) 24 ∧ Two ((W4.setCell ⟨b5, 0, none⟩ (.int .i64 u1)).setCell ⟨b5, 1, none⟩ (.int .i64 u2)) b5 (.int .i64 u1) (.int .i64 u2) 27) := ⟨two_far (two_far (two_next HW3.out.1 h4) HNE.out.1) HNE.out.1, ((below_next HW3.out.2.1 h4).setCell HNE.out.2 _).setCell HNE.out.2 _, two_far (two_far (two_next HW3.out.2.2.1 h4) HN2.out.1) HN2.out.1, two_far (two_far (two_next HW3.out.2.2.2.1 h4) HN2.out.2) HN2.out.2, x6⟩
    clear d0 d1 c0 c1 v1 v2 v3 v4 v5 v6 h4
    generalize (W4.setCell ⟨b5, 0, none⟩ (.int .i64 u1)).setCell ⟨b5, 1, none⟩ (.int .i64 u2) = W5 at *
    obtain ⟨d0, d1⟩ := cell_two x6
    obtain ⟨c0, c1⟩ := cell_two HW5.out.2.2.1
    obtain ⟨c2, c3⟩ := cell_two HW5.out.2.2.2.1
    clear x6 HW3
    by_cases g : u1 = 0
    · have k2 : (u1 == 0) = true := by simpa using g
      have hu2 := HZ.out g
      by_cases h10 : 10 < n
      · have k3 : decide ((10 : Int) < n) = true := by simpa using h10
        have hp : (p1, p2) = (2, 0) := by rw [HP.out, if_neg (by simpa using HQ.out), if_neg (by simpa using g), if_pos (Or.inl h10)]
        simp only [Prod.mk.injEq] at hp
        obtain ⟨rfl, rfl⟩ := hp
        clear h10 g hu2
        go_upto_region 6 with (first | (go_at_call 17; refine Calls.mono (CF.out _ _ _) ?_; rintro e w5 ⟨rfl, h5⟩; obtain ⟨q1, q2, q3, q4, q5, q6⟩ := store_two' (two_next HW5.out.2.2.2.2 h5) (.int .i64 2) (.int .i64 0)) | fail)
        have t4 : Two ((w5.setCell ⟨b5, 0, none⟩ (.int .i64 2)).setCell ⟨b5, 1, none⟩ (.int .i64 0)) b4 (.int .i64 0) (.int .i64 0) 27 := two_far (two_far (two_next HW5.out.1 h5) HNE.out.1) HNE.out.1
        have hB6 : Below w.heap.size w ((w5.setCell ⟨b5, 0, none⟩ (.int .i64 2)).setCell ⟨b5, 1, none⟩ (.int .i64 0)) := ((below_next HW5.out.2.1 h5).setCell HNE.out.2 _).setCell HNE.out.2 _
        clear q1 q2 q3 q4 h5
        generalize (w5.setCell ⟨b5, 0, none⟩ (.int .i64 2)).setCell ⟨b5, 1, none⟩ (.int .i64 0) = w6 at *
        obtain ⟨s1, s2, s3, s4, s5, s6⟩ := store_two' t4 (.int .i64 2) (.int .i64 0)
        have HBX : Hid (Below w.heap.size w _) := hB6
        clear HP
        go_wp2
        refine bodyPost_ret (v := .agg #[.int .i64 2, .int .i64 0]) ?_ rfl ⟨rfl, (HBX.out.setCell HW1.out.2.2.2 _).setCell HW1.out.2.2.2 _⟩
        simp [results, Tryd.results6, go_sem, s5, s6]
      · have k3 : decide ((10 : Int) < n) = false := by simpa using h10
        by_cases h6 : 6 < n2
        · have k4 : decide ((6 : Int) < n2) = true := by simpa using h6
          have hp : (p1, p2) = (2, 0) := by rw [HP.out, if_neg (by simpa using HQ.out), if_neg (by simpa using g), if_pos (Or.inr h6)]
          simp only [Prod.mk.injEq] at hp
          obtain ⟨rfl, rfl⟩ := hp
          clear h10 h6 g hu2
          go_upto_region 6 with (first | (go_at_call 17; refine Calls.mono (CF.out _ _ _) ?_; rintro e w5 ⟨rfl, h5⟩; obtain ⟨q1, q2, q3, q4, q5, q6⟩ := store_two' (two_next HW5.out.2.2.2.2 h5) (.int .i64 2) (.int .i64 0)) | fail)
          have t4 : Two ((w5.setCell ⟨b5, 0, none⟩ (.int .i64 2)).setCell ⟨b5, 1, none⟩ (.int .i64 0)) b4 (.int .i64 0) (.int .i64 0) 27 := two_far (two_far (two_next HW5.out.1 h5) HNE.out.1) HNE.out.1
          have hB6 : Below w.heap.size w ((w5.setCell ⟨b5, 0, none⟩ (.int .i64 2)).setCell ⟨b5, 1, none⟩ (.int .i64 0)) := ((below_next HW5.out.2.1 h5).setCell HNE.out.2 _).setCell HNE.out.2 _
          clear q1 q2 q3 q4 h5
          generalize (w5.setCell ⟨b5, 0, none⟩ (.int .i64 2)).setCell ⟨b5, 1, none⟩ (.int .i64 0) = w6 at *
          obtain ⟨s1, s2, s3, s4, s5, s6⟩ := store_two' t4 (.int .i64 2) (.int .i64 0)
          have HBX : Hid (Below w.heap.size w _) := hB6
          clear HP
          go_wp2
          refine bodyPost_ret (v := .agg #[.int .i64 2, .int .i64 0]) ?_ rfl ⟨rfl, (HBX.out.setCell HW1.out.2.2.2 _).setCell HW1.out.2.2.2 _⟩
          simp [results, Tryd.results6, go_sem, s5, s6]
        · have k4 : decide ((6 : Int) < n2) = false := by simpa using h6
          have hp : (p1, p2) = (u1, u2) := by rw [HP.out, if_neg (by simpa using HQ.out), if_neg (by simpa using g), if_neg (fun hc => hc.elim h10 h6), g, hu2]
          simp only [Prod.mk.injEq] at hp
          obtain ⟨rfl, rfl⟩ := hp
          clear h10 h6 g hu2
          obtain ⟨s1, s2, s3, s4, s5, s6⟩ := store_two' HW5.out.1 (.int .i64 p1) (.int .i64 p2)
          have HBX : Hid (Below w.heap.size w _) := HW5.out.2.1
          clear HP
          go_wp2
          refine bodyPost_ret (v := .agg #[.int .i64 p1, .int .i64 p2]) ?_ rfl ⟨rfl, (HBX.out.setCell HW1.out.2.2.2 _).setCell HW1.out.2.2.2 _⟩
          simp [results, Tryd.results6, go_sem, s5, s6]
    · have k2 : (u1 == 0) = false := by simpa using g
      have hp : (p1, p2) = (u1, u2) := by rw [HP.out, if_neg (by simpa using HQ.out), if_pos g]
      simp only [Prod.mk.injEq] at hp
      obtain ⟨rfl, rfl⟩ := hp
      clear g
      obtain ⟨s1, s2, s3, s4, s5, s6⟩ := store_two' HW5.out.1 (.int .i64 p1) (.int .i64 p2)
      have HBX : Hid (Below w.heap.size w _) := HW5.out.2.1
      clear HP
      go_wp2
      refine bodyPost_ret (v := .agg #[.int .i64 p1, .int .i64 p2]) ?_ rfl ⟨rfl, (HBX.out.setCell HW1.out.2.2.2 _).setCell HW1.out.2.2.2 _⟩
      simp [results, Tryd.results6, go_sem, s5, s6]
  · have k1 : (q1 == 0) = false := by simpa using h
    have hp : (p1, p2) = (q1, q2) := by rw [HP.out, if_pos h]
    simp only [Prod.mk.injEq] at hp
    obtain ⟨rfl, rfl⟩ := hp
    clear h
    obtain ⟨s1, s2, s3, s4, s5, s6⟩ := store_two' HW3.out.1 (.int .i64 p1) (.int .i64 p2)
    have HBX : Hid (Below w.heap.size w _) := HW3.out.2.1
    clear HP
    go_wp2
    refine bodyPost_ret (v := .agg #[.int .i64 p1, .int .i64 p2]) ?_ rfl ⟨rfl, (HBX.out.setCell HW1.out.2.2.2 _).setCell HW1.out.2.2.2 _⟩
    simp [results, Tryd.results6, go_sem, s5, s6]
end Go.Proofs.YthjkjanibkpgiaaDoor
