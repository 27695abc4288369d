/- poly.check with any number; edges without fault. smallFault. -/
import Derived.Test.YtmeodnkmhakidaaDoorTutW
import Derived.Test.YtmeodnkmhakidaaDoorTalMM
namespace Go.Proofs.YtmeodnkmhakidaaDoor
set_option maxRecDepth 8000
open Go.RowKit Go.Maps
attribute [local go_sem ↓] Go.wp_at_zero Go.wp_at_succ
def chkI (n : Int) (es : List Pair) (m : Int) : Int × Int := if (chk n es).1 ≠ 0 then chk n es else if 12 < m then (2, 0) else (0, 0)
set_option maxHeartbeats 4000000 in
theorem checkI_call {w : World} {n : Int} {v : Value} {es : List Pair} {m : Int} (hE : EdgesAt w v es) :
    Calls Tryd.prog 18 #[.agg #[.int .i64 n, v], .int .i64 m] w fun e w' => e = .returned (.agg #[.int .i64 (chkI n es m).1, .int .i64 (chkI n es m).2]) ∧ Below w.heap.size w w' := by
  have C23 : Hid (∀ A, Below w.heap.size w A → Calls Tryd.prog 31 #[.agg #[.int .i64 n, v]] A fun e w' => e = .returned (.agg #[.int .i64 (chk n es).1, .int .i64 (chk n es).2]) ∧ Below A.heap.size A w') := fun A hA => check_any n v es A (hE.below hA)
  have HP : Hid (chkI n es m = if (chk n es).1 ≠ 0 then chk n es else if 12 < m then (2, 0) else (0, 0)) := rfl
  clear hE
  generalize chkI n es m = P at *
  generalize chk n es = Q at *
  obtain ⟨q1, q2⟩ := Q
  obtain ⟨p1, p2⟩ := P
  simp only at HP C23
  go_enter Tryd.func18, Tryd.ntmps18
  go_upto_region 1 with (fail)
  have t2 : Two ((w.alloc (Obj.cells #[.int .i64 n, v] 24)).alloc (Obj.cells #[.int .i64 0, .int .i64 0] 27)) w.heap.size (.int .i64 n) v 24 := two_alloc (two_new _ _ _ _) _
  have t4 : Two ((w.alloc (Obj.cells #[.int .i64 n, v] 24)).alloc (Obj.cells #[.int .i64 0, .int .i64 0] 27)) (w.heap.size + 1) (.int .i64 0) (.int .i64 0) 27 := by
    have := two_new (w.alloc (Obj.cells #[.int .i64 n, v] 24)) (.int .i64 0) (.int .i64 0) 27
    simpa using this
  have hB0 : Below w.heap.size w ((w.alloc (Obj.cells #[.int .i64 n, v] 24)).alloc (Obj.cells #[.int .i64 0, .int .i64 0] 27)) := below_alloc (below_alloc (Below.refl _ w) _) _
  obtain ⟨b2, hb2⟩ : ∃ b, b = w.heap.size := ⟨_, rfl⟩
  obtain ⟨b4, hb4⟩ : ∃ b, b = w.heap.size + 1 := ⟨_, rfl⟩
  rw [← hb4] at t4 ⊢
  rw [← hb2] at t2 ⊢
  generalize ((w.alloc (Obj.cells #[.int .i64 n, v] 24)).alloc (Obj.cells #[.int .i64 0, .int .i64 0] 27)) = W1 at *
  have HW1 : Hid (Two W1 b4 (.int .i64 0) (.int .i64 0) 27 ∧ Below w.heap.size w W1 ∧ w.heap.size ≤ b4) := ⟨t4, hB0, by omega⟩
  obtain ⟨c0, c1⟩ := cell_two t2
  clear t2 t4 hB0 hb2 hb4
  go_upto_region 2 with (first | (go_at_call 31; refine Calls.mono (C23.out _ HW1.out.2.1) ?_; rintro e W2 ⟨rfl, h2⟩) | fail)
  have x5 := two_new W2 (.int .i64 q1) (.int .i64 q2) 27
  have hB3 := below_alloc (Below.refl _ W2) (Obj.cells #[.int .i64 q1, .int .i64 q2] 27)
  generalize W2.heap.size = b5 at x5 ⊢
  generalize W2.alloc (Obj.cells #[.int .i64 q1, .int .i64 q2] 27) = W3 at *
  have HW3 : Hid (Two W3 b4 (.int .i64 0) (.int .i64 0) 27 ∧ Below w.heap.size w W3) := ⟨two_next HW1.out.1 (below_next h2 hB3), below_next HW1.out.2.1 (below_next h2 hB3)⟩
  obtain ⟨d0, d1⟩ := cell_two x5
  clear h2 hB3 x5 c0 c1
  by_cases h : q1 = 0
  · have k1 : (q1 != 0) = false := by simpa using h
    by_cases h12 : 12 < m
    · have k2 : decide ((12 : Int) < m) = true := by simpa using h12
      have hp : (p1, p2) = (2, 0) := by rw [HP.out, if_neg (by simpa using h), if_pos h12]
      simp only [Prod.mk.injEq] at hp
      obtain ⟨rfl, rfl⟩ := hp
      obtain ⟨s1, s2, s3, s4, s5, s6⟩ := store_two' HW3.out.1 (.int .i64 2) (.int .i64 0)
      clear h HP
      go_wp2
      refine bodyPost_ret (v := .agg #[.int .i64 2, .int .i64 0]) ?_ rfl ⟨rfl, (HW3.out.2.setCell HW1.out.2.2 _).setCell HW1.out.2.2 _⟩
      simp [results, Tryd.results18, go_sem, s5, s6]
    · have k2 : decide ((12 : Int) < m) = false := by simpa using h12
      have hp : (p1, p2) = (0, 0) := by rw [HP.out, if_neg (by simpa using h), if_neg h12]
      simp only [Prod.mk.injEq] at hp
      obtain ⟨rfl, rfl⟩ := hp
      obtain ⟨s1, s2, s3, s4, s5, s6⟩ := store_two' HW3.out.1 (.int .i64 0) (.int .i64 0)
      clear h HP
      go_wp2
      refine bodyPost_ret (v := .agg #[.int .i64 0, .int .i64 0]) ?_ rfl ⟨rfl, (HW3.out.2.setCell HW1.out.2.2 _).setCell HW1.out.2.2 _⟩
      simp [results, Tryd.results18, go_sem, s5, s6]
  · have k1 : (q1 != 0) = true := by simpa using h
    have hp : (p1, p2) = (q1, q2) := by rw [HP.out, if_pos h]
    simp only [Prod.mk.injEq] at hp
    obtain ⟨rfl, rfl⟩ := hp
    obtain ⟨s1, s2, s3, s4, s5, s6⟩ := store_two' HW3.out.1 (.int .i64 p1) (.int .i64 p2)
    clear h HP
    go_wp2
    refine bodyPost_ret (v := .agg #[.int .i64 p1, .int .i64 p2]) ?_ rfl ⟨rfl, (HW3.out.2.setCell HW1.out.2.2 _).setCell HW1.out.2.2 _⟩
    simp [results, Tryd.results18, go_sem, s5, s6]
theorem chkI_good {n : Int} {es : List Pair} {m : Int} (h : (chkI n es m).1 = 0) : chkI n es m = (0, 0) ∧ (chk n es).1 = 0 ∧ m ≤ 12 := by
  unfold chkI at h ⊢
  by_cases h1 : (chk n es).1 ≠ 0
  · rw [if_pos h1] at h
    exact absurd h h1
  · rw [if_neg h1] at h ⊢
    have h1' : (chk n es).1 = 0 := Classical.byContradiction h1
    by_cases h2 : 12 < m
    · rw [if_pos h2] at h; cases h
    · rw [if_neg h2]
      exact ⟨rfl, h1', by omega⟩
theorem chk_simp {n : Int} : ∀ (l : List E2) (pre : List Pair), (chkFrom n pre (pzT l)).1 = 0 → Simp l ∧ ∀ e ∈ l, hasB pre (e.1 : Int) (e.2 : Int) = false
  | [], _, _ => ⟨trivial, fun _ h => by cases h⟩
  | e :: l, pre, h => by
    have hc : pzT (e :: l) = ((e.1 : Int), (e.2 : Int)) :: pzT l := rfl
    rw [hc, chkFrom] at h
    by_cases hb : bad n pre ((e.1 : Int), (e.2 : Int)) = 0
    · rw [if_pos hb] at h
      obtain ⟨h1, h2⟩ := chk_simp l _ h
      unfold bad at hb
      by_cases hN : (isN n (e.1 : Int) && isN n (e.2 : Int)) = true
      · rw [if_pos hN] at hb
        by_cases hne : (e.1 : Int) = (e.2 : Int)
        · simp only at hb; rw [if_pos hne] at hb; cases hb
        · simp only at hb
          rw [if_neg hne] at hb
          by_cases hh : hasB pre (e.1 : Int) (e.2 : Int) = true
          · rw [if_pos hh] at hb; cases hb
          · have hh' : hasB pre (e.1 : Int) (e.2 : Int) = false := by simpa using hh
            refine ⟨⟨by omega, ?_, h1⟩, fun e' he' => ?_⟩
            · rw [adjE, List.any_eq_false]
              intro x hx
              have := h2 x hx
              rw [hasB, List.any_append, Bool.or_eq_false_iff] at this
              have h3 := this.2
              simp only [List.any_cons, List.any_nil, Bool.or_false] at h3
              intro hc
              have h4 : (x.1 = e.1 ∧ x.2 = e.2) ∨ (x.1 = e.2 ∧ x.2 = e.1) := by simpa using hc
              rcases h4 with ⟨q1, q2⟩ | ⟨q1, q2⟩ <;> rw [q1, q2] at h3 <;> simp at h3
            · rcases List.mem_cons.1 he' with rfl | he'
              · exact hh'
              · have := h2 e' he'
                rw [hasB, List.any_append, Bool.or_eq_false_iff] at this
                exact this.1
      · rw [if_neg hN] at hb; cases hb
    · rw [if_neg hb] at h
      exact absurd h hb
theorem chk_sim {n : Int} {l : List E2} (h : (chk n (pzT l)).1 = 0) : Simp l := by
  unfold chk at h
  by_cases hm : many n (pzT l).length = true
  · rw [if_pos hm] at h; cases h
  · rw [if_neg hm] at h
    exact (chk_simp l [] h).1
end Go.Proofs.YtmeodnkmhakidaaDoor

namespace Go.Proofs.YtmeodnkmhakidaaDoor
set_option maxRecDepth 8000
open Go.RowKit Go.Maps
attribute [local go_sem ↓] Go.wp_at_zero Go.wp_at_succ
def smallR (n : Int) (es : List Pair) : Int × Int := if (chk n es).1 = 0 ∧ 12 < n then (2, 0) else chk n es
theorem smallR_chkI (n : Int) (es : List Pair) : smallR n es = chkI n es n := by
  unfold smallR chkI
  by_cases h : (chk n es).1 = 0
  · by_cases h2 : 12 < n
    · rw [if_pos ⟨h, h2⟩, if_neg (fun h3 => h3 h), if_pos h2]
    · rw [if_neg (fun h3 => h2 h3.2), if_neg (fun h3 => h3 h), if_neg h2]
      exact (chk_good h).1
  · rw [if_neg (fun h3 => h h3.1), if_pos h]
set_option maxHeartbeats 4000000 in
theorem small_call {w : World} {ao : Option Addr} {cap : Nat} {n : Int} {es : List Pair} (hE : EdgesAt w (.slice ao es.length cap) es) (hcap : es.length ≤ cap) :
    Calls Tryd.prog 5 #[.agg #[.int .i64 n, .slice ao es.length cap], .int .i64 12] w fun e w' => e = .returned (.agg #[.int .i64 (smallR n es).1, .int .i64 (smallR n es).2]) ∧ Below w.heap.size w w' := by
  have C24 : Hid (∀ A, Below w.heap.size w A → Calls Tryd.prog 16 #[.agg #[.int .i64 n, .slice ao es.length cap]] A fun e w' => e = .returned (.agg #[.int .i64 (chk n es).1, .int .i64 (chk n es).2]) ∧ Below A.heap.size A w') := fun A hA => refCheck_any n ao cap es A (hE.below hA) hcap
  have CF : Hid (∀ (a b : Int) A, Calls Tryd.prog 17 #[.int .i64 a, .int .i64 b] A fun e w' => e = .returned (.agg #[.int .i64 a, .int .i64 b]) ∧ Below A.heap.size A w') := fun a b A => refF_any a b A
  have HSR : Hid (smallR n es = if (chk n es).1 = 0 ∧ 12 < n then (2, 0) else chk n es) := rfl
  generalize smallR n es = SR at *
  generalize chk n es = CK at *
  obtain ⟨c, d⟩ := CK
  obtain ⟨rc, rd⟩ := SR
  generalize es.length = el at *
  simp only at C24 HSR ⊢
  clear hE hcap
  go_enter Tryd.func5, Tryd.ntmps5
  go_upto_region 1 with (fail)
  have x1 := two_new w (.int .i64 n) (.slice ao el cap) 24
  have hB2 : Below w.heap.size w ((w.alloc (Obj.cells #[.int .i64 n, .slice ao el cap] 24)).alloc (Obj.cells #[.int .i64 0, .int .i64 0] 27)) := below_alloc (below_alloc (Below.refl _ w) _) _
  have y1 : Two ((w.alloc (Obj.cells #[.int .i64 n, .slice ao el cap] 24)).alloc (Obj.cells #[.int .i64 0, .int .i64 0] 27)) w.heap.size (.int .i64 n) (.slice ao el cap) 24 := two_alloc x1 _
  have y5 : Two ((w.alloc (Obj.cells #[.int .i64 n, .slice ao el cap] 24)).alloc (Obj.cells #[.int .i64 0, .int .i64 0] 27)) (w.heap.size + 1) (.int .i64 0) (.int .i64 0) 27 := two_nxt _ _ _ _ _
  obtain ⟨q, hq⟩ : ∃ q, q = w.heap.size := ⟨_, rfl⟩
  obtain ⟨b4, hb4⟩ : ∃ b, b = w.heap.size + 1 := ⟨_, rfl⟩
  rw [← hb4] at y5 ⊢
  rw [← hq] at y1 ⊢
  generalize (w.alloc (Obj.cells #[.int .i64 n, .slice ao el cap] 24)).alloc (Obj.cells #[.int .i64 0, .int .i64 0] 27) = W2 at *
  have HB2 : Hid (Below w.heap.size w W2 ∧ Two W2 b4 (.int .i64 0) (.int .i64 0) 27 ∧ w.heap.size ≤ b4 ∧ Two W2 q (.int .i64 n) (.slice ao el cap) 24) := ⟨hB2, y5, by omega, y1⟩
  obtain ⟨c0, c1⟩ := cell_two y1
  have C24' : Hid _ := C24.out W2 hB2
  clear hq hb4 x1 hB2 y1 y5 C24
  go_upto_region 2 with (first | (go_at_call 16; refine Calls.mono C24'.out ?_; rintro e w3 ⟨rfl, h3⟩) | fail)
  have hB4 : Below W2.heap.size W2 (w3.alloc (Obj.cells #[.int .i64 c, .int .i64 d] 27)) := below_alloc h3 _
  have x6 := two_new w3 (.int .i64 c) (.int .i64 d) 27
  obtain ⟨b5, hb5⟩ : ∃ b, b = w3.heap.size := ⟨_, rfl⟩
  have hne : b4 ≠ b5 ∧ w.heap.size ≤ b5 := ⟨by have h1 := lt_of_block (two_next HB2.out.2.1 h3); omega, by have h1 := h3.size; have h2 := HB2.out.1.size; omega⟩
  rw [← hb5] at x6 ⊢
  generalize w3.alloc (Obj.cells #[.int .i64 c, .int .i64 d] 27) = w4 at *
  obtain ⟨a0, a1⟩ := cell_two x6
  have HNE : Hid (b4 ≠ b5 ∧ w.heap.size ≤ b5) := hne
  have HW4 : Hid (Below w.heap.size w w4 ∧ Two w4 b4 (.int .i64 0) (.int .i64 0) 27 ∧ Two w4 q (.int .i64 n) (.slice ao el cap) 24 ∧ Two w4 b5 (.int .i64 c) (.int .i64 d) 27) := ⟨below_next HB2.out.1 hB4, two_next HB2.out.2.1 hB4, two_next HB2.out.2.2.2 hB4, x6⟩
  obtain ⟨d0, d1⟩ := cell_two HW4.out.2.2.1
  clear h3 hB4 C24' c0 c1 x6 hb5 hne
  by_cases hc : c = 0
  · subst hc
    by_cases h12 : 12 < n
    · have k1 : decide ((12 : Int) < n) = true := by simpa using h12
      have HR : Hid ((rc, rd) = ((2 : Int), (0 : Int))) := HSR.out.trans (if_pos ⟨rfl, h12⟩)
      clear HSR
      go_upto_region 4 with (first | (go_at_call 17; refine Calls.mono (CF.out _ _ _) ?_; rintro e w5 ⟨rfl, h5⟩; obtain ⟨q1, q2, q3, q4, q5, q6⟩ := store_two' (two_next HW4.out.2.2.2 h5) (.int .i64 2) (.int .i64 0)) | fail)
      have t4 : Two ((w5.setCell ⟨b5, 0, none⟩ (.int .i64 2)).setCell ⟨b5, 1, none⟩ (.int .i64 0)) b4 (.int .i64 0) (.int .i64 0) 27 := two_far (two_far (two_next HW4.out.2.1 h5) HNE.out.1) HNE.out.1
      have hB6 : Below w.heap.size w ((w5.setCell ⟨b5, 0, none⟩ (.int .i64 2)).setCell ⟨b5, 1, none⟩ (.int .i64 0)) := ((below_next HW4.out.1 h5).setCell HNE.out.2 _).setCell HNE.out.2 _
      clear q1 q2 q3 q4 h5
      generalize (w5.setCell ⟨b5, 0, none⟩ (.int .i64 2)).setCell ⟨b5, 1, none⟩ (.int .i64 0) = w6 at *
      obtain ⟨p1, p2, p3, p4, p5, p6⟩ := store_two' t4 (.int .i64 2) (.int .i64 0)
      go_wp2
      have e := HR.out
      simp only [Prod.mk.injEq] at e
      obtain ⟨rfl, rfl⟩ := e
      refine bodyPost_ret (v := .agg #[.int .i64 2, .int .i64 0]) ?_ rfl ⟨rfl, (hB6.setCell HB2.out.2.2.1 _).setCell HB2.out.2.2.1 _⟩
      simp [results, Tryd.results5, go_sem, p5, p6]
    · have k1 : decide ((12 : Int) < n) = false := by simpa using h12
      have HR : Hid ((rc, rd) = ((0 : Int), d)) := HSR.out.trans (if_neg (fun h => h12 h.2))
      obtain ⟨p1, p2, p3, p4, p5, p6⟩ := store_two' HW4.out.2.1 (.int .i64 0) (.int .i64 d)
      clear HSR
      go_wp2
      have e := HR.out
      simp only [Prod.mk.injEq] at e
      obtain ⟨rfl, rfl⟩ := e
      refine bodyPost_ret (v := .agg #[.int .i64 0, .int .i64 rd]) ?_ rfl ⟨rfl, (HW4.out.1.setCell HB2.out.2.2.1 _).setCell HB2.out.2.2.1 _⟩
      simp [results, Tryd.results5, go_sem, p5, p6]
  · have kc : (c == 0) = false := by simpa using hc
    have HR : Hid ((rc, rd) = (c, d)) := HSR.out.trans (if_neg (fun h => hc h.1))
    obtain ⟨p1, p2, p3, p4, p5, p6⟩ := store_two' HW4.out.2.1 (.int .i64 c) (.int .i64 d)
    clear HSR hc
    go_wp2
    have e := HR.out
    simp only [Prod.mk.injEq] at e
    obtain ⟨rfl, rfl⟩ := e
    refine bodyPost_ret (v := .agg #[.int .i64 rc, .int .i64 rd]) ?_ rfl ⟨rfl, (HW4.out.1.setCell HB2.out.2.2.1 _).setCell HB2.out.2.2.1 _⟩
    simp [results, Tryd.results5, go_sem, p5, p6]
end Go.Proofs.YtmeodnkmhakidaaDoor
