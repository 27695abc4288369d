/- smallFault. -/
import Derived.Test.YtkkfjfphmlcieaaCliqW
namespace Go.Proofs.Ytkkfjfphmlcieaa
open Go.RowKit Go.Maps
attribute [local go_sem ↓] Go.wp_at_zero Go.wp_at_succ
set_option maxRecDepth 4000 in
set_option maxHeartbeats 2000000 in
theorem smallFault_call {w : World} {vo : Option Addr} {vc : Nat} {n : Int} {es : List Pair} {most : Nat} (hE : EdgesAt w (.slice vo es.length vc) es) (hcap : es.length ≤ vc) :
    Calls Try.prog 13 #[.agg #[.int .i64 n, .slice vo es.length vc], .int .i64 (most : Int)] w fun e w' => e = .returned (.agg #[.int .i64 (smallF n es (most : Int)).1, .int .i64 (smallF n es (most : Int)).2]) ∧ Below w.heap.size w w' := by
  obtain ⟨p, q, hpq⟩ : ∃ p q, chk n es = (p, q) := ⟨_, _, rfl⟩
  have H18 : Hid (∀ W, Below w.heap.size w W → Calls Try.prog 6 #[.agg #[.int .i64 n, .slice vo es.length vc]] W fun e w' => e = .returned (.agg #[.int .i64 p, .int .i64 q]) ∧ Below W.heap.size W w') := fun W hW => refCheck_as (hE.below hW) hcap hpq
  obtain ⟨c, d, hs⟩ : ∃ c d, smallF n es most = (c, d) := ⟨_, _, rfl⟩
  rw [hs]
  have HSM : Hid ((if p = 0 then (if n > (most : Int) then (2, 0) else (0, 0)) else (p, q)) = (c, d)) := by
    show (if p = 0 then (if n > (most : Int) then (2, 0) else (0, 0)) else (p, q)) = (c, d)
    unfold smallF at hs
    rw [hpq] at hs
    have hs' : (if p ≠ 0 then (p, q) else if (most : Int) < n then (2, 0) else (0, 0)) = (c, d) := hs
    by_cases h0 : p = 0
    · rw [if_pos h0]; rw [if_neg (fun h => h h0)] at hs'; exact hs'
    · rw [if_neg h0]; rw [if_pos h0] at hs'; exact hs'
  have HZ : Hid (p = 0 → q = 0) := fun h => by
    have h1 : (chk n es).1 = 0 := by rw [hpq]; exact h
    have h2 := (chk_good h1).1
    rw [hpq] at h2
    exact congrArg Prod.snd h2
  clear hE hs hpq hcap
  go_enter Try.func13, Try.ntmps13
  go_upto_region 1 with (fail)
  have t2 : Two ((w.alloc (Obj.cells #[.int .i64 n, .slice vo es.length vc] 24)).alloc (Obj.cells #[.int .i64 0, .int .i64 0] 27)) w.heap.size (.int .i64 n) (.slice vo es.length vc) 24 := two_alloc (two_new w _ _ _) _
  have t4 : Two ((w.alloc (Obj.cells #[.int .i64 n, .slice vo es.length vc] 24)).alloc (Obj.cells #[.int .i64 0, .int .i64 0] 27)) (w.heap.size + 1) (.int .i64 0) (.int .i64 0) 27 := two_nxt _ _ _ _ _
  have hB0 : Below w.heap.size w ((w.alloc (Obj.cells #[.int .i64 n, .slice vo es.length vc] 24)).alloc (Obj.cells #[.int .i64 0, .int .i64 0] 27)) := below_alloc (below_alloc (Below.refl _ w) _) _
  obtain ⟨b2, hb2⟩ : ∃ b, b = w.heap.size := ⟨_, rfl⟩
  obtain ⟨b4, hb4⟩ : ∃ b, b = w.heap.size + 1 := ⟨_, rfl⟩
  rw [← hb2] at t2
  rw [← hb4] at t4
  rw [← hb4, ← hb2]
  generalize ((w.alloc (Obj.cells #[.int .i64 n, .slice vo es.length vc] 24)).alloc (Obj.cells #[.int .i64 0, .int .i64 0] 27)) = W0 at t2 t4 hB0 ⊢
  have hlow : w.heap.size ≤ b4 := by omega
  obtain ⟨q0, q1⟩ := cell_two t2
  clear hb2 hb4
  go_upto_region 2 with (first | (go_at_call 6; refine (H18.out _ hB0).mono ?_; rintro e W1 ⟨rfl, hb1⟩) | go_in)
  clear q0 q1
  have hb1a := below_alloc hb1 (Obj.cells #[.int .i64 p, .int .i64 q] 27)
  have t5 := two_new W1 (.int .i64 p) (.int .i64 q) 27
  have t41 := two_next t4 hb1a
  have t21 := two_next t2 hb1a
  have hB1 := below_next hB0 hb1a
  obtain ⟨b5, hb5⟩ : ∃ b, b = W1.heap.size := ⟨_, rfl⟩
  have hne : b4 ≠ b5 := by have := lt_of_block t4; have := hb1.size; omega
  have hlow5 : w.heap.size ≤ b5 := by have := hB0.size; have := hb1.size; omega
  rw [← hb5] at t5 ⊢
  generalize W1.alloc (Obj.cells #[.int .i64 p, .int .i64 q] 27) = W2 at t5 t41 t21 hB1 ⊢
  obtain ⟨q0, q1⟩ := cell_two t5
  obtain ⟨q4, q5⟩ := cell_two t21
  have HT5 : Hid (Two W2 b5 (.int .i64 p) (.int .i64 q) 27) := t5
  have HT4 : Hid (Two W2 b4 (.int .i64 0) (.int .i64 0) 27) := t41
  have hend : ∀ (W : World) (x y : Int), Two W b4 (.int .i64 0) (.int .i64 0) 27 → Below w.heap.size w W → (Two ((W.setCell ⟨b4, 0, none⟩ (.int .i64 x)).setCell ⟨b4, 1, none⟩ (.int .i64 y)) b4 (.int .i64 x) (.int .i64 y) 27 ∧ Below w.heap.size w ((W.setCell ⟨b4, 0, none⟩ (.int .i64 x)).setCell ⟨b4, 1, none⟩ (.int .i64 y))) := fun W x y h hb => ⟨two_setN h, (hb.setCell (p := ⟨b4, 0, none⟩) hlow _).setCell (p := ⟨b4, 1, none⟩) hlow _⟩
  have HEND : Hid (∀ (W : World) (x y : Int), Two W b4 (.int .i64 0) (.int .i64 0) 27 → Below w.heap.size w W → (Two ((W.setCell ⟨b4, 0, none⟩ (.int .i64 x)).setCell ⟨b4, 1, none⟩ (.int .i64 y)) b4 (.int .i64 x) (.int .i64 y) 27 ∧ Below w.heap.size w ((W.setCell ⟨b4, 0, none⟩ (.int .i64 x)).setCell ⟨b4, 1, none⟩ (.int .i64 y)))) := hend
  clear hb1 hb1a hb5 t2 t4 hB0 H18 t5 t41 t21 hend
  by_cases hp : p = 0
  · have hq := HZ.out hp
    by_cases hm : n > (most : Int)
    · have hE : ((2 : Int), (0 : Int)) = (c, d) := by have := HSM.out; rwa [if_pos hp, if_pos hm] at this
      cases hE
      have k1 : (p == 0) = true := by simp [hp]
      clear HSM HZ hp hq
      have ff5 := free_two HT5.out
      go_upto_region 4 with (first | (go_at_call 17; refine (refF_any 2 0 _).mono ?_; rintro e W3 ⟨rfl, hb3⟩; have t53 := two_next HT5.out hb3; have ff3 := free_two t53; obtain ⟨q6, q7⟩ := cell_two t53) | go_in)
      have x5 := two_setN (x' := .int .i64 2) (y' := .int .i64 0) t53
      have hB3 := ((below_next hB1 hb3).setCell (p := ⟨b5, 0, none⟩) hlow5 (.int .i64 2)).setCell (p := ⟨b5, 1, none⟩) hlow5 (.int .i64 0)
      have t43 : Two ((W3.setCell ⟨b5, 0, none⟩ (.int .i64 2)).setCell ⟨b5, 1, none⟩ (.int .i64 0)) b4 (.int .i64 0) (.int .i64 0) 27 := two_far (two_far (two_next HT4.out hb3) hne) hne
      clear q0 q1 q4 q5 q6 q7 ff5 ff3 t53
      generalize ((W3.setCell ⟨b5, 0, none⟩ (.int .i64 2)).setCell ⟨b5, 1, none⟩ (.int .i64 0)) = W4 at x5 hB3 t43 ⊢
      obtain ⟨q6, q7⟩ := cell_two x5
      obtain ⟨q8, q9⟩ := cell_two t43
      have ff4 := free_two t43
      go_wp2
      obtain ⟨x9, hB9⟩ := HEND.out W4 2 0 t43 hB3
      generalize ((W4.setCell ⟨b4, 0, none⟩ (.int .i64 2)).setCell ⟨b4, 1, none⟩ (.int .i64 0)) = W9 at x9 hB9 ⊢
      obtain ⟨n8, n81⟩ := cell_two x9
      refine bodyPost_ret (v := .agg #[.int .i64 2, .int .i64 0]) ?_ rfl ⟨rfl, hB9⟩
      simp [results, Try.results13, go_sem, n8, n81]
    · have hE : ((0 : Int), (0 : Int)) = (c, d) := by have := HSM.out; rwa [if_pos hp, if_neg hm] at this
      cases hE
      have HP : Hid (p = 0 ∧ q = 0) := ⟨hp, hq⟩
      have k1 : (p == 0) = true := by simp [hp]
      have k2 : ¬ n > (most : Int) := hm
      clear HSM HZ hp hq hm
      obtain ⟨q8, q9⟩ := cell_two HT4.out
      have ff4 := free_two HT4.out
      go_wp2
      obtain ⟨x9, hB9⟩ := HEND.out W2 p q HT4.out hB1
      generalize ((W2.setCell ⟨b4, 0, none⟩ (.int .i64 p)).setCell ⟨b4, 1, none⟩ (.int .i64 q)) = W9 at x9 hB9 ⊢
      rw [HP.out.1, HP.out.2] at x9
      obtain ⟨n8, n81⟩ := cell_two x9
      refine bodyPost_ret (v := .agg #[.int .i64 0, .int .i64 0]) ?_ rfl ⟨rfl, hB9⟩
      simp [results, Try.results13, go_sem, n8, n81]
  · have hE : (p, q) = (c, d) := by have := HSM.out; rwa [if_neg hp] at this
    have k1 : (p == 0) = false := by rw [beq_eq_false_iff_ne]; exact hp
    have e1 : p = c := congrArg Prod.fst hE
    have e2 : q = d := congrArg Prod.snd hE
    subst e1
    subst e2
    clear HSM HZ hp hE
    obtain ⟨q8, q9⟩ := cell_two HT4.out
    have ff4 := free_two HT4.out
    go_wp2
    obtain ⟨x9, hB9⟩ := HEND.out W2 p q HT4.out hB1
    generalize ((W2.setCell ⟨b4, 0, none⟩ (.int .i64 p)).setCell ⟨b4, 1, none⟩ (.int .i64 q)) = W9 at x9 hB9 ⊢
    obtain ⟨n8, n81⟩ := cell_two x9
    refine bodyPost_ret (v := .agg #[.int .i64 p, .int .i64 q]) ?_ rfl ⟨rfl, hB9⟩
    simp [results, Try.results13, go_sem, n8, n81]
end Go.Proofs.Ytkkfjfphmlcieaa
