/- Whatever graph it is given, ChordsIntervals answers true and leaves it as it was; no condition. -/
import Derived.Test.YtkkfjfphmlcieaaGreatCliqW
import Derived.BigQuiet
import Derived.Test.YtkkfjfphmlcieaaGreatBegun
import Derived.Test.YtkkfjfphmlcieaaGreatLayInt
import Derived.Test.YtkkfjfphmlcieaaGreatRingB
import Derived.Test.YtkkfjfphmlcieaaGreatOpens
namespace Go.Proofs.YtkkfjfphmlcieaaGreat
open Go.RowKit Go.Maps
attribute [local go_sem ↓] Go.wp_at_zero Go.wp_at_succ
set_option maxRecDepth 4000 in
set_option maxHeartbeats 2000000 in
theorem smallFault_call {w : World} {vo : Option Addr} {vc : Nat} {n : Int} {es : List Pair} {most : Nat} (hE : EdgesAt w (.slice vo es.length vc) es) (hcap : es.length ≤ vc) :
    Calls Tryz.prog 6 #[.agg #[.int .i64 n, .slice vo es.length vc], .int .i64 (most : Int)] w fun e w' => e = .returned (.agg #[.int .i64 (smallF n es (most : Int)).1, .int .i64 (smallF n es (most : Int)).2]) ∧ Below w.heap.size w w' := by
  obtain ⟨p, q, hpq⟩ : ∃ p q, chk n es = (p, q) := ⟨_, _, rfl⟩
  have H18 : Hid (∀ W, Below w.heap.size w W → Calls Tryz.prog 14 #[.agg #[.int .i64 n, .slice vo es.length vc]] W fun e w' => e = .returned (.agg #[.int .i64 p, .int .i64 q]) ∧ Below W.heap.size W w') := fun W hW => refCheck_as (hE.below hW) hcap hpq
  obtain ⟨c, d, hs⟩ : ∃ c d, smallF n es most = (c, d) := ⟨_, _, rfl⟩
  rw [hs]
  have HSM : Hid ((if p = 0 then (if n > (most : Int) then (2, 0) else (0, 0)) else (p, q)) = (c, d)) := by
    show (if p = 0 then (if n > (most : Int) then (2, 0) else (0, 0)) else (p, q)) = (c, d)
    unfold smallF at hs
    rw [hpq] at hs
    have hs' : (if p ≠ 0 then (p, q) else if (most : Int) < n then (2, 0) else (0, 0)) = (c, d) := hs
    by_cases h0 : p = 0
    · rw [if_pos h0]; rw [if_neg (fun h => h h0)] at hs'; exact hs'
    · rw [if_neg h0]; rw [if_pos h0] at hs'; exact hs'
  have HZ : Hid (p = 0 → q = 0) := fun h => by
    have h1 : (chk n es).1 = 0 := by rw [hpq]; exact h
    have h2 := (chk_good h1).1
    rw [hpq] at h2
    exact congrArg Prod.snd h2
  clear hE hs hpq hcap
  go_enter Tryz.func6, Tryz.ntmps6
  go_upto_region 1 with (fail)
  have t2 : Two ((w.alloc (Obj.cells #[.int .i64 n, .slice vo es.length vc] 24)).alloc (Obj.cells #[.int .i64 0, .int .i64 0] 27)) w.heap.size (.int .i64 n) (.slice vo es.length vc) 24 := two_alloc (two_new w _ _ _) _
  have t4 : Two ((w.alloc (Obj.cells #[.int .i64 n, .slice vo es.length vc] 24)).alloc (Obj.cells #[.int .i64 0, .int .i64 0] 27)) (w.heap.size + 1) (.int .i64 0) (.int .i64 0) 27 := two_nxt _ _ _ _ _
  have hB0 : Below w.heap.size w ((w.alloc (Obj.cells #[.int .i64 n, .slice vo es.length vc] 24)).alloc (Obj.cells #[.int .i64 0, .int .i64 0] 27)) := below_alloc (below_alloc (Below.refl _ w) _) _
  obtain ⟨b2, hb2⟩ : ∃ b, b = w.heap.size := ⟨_, rfl⟩
  obtain ⟨b4, hb4⟩ : ∃ b, b = w.heap.size + 1 := ⟨_, rfl⟩
  rw [← hb2] at t2
  rw [← hb4] at t4
  rw [← hb4, ← hb2]
  generalize ((w.alloc (Obj.cells #[.int .i64 n, .slice vo es.length vc] 24)).alloc (Obj.cells #[.int .i64 0, .int .i64 0] 27)) = W0 at t2 t4 hB0 ⊢
  have hlow : w.heap.size ≤ b4 := by omega
  obtain ⟨q0, q1⟩ := cell_two t2
  clear hb2 hb4
  go_upto_region 2 with (first | (go_at_call 14; refine (H18.out _ hB0).mono ?_; rintro e W1 ⟨rfl, hb1⟩) | go_in)
  clear q0 q1
  have hb1a := below_alloc hb1 (Obj.cells #[.int .i64 p, .int .i64 q] 27)
  have t5 := two_new W1 (.int .i64 p) (.int .i64 q) 27
  have t41 := two_next t4 hb1a
  have t21 := two_next t2 hb1a
  have hB1 := below_next hB0 hb1a
  obtain ⟨b5, hb5⟩ : ∃ b, b = W1.heap.size := ⟨_, rfl⟩
  have hne : b4 ≠ b5 := by have := lt_of_block t4; have := hb1.size; omega
  have hlow5 : w.heap.size ≤ b5 := by have := hB0.size; have := hb1.size; omega
  rw [← hb5] at t5 ⊢
  generalize W1.alloc (Obj.cells #[.int .i64 p, .int .i64 q] 27) = W2 at t5 t41 t21 hB1 ⊢
  obtain ⟨q0, q1⟩ := cell_two t5
  obtain ⟨q4, q5⟩ := cell_two t21
  have HT5 : Hid (Two W2 b5 (.int .i64 p) (.int .i64 q) 27) := t5
  have HT4 : Hid (Two W2 b4 (.int .i64 0) (.int .i64 0) 27) := t41
  have hend : ∀ (W : World) (x y : Int), Two W b4 (.int .i64 0) (.int .i64 0) 27 → Below w.heap.size w W → (Two ((W.setCell ⟨b4, 0, none⟩ (.int .i64 x)).setCell ⟨b4, 1, none⟩ (.int .i64 y)) b4 (.int .i64 x) (.int .i64 y) 27 ∧ Below w.heap.size w ((W.setCell ⟨b4, 0, none⟩ (.int .i64 x)).setCell ⟨b4, 1, none⟩ (.int .i64 y))) := fun W x y h hb => ⟨two_setN h, (hb.setCell (p := ⟨b4, 0, none⟩) hlow _).setCell (p := ⟨b4, 1, none⟩) hlow _⟩
  have HEND : Hid (∀ (W : World) (x y : Int), Two W b4 (.int .i64 0) (.int .i64 0) 27 → Below w.heap.size w W → (Two ((W.setCell ⟨b4, 0, none⟩ (.int .i64 x)).setCell ⟨b4, 1, none⟩ (.int .i64 y)) b4 (.int .i64 x) (.int .i64 y) 27 ∧ Below w.heap.size w ((W.setCell ⟨b4, 0, none⟩ (.int .i64 x)).setCell ⟨b4, 1, none⟩ (.int .i64 y)))) := hend
  clear hb1 hb1a hb5 t2 t4 hB0 H18 t5 t41 t21 hend
  by_cases hp : p = 0
  · have hq := HZ.out hp
    by_cases hm : n > (most : Int)
    · have hE : ((2 : Int), (0 : Int)) = (c, d) := by have := HSM.out; rwa [if_pos hp, if_pos hm] at this
      cases hE
      have k1 : (p == 0) = true := by simp [hp]
      clear HSM HZ hp hq
      have ff5 := free_two HT5.out
      go_upto_region 4 with (first | (go_at_call 11; refine (refF_any 2 0 _).mono ?_; rintro e W3 ⟨rfl, hb3⟩; have t53 := two_next HT5.out hb3; have ff3 := free_two t53; obtain ⟨q6, q7⟩ := cell_two t53) | go_in)
      have x5 := two_setN (x' := .int .i64 2) (y' := .int .i64 0) t53
      have hB3 := ((below_next hB1 hb3).setCell (p := ⟨b5, 0, none⟩) hlow5 (.int .i64 2)).setCell (p := ⟨b5, 1, none⟩) hlow5 (.int .i64 0)
      have t43 : Two ((W3.setCell ⟨b5, 0, none⟩ (.int .i64 2)).setCell ⟨b5, 1, none⟩ (.int .i64 0)) b4 (.int .i64 0) (.int .i64 0) 27 := two_far (two_far (two_next HT4.out hb3) hne) hne
      clear q0 q1 q4 q5 q6 q7 ff5 ff3 t53
      generalize ((W3.setCell ⟨b5, 0, none⟩ (.int .i64 2)).setCell ⟨b5, 1, none⟩ (.int .i64 0)) = W4 at x5 hB3 t43 ⊢
      obtain ⟨q6, q7⟩ := cell_two x5
      obtain ⟨q8, q9⟩ := cell_two t43
      have ff4 := free_two t43
      go_wp2
      obtain ⟨x9, hB9⟩ := HEND.out W4 2 0 t43 hB3
      generalize ((W4.setCell ⟨b4, 0, none⟩ (.int .i64 2)).setCell ⟨b4, 1, none⟩ (.int .i64 0)) = W9 at x9 hB9 ⊢
      obtain ⟨n8, n81⟩ := cell_two x9
      refine bodyPost_ret (v := .agg #[.int .i64 2, .int .i64 0]) ?_ rfl ⟨rfl, hB9⟩
      simp [results, Tryz.results6, go_sem, n8, n81]
    · have hE : ((0 : Int), (0 : Int)) = (c, d) := by have := HSM.out; rwa [if_pos hp, if_neg hm] at this
      cases hE
      have HP : Hid (p = 0 ∧ q = 0) := ⟨hp, hq⟩
      have k1 : (p == 0) = true := by simp [hp]
      have k2 : ¬ n > (most : Int) := hm
      clear HSM HZ hp hq hm
      obtain ⟨q8, q9⟩ := cell_two HT4.out
      have ff4 := free_two HT4.out
      go_wp2
      obtain ⟨x9, hB9⟩ := HEND.out W2 p q HT4.out hB1
      generalize ((W2.setCell ⟨b4, 0, none⟩ (.int .i64 p)).setCell ⟨b4, 1, none⟩ (.int .i64 q)) = W9 at x9 hB9 ⊢
      rw [HP.out.1, HP.out.2] at x9
      obtain ⟨n8, n81⟩ := cell_two x9
      refine bodyPost_ret (v := .agg #[.int .i64 0, .int .i64 0]) ?_ rfl ⟨rfl, hB9⟩
      simp [results, Tryz.results6, go_sem, n8, n81]
  · have hE : (p, q) = (c, d) := by have := HSM.out; rwa [if_neg hp] at this
    have k1 : (p == 0) = false := by rw [beq_eq_false_iff_ne]; exact hp
    have e1 : p = c := congrArg Prod.fst hE
    have e2 : q = d := congrArg Prod.snd hE
    subst e1
    subst e2
    clear HSM HZ hp hE
    obtain ⟨q8, q9⟩ := cell_two HT4.out
    have ff4 := free_two HT4.out
    go_wp2
    obtain ⟨x9, hB9⟩ := HEND.out W2 p q HT4.out hB1
    generalize ((W2.setCell ⟨b4, 0, none⟩ (.int .i64 p)).setCell ⟨b4, 1, none⟩ (.int .i64 q)) = W9 at x9 hB9 ⊢
    obtain ⟨n8, n81⟩ := cell_two x9
    refine bodyPost_ret (v := .agg #[.int .i64 p, .int .i64 q]) ?_ rfl ⟨rfl, hB9⟩
    simp [results, Tryz.results6, go_sem, n8, n81]
end Go.Proofs.YtkkfjfphmlcieaaGreat

namespace Go.Proofs.YtkkfjfphmlcieaaGreat
open Go.RowKit Go.Maps
attribute [local go_sem ↓] Go.wp_at_zero Go.wp_at_succ
set_option maxRecDepth 8000 in
set_option maxHeartbeats 4000000 in
theorem intLaw_bad {w : World} {n : Int} {vo : Option Addr} {vc : Nat} {es : List Pair} (hE : EdgesAt w (.slice vo es.length vc) es) (hcap : es.length ≤ vc) {c d : Int} (hs : smallF n es 12 = (c, d)) (hc : c ≠ 0) :
    Calls Tryz.prog 3 #[.agg #[.int .i64 n, .slice vo es.length vc]] w fun e w' => e = .returned (.bool true) ∧ Below w.heap.size w w' := by
  have HE : Hid (EdgesAt w (.slice vo es.length vc) es) := hE
  have HS : Hid (smallF n es 12 = (c, d)) := hs
  have HC : Hid (c ≠ 0) := hc
  have kc : (c != 0) = true := by simp [hc]
  have heq := eql27 c d
  clear hE hs hc
  go_enter Tryz.func3, Tryz.ntmps3
  go_upto_region 1 with (fail)
  have t1 := two_new w (.int .i64 n) (.slice vo es.length vc) 24
  have hB0 := below_alloc (Below.refl _ w) (Obj.cells #[.int .i64 n, .slice vo es.length vc] 24)
  obtain ⟨b1, hb1⟩ : ∃ b, b = w.heap.size := ⟨_, rfl⟩
  rw [← hb1] at t1 ⊢
  generalize w.alloc (Obj.cells #[.int .i64 n, .slice vo es.length vc] 24) = W0 at t1 hB0 ⊢
  have HT1 : Hid (Two W0 b1 (.int .i64 n) (.slice vo es.length vc) 24) := t1
  obtain ⟨q0, q1⟩ := cell_two t1
  have h6 := own_any n vo vc es W0 (HE.out.below hB0)
  have H6 : Hid (Calls Tryz.prog 5 #[.agg #[.int .i64 n, .slice vo es.length vc]] W0 fun e w' => Below W0.heap.size W0 w' ∧ ∃ ao c, e = .returned (.agg #[.int .i64 n, .slice ao es.length c]) ∧ EdgesAt w' (.slice ao es.length c) es ∧ es.length ≤ c) := h6
  clear hb1 h6 t1
  go_upto_region 2 with (first | (go_at_call 5; refine Calls.mono H6.out ?_; rintro e W1 ⟨hb1, ao, ac, rfl, hEo, _⟩) | go_in)
  have hb1a := below_alloc hb1 (Obj.cells #[.int .i64 n, .slice ao es.length ac] 24)
  have t3 := two_new W1 (.int .i64 n) (.slice ao es.length ac) 24
  have HEO : Hid (EdgesAt (W1.alloc (Obj.cells #[.int .i64 n, .slice ao es.length ac] 24)) (.slice ao es.length ac) es) := hEo.below (below_alloc (Below.refl _ W1) _)
  obtain ⟨b3, hb3⟩ : ∃ b, b = W1.heap.size := ⟨_, rfl⟩
  rw [← hb3] at t3 ⊢
  generalize W1.alloc (Obj.cells #[.int .i64 n, .slice ao es.length ac] 24) = W2 at t3 hb1a HEO ⊢
  have t12 := two_next HT1.out hb1a
  have HT12 : Hid (Two W2 b1 (.int .i64 n) (.slice vo es.length vc) 24) := t12
  have HT3 : Hid (Two W2 b3 (.int .i64 n) (.slice ao es.length ac) 24) := t3
  have hB2 := below_next hB0 hb1a
  clear q0 q1 H6 hb1 hEo hb3 hb1a t3 HT1 hB0
  obtain ⟨q0, q1⟩ := cell_two t12
  clear t12
  have h7 := smallFault_call (n := n) (most := 12) (HE.out.below hB2) hcap
  rw [show ((12 : Nat) : Int) = 12 from rfl, HS.out] at h7
  have H7 : Hid (Calls Tryz.prog 6 #[.agg #[.int .i64 n, .slice vo es.length vc], .int .i64 12] W2 fun e w' => e = .returned (.agg #[.int .i64 c, .int .i64 d]) ∧ Below W2.heap.size W2 w') := h7
  clear h7
  go_upto_region 3 with (first | (go_at_call 6; refine Calls.mono H7.out ?_; rintro e W3 ⟨rfl, hb3⟩) | go_in)
  have hb3a := below_alloc hb3 (Obj.cells #[.int .i64 c, .int .i64 d] 27)
  have t4 := two_new W3 (.int .i64 c) (.int .i64 d) 27
  have HEO4 : Hid (EdgesAt (W3.alloc (Obj.cells #[.int .i64 c, .int .i64 d] 27)) (.slice ao es.length ac) es) := HEO.out.below hb3a
  obtain ⟨b4, hb4⟩ : ∃ b, b = W3.heap.size := ⟨_, rfl⟩
  rw [← hb4] at t4 ⊢
  generalize W3.alloc (Obj.cells #[.int .i64 c, .int .i64 d] 27) = W4 at t4 hb3a HEO4 ⊢
  have HT4 : Hid (Two W4 b4 (.int .i64 c) (.int .i64 d) 27) := t4
  have t14 := two_next HT12.out hb3a
  have t34 := two_next HT3.out hb3a
  have HT14 : Hid (Two W4 b1 (.int .i64 n) (.slice vo es.length vc) 24) := t14
  have HT34 : Hid (Two W4 b3 (.int .i64 n) (.slice ao es.length ac) 24) := t34
  have hB4 := below_next hB2 hb3a
  clear q0 q1 H7 hb3 hb4 hb3a t4 t14 HT12 HT3 hB2 HEO
  obtain ⟨q0, q1⟩ := cell_two t34
  clear t34
  go_upto_region 4 with (first | (go_at_call 7; refine Calls.mono (intervals_bad HEO4.out HS.out HC.out) ?_; rintro e W5 ⟨rfl, hb5⟩) | go_in)
  have t7 := two_new W5 (.int .i64 c) (.int .i64 d) 27
  have hb5a := below_alloc hb5 (Obj.cells #[.int .i64 c, .int .i64 d] 27)
  have hb55 := below_alloc (Below.refl _ W5) (Obj.cells #[.int .i64 c, .int .i64 d] 27)
  obtain ⟨b7, hb7⟩ : ∃ b, b = W5.heap.size := ⟨_, rfl⟩
  rw [← hb7] at t7 ⊢
  generalize W5.alloc (Obj.cells #[.int .i64 c, .int .i64 d] 27) = W6 at t7 hb5a hb55 ⊢
  have HB56 : Hid (Below W5.heap.size W5 W6) := hb55
  have HT7 : Hid (Two W6 b7 (.int .i64 c) (.int .i64 d) 27) := t7
  have HT46 : Hid (Two W6 b4 (.int .i64 c) (.int .i64 d) 27) := two_next HT4.out hb5a
  have HT16 : Hid (Two W6 b1 (.int .i64 n) (.slice vo es.length vc) 24) := two_next HT14.out hb5a
  have HT36 : Hid (Two W6 b3 (.int .i64 n) (.slice ao es.length ac) 24) := two_next HT34.out hb5a
  have HEO6 : Hid (EdgesAt W6 (.slice ao es.length ac) es) := HEO4.out.below hb5a
  have hB6 := below_next hB4 hb5a
  have H9 : Hid (Calls Tryz.prog 8 #[] W6 fun e w' => e = .returned (.bool true) ∧ Below W6.heap.size W6 w') := begun_call W6
  have H10 : Hid (∀ W, Below W6.heap.size W6 W → Calls Tryz.prog 9 #[.agg #[.int .i64 n, .slice ao es.length ac], .agg #[.int .i64 n, .slice vo es.length vc]] W fun e w' => e = .returned (.bool true) ∧ Below W.heap.size W w') := fun W hW => kept_true n _ _ es W (HEO6.out.below hW) (HE.out.below (below_next hB6 hW))
  have hneq := neq27 c d
  clear q0 q1 hb5 hb5a hb55 hb7 t7 HT4 HT14 HT34 HEO4 hB4
  go_upto_region 6 with (first
    | (go_at_call 8; refine Calls.mono H9.out ?_; rintro e W7 ⟨rfl, hb7⟩; have t77 := two_next HT7.out hb7; have t47 := two_next HT46.out hb7; have t17 := two_next HT16.out hb7; have t37 := two_next HT36.out hb7; obtain ⟨q0, q1⟩ := cell_two t77; obtain ⟨q2, q3⟩ := cell_two t47; obtain ⟨q4, q5⟩ := cell_two t17; obtain ⟨q6, q7⟩ := cell_two t37)
    | (go_at_call 9; refine Calls.mono (H10.out _ hb7) ?_; rintro e W8 ⟨rfl, hb8⟩)
    | go_in)
  have hb68 := below_next hb7 hb8
  have hB8 := below_next hB6 hb68
  have t48 := two_next HT46.out hb68
  have t18 := two_next HT16.out hb68
  have HB68 : Hid (Below W6.heap.size W6 W8) := hb68
  have HT18 : Hid (Two W8 b1 (.int .i64 n) (.slice vo es.length vc) 24) := t18
  clear q0 q1 q2 q3 q4 q5 q6 q7 t77 t47 t17 t37 hb7 hb8 hb68 H9 H10 HT46 HT16 HT36 HEO6 hB6 hneq
  obtain ⟨q2, q3⟩ := cell_two t48
  obtain ⟨q4, q5⟩ := cell_two t18
  clear t48 t18
  have t78 := two_next HT7.out HB68.out
  obtain ⟨q6, q7⟩ := cell_two t78
  clear t78
  go_wp2
  go_ret
  exact ⟨rfl, hB8⟩
end Go.Proofs.YtkkfjfphmlcieaaGreat

namespace Go.Proofs.YtkkfjfphmlcieaaGreat
open Go.RowKit Go.Maps
attribute [local go_sem ↓] Go.wp_at_zero Go.wp_at_succ
theorem IvsAt.law {N : Nat} {es : List Pair} {b : Nat} {w : World} (h : IvsAt N es b w) (hgd : ∀ e ∈ es, (0 ≤ e.1 ∧ e.1 < (N : Int) ∧ 0 ≤ e.2 ∧ e.2 < (N : Int)) ∧ e.1 ≠ e.2) :
    ∃ (lo hi : Nat → Int), (∀ W, Below w.heap.size w W → ∀ v, v < N → W.cell? ⟨b, v * 2, none⟩ = some (.int .i64 (lo v)) ∧ W.cell? ⟨b, v * 2 + 1, none⟩ = some (.int .i64 (hi v))) ∧ (∀ v, v < N → lo v ≤ hi v) ∧ (∀ u v, u < N → v < N → u ≠ v → ((lo u ≤ hi v ∧ lo v ≤ hi u) ↔ hasB es u v = true)) := by
  obtain ⟨L, hR, hd, hnd, O, hO⟩ := h
  have hm := meets (bothB_sym es) (hO.noHole (bothB_sym es) (fun x => bothB_irr hgd x)) (coE_co N es) hd hnd
  refine ⟨fun v => (begN L v : Int), fun v => endZ (begN L) N L v, fun W hW v hv => ?_, hm.1, hm.2⟩
  have hR' := hR.block (hW.block b hR.lt)
  have c0 := hR'.cell (j := v * 2) (by omega)
  rw [ivF0] at c0
  have c1 := hR'.cell (j := v * 2 + 1) (by omega)
  rw [ivF1] at c1
  exact ⟨c0, c1⟩
theorem stars_one {N : Nat} {gao : Option Addr} {gcap : Nat} {p : Int → Int → Bool} {w : World} (hG : GridAt w (.slice gao N gcap) N p) (hN : N ≤ 100) : ∃ sb : Bool, (sb = true ↔ AnyStar N p) ∧ ∀ W, Below w.heap.size w W → Calls Tryz.prog 12 #[.slice gao N gcap] W fun e w' => e = .returned (.bool sb) ∧ Below W.heap.size W w' := by
  obtain ⟨sb, hsb⟩ : ∃ sb : Bool, (sb = true ↔ AnyStar N p) := by
    by_cases h : AnyStar N p
    · exact ⟨true, by simp [h]⟩
    · exact ⟨false, by simp [h]⟩
  refine ⟨sb, hsb, fun W hW => ?_⟩
  obtain ⟨f, hf, C⟩ := FarE.one (stars_call (hG.below hW) hN)
  have : sb = f := by rw [Bool.eq_iff_iff, hsb, hf]
  rw [this]; exact C
set_option maxRecDepth 8000 in
set_option maxHeartbeats 4000000 in
theorem intLaw_good {w : World} {N : Nat} {vo : Option Addr} {vc : Nat} {es : List Pair} (hE : EdgesAt w (.slice vo es.length vc) es) (hcap : es.length ≤ vc) (hs : (chk N es).1 = 0) (hN : N ≤ 12) :
    Calls Tryz.prog 3 #[.agg #[.int .i64 (N : Int), .slice vo es.length vc]] w fun e w' => e = .returned (.bool true) ∧ Below w.heap.size w w' := by
  have HE : Hid (EdgesAt w (.slice vo es.length vc) es) := hE
  obtain ⟨hs0, _, hN', hle, hgd⟩ := chk_good hs
  have HS : Hid (smallF (N : Int) es 12 = (0, 0)) := by
    show smallF (N : Int) es 12 = (0, 0)
    unfold smallF
    rw [if_neg (fun h => h hs), if_neg (by omega)]
  have HGD : Hid (∀ e ∈ es, (0 ≤ e.1 ∧ e.1 < (N : Int) ∧ 0 ≤ e.2 ∧ e.2 < (N : Int)) ∧ e.1 ≠ e.2) := hgd
  have HLE : Hid (es.length ≤ 1000) := hle
  clear hs0 hN' hle hgd
  have HCHK : Hid ((chk (N : Int) es).1 = 0) := hs
  clear hE hs
  go_enter Tryz.func3, Tryz.ntmps3
  go_upto_region 1 with (fail)
  have t1 := two_new w (.int .i64 (N : Int)) (.slice vo es.length vc) 24
  have hB0 := below_alloc (Below.refl _ w) (Obj.cells #[.int .i64 (N : Int), .slice vo es.length vc] 24)
  obtain ⟨b1, hb1⟩ : ∃ b, b = w.heap.size := ⟨_, rfl⟩
  rw [← hb1] at t1 ⊢
  generalize w.alloc (Obj.cells #[.int .i64 (N : Int), .slice vo es.length vc] 24) = W0 at t1 hB0 ⊢
  have HT1 : Hid (Two W0 b1 (.int .i64 (N : Int)) (.slice vo es.length vc) 24) := t1
  obtain ⟨q0, q1⟩ := cell_two t1
  have h6 := own_any (N : Int) vo vc es W0 (HE.out.below hB0)
  have H6 : Hid (Calls Tryz.prog 5 #[.agg #[.int .i64 (N : Int), .slice vo es.length vc]] W0 fun e w' => Below W0.heap.size W0 w' ∧ ∃ ao c, e = .returned (.agg #[.int .i64 (N : Int), .slice ao es.length c]) ∧ EdgesAt w' (.slice ao es.length c) es ∧ es.length ≤ c) := h6
  clear hb1 h6 t1
  go_upto_region 2 with (first | (go_at_call 5; refine Calls.mono H6.out ?_; rintro e W1 ⟨hb1, ao, ac, rfl, hEo, _⟩) | go_in)
  have hb1a := below_alloc hb1 (Obj.cells #[.int .i64 (N : Int), .slice ao es.length ac] 24)
  have t3 := two_new W1 (.int .i64 (N : Int)) (.slice ao es.length ac) 24
  have HEO : Hid (EdgesAt (W1.alloc (Obj.cells #[.int .i64 (N : Int), .slice ao es.length ac] 24)) (.slice ao es.length ac) es) := hEo.below (below_alloc (Below.refl _ W1) _)
  obtain ⟨b3, hb3⟩ : ∃ b, b = W1.heap.size := ⟨_, rfl⟩
  rw [← hb3] at t3 ⊢
  generalize W1.alloc (Obj.cells #[.int .i64 (N : Int), .slice ao es.length ac] 24) = W2 at t3 hb1a HEO ⊢
  have t12 := two_next HT1.out hb1a
  have HT12 : Hid (Two W2 b1 (.int .i64 (N : Int)) (.slice vo es.length vc) 24) := t12
  have HT3 : Hid (Two W2 b3 (.int .i64 (N : Int)) (.slice ao es.length ac) 24) := t3
  have hB2 := below_next hB0 hb1a
  clear q0 q1 H6 hb1 hEo hb3 hb1a t3 HT1 hB0
  obtain ⟨q0, q1⟩ := cell_two t12
  clear t12
  have h7 := smallFault_call (n := (N : Int)) (most := 12) (HE.out.below hB2) hcap
  rw [show ((12 : Nat) : Int) = 12 from rfl, HS.out] at h7
  have H7 : Hid (Calls Tryz.prog 6 #[.agg #[.int .i64 (N : Int), .slice vo es.length vc], .int .i64 12] W2 fun e w' => e = .returned (.agg #[.int .i64 0, .int .i64 0]) ∧ Below W2.heap.size W2 w') := h7
  clear h7
  go_upto_region 3 with (first | (go_at_call 6; refine Calls.mono H7.out ?_; rintro e W3 ⟨rfl, hb3⟩) | go_in)
  have hb3a := below_alloc hb3 (Obj.cells #[.int .i64 0, .int .i64 0] 27)
  have t4 := two_new W3 (.int .i64 0) (.int .i64 0) 27
  have HEO4 : Hid (EdgesAt (W3.alloc (Obj.cells #[.int .i64 0, .int .i64 0] 27)) (.slice ao es.length ac) es) := HEO.out.below hb3a
  obtain ⟨b4, hb4⟩ : ∃ b, b = W3.heap.size := ⟨_, rfl⟩
  rw [← hb4] at t4 ⊢
  generalize W3.alloc (Obj.cells #[.int .i64 0, .int .i64 0] 27) = W4 at t4 hb3a HEO4 ⊢
  have HT4 : Hid (Two W4 b4 (.int .i64 0) (.int .i64 0) 27) := t4
  have t14 := two_next HT12.out hb3a
  have t34 := two_next HT3.out hb3a
  have HT14 : Hid (Two W4 b1 (.int .i64 (N : Int)) (.slice vo es.length vc) 24) := t14
  have HT34 : Hid (Two W4 b3 (.int .i64 (N : Int)) (.slice ao es.length ac) 24) := t34
  have hB4 := below_next hB2 hb3a
  clear q0 q1 H7 hb3 hb4 hb3a t4 t14 HT12 HT3 hB2 HEO
  obtain ⟨q0, q1⟩ := cell_two t34
  clear t34
  have H15 : Hid (Calls Tryz.prog 7 #[.agg #[.int .i64 (N : Int), .slice ao es.length ac]] W4 fun e w' => ∃ (f9 : Int) (lo : Option Addr) (ln lc : Nat), e = .returned (.tuple #[.slice lo ln lc, .agg #[.int .i64 f9, .int .i64 0]]) ∧ IntR N es f9 lo ln lc w' ∧ Below W4.heap.size W4 w') := intervals_ok HEO4.out HCHK.out hN
  go_upto_region 4 with (first | (go_at_call 7; refine Calls.mono H15.out ?_; rintro e W5 ⟨f9, lo, ln, lc, rfl, hor, hb5⟩) | go_in)
  have HOR : Hid (IntR N es f9 lo ln lc W5) := hor
  clear hor H15
  have t7 := two_new W5 (.int .i64 f9) (.int .i64 0) 27
  have hb5a := below_alloc hb5 (Obj.cells #[.int .i64 f9, .int .i64 0] 27)
  have hb55 := below_alloc (Below.refl _ W5) (Obj.cells #[.int .i64 f9, .int .i64 0] 27)
  obtain ⟨b7, hb7⟩ : ∃ b, b = W5.heap.size := ⟨_, rfl⟩
  rw [← hb7] at t7 ⊢
  generalize W5.alloc (Obj.cells #[.int .i64 f9, .int .i64 0] 27) = W6 at t7 hb5a hb55 ⊢
  have HB56 : Hid (Below W5.heap.size W5 W6) := hb55
  have HT7 : Hid (Two W6 b7 (.int .i64 f9) (.int .i64 0) 27) := t7
  have HT46 : Hid (Two W6 b4 (.int .i64 0) (.int .i64 0) 27) := two_next HT4.out hb5a
  have HT16 : Hid (Two W6 b1 (.int .i64 (N : Int)) (.slice vo es.length vc) 24) := two_next HT14.out hb5a
  have HT36 : Hid (Two W6 b3 (.int .i64 (N : Int)) (.slice ao es.length ac) 24) := two_next HT34.out hb5a
  have HEO6 : Hid (EdgesAt W6 (.slice ao es.length ac) es) := HEO4.out.below hb5a
  have hB6 := below_next hB4 hb5a
  have H9 : Hid (Calls Tryz.prog 8 #[] W6 fun e w' => e = .returned (.bool true) ∧ Below W6.heap.size W6 w') := begun_call W6
  have H10 : Hid (∀ W, Below W6.heap.size W6 W → Calls Tryz.prog 9 #[.agg #[.int .i64 (N : Int), .slice ao es.length ac], .agg #[.int .i64 (N : Int), .slice vo es.length vc]] W fun e w' => e = .returned (.bool true) ∧ Below W.heap.size W w') := fun W hW => kept_true (N : Int) _ _ es W (HEO6.out.below hW) (HE.out.below (below_next hB6 hW))
  have hneq := neq27 0 0
  clear q0 q1 hb5 hb5a hb55 hb7 t7 HT4 HT14 HT34 HEO4 hB4
  go_upto_region 6 with (first
    | (go_at_call 8; refine Calls.mono H9.out ?_; rintro e W7 ⟨rfl, hb7⟩; have t77 := two_next HT7.out hb7; have t47 := two_next HT46.out hb7; have t17 := two_next HT16.out hb7; have t37 := two_next HT36.out hb7; obtain ⟨q0, q1⟩ := cell_two t77; obtain ⟨q2, q3⟩ := cell_two t47; obtain ⟨q4, q5⟩ := cell_two t17; obtain ⟨q6, q7⟩ := cell_two t37)
    | (go_at_call 9; refine Calls.mono (H10.out _ hb7) ?_; rintro e W8 ⟨rfl, hb8⟩)
    | go_in)
  have hb68 := below_next hb7 hb8
  have hB8 := below_next hB6 hb68
  have t48 := two_next HT46.out hb68
  have t18 := two_next HT16.out hb68
  have HB68 : Hid (Below W6.heap.size W6 W8) := hb68
  have HT18 : Hid (Two W8 b1 (.int .i64 (N : Int)) (.slice vo es.length vc) 24) := t18
  clear q0 q1 q2 q3 q4 q5 q6 q7 t77 t47 t17 t37 hb7 hb8 hb68 H9 H10 HT46 HT16 HT36 HEO6 hB6 hneq
  obtain ⟨q2, q3⟩ := cell_two t48
  obtain ⟨q4, q5⟩ := cell_two t18
  clear t48 t18
  have h11 : Calls Tryz.prog 10 #[.agg #[.int .i64 (N : Int), .slice vo es.length vc]] W8 fun e w' => Below W8.heap.size W8 w' ∧ ∃ ao cap, e = .returned (.slice ao N cap) ∧ GridAt w' (.slice ao N cap) N (hasB es) := gridOf_any N _ es W8 (HE.out.below hB8) (by omega) HLE.out HGD.out
  go_upto_region 9 with (first
    | (go_at_call 10; refine Calls.mono h11 ?_; rintro e W9 ⟨hb9, gao, gcap, rfl, hG⟩)
    | go_in)
  have hBA := below_next hB8 hb9
  have HG : Hid (GridAt W9 (.slice gao N gcap) N (hasB es)) := hG
  have t7A := two_next (two_next HT7.out HB68.out) hb9
  have t1A := two_next HT18.out hb9
  have HT1A : Hid (Two W9 b1 (.int .i64 (N : Int)) (.slice vo es.length vc) 24) := t1A
  have HORA : Hid (IntR N es f9 lo ln lc W9) := HOR.out.below (below_next HB56.out (below_next HB68.out hb9))
  clear q2 q3 q4 q5 hG hb9 HT18 h11 hB8 HB68 HB56 HOR HT7
  obtain ⟨q0, q1⟩ := cell_two t7A
  obtain ⟨n0, n1⟩ := cell_two t1A
  clear t7A t1A
  rcases HORA.out with ⟨rfl, rfl, rfl, rfl, hno⟩ | ⟨rfl, hln, hlc, bR, rfl, hiv⟩
  · have HNO : Hid (NoInt N es) := hno
    have heq := eql27 9 0
    clear hno HORA n0 n1
    obtain ⟨sb, hsb, h12⟩ := stars_one HG.out (by omega)
    have H12 : Hid (∀ W, Below W9.heap.size W9 W → Calls Tryz.prog 12 #[.slice gao N gcap] W fun e w' => e = .returned (.bool sb) ∧ Below W.heap.size W w') := h12
    clear h12
    go_upto_region 10 with (fail)
    have p0 := cell_growD q0
    have p1 := cell_growD q1
    have H11 : Hid (∀ W, Below W9.heap.size W9 W → Calls Tryz.prog 11 #[.int .i64 9, .int .i64 0] W fun e w' => e = .returned (.agg #[.int .i64 9, .int .i64 0]) ∧ Below W.heap.size W w') := fun W _ => refF_any 9 0 W
    cases sb with
    | true =>
      clear hsb
      refine wp_region_below (by kernel_rfl) (by kernel_rfl) ?_
      repeat (quiet_step (first | (go_at_call 11; exact Calls.belowQ H11.out) | (go_at_call 12; exact Calls.belowQ H12.out)))
      refine wpQuiet_nil ?_
      intro _ hw'
      obtain ⟨pq, hw''⟩ := hw'
      subst hw''
      go_wp2
      go_ret
      exact ⟨rfl, below_next hBA (growD_below W9 pq)⟩
    | false =>
      have H13 : Hid (∀ W, Below W9.heap.size W9 W → Calls Tryz.prog 13 #[.slice gao N gcap] W fun e w' => e = .returned (.bool true) ∧ Below W.heap.size W w') := fun W hW => by
        have hna : ¬ AnyStar N (hasB es) := fun h => by have := hsb.2 h; cases this
        have hsy : ∀ x y : Nat, pn (hasB es) x y = pn (hasB es) y x := bothB_sym es
        have hir : ∀ x : Nat, pn (hasB es) x x = false := fun x => bothB_irr HGD.out x
        obtain ⟨h, hh⟩ : ∃ h, IsHole N (bothB es) h := by
          rcases HNO.out with hh | ⟨⟨O, hO⟩, hng⟩
          · exact hh
          · exact absurd (hO.co (bothB_sym es) hir (fun ha => hna (anyStar_of hsy ha)) (coE_co N es)) hng
        obtain ⟨s, hs⟩ := holeS_of (p := hasB es) hsy hir hh
        exact hole_call (HG.out.below hW) hN hs
      clear hsb
      refine wp_region_below (by kernel_rfl) (by kernel_rfl) ?_
      repeat (quiet_step (first | (go_at_call 11; exact Calls.belowQ H11.out) | (go_at_call 12; exact Calls.belowQ H12.out) | (go_at_call 13; exact Calls.belowQ H13.out)))
      refine wpQuiet_nil ?_
      intro _ hw'
      obtain ⟨pq, hw''⟩ := hw'
      subst hw''
      go_wp2
      go_ret
      exact ⟨rfl, below_next hBA (growD_below W9 pq)⟩
  · have hln' := hln.symm
    have hlc' := hlc.symm
    clear hln hlc HORA
    subst hln' hlc'
    obtain ⟨lo, hi, hcells, hle, hmeet⟩ := hiv.law HGD.out
    have HCE : Hid (∀ W, Below W9.heap.size W9 W → ∀ v, v < N → W.cell? ⟨bR, v * 2, none⟩ = some (.int .i64 (lo v)) ∧ W.cell? ⟨bR, v * 2 + 1, none⟩ = some (.int .i64 (hi v))) := hcells
    have HLO : Hid (∀ v, v < N → lo v ≤ hi v) := hle
    have HME : Hid (∀ u v : Nat, u < N → v < N → u ≠ v → ((lo u ≤ hi v ∧ lo v ≤ hi u) ↔ hasB es u v = true)) := hmeet
    clear hcells hle hmeet hiv
    have hB0 := Below.refl W9.heap.size W9
    go_upto_region 14 with (fail)
    clear q0 q1 n0 n1
    go_loopw [8] (fun s8 wz => ∃ v : Nat, v ≤ N ∧ s8 = .int .i64 (v : Int) ∧ Below W9.heap.size W9 wz) (fun s8 _ => N - (numOf s8).toNat)
    case atStart => exact ⟨0, Nat.zero_le _, rfl, hB0⟩
    case round =>
      obtain ⟨v, hv, rfl, hBv⟩ := hrel
      clear hB0
      obtain ⟨n0, n1⟩ := cell_two (two_next HT1A.out hBv)
      by_cases hvN : v < N
      · have a1 : (0 : Int) ≤ (v : Int) := by omega
        have a2 : (v : Int) < (N : Int) := by omega
        go_upto_region 17 with (fail)
        clear n0 n1
        go_loopw [9] (fun s9 wz => ∃ u : Nat, u ≤ N ∧ s9 = .int .i64 (u : Int) ∧ Below W9.heap.size W9 wz) (fun s9 _ => N - (numOf s9).toNat)
        case atStart => exact ⟨0, Nat.zero_le _, rfl, hBv⟩
        case round =>
          obtain ⟨u, hu, rfl, hBu⟩ := hrel
          clear hBv
          obtain ⟨n0, n1⟩ := cell_two (two_next HT1A.out hBu)
          by_cases huN : u < N
          · have b1' : (0 : Int) ≤ (u : Int) := by omega
            have b2 : (u : Int) < (N : Int) := by omega
            obtain ⟨lv, hlve⟩ : ∃ x, x = lo v := ⟨_, rfl⟩
            obtain ⟨hv', hhve⟩ : ∃ x, x = hi v := ⟨_, rfl⟩
            have hlv : lv ≤ hv' := by rw [hlve, hhve]; exact HLO.out v hvN
            have k1 : ¬ hv' < lv := by omega
            have HVC : Hid (∀ W, Below W9.heap.size W9 W → W.cell? ⟨bR, v * 2, none⟩ = some (.int .i64 lv) ∧ W.cell? ⟨bR, v * 2 + 1, none⟩ = some (.int .i64 hv')) := fun W hW => by
              rw [hlve, hhve]; exact HCE.out W hW v hvN
            obtain ⟨v0, v1⟩ := HVC.out _ hBu
            by_cases huv : u = v
            · subst huv
              have e1 : ((u : Int) != (u : Int)) = false := by simp
              clear hlve hhve
              go_upto_region 19 with (fail)
              clear n0 n1
              go_quiet (fail)
              have hBq := below_drewN hBu nq
              obtain ⟨v0', v1'⟩ := HVC.out _ hBq
              clear v0 v1 hBu
              generalize wr.drewN nq = Wq at hBq v0' v1' ⊢
              go_upto_region 20 with (fail)
              go_quiet (fail)
              go_wp2
              go_roundw
              case rel => exact ⟨u + 1, by omega, by go_num, below_drewN hBq _⟩
              case measure => simp [numOf]; omega
            · have e1 : ((u : Int) != (v : Int)) = true := by simp; omega
              obtain ⟨lu, hlue⟩ : ∃ x, x = lo u := ⟨_, rfl⟩
              obtain ⟨hu', hhue⟩ : ∃ x, x = hi u := ⟨_, rfl⟩
              have hme := HME.out u v huN hvN huv
              have HUC : Hid (∀ W, Below W9.heap.size W9 W → W.cell? ⟨bR, u * 2, none⟩ = some (.int .i64 lu) ∧ W.cell? ⟨bR, u * 2 + 1, none⟩ = some (.int .i64 hu')) := fun W hW => by
                rw [hlue, hhue]; exact HCE.out W hW u huN
              rw [← hlve, ← hhve, ← hlue, ← hhue] at hme
              have HME' : Hid ((lu ≤ hv' ∧ lv ≤ hu') ↔ hasB es u v = true) := hme
              clear hlve hhve hlue hhue hme
              obtain ⟨u0, u1⟩ := HUC.out _ hBu
              by_cases c1 : lu ≤ hv'
              · by_cases c2 : lv ≤ hu'
                · have HB : Hid (hasB es u v = true) := HME'.out.1 ⟨c1, c2⟩
                  go_upto_region 19 with (fail)
                  clear n0 n1
                  go_quiet (fail)
                  have hBq := below_drewN hBu nq
                  obtain ⟨v0', v1'⟩ := HVC.out _ hBq
                  obtain ⟨ao', cap', e0, hgrid⟩ := HG.out.below hBq
                  cases e0
                  obtain ⟨g, bg, rfl, g0, g1⟩ := hgrid u huN
                  have gv := g1 v hvN
                  rw [HB.out] at gv
                  clear hgrid g1 v0 v1 u0 u1 c1 c2 hBu
                  generalize wr.drewN nq = Wq at hBq v0' v1' g0 gv ⊢
                  go_upto_region 20 with (fail)
                  go_quiet (fail)
                  go_wp2
                  go_roundw
                  case rel => exact ⟨u + 1, by omega, by go_num, below_drewN hBq _⟩
                  case measure => simp [numOf]; omega
                · have HB : Hid (hasB es u v = false) := by
                    show hasB es u v = false
                    rw [Bool.eq_false_iff]; exact fun h => c2 (HME'.out.2 h).2
                  go_upto_region 19 with (fail)
                  clear n0 n1
                  go_quiet (fail)
                  have hBq := below_drewN hBu nq
                  obtain ⟨v0', v1'⟩ := HVC.out _ hBq
                  obtain ⟨ao', cap', e0, hgrid⟩ := HG.out.below hBq
                  cases e0
                  obtain ⟨g, bg, rfl, g0, g1⟩ := hgrid u huN
                  have gv := g1 v hvN
                  rw [HB.out] at gv
                  clear hgrid g1 v0 v1 u0 u1 c1 c2 hBu
                  generalize wr.drewN nq = Wq at hBq v0' v1' g0 gv ⊢
                  go_upto_region 20 with (fail)
                  go_quiet (fail)
                  go_wp2
                  go_roundw
                  case rel => exact ⟨u + 1, by omega, by go_num, below_drewN hBq _⟩
                  case measure => simp [numOf]; omega
              · have HB : Hid (hasB es u v = false) := by
                  show hasB es u v = false
                  rw [Bool.eq_false_iff]; exact fun h => c1 (HME'.out.2 h).1
                go_upto_region 19 with (fail)
                clear n0 n1
                go_quiet (fail)
                have hBq := below_drewN hBu nq
                obtain ⟨v0', v1'⟩ := HVC.out _ hBq
                obtain ⟨ao', cap', e0, hgrid⟩ := HG.out.below hBq
                cases e0
                obtain ⟨g, bg, rfl, g0, g1⟩ := hgrid u huN
                have gv := g1 v hvN
                rw [HB.out] at gv
                clear hgrid g1 v0 v1 u0 u1 c1 hBu
                generalize wr.drewN nq = Wq at hBq v0' v1' g0 gv ⊢
                go_upto_region 20 with (fail)
                go_quiet (fail)
                go_wp2
                go_roundw
                case rel => exact ⟨u + 1, by omega, by go_num, below_drewN hBq _⟩
                case measure => simp [numOf]; omega
          · have b2 : ¬ (u : Int) < (N : Int) := by omega
            go_wp2
            go_roundw
            case rel => exact ⟨v + 1, by omega, by go_num, hBu⟩
            case measure => simp [numOf]; omega
      · have a2 : ¬ (v : Int) < (N : Int) := by omega
        go_wp2
        go_ret
        exact ⟨rfl, below_next hBA hBv⟩
end Go.Proofs.YtkkfjfphmlcieaaGreat

namespace Go.Proofs.YtkkfjfphmlcieaaGreat
open Go.ChangeShapes Go.WideShapes Go.ChangeAt Go.RowKit Go.Joins Go.Deep

theorem intLaw_any {w : World} {n : Int} {vo : Option Addr} {vc : Nat} {es : List Pair} (hE : EdgesAt w (.slice vo es.length vc) es) (hcap : es.length ≤ vc) :
    Calls Tryz.prog 3 #[.agg #[.int .i64 n, .slice vo es.length vc]] w fun e w' => e = .returned (.bool true) ∧ Below w.heap.size w w' := by
  by_cases hk : (smallF n es 12).1 = 0
  · have hck : (chk n es).1 = 0 := by
      by_cases h : (chk n es).1 = 0
      · exact h
      · unfold smallF at hk
        rw [if_pos h] at hk
        exact hk
    have hn : n ≤ 12 := by
      by_cases h : 12 < n
      · unfold smallF at hk
        rw [if_neg (fun h => h hck), if_pos h] at hk
        exact absurd hk (by decide)
      · omega
    obtain ⟨_, h0, _⟩ := chk_good hck
    obtain ⟨N, rfl⟩ := Int.eq_ofNat_of_zero_le h0
    exact intLaw_good hE hcap hck (by omega)
  · exact intLaw_bad hE hcap (c := (smallF n es 12).1) (d := (smallF n es 12).2) rfl hk
set_option maxRecDepth 100000 in
theorem ints_lifted (os : Os) (started : os.Started) (H : Type) (enc : TypeId × Value → H) :
    ReturnsInHanded {} Tryz.checked os 3 .any (Rows.chordsIntervalsSpec.pre6 enc Tryz.prog Tryz.f3 Rows.chordsIntervalsRow.domain false) (Rows.chordsIntervalsSpec.post enc Tryz.prog Tryz.f3 false true false false) := by
  refine returnsInHanded_of_change_sized (C := Tryz.checked) Tryz.own started (by kernel_rfl) Tryz.func3
    (ChangeSpec.witness6 (enc := enc) (C := Tryz.checked) false ⟨#[], #[.agg #[.int .i64 0, .slice none 0 0]], []⟩ 8 (by kernel_rfl) (by kernel_rfl) (by kernel_rfl) (by kernel_rfl)) ?_
  intro W base args ds gs before hval0 hW hcnd hsz0 _
  have hval : ∀ (j : Nat) t v, Tryz.f3.params[j]? = some t → args[j]? = some v → Value.okWide Tryz.prog W .any base t v := hval0
  have hsz : (DataW.weightsEach Tryz.prog (Tryz.f3.params.toList ++ Rows.chordsIntervalsSpec.plain.varTypes Tryz.prog) (ds ++ gs)).all (· ≤ reachBytes) = true := hsz0
  have hW' := hW
  obtain ⟨p, q, hA0, hV, rfl, hfz, hnd⟩ := hW
  have hA : DataW.TrodAll enc Tryz.prog W 0 (fun _ => true) true Tryz.f3.params.toList args.toList ds p := hA0
  rw [Tryz.params3] at hA hval hsz
  obtain ⟨v0, d0, rfl, rfl, h0⟩ := trodAll_one hA
  obtain ⟨rfl, rfl⟩ := trodVars_none hV
  have lt0 : ∀ x ∈ p, x.block < W.heap.size := by obtain ⟨m, hm⟩ := h0; exact DataW.trod_lt m _ _ _ hm
  have hwt : ∀ k ∈ d0.weights Tryz.prog 24, k ≤ reachBytes := fun k hk => by
    have := List.all_eq_true.1 hsz k (DataW.weights_mem_each (j := 0) (t := 24) rfl rfl k hk)
    simpa using this
  obtain ⟨n, ao, cap, es, rfl, hn, hcap, hE⟩ := open_graph (hval 0 24 v0 rfl rfl) h0 hwt
  clear hA0 hval0
  refine (intLaw_any hE hcap).mono fun e W' ⟨he, bel⟩ => ?_
  subst he
  exact ⟨_, rfl, _, _, _, [], _, [], hW', trodAll_mk1 (shut_bool Tryz.underlying4 _), trodAll_mk1 (Below.trod Tryz.laidOut (by kernel_rfl) (of_decide_eq_true (by kernel_rfl)) h0 bel lt0), rfl, bel.frame _, fun h => by cases h⟩

/-- Whatever graph it is given, ChordsIntervals answers true and leaves it as it was. -/
theorem chordsIntervals_holds : Rows.ChordsIntervalsSaid :=
  OpenClaim.holds_of_wide 3 Tryz.f3 rfl rfl rfl rfl rfl rfl rfl ⟨rfl, rfl, rfl, rfl, rfl⟩ rfl rfl rfl rfl rfl (by kernel_rfl) Tryz.func3 (by kernel_rfl)
    (of_decide_eq_true (by kernel_rfl)) (by unfold Func.isWrapper; first | (rw [if_pos (by decide +kernel)]; kernel_rfl) | (rw [if_neg (by decide +kernel)]; exact ⟨rfl, rfl⟩))
    (fun os started H enc _ => ints_lifted os started H enc)
end Go.Proofs.YtkkfjfphmlcieaaGreat
