/- ColourBrooks' walk, a colouring. -/
import Derived.Test.YtdnmoifbkojnlaaGreatBrkX
import Derived.Test.YtdnmoifbkojnlaaGreatTxs
import Derived.Test.YtdnmoifbkojnlaaGreatBrkL0
namespace Go.Proofs.YtdnmoifbkojnlaaGreat
open Go.RowKit Go.Maps
attribute [local go_sem ↓] Go.wp_at_zero Go.wp_at_succ
set_option maxRecDepth 8000 in
set_option maxHeartbeats 4000000 in
theorem brkLaw_good {w : World} {N : Nat} {vo : Option Addr} {vc : Nat} {es : List Pair} (hE : EdgesAt w (.slice vo es.length vc) es) (hcap : es.length ≤ vc) (hs : (chk N es).1 = 0) {R : Nat → Nat → Bool} (hR : ∀ v x, R v x = true ↔ Star (St N (eB es) allB) v x) (hK : ¬ Kind N es R) :
    Calls Tryz.prog 3 #[.agg #[.int .i64 (N : Int), .slice vo es.length vc]] w fun e w' => e = .returned (.bool true) ∧ Below w.heap.size w w' := by
  have HE : Hid (EdgesAt w (.slice vo es.length vc) es) := hE
  obtain ⟨hs0, _, hN', hle, hgd⟩ := chk_good hs
  have hN : N ≤ 100 := by omega
  have HS : Hid (chk (N : Int) es = (0, 0)) := hs0
  have HR : Hid (∀ v x, R v x = true ↔ Star (St N (eB es) allB) v x) := hR
  have HK : Hid (¬ Kind N es R) := hK
  obtain ⟨M, hM⟩ : ∃ M, M = dgM (eB es) N N := ⟨_, rfl⟩
  have HM : Hid (M = dgM (eB es) N N) := hM
  obtain ⟨pl, hpl⟩ : ∃ pl, pl = partsN N allB R := ⟨_, rfl⟩
  have HP : Hid (pl = partsN N allB R) := hpl
  have hpl9 : pl ≤ N := by rw [hpl]; exact partsN_le _ _ _
  have HGD : Hid (Good N es) := hgd
  have hle' : es.length ≤ 1000 := hle
  clear hM hpl hs0 hN' hle hgd hR hK
  have HCHK : Hid ((chk (N : Int) es).1 = 0) := hs
  clear hE hs
  go_enter Tryz.func3, Tryz.ntmps3
  go_upto_region 1 with (fail)
  have t1 := two_new w (.int .i64 (N : Int)) (.slice vo es.length vc) 24
  have hB0 := below_alloc (Below.refl _ w) (Obj.cells #[.int .i64 (N : Int), .slice vo es.length vc] 24)
  obtain ⟨b1, hb1⟩ : ∃ b, b = w.heap.size := ⟨_, rfl⟩
  rw [← hb1] at t1 ⊢
  generalize w.alloc (Obj.cells #[.int .i64 (N : Int), .slice vo es.length vc] 24) = W0 at t1 hB0 ⊢
  have HT1 : Hid (Two W0 b1 (.int .i64 (N : Int)) (.slice vo es.length vc) 24) := t1
  obtain ⟨q0, q1⟩ := cell_two t1
  have h6 := own_any (N : Int) vo vc es W0 (HE.out.below hB0)
  have H6 : Hid (Calls Tryz.prog 4 #[.agg #[.int .i64 (N : Int), .slice vo es.length vc]] W0 fun e w' => Below W0.heap.size W0 w' ∧ ∃ ao c, e = .returned (.agg #[.int .i64 (N : Int), .slice ao es.length c]) ∧ EdgesAt w' (.slice ao es.length c) es ∧ es.length ≤ c) := h6
  clear hb1 h6 t1
  go_upto_region 2 with (first | (go_at_call 4; refine Calls.mono H6.out ?_; rintro e W1 ⟨hb1, ao, ac, rfl, hEo, _⟩) | go_in)
  have hb1a := below_alloc hb1 (Obj.cells #[.int .i64 (N : Int), .slice ao es.length ac] 24)
  have t3 := two_new W1 (.int .i64 (N : Int)) (.slice ao es.length ac) 24
  have HEO : Hid (EdgesAt (W1.alloc (Obj.cells #[.int .i64 (N : Int), .slice ao es.length ac] 24)) (.slice ao es.length ac) es) := hEo.below (below_alloc (Below.refl _ W1) _)
  obtain ⟨b3, hb3⟩ : ∃ b, b = W1.heap.size := ⟨_, rfl⟩
  rw [← hb3] at t3 ⊢
  generalize W1.alloc (Obj.cells #[.int .i64 (N : Int), .slice ao es.length ac] 24) = W2 at t3 hb1a HEO ⊢
  have t12 := two_next HT1.out hb1a
  have HT12 : Hid (Two W2 b1 (.int .i64 (N : Int)) (.slice vo es.length vc) 24) := t12
  have HT3 : Hid (Two W2 b3 (.int .i64 (N : Int)) (.slice ao es.length ac) 24) := t3
  have hB2 := below_next hB0 hb1a
  clear q0 q1 H6 hb1 hEo hb3 hb1a t3 HT1 hB0
  obtain ⟨q0, q1⟩ := cell_two t12
  clear t12
  have h7 := refCheck_as (HE.out.below hB2) hcap HS.out
  have H7 : Hid (Calls Tryz.prog 5 #[.agg #[.int .i64 (N : Int), .slice vo es.length vc]] W2 fun e w' => e = .returned (.agg #[.int .i64 0, .int .i64 0]) ∧ Below W2.heap.size W2 w') := h7
  clear h7
  go_upto_region 3 with (first | (go_at_call 5; refine Calls.mono H7.out ?_; rintro e W3 ⟨rfl, hb3⟩) | go_in)
  have hb3a := below_alloc hb3 (Obj.cells #[.int .i64 0, .int .i64 0] 27)
  have t4 := two_new W3 (.int .i64 0) (.int .i64 0) 27
  have HEO4 : Hid (EdgesAt (W3.alloc (Obj.cells #[.int .i64 0, .int .i64 0] 27)) (.slice ao es.length ac) es) := HEO.out.below hb3a
  obtain ⟨b4, hb4⟩ : ∃ b, b = W3.heap.size := ⟨_, rfl⟩
  have HB4 : Hid (w.heap.size ≤ b4) := by
    show w.heap.size ≤ b4
    have := (below_next hB2 hb3).size
    omega
  rw [← hb4] at t4 ⊢
  generalize W3.alloc (Obj.cells #[.int .i64 0, .int .i64 0] 27) = W4 at t4 hb3a HEO4 ⊢
  have HT4 : Hid (Two W4 b4 (.int .i64 0) (.int .i64 0) 27) := t4
  have t14 := two_next HT12.out hb3a
  have t34 := two_next HT3.out hb3a
  have HT14 : Hid (Two W4 b1 (.int .i64 (N : Int)) (.slice vo es.length vc) 24) := t14
  have HT34 : Hid (Two W4 b3 (.int .i64 (N : Int)) (.slice ao es.length ac) 24) := t34
  have hB4 := below_next hB2 hb3a
  clear q0 q1 H7 hb3 hb4 hb3a t4 t14 HT12 HT3 hB2 HEO
  obtain ⟨q0, q1⟩ := cell_two t34
  clear t34
  have H19 : Hid (Calls Tryz.prog 6 #[.agg #[.int .i64 (N : Int), .slice ao es.length ac]] W4 fun e w' => ∃ (ro : Option Addr) (rc : Nat) (L : List Nat), e = .returned (.tuple #[.slice ro N rc, .agg #[.int .i64 0, .int .i64 0]]) ∧ NumF w' ro N (fun i => (L.getD i 0 : Int)) ∧ L.length = N ∧ Prop' M (fun v z => hasB es (v : Int) (z : Int)) L ∧ Below W4.heap.size W4 w') := by
    refine (brooks_call HEO4.out HCHK.out HR.out).mono ?_
    rintro e w' ⟨⟨h, _⟩ | ⟨_, ro, rc, L, h1, h2, h3, h4⟩, hb⟩
    · exact absurd h HK.out
    · exact ⟨ro, rc, L, h1, h2, h3, by rw [HM.out]; exact h4, hb⟩
  go_upto_region 4 with (first | (go_at_call 6; refine Calls.mono H19.out ?_; rintro e W5 ⟨ro, rc, L, rfl, hnum, hLl, hprop, hb5⟩) | go_in)
  have HLL : Hid (L.length = N) := hLl
  have HPR : Hid (Prop' M (fun v z => hasB es (v : Int) (z : Int)) L) := hprop
  have HNUM5 : Hid (NumF W5 ro N (fun i => (L.getD i 0 : Int))) := hnum
  clear hnum hLl hprop
  have t7 := two_new W5 (.int .i64 0) (.int .i64 0) 27
  have hb5a := below_alloc hb5 (Obj.cells #[.int .i64 0, .int .i64 0] 27)
  have hb55 := below_alloc (Below.refl _ W5) (Obj.cells #[.int .i64 0, .int .i64 0] 27)
  obtain ⟨b7, hb7⟩ : ∃ b, b = W5.heap.size := ⟨_, rfl⟩
  rw [← hb7] at t7 ⊢
  generalize W5.alloc (Obj.cells #[.int .i64 0, .int .i64 0] 27) = W6 at t7 hb5a hb55 ⊢
  have hb47 : b4 ≠ b7 := by
    have h1 := lt_of_block HT4.out
    have h2 := hb5.size
    omega
  have HB47 : Hid (b4 ≠ b7) := hb47
  have HB4L : Hid (w.heap.size ≤ b4) := HB4.out
  clear H19
  have HB56 : Hid (Below W5.heap.size W5 W6) := hb55
  have HT7 : Hid (Two W6 b7 (.int .i64 0) (.int .i64 0) 27) := t7
  have HT46 : Hid (Two W6 b4 (.int .i64 0) (.int .i64 0) 27) := two_next HT4.out hb5a
  have HT16 : Hid (Two W6 b1 (.int .i64 (N : Int)) (.slice vo es.length vc) 24) := two_next HT14.out hb5a
  have HT36 : Hid (Two W6 b3 (.int .i64 (N : Int)) (.slice ao es.length ac) 24) := two_next HT34.out hb5a
  have HEO6 : Hid (EdgesAt W6 (.slice ao es.length ac) es) := HEO4.out.below hb5a
  have hB6 := below_next hB4 hb5a
  have H9 : Hid (Calls Tryz.prog 7 #[] W6 fun e w' => e = .returned (.bool true) ∧ Below W6.heap.size W6 w') := begun_call W6
  have H10 : Hid (∀ W, Below W6.heap.size W6 W → Calls Tryz.prog 8 #[.agg #[.int .i64 (N : Int), .slice ao es.length ac], .agg #[.int .i64 (N : Int), .slice vo es.length vc]] W fun e w' => e = .returned (.bool true) ∧ Below W.heap.size W w') := fun W hW => kept_true (N : Int) _ _ es W (HEO6.out.below hW) (HE.out.below (below_next hB6 hW))
  clear q0 q1 hb5 hb5a hb7 hb55 hb47 t7 HT4 HT14 HT34 HEO4 hB4
  go_upto_region 6 with (first
    | (go_at_call 7; refine Calls.mono H9.out ?_; rintro e W7 ⟨rfl, hb7⟩; have t77 := two_next HT7.out hb7; have t47 := two_next HT46.out hb7; have t17 := two_next HT16.out hb7; have t37 := two_next HT36.out hb7; obtain ⟨q0, q1⟩ := cell_two t77; obtain ⟨q2, q3⟩ := cell_two t47; obtain ⟨q4, q5⟩ := cell_two t17; obtain ⟨q6, q7⟩ := cell_two t37)
    | (go_at_call 8; refine Calls.mono (H10.out _ hb7) ?_; rintro e W8 ⟨rfl, hb8⟩)
    | go_in)
  have hb68 := below_next hb7 hb8
  have hB8 := below_next hB6 hb68
  have t48 := two_next HT46.out hb68
  have t18 := two_next HT16.out hb68
  have HB68 : Hid (Below W6.heap.size W6 W8) := hb68
  have HT18 : Hid (Two W8 b1 (.int .i64 (N : Int)) (.slice vo es.length vc) 24) := t18
  have HT48 : Hid (Two W8 b4 (.int .i64 0) (.int .i64 0) 27) := t48
  have HT78 : Hid (Two W8 b7 (.int .i64 0) (.int .i64 0) 27) := two_next HT7.out hb68
  clear q0 q1 q2 q3 q4 q5 q6 q7 t77 t47 t17 t37 hb7 hb8 hb68 H9 H10 HT7 HT46 HT16 HT36 HEO6 hB6
  obtain ⟨q2, q3⟩ := cell_two t48
  obtain ⟨q4, q5⟩ := cell_two t18
  clear t48 t18
  obtain ⟨_, _, _, hlen, hgood⟩ := chk_good HCHK.out
  have H11 : Hid (∀ W, Below w.heap.size w W → Calls Tryz.prog 9 #[.agg #[.int .i64 (N : Int), .slice vo es.length vc]] W fun e w' => Below W.heap.size W w' ∧ ∃ ao cap, e = .returned (.slice ao N cap) ∧ GridAt w' (.slice ao N cap) N (hasB es)) := fun W hW => gridOf_any N _ es W (HE.out.below hW) (by omega) hlen hgood
  have h11 := H11.out W8 hB8
  clear hgood hlen
  go_upto_region 8 with (first | (go_at_call 9; refine Calls.mono h11 ?_; rintro e W9 ⟨hb9, gao, gcap, rfl, hG⟩) | go_in)
  have HG : Hid (GridAt W9 (.slice gao N gcap) N (hasB es)) := hG
  have hB9 := below_next hB8 hb9
  have HT19 : Hid (Two W9 b1 (.int .i64 (N : Int)) (.slice vo es.length vc) 24) := two_next HT18.out hb9
  have HT49 : Hid (Two W9 b4 (.int .i64 0) (.int .i64 0) 27) := two_next HT48.out hb9
  have HT79 : Hid (Two W9 b7 (.int .i64 0) (.int .i64 0) 27) := two_next HT78.out hb9
  have HB69 : Hid (Below W6.heap.size W6 W9) := below_next HB68.out hb9
  clear q2 q3 q4 q5 hG hb9 HT18 HT48 HT78 h11 hB8 HB68
  obtain ⟨q4, q5⟩ := cell_two HT19.out
  have hmul : (N : Int) * ((N : Int) - 1) ≤ 10000 ∧ -10000 ≤ (N : Int) * ((N : Int) - 1) := by
    rcases Nat.eq_zero_or_pos N with rfl | h
    · simp
    · have h1 : (N : Int) * ((N : Int) - 1) ≤ 100 * 100 := Int.mul_le_mul (by omega) (by omega) (by omega) (by omega)
      have h2 : 0 ≤ (N : Int) * ((N : Int) - 1) := Int.mul_nonneg (by omega) (by omega)
      omega
  have j0 : IntKind.i64.wrap ((N : Int) - 1) = (N : Int) - 1 := by rw [IntKind.wrap_i64]; omega
  have j1 : IntKind.i64.wrap ((N : Int) * ((N : Int) - 1)) = (N : Int) * ((N : Int) - 1) := by rw [IntKind.wrap_i64]; omega
  obtain ⟨fb, hfb⟩ : ∃ fb, fb = decide (2 * es.length = N * (N - 1)) := ⟨_, rfl⟩
  obtain ⟨half, hhalf⟩ : ∃ half : Int, half = (((N * (N - 1)) / 2 : Nat) : Int) := ⟨_, rfl⟩
  have j2 : IntKind.i64.wrap (((N : Int) * ((N : Int) - 1)).tdiv 2) = half := by
    rw [tdiv_half hN, hhalf, IntKind.wrap_i64]
    have : N * (N - 1) / 2 ≤ 10000 := by
      have : N * (N - 1) ≤ 100 * 100 := Nat.mul_le_mul hN (by omega)
      omega
    omega
  have j3 : ((es.length : Int) == half) = fb := by
    rw [hhalf, hfb, Bool.eq_iff_iff, beq_iff_eq, decide_eq_true_iff]
    have := two_dvd N
    omega
  have HFB : Hid (fb = decide (2 * es.length = N * (N - 1))) := hfb
  clear hmul hfb hhalf
  go_upto_region 9 with (fail)
  clear j0 j1 j2 j3
  obtain ⟨rb, hrb⟩ : ∃ rb, rb = decide (N % 2 = 1 ∧ es.length = N ∧ M = 2) := ⟨_, rfl⟩
  have HRB : Hid (rb = decide (N % 2 = 1 ∧ es.length = N ∧ M = 2)) := hrb
  have H21 : Hid (∀ W, GridAt W (.slice gao N gcap) N (hasB es) → Calls Tryz.prog 10 #[.slice gao N gcap] W fun e w' => e = .returned (.int .i64 (M : Int)) ∧ w' = W) := fun W hW => by
    have := degree_call hN hW
    rw [HM.out]; exact this
  have h21 := H21.out W9 HG.out
  obtain ⟨r2, hr2⟩ : ∃ r2 : Int, r2 = ((N % 2 : Nat) : Int) := ⟨_, rfl⟩
  have m0 : ((N : Int).tmod 2) = r2 := by rw [hr2, Int.tmod_eq_emod_of_nonneg (by omega)]; omega
  have m1 : IntKind.i64.wrap ((N : Int).tmod 2) = r2 := by rw [m0, hr2, IntKind.wrap_i64]; omega
  have HR2 : Hid (r2 = ((N % 2 : Nat) : Int)) := hr2
  clear hr2
  clear hrb
  go_cut [9] from 44 to 60 (fun s9 wc => s9 = .bool rb ∧ wc = W9)
  case first =>
    by_cases h1 : N % 2 = 1
    · have k1 : (r2 == 1) = true := by rw [HR2.out, beq_iff_eq]; omega
      by_cases h2 : es.length = N
      · have k2 : ((es.length : Int) == (N : Int)) = true := by rw [beq_iff_eq]; omega
        by_cases h3 : M = 2
        · have k3 : ((M : Int) == 2) = true := by rw [beq_iff_eq]; omega
          have HX : Hid (true = rb) := by show true = rb; rw [HRB.out, decide_eq_true ⟨h1, h2, h3⟩]
          clear h1 h2 h3
          go_wp2_with (first | (go_at_call 10; refine Calls.mono h21 ?_; rintro e Wq ⟨rfl, rfl⟩) | go_in)
          go_meet
          case rel => exact ⟨by rw [← HX.out], rfl⟩
        · have k3 : ((M : Int) == 2) = false := by rw [beq_eq_false_iff_ne]; omega
          have HX : Hid (false = rb) := by show false = rb; rw [HRB.out, decide_eq_false (fun h => h3 h.2.2)]
          clear h1 h2 h3
          go_wp2_with (first | (go_at_call 10; refine Calls.mono h21 ?_; rintro e Wq ⟨rfl, rfl⟩) | go_in)
          go_meet
          case rel => exact ⟨by rw [← HX.out], rfl⟩
      · have k2 : ((es.length : Int) == (N : Int)) = false := by rw [beq_eq_false_iff_ne]; omega
        have HX : Hid (false = rb) := by show false = rb; rw [HRB.out, decide_eq_false (fun h => h2 h.2.1)]
        clear h1 h2
        go_wp2
        go_meet
        case rel => exact ⟨by rw [← HX.out], rfl⟩
    · have k1 : (r2 == 1) = false := by rw [HR2.out, beq_eq_false_iff_ne]; omega
      have HX : Hid (false = rb) := by show false = rb; rw [HRB.out, decide_eq_false (fun h => h1 h.1)]
      clear h1
      go_wp2
      go_meet
      case rel => exact ⟨by rw [← HX.out], rfl⟩
  case rest =>
    obtain ⟨rfl, hwc⟩ := hcut
    clear m0 m1 h21
    have hwc' := hwc.symm
    clear hwc
    subst hwc'
    have H22 : Hid (Calls Tryz.prog 11 #[.slice gao N gcap, .slice none 0 0] W9 fun r w' => r = .returned (.int .i64 (pl : Int)) ∧ Below W9.heap.size W9 w') := by
      have := parts_call N gao gcap (hasB es) W9 HG.out hN (shutAt_nil W9 N) R (by rw [open_none]; exact HR.out)
      rw [open_none, ← HP.out] at this
      exact this
    have hp : pl = 1 := by
      apply Classical.byContradiction
      intro h
      exact HK.out (Or.inl (by rw [← HP.out]; exact h))
    have hf : fb = false := by
      rw [HFB.out]
      exact decide_eq_false (fun h => HK.out (Or.inr (Or.inl h)))
    have hr : rb = false := by
      rw [HRB.out]
      exact decide_eq_false (fun h => HK.out (Or.inr (Or.inr ⟨h.1, h.2.1, by rw [← HM.out]; exact h.2.2⟩)))
    subst hf hr
    have k1 : ((pl : Int) != 1) = false := by simp [hp]
    clear hp
    have hneq := neq27 0 0
    go_upto_region 12 with (first | (go_at_call 11; refine Calls.mono H22.out ?_; rintro e Wc ⟨rfl, hbc⟩) | go_in)
    have HT4c : Hid (Two Wc b4 (.int .i64 0) (.int .i64 0) 27) := two_next HT49.out hbc
    have HT7c : Hid (Two Wc b7 (.int .i64 0) (.int .i64 0) 27) := two_next HT79.out hbc
    have HT1c : Hid (Two Wc b1 (.int .i64 (N : Int)) (.slice vo es.length vc) 24) := two_next HT19.out hbc
    have hBc := below_next hB9 hbc
    have HNUMc : Hid (NumF Wc ro N (fun i => (L.getD i 0 : Int))) := ((HNUM5.out.below HB56.out).below HB69.out).below hbc
    clear q4 q5 hbc H22 k1
    obtain ⟨q0, q1⟩ := cell_two HT4c.out
    obtain ⟨q2, q3⟩ := cell_two HT7c.out
    obtain ⟨q4, q5⟩ := cell_two HT1c.out
    have h11 := H11.out Wc hBc
    go_upto_region 17 with (first | (go_at_call 9; refine Calls.mono h11 ?_; rintro e Wd ⟨hbd, gao2, gcap2, rfl, hG2⟩) | go_in)
    have HG2 : Hid (GridAt Wd (.slice gao2 N gcap2) N (hasB es)) := hG2
    have H10 : Hid (Calls Tryz.prog 10 #[.slice gao2 N gcap2] Wd fun e w' => e = .returned (.int .i64 (M : Int)) ∧ w' = Wd) := by
      have := degree_call hN hG2
      rw [HM.out]; exact this
    have H13 : Hid (Calls Tryz.prog 13 #[.slice gao2 N gcap2, .slice ro N rc, .int .i64 (M : Int)] Wd fun e w' => e = .returned (.bool true) ∧ Below Wd.heap.size Wd w') := colouring_true hN hG2 (HNUMc.out.below hbd) HLL.out HPR.out
    have hBd := below_next hBc hbd
    clear q0 q1 q2 q3 q4 q5 hbd hG2 h11
    go_wp2_with (first | (go_at_call 10; refine Calls.mono H10.out ?_; rintro e We ⟨rfl, rfl⟩) | (go_at_call 13; refine Calls.mono H13.out ?_; rintro e Wf ⟨rfl, hbf⟩) | go_in)
    go_ret
    exact ⟨rfl, below_next hBd hbf⟩
end Go.Proofs.YtdnmoifbkojnlaaGreat
