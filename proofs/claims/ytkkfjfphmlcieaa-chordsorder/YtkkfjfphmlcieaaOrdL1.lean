/- ChordsOrder's walk, an order or a ring without a chord. -/
import Derived.BigQuiet
import Derived.Test.YtkkfjfphmlcieaaBegun
import Derived.Test.YtkkfjfphmlcieaaRefO
import Derived.Test.YtkkfjfphmlcieaaOrdT
namespace Go.Proofs.Ytkkfjfphmlcieaa
open Go.RowKit Go.Maps
attribute [local go_sem ↓] Go.wp_at_zero Go.wp_at_succ
set_option maxRecDepth 8000 in
set_option maxHeartbeats 4000000 in
theorem ordLaw_good {w : World} {N : Nat} {vo : Option Addr} {vc : Nat} {es : List Pair} (hE : EdgesAt w (.slice vo es.length vc) es) (hcap : es.length ≤ vc) (hs : (chk N es).1 = 0) :
    Calls Try.prog 3 #[.agg #[.int .i64 (N : Int), .slice vo es.length vc]] w fun e w' => e = .returned (.bool true) ∧ Below w.heap.size w w' := by
  have HE : Hid (EdgesAt w (.slice vo es.length vc) es) := hE
  obtain ⟨hs0, _, hN', hle, hgd⟩ := chk_good hs
  have hN : N ≤ 100 := by omega
  have HS : Hid (chk (N : Int) es = (0, 0)) := hs0
  clear hs0 hN' hle hgd
  have HCHK : Hid ((chk (N : Int) es).1 = 0) := hs
  clear hE hs
  go_enter Try.func3, Try.ntmps3
  go_upto_region 1 with (fail)
  have t1 := two_new w (.int .i64 (N : Int)) (.slice vo es.length vc) 24
  have hB0 := below_alloc (Below.refl _ w) (Obj.cells #[.int .i64 (N : Int), .slice vo es.length vc] 24)
  obtain ⟨b1, hb1⟩ : ∃ b, b = w.heap.size := ⟨_, rfl⟩
  rw [← hb1] at t1 ⊢
  generalize w.alloc (Obj.cells #[.int .i64 (N : Int), .slice vo es.length vc] 24) = W0 at t1 hB0 ⊢
  have HT1 : Hid (Two W0 b1 (.int .i64 (N : Int)) (.slice vo es.length vc) 24) := t1
  obtain ⟨q0, q1⟩ := cell_two t1
  have h6 := own_any (N : Int) vo vc es W0 (HE.out.below hB0)
  have H6 : Hid (Calls Try.prog 5 #[.agg #[.int .i64 (N : Int), .slice vo es.length vc]] W0 fun e w' => Below W0.heap.size W0 w' ∧ ∃ ao c, e = .returned (.agg #[.int .i64 (N : Int), .slice ao es.length c]) ∧ EdgesAt w' (.slice ao es.length c) es ∧ es.length ≤ c) := h6
  clear hb1 h6 t1
  go_upto_region 2 with (first | (go_at_call 5; refine Calls.mono H6.out ?_; rintro e W1 ⟨hb1, ao, ac, rfl, hEo, _⟩) | go_in)
  have hb1a := below_alloc hb1 (Obj.cells #[.int .i64 (N : Int), .slice ao es.length ac] 24)
  have t3 := two_new W1 (.int .i64 (N : Int)) (.slice ao es.length ac) 24
  have HEO : Hid (EdgesAt (W1.alloc (Obj.cells #[.int .i64 (N : Int), .slice ao es.length ac] 24)) (.slice ao es.length ac) es) := hEo.below (below_alloc (Below.refl _ W1) _)
  obtain ⟨b3, hb3⟩ : ∃ b, b = W1.heap.size := ⟨_, rfl⟩
  rw [← hb3] at t3 ⊢
  generalize W1.alloc (Obj.cells #[.int .i64 (N : Int), .slice ao es.length ac] 24) = W2 at t3 hb1a HEO ⊢
  have t12 := two_next HT1.out hb1a
  have HT12 : Hid (Two W2 b1 (.int .i64 (N : Int)) (.slice vo es.length vc) 24) := t12
  have HT3 : Hid (Two W2 b3 (.int .i64 (N : Int)) (.slice ao es.length ac) 24) := t3
  have hB2 := below_next hB0 hb1a
  clear q0 q1 H6 hb1 hEo hb3 hb1a t3 HT1 hB0
  obtain ⟨q0, q1⟩ := cell_two t12
  clear t12
  have h7 := refCheck_as (HE.out.below hB2) hcap HS.out
  have H7 : Hid (Calls Try.prog 6 #[.agg #[.int .i64 (N : Int), .slice vo es.length vc]] W2 fun e w' => e = .returned (.agg #[.int .i64 0, .int .i64 0]) ∧ Below W2.heap.size W2 w') := h7
  clear h7
  go_upto_region 3 with (first | (go_at_call 6; refine Calls.mono H7.out ?_; rintro e W3 ⟨rfl, hb3⟩) | go_in)
  have hb3a := below_alloc hb3 (Obj.cells #[.int .i64 0, .int .i64 0] 27)
  have t4 := two_new W3 (.int .i64 0) (.int .i64 0) 27
  have HEO4 : Hid (EdgesAt (W3.alloc (Obj.cells #[.int .i64 0, .int .i64 0] 27)) (.slice ao es.length ac) es) := HEO.out.below hb3a
  obtain ⟨b4, hb4⟩ : ∃ b, b = W3.heap.size := ⟨_, rfl⟩
  rw [← hb4] at t4 ⊢
  generalize W3.alloc (Obj.cells #[.int .i64 0, .int .i64 0] 27) = W4 at t4 hb3a HEO4 ⊢
  have HT4 : Hid (Two W4 b4 (.int .i64 0) (.int .i64 0) 27) := t4
  have t14 := two_next HT12.out hb3a
  have t34 := two_next HT3.out hb3a
  have HT14 : Hid (Two W4 b1 (.int .i64 (N : Int)) (.slice vo es.length vc) 24) := t14
  have HT34 : Hid (Two W4 b3 (.int .i64 (N : Int)) (.slice ao es.length ac) 24) := t34
  have hB4 := below_next hB2 hb3a
  clear q0 q1 H7 hb3 hb4 hb3a t4 t14 HT12 HT3 hB2 HEO
  obtain ⟨q0, q1⟩ := cell_two t34
  clear t34
  have H7 : Hid (Calls Try.prog 7 #[.agg #[.int .i64 (N : Int), .slice ao es.length ac]] W4 fun r w' => ∃ (O h : List Nat) (oo : Option Addr) (oc : Nat) (po : Option Addr) (pc : Nat), r = .returned (.tuple #[.slice oo O.length oc, .slice po h.length pc, .agg #[.int .i64 0, .int .i64 0]]) ∧ OrdOr N es w' O h oo oc po ∧ Below W4.heap.size W4 w') := ordOr_of (order_ok HEO4.out HCHK.out)
  go_upto_region 4 with (first | (go_at_call 7; refine Calls.mono H7.out ?_; rintro e W5 ⟨O, h, oo, oc, po, pc, rfl, hor, hb5⟩) | go_in)
  have HOR : Hid (OrdOr N es W5 O h oo oc po) := hor
  clear hor H7
  have t7 := two_new W5 (.int .i64 0) (.int .i64 0) 27
  have hb5a := below_alloc hb5 (Obj.cells #[.int .i64 0, .int .i64 0] 27)
  have hb55 := below_alloc (Below.refl _ W5) (Obj.cells #[.int .i64 0, .int .i64 0] 27)
  obtain ⟨b7, hb7⟩ : ∃ b, b = W5.heap.size := ⟨_, rfl⟩
  rw [← hb7] at t7 ⊢
  generalize W5.alloc (Obj.cells #[.int .i64 0, .int .i64 0] 27) = W6 at t7 hb5a hb55 ⊢
  have HB56 : Hid (Below W5.heap.size W5 W6) := hb55
  have HT7 : Hid (Two W6 b7 (.int .i64 0) (.int .i64 0) 27) := t7
  have HT46 : Hid (Two W6 b4 (.int .i64 0) (.int .i64 0) 27) := two_next HT4.out hb5a
  have HT16 : Hid (Two W6 b1 (.int .i64 (N : Int)) (.slice vo es.length vc) 24) := two_next HT14.out hb5a
  have HT36 : Hid (Two W6 b3 (.int .i64 (N : Int)) (.slice ao es.length ac) 24) := two_next HT34.out hb5a
  have HEO6 : Hid (EdgesAt W6 (.slice ao es.length ac) es) := HEO4.out.below hb5a
  have hB6 := below_next hB4 hb5a
  have H9 : Hid (Calls Try.prog 8 #[] W6 fun e w' => e = .returned (.bool true) ∧ Below W6.heap.size W6 w') := begun_call W6
  have H10 : Hid (∀ W, Below W6.heap.size W6 W → Calls Try.prog 9 #[.agg #[.int .i64 (N : Int), .slice ao es.length ac], .agg #[.int .i64 (N : Int), .slice vo es.length vc]] W fun e w' => e = .returned (.bool true) ∧ Below W.heap.size W w') := fun W hW => kept_true (N : Int) _ _ es W (HEO6.out.below hW) (HE.out.below (below_next hB6 hW))
  have hneq := neq27 0 0
  clear q0 q1 hb5 hb5a hb55 hb7 t7 HT4 HT14 HT34 HEO4 hB4
  go_upto_region 6 with (first
    | (go_at_call 8; refine Calls.mono H9.out ?_; rintro e W7 ⟨rfl, hb7⟩; have t77 := two_next HT7.out hb7; have t47 := two_next HT46.out hb7; have t17 := two_next HT16.out hb7; have t37 := two_next HT36.out hb7; obtain ⟨q0, q1⟩ := cell_two t77; obtain ⟨q2, q3⟩ := cell_two t47; obtain ⟨q4, q5⟩ := cell_two t17; obtain ⟨q6, q7⟩ := cell_two t37)
    | (go_at_call 9; refine Calls.mono (H10.out _ hb7) ?_; rintro e W8 ⟨rfl, hb8⟩)
    | go_in)
  have hb68 := below_next hb7 hb8
  have hB8 := below_next hB6 hb68
  have t48 := two_next HT46.out hb68
  have t18 := two_next HT16.out hb68
  have HB68 : Hid (Below W6.heap.size W6 W8) := hb68
  have HT18 : Hid (Two W8 b1 (.int .i64 (N : Int)) (.slice vo es.length vc) 24) := t18
  clear q0 q1 q2 q3 q4 q5 q6 q7 t77 t47 t17 t37 hb7 hb8 hb68 H9 H10 HT7 HT46 HT16 HT36 HEO6 hB6 hneq
  obtain ⟨q2, q3⟩ := cell_two t48
  obtain ⟨q4, q5⟩ := cell_two t18
  clear t48 t18
  obtain ⟨_, _, _, hlen, hgood⟩ := chk_good HCHK.out
  have h11 : Calls Try.prog 10 #[.agg #[.int .i64 (N : Int), .slice vo es.length vc]] W8 fun e w' => Below W8.heap.size W8 w' ∧ ∃ ao cap, e = .returned (.slice ao N cap) ∧ GridAt w' (.slice ao N cap) N (hasB es) := gridOf_any N _ es W8 (HE.out.below hB8) (by omega) hlen hgood
  clear hgood hlen
  go_upto_region 9 with (first | (go_at_call 10; refine Calls.mono h11 ?_; rintro e W9 ⟨hb9, gao, gcap, rfl, hG⟩) | go_in)
  have HG : Hid (GridAt W9 (.slice gao N gcap) N (hasB es)) := hG
  have hB9 := below_next hB8 hb9
  have HT19 : Hid (Two W9 b1 (.int .i64 (N : Int)) (.slice vo es.length vc) 24) := two_next HT18.out hb9
  have HB59 : Hid (Below W5.heap.size W5 W9) := below_next HB56.out (below_next HB68.out hb9)
  clear q2 q3 q4 q5 hG hb9 HT18 h11 hB8 HB68 HB56
  have HOR9 : Hid (OrdOr N es W9 O h oo oc po) := HOR.out.below HB59.out
  clear HOR HB59
  rcases HOR9.out with hO | hH
  · have HO : Hid (OrdR N es W9 O h oo oc) := hO
    have hl : h.length = 0 := hO.hole
    have hOl : O.length = N := hO.ord.len
    have k0 : ¬ ((h.length : Int) > 0) := by omega
    clear hO HOR9
    obtain ⟨hl', hl'e⟩ : ∃ m, m = h.length := ⟨_, rfl⟩
    rw [← hl'e] at k0 ⊢
    clear hl'e hl
    obtain ⟨ol, hole⟩ : ∃ m, m = O.length := ⟨_, rfl⟩
    have HOL : Hid (ol = O.length) := hole
    have holN : ol = N := by rw [hole]; exact hOl
    rw [← hole]
    clear hole hOl
    subst holN
    have H12 : Hid (Calls Try.prog 12 #[.slice oo ol oc, .int .i64 (ol : Int)] W9 fun e w' => e = .returned (.bool true) ∧ Below W9.heap.size W9 w') := HO.out.all hN
    obtain ⟨q4, q5⟩ := cell_two HT19.out
    go_upto_region 13 with (first | (go_at_call 12; refine Calls.mono H12.out ?_; rintro e Wa ⟨rfl, hba⟩) | go_in)
    have HOa : Hid (OrdR ol es Wa O h oo oc) := HO.out.below hba
    have HGa : Hid (GridAt Wa (.slice gao ol gcap) ol (hasB es)) := HG.out.below hba
    have hBa := below_next hB9 hba
    clear q4 q5 hba H12 HO HG hB9 HT19
    obtain ⟨Wb, hWb⟩ : ∃ Wb, Wb = Wa := ⟨_, rfl⟩
    rw [← hWb] at HOa HGa hBa ⊢
    clear hWb
    go_wp2
    go_loopw [9, 10, 11] (fun i _ _ wr => ∃ k : Nat, k ≤ ol ∧ i = .int .i64 (k : Int) ∧ Below Wb.heap.size Wb wr) (fun i _ _ _ => ol - (numOf i).toNat)
    case atStart => exact ⟨0, Nat.zero_le _, rfl, Below.refl _ _⟩
    case round =>
      obtain ⟨i, hi, rfl, hBr⟩ := hrel
      by_cases hil : i < ol
      · have i1 : (i : Int) < (ol : Int) := by omega
        go_wp2
        go_loopw [10, 11] (fun x _ wr => ∃ j : Nat, i + 1 ≤ j ∧ j ≤ ol ∧ x = .int .i64 (j : Int) ∧ Below Wb.heap.size Wb wr) (fun x _ _ => ol - (numOf x).toNat)
        case atStart => exact ⟨i + 1, Nat.le_refl _, by omega, by go_num, hBr⟩
        case round =>
          obtain ⟨j, hij, hj, rfl, hBs⟩ := hrel
          by_cases hjl : j < ol
          · have j1 : (j : Int) < (ol : Int) := by omega
            go_wp2
            go_loopw [11] (fun x wr => ∃ k : Nat, i + 1 ≤ k ∧ k ≤ j ∧ x = .int .i64 (k : Int) ∧ Below Wb.heap.size Wb wr) (fun x _ => j - (numOf x).toNat)
            case atStart => exact ⟨i + 1, Nat.le_refl _, by omega, by go_num, hBs⟩
            case round =>
              obtain ⟨k, hik, hk, rfl, hBt⟩ := hrel
              by_cases hkl : k < j
              · have k1 : (k : Int) < (j : Int) := by omega
                obtain ⟨x, y, z, hx, hy, hz, bo, rfl, cx, cy, cz, htri⟩ := HOa.out.three hil hjl (by omega) (by omega) hkl hBt
                obtain ⟨g, bx, rfl, gx, gxs⟩ := HGa.out.row hx hBt
                obtain ⟨g', by', e', gy, gys⟩ := HGa.out.row hy hBt
                cases e'
                have g1 := gxs y hy
                have g2 := gxs z hz
                have g3 := gys z hz
                obtain ⟨p1, hp1⟩ : ∃ p, p = hasB es x y := ⟨_, rfl⟩
                obtain ⟨p2, hp2⟩ : ∃ p, p = hasB es x z := ⟨_, rfl⟩
                obtain ⟨p3, hp3⟩ : ∃ p, p = hasB es y z := ⟨_, rfl⟩
                rw [← hp1, ← hp2, ← hp3] at htri
                rw [← hp1] at g1
                rw [← hp2] at g2
                rw [← hp3] at g3
                have HTR : Hid (p1 = true → p2 = true → p3 = true) := htri
                have HBT : Hid (Below Wb.heap.size Wb wr) := hBt
                have a1 : (0 : Int) ≤ (i : Int) := by omega
                have a2 : (0 : Int) ≤ (j : Int) := by omega
                have a3 : (0 : Int) ≤ (k : Int) := by omega
                have a4 : (k : Int) < (ol : Int) := by omega
                have x1 : (0 : Int) ≤ (x : Int) := by omega
                have x2 : (x : Int) < (ol : Int) := by omega
                have y1 : (0 : Int) ≤ (y : Int) := by omega
                have y2 : (y : Int) < (ol : Int) := by omega
                have z1 : (0 : Int) ≤ (z : Int) := by omega
                have z2 : (z : Int) < (ol : Int) := by omega
                clear gxs gys hp1 hp2 hp3 htri hBt
                have hcase : (p1 = false) ∨ (p1 = true ∧ p2 = false) ∨ (p1 = true ∧ p2 = true ∧ p3 = true) := by
                  cases p1
                  · exact Or.inl rfl
                  · cases p2
                    · exact Or.inr (Or.inl ⟨rfl, rfl⟩)
                    · exact Or.inr (Or.inr ⟨rfl, rfl, HTR.out rfl rfl⟩)
                clear HTR
                rcases hcase with rfl | ⟨rfl, rfl⟩ | ⟨rfl, rfl, rfl⟩
                all_goals
                  go_upto_region 22 with (fail)
                  go_quiet (fail)
                  go_wp2
                  go_roundw
                  case rel => exact ⟨k + 1, by omega, by omega, by go_num, below_drewN HBT.out _⟩
                  case measure => simp [numOf]; omega
              · have k1 : ¬ (k : Int) < (j : Int) := by omega
                go_wp2
                go_roundw
                case rel => exact ⟨j + 1, by omega, by omega, by go_num, hBt⟩
                case measure => simp [numOf]; omega
          · have j1 : ¬ (j : Int) < (ol : Int) := by omega
            go_wp2
            go_roundw
            case rel => exact ⟨i + 1, by omega, by go_num, hBs⟩
            case measure => simp [numOf]; omega
      · have i1 : ¬ (i : Int) < (ol : Int) := by omega
        go_wp2
        go_ret
        exact ⟨rfl, below_next hBa hBr⟩
  · have HH : Hid (HoleR N es W9 O h po) := hH
    have h4 := hH.hole.len
    have hO0 : O.length = 0 := hH.none
    have hl1 : h.length ≤ N := hH.many
    have H11 : Hid (Calls Try.prog 11 #[.slice gao N gcap, .slice po h.length pc] W9 fun e w' => e = .returned (.bool true) ∧ Below W9.heap.size W9 w') := hH.clear HG.out hN
    clear hH HOR9
    obtain ⟨hl, hle⟩ : ∃ m, m = h.length := ⟨_, rfl⟩
    obtain ⟨ol, hole⟩ : ∃ m, m = O.length := ⟨_, rfl⟩
    rw [← hle] at h4 H11 ⊢
    rw [← hole] at hO0 ⊢
    clear hle hole hl1
    have k0 : (hl : Int) > 0 := by omega
    have k1 : (hl : Int) > 3 := by omega
    have k2 : ((ol : Int) == 0) = true := by rw [beq_iff_eq]; omega
    clear hO0 h4
    go_wp2_with (first | (go_at_call 11; refine Calls.mono H11.out ?_; rintro e Wa ⟨rfl, hba⟩) | go_in)
    go_ret
    exact ⟨rfl, below_next hB9 hba⟩
end Go.Proofs.Ytkkfjfphmlcieaa
