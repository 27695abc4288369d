/- ChordsOrders' walk, arcs or none. -/
import Derived.BigQuiet
import Derived.Test.YtkkfjfphmlcieaaGreatBegun
import Derived.Test.YtkkfjfphmlcieaaGreatOrdsM
import Derived.Test.YtkkfjfphmlcieaaGreatOfQ
import Derived.Test.YtkkfjfphmlcieaaGreatCompTW
namespace Go.Proofs.YtkkfjfphmlcieaaGreat
open Go.RowKit Go.Maps
attribute [local go_sem ↓] Go.wp_at_zero Go.wp_at_succ
/-- What Orders has answered. -/
def OrdsR (es : List Pair) (f9 : Int) (lo : Option Addr) (ln lc : Nat) (w : World) : Prop :=
  (f9 = 9 ∧ lo = none ∧ ln = 0 ∧ lc = 0 ∧ ¬ Good (bothB es)) ∨ (f9 = 0 ∧ ∃ L : List (Nat × Nat), ln = (toP L).length ∧ ln ≤ lc ∧ EdgesAt w (.slice lo (toP L).length lc) (toP L) ∧ Dir (bothB es) (fun x y => (x, y) ∈ L) ∧ L.Nodup ∧ (toP L).Pairwise (fun a b => 0 ≤ cmpP b a))
theorem OrdsR.below {es : List Pair} {f9 : Int} {lo : Option Addr} {ln lc : Nat} {w w' : World} (h : OrdsR es f9 lo ln lc w) (hb : Below w.heap.size w w') : OrdsR es f9 lo ln lc w' := by
  rcases h with h | ⟨h0, L, h1, h2, h3, h4⟩
  · exact Or.inl h
  · exact Or.inr ⟨h0, L, h1, h2, h3.below hb, h4⟩
theorem ordsR_of {N : Nat} (hN : N ≤ 100) {F : FuncId} {args : Array Value} {w : World} {es : List Pair} (hle : es.length ≤ 1000) (hgd : ∀ e ∈ es, (0 ≤ e.1 ∧ e.1 < (N : Int) ∧ 0 ≤ e.2 ∧ e.2 < (N : Int)) ∧ e.1 ≠ e.2) (h : Calls Tryz.prog F args w fun e w' => OrdsEnd w (bothB es) e w') : Calls Tryz.prog F args w fun e w' => ∃ (f9 : Int) (lo : Option Addr) (ln lc : Nat), e = .returned (.tuple #[.slice lo ln lc, .agg #[.int .i64 f9, .int .i64 0]]) ∧ OrdsR es f9 lo ln lc w' ∧ Below w.heap.size w w' := by
  refine Calls.mono h ?_
  rintro e w' ⟨⟨rfl, hg⟩ | ⟨v, L, rfl, ho, hd, hnd, hw⟩, hb⟩
  · exact ⟨9, none, 0, 0, rfl, Or.inl ⟨rfl, rfl, rfl, rfl, hg⟩, hb⟩
  · have hE := edgesAt_row ho (fun e he => by
      obtain ⟨p, hp, rfl⟩ := List.mem_map.1 he
      have := bothB_lt hgd (hd.edge p.1 p.2 hp)
      constructor <;> unfold I64 <;> simp <;> omega) (by
      have := hd.len hgd hnd
      have := allP_has_le N es
      omega)
    rcases ho.2 with ⟨rfl, e0⟩ | ⟨g, cap, cur, rfl, _, _, hn, _⟩
    · have e0' : toP L = [] := List.length_eq_zero_iff.1 e0
      rw [e0'] at hE
      exact ⟨0, none, 0, 0, rfl, Or.inr ⟨rfl, L, by rw [e0']; rfl, Nat.le_refl _, by rw [e0']; exact hE, hd, hnd, hw⟩, hb⟩
    · exact ⟨0, _, _, cap, rfl, Or.inr ⟨rfl, L, rfl, hn, hE, hd, hnd, hw⟩, hb⟩
set_option maxRecDepth 8000 in
set_option maxHeartbeats 1000000 in
theorem pairs_true {w : World} {va vb : Value} {es : List Pair} (hA : EdgesAt w va es) (hB : EdgesAt w vb es) :
    Calls Tryz.prog 18 #[va, vb] w fun e w' => e = .returned (.bool true) ∧ Below w.heap.size w w' := by
  obtain ⟨ao, ac, rfl⟩ := hA.form
  obtain ⟨bo, bc, rfl⟩ := hB.form
  have H26 : Hid (Calls Tryz.prog 26 #[.agg #[.int .i64 0, .slice ao es.length ac], .agg #[.int .i64 0, .slice bo es.length bc]] w fun e w' => e = .returned (.bool true) ∧ Below w.heap.size w w') := same_true 0 _ _ es w hA hB
  clear hA hB
  go_enter Tryz.func18, Tryz.ntmps18
  go_wp2_with (first | (go_at_call 26; refine Calls.mono H26.out ?_; rintro e w' ⟨rfl, hb⟩) | go_in)
  go_ret
  exact ⟨rfl, hb⟩
set_option maxRecDepth 8000 in
set_option maxHeartbeats 8000000 in
theorem ordsLaw_good {w : World} {N : Nat} {vo : Option Addr} {vc : Nat} {es : List Pair} (hE : EdgesAt w (.slice vo es.length vc) es) (hcap : es.length ≤ vc) (hs : (chk N es).1 = 0) :
    Calls Tryz.prog 4 #[.agg #[.int .i64 (N : Int), .slice vo es.length vc]] w fun e w' => e = .returned (.bool true) ∧ Below w.heap.size w w' := by
  have HE : Hid (EdgesAt w (.slice vo es.length vc) es) := hE
  obtain ⟨hs0, _, hN', hle, hgd⟩ := chk_good hs
  have hN : N ≤ 100 := by omega
  have HS : Hid (chk (N : Int) es = (0, 0)) := hs0
  have HGD : Hid (∀ e ∈ es, (0 ≤ e.1 ∧ e.1 < (N : Int) ∧ 0 ≤ e.2 ∧ e.2 < (N : Int)) ∧ e.1 ≠ e.2) := hgd
  have HLE : Hid (es.length ≤ 1000) := hle
  clear hs0 hN' hle hgd
  have HCHK : Hid ((chk (N : Int) es).1 = 0) := hs
  clear hE hs
  go_enter Tryz.func4, Tryz.ntmps4
  go_upto_region 1 with (fail)
  have t1 := two_new w (.int .i64 (N : Int)) (.slice vo es.length vc) 24
  have hB0 := below_alloc (Below.refl _ w) (Obj.cells #[.int .i64 (N : Int), .slice vo es.length vc] 24)
  obtain ⟨b1, hb1⟩ : ∃ b, b = w.heap.size := ⟨_, rfl⟩
  rw [← hb1] at t1 ⊢
  generalize w.alloc (Obj.cells #[.int .i64 (N : Int), .slice vo es.length vc] 24) = W0 at t1 hB0 ⊢
  have HT1 : Hid (Two W0 b1 (.int .i64 (N : Int)) (.slice vo es.length vc) 24) := t1
  obtain ⟨q0, q1⟩ := cell_two t1
  have h6 := own_any (N : Int) vo vc es W0 (HE.out.below hB0)
  have H6 : Hid (Calls Tryz.prog 5 #[.agg #[.int .i64 (N : Int), .slice vo es.length vc]] W0 fun e w' => Below W0.heap.size W0 w' ∧ ∃ ao c, e = .returned (.agg #[.int .i64 (N : Int), .slice ao es.length c]) ∧ EdgesAt w' (.slice ao es.length c) es ∧ es.length ≤ c) := h6
  clear hb1 h6 t1
  go_upto_region 2 with (first | (go_at_call 5; refine Calls.mono H6.out ?_; rintro e W1 ⟨hb1, ao, ac, rfl, hEo, _⟩) | go_in)
  have hb1a := below_alloc hb1 (Obj.cells #[.int .i64 (N : Int), .slice ao es.length ac] 24)
  have t3 := two_new W1 (.int .i64 (N : Int)) (.slice ao es.length ac) 24
  have HEO : Hid (EdgesAt (W1.alloc (Obj.cells #[.int .i64 (N : Int), .slice ao es.length ac] 24)) (.slice ao es.length ac) es) := hEo.below (below_alloc (Below.refl _ W1) _)
  obtain ⟨b3, hb3⟩ : ∃ b, b = W1.heap.size := ⟨_, rfl⟩
  rw [← hb3] at t3 ⊢
  generalize W1.alloc (Obj.cells #[.int .i64 (N : Int), .slice ao es.length ac] 24) = W2 at t3 hb1a HEO ⊢
  have t12 := two_next HT1.out hb1a
  have HT12 : Hid (Two W2 b1 (.int .i64 (N : Int)) (.slice vo es.length vc) 24) := t12
  have HT3 : Hid (Two W2 b3 (.int .i64 (N : Int)) (.slice ao es.length ac) 24) := t3
  have hB2 := below_next hB0 hb1a
  clear q0 q1 H6 hb1 hEo hb3 hb1a t3 HT1 hB0
  obtain ⟨q0, q1⟩ := cell_two t12
  clear t12
  have h7 := refCheck_as (HE.out.below hB2) hcap HS.out
  have H7 : Hid (Calls Tryz.prog 14 #[.agg #[.int .i64 (N : Int), .slice vo es.length vc]] W2 fun e w' => e = .returned (.agg #[.int .i64 0, .int .i64 0]) ∧ Below W2.heap.size W2 w') := h7
  clear h7
  go_upto_region 3 with (first | (go_at_call 14; refine Calls.mono H7.out ?_; rintro e W3 ⟨rfl, hb3⟩) | go_in)
  have hb3a := below_alloc hb3 (Obj.cells #[.int .i64 0, .int .i64 0] 27)
  have t4 := two_new W3 (.int .i64 0) (.int .i64 0) 27
  have HEO4 : Hid (EdgesAt (W3.alloc (Obj.cells #[.int .i64 0, .int .i64 0] 27)) (.slice ao es.length ac) es) := HEO.out.below hb3a
  obtain ⟨b4, hb4⟩ : ∃ b, b = W3.heap.size := ⟨_, rfl⟩
  rw [← hb4] at t4 ⊢
  generalize W3.alloc (Obj.cells #[.int .i64 0, .int .i64 0] 27) = W4 at t4 hb3a HEO4 ⊢
  have HT4 : Hid (Two W4 b4 (.int .i64 0) (.int .i64 0) 27) := t4
  have t14 := two_next HT12.out hb3a
  have t34 := two_next HT3.out hb3a
  have HT14 : Hid (Two W4 b1 (.int .i64 (N : Int)) (.slice vo es.length vc) 24) := t14
  have HT34 : Hid (Two W4 b3 (.int .i64 (N : Int)) (.slice ao es.length ac) 24) := t34
  have hB4 := below_next hB2 hb3a
  clear q0 q1 H7 hb3 hb4 hb3a t4 t14 HT12 HT3 hB2 HEO
  obtain ⟨q0, q1⟩ := cell_two t34
  clear t34
  have H15 : Hid (Calls Tryz.prog 15 #[.agg #[.int .i64 (N : Int), .slice ao es.length ac]] W4 fun e w' => ∃ (f9 : Int) (lo : Option Addr) (ln lc : Nat), e = .returned (.tuple #[.slice lo ln lc, .agg #[.int .i64 f9, .int .i64 0]]) ∧ OrdsR es f9 lo ln lc w' ∧ Below W4.heap.size W4 w') := ordsR_of hN HLE.out HGD.out (orders_ok HEO4.out HCHK.out)
  go_upto_region 4 with (first | (go_at_call 15; refine Calls.mono H15.out ?_; rintro e W5 ⟨f9, lo, ln, lc, rfl, hor, hb5⟩) | go_in)
  have HOR : Hid (OrdsR es f9 lo ln lc W5) := hor
  clear hor H15
  have t7 := two_new W5 (.int .i64 f9) (.int .i64 0) 27
  have hb5a := below_alloc hb5 (Obj.cells #[.int .i64 f9, .int .i64 0] 27)
  have hb55 := below_alloc (Below.refl _ W5) (Obj.cells #[.int .i64 f9, .int .i64 0] 27)
  obtain ⟨b7, hb7⟩ : ∃ b, b = W5.heap.size := ⟨_, rfl⟩
  rw [← hb7] at t7 ⊢
  generalize W5.alloc (Obj.cells #[.int .i64 f9, .int .i64 0] 27) = W6 at t7 hb5a hb55 ⊢
  have HB56 : Hid (Below W5.heap.size W5 W6) := hb55
  have HT7 : Hid (Two W6 b7 (.int .i64 f9) (.int .i64 0) 27) := t7
  have HT46 : Hid (Two W6 b4 (.int .i64 0) (.int .i64 0) 27) := two_next HT4.out hb5a
  have HT16 : Hid (Two W6 b1 (.int .i64 (N : Int)) (.slice vo es.length vc) 24) := two_next HT14.out hb5a
  have HT36 : Hid (Two W6 b3 (.int .i64 (N : Int)) (.slice ao es.length ac) 24) := two_next HT34.out hb5a
  have HEO6 : Hid (EdgesAt W6 (.slice ao es.length ac) es) := HEO4.out.below hb5a
  have hB6 := below_next hB4 hb5a
  have H9 : Hid (Calls Tryz.prog 8 #[] W6 fun e w' => e = .returned (.bool true) ∧ Below W6.heap.size W6 w') := begun_call W6
  have H10 : Hid (∀ W, Below W6.heap.size W6 W → Calls Tryz.prog 9 #[.agg #[.int .i64 (N : Int), .slice ao es.length ac], .agg #[.int .i64 (N : Int), .slice vo es.length vc]] W fun e w' => e = .returned (.bool true) ∧ Below W.heap.size W w') := fun W hW => kept_true (N : Int) _ _ es W (HEO6.out.below hW) (HE.out.below (below_next hB6 hW))
  have hneq := neq27 0 0
  clear q0 q1 hb5 hb5a hb55 hb7 t7 HT4 HT14 HT34 HEO4 hB4
  go_upto_region 6 with (first
    | (go_at_call 8; refine Calls.mono H9.out ?_; rintro e W7 ⟨rfl, hb7⟩; have t77 := two_next HT7.out hb7; have t47 := two_next HT46.out hb7; have t17 := two_next HT16.out hb7; have t37 := two_next HT36.out hb7; obtain ⟨q0, q1⟩ := cell_two t77; obtain ⟨q2, q3⟩ := cell_two t47; obtain ⟨q4, q5⟩ := cell_two t17; obtain ⟨q6, q7⟩ := cell_two t37)
    | (go_at_call 9; refine Calls.mono (H10.out _ hb7) ?_; rintro e W8 ⟨rfl, hb8⟩)
    | go_in)
  have hb68 := below_next hb7 hb8
  have hB8 := below_next hB6 hb68
  have t48 := two_next HT46.out hb68
  have t18 := two_next HT16.out hb68
  have HB68 : Hid (Below W6.heap.size W6 W8) := hb68
  have HT18 : Hid (Two W8 b1 (.int .i64 (N : Int)) (.slice vo es.length vc) 24) := t18
  clear q0 q1 q2 q3 q4 q5 q6 q7 t77 t47 t17 t37 hb7 hb8 hb68 H9 H10 HT46 HT16 HT36 HEO6 hB6 hneq
  obtain ⟨q2, q3⟩ := cell_two t48
  obtain ⟨q4, q5⟩ := cell_two t18
  clear t48 t18
  have h11 : Calls Tryz.prog 10 #[.agg #[.int .i64 (N : Int), .slice vo es.length vc]] W8 fun e w' => Below W8.heap.size W8 w' ∧ ∃ ao cap, e = .returned (.slice ao N cap) ∧ GridAt w' (.slice ao N cap) N (hasB es) := gridOf_any N _ es W8 (HE.out.below hB8) (by omega) HLE.out HGD.out
  obtain ⟨fes, hfes⟩ : ∃ fes, fes = allP N (hasB es) := ⟨_, rfl⟩
  have HFES : Hid (fes = allP N (hasB es)) := hfes
  have H16 : Hid (∀ (W : World) (gao : Option Addr) (gcap : Nat), GridAt W (.slice gao N gcap) N (hasB es) → Calls Tryz.prog 16 #[.slice gao N gcap] W fun e w' => Below W.heap.size W w' ∧ ∃ ao' c, e = .returned (.agg #[.int .i64 (N : Int), .slice ao' fes.length c]) ∧ EdgesAt w' (.slice ao' fes.length c) fes) := fun W gao gcap hG => by
    rw [hfes]; exact ofGrid_any N gao gcap (hasB es) W hG hN
  clear hfes
  have hfd : ∀ (eo : Option Addr) (el ec : Nat) (w : World), (Instr.field 24 (.agg #[.int .i64 (N : Int), .slice eo el ec]) 1).run Tryz.prog w = .ok (.slice eo el ec) w := fun _ _ _ _ => by kernel_rfl
  go_upto_region 9 with (first
    | (go_at_call 10; refine Calls.mono h11 ?_; rintro e W9 ⟨hb9, gao, gcap, rfl, hG⟩)
    | (go_at_call 16; refine Calls.mono (H16.out _ _ _ hG) ?_; rintro e WA ⟨hbA, fo, fc, rfl, hFE⟩)
    | go_in)
  have hb8A := below_next hb9 hbA
  have hBA := below_next hB8 hb8A
  have HFE : Hid (EdgesAt WA (.slice fo fes.length fc) fes) := hFE
  have t7A := two_next (two_next HT7.out HB68.out) hb8A
  have t1A := two_next HT18.out hb8A
  have HT1A : Hid (Two WA b1 (.int .i64 (N : Int)) (.slice vo es.length vc) 24) := t1A
  have HT7A : Hid (Two WA b7 (.int .i64 f9) (.int .i64 0) 27) := t7A
  have HORA : Hid (OrdsR es f9 lo ln lc WA) := HOR.out.below (below_next HB56.out (below_next HB68.out hb8A))
  clear q2 q3 q4 q5 hG hFE hb9 hbA hb8A HT18 h11 hB8 HB68 HB56 HOR HT7 t1A
  obtain ⟨q0, q1⟩ := cell_two t7A
  clear t7A
  rcases HORA.out with ⟨rfl, rfl, rfl, rfl, hng⟩ | ⟨rfl, L, rfl, hnl, hEL, hd, hnd, hw⟩
  · have HNG : Hid (¬ Good (bothB es)) := hng
    have heq := eql27 9 0
    clear hng HORA
    go_upto_region 10 with (fail)
    have p0 := cell_growD q0
    have p1 := cell_growD q1
    have H11 : Hid (∀ W, Below WA.heap.size WA W → Calls Tryz.prog 11 #[.int .i64 9, .int .i64 0] W fun e w' => e = .returned (.agg #[.int .i64 9, .int .i64 0]) ∧ Below W.heap.size W w') := fun W _ => refF_any 9 0 W
    by_cases hlen : fes.length > 12
    · have k1 : (12 : Int) < (fes.length : Int) := by omega
      refine wp_region_below (by kernel_rfl) (by kernel_rfl) ?_
      repeat (quiet_step (first | (go_at_call 11; exact Calls.belowQ H11.out)))
      refine wpQuiet_nil ?_
      intro _ hw'
      obtain ⟨pq, hw''⟩ := hw'
      subst hw''
      go_wp2
      go_ret
      exact ⟨rfl, below_next hBA (growD_below WA pq)⟩
    · have k1 : ¬ (12 : Int) < (fes.length : Int) := by omega
      have H17 : Hid (∀ W, Below WA.heap.size WA W → Calls Tryz.prog 17 #[.slice fo fes.length fc] W fun e w' => e = .returned (.bool false) ∧ Below W.heap.size W w') := fun W hW => by
        refine Calls.mono (comp_call (HFE.out.below hW) (by omega)) ?_
        rintro e w' ⟨b, rfl, hb, hbb⟩
        have : b = false := by
          cases b with
          | false => rfl
          | true =>
            obtain ⟨D, hT, htr⟩ := hb rfl
            rw [HFES.out] at hT
            exact absurd (hT.good htr HGD.out) HNG.out
        rw [this]; exact ⟨rfl, hbb⟩
      refine wp_region_below (by kernel_rfl) (by kernel_rfl) ?_
      repeat (quiet_step (first | (go_at_call 11; exact Calls.belowQ H11.out) | (go_at_call 17; exact Calls.belowQ H17.out)))
      refine wpQuiet_nil ?_
      intro _ hw'
      obtain ⟨pq, hw''⟩ := hw'
      subst hw''
      go_wp2
      go_ret
      exact ⟨rfl, below_next hBA (growD_below WA pq)⟩
  · obtain ⟨PL, hPL⟩ : ∃ PL, PL = toP L := ⟨_, rfl⟩
    have HCK : Hid (chk (N : Int) PL = (0, 0)) := by
      show chk (N : Int) PL = (0, 0)
      rw [hPL]; exact hd.chk HGD.out hnd hN HLE.out
    have hlen : PL.length = fes.length := by rw [hPL, HFES.out]; exact hd.len HGD.out hnd
    have HTR : Hid (TransL PL) := by
      show TransL PL
      rw [hPL]; exact hd.trans
    have HBO : Hid (∀ x y : Nat, hasB PL x y = hasB es x y) := fun x y => by rw [hPL]; exact hd.both x y
    have HRI : Hid (∀ (i : Nat) (x y u v : Int), 0 < i → i < PL.length → PL[i - 1]? = some (x, y) → PL[i]? = some (u, v) → x < u ∨ (x = u ∧ y < v)) := fun i x y u v h0 hi h1 h2 => by
      rw [hPL] at hi h1 h2
      exact rising_toP hnd hw h0 (by rw [← toP_len]; exact hi) h1 h2
    have HIN : Hid (∀ (i : Nat) (x y : Int), PL[i]? = some (x, y) → 0 ≤ x ∧ x < (N : Int) ∧ 0 ≤ y ∧ y < (N : Int)) := fun i x y h => by
      obtain ⟨_, _, _, _, hg⟩ := chk_good (show (chk (N : Int) PL).1 = 0 by rw [HCK.out])
      exact (hg _ (List.mem_of_getElem? h)).1
    rw [← hPL] at hnl hEL ⊢
    have HEL : Hid (EdgesAt WA (.slice lo PL.length lc) PL) := hEL
    have hll : PL.length ≤ 1000 := by
      rw [hlen, HFES.out]; exact Nat.le_trans (allP_has_le N es) HLE.out
    have hneL : ((PL.length : Int) != (fes.length : Int)) = false := by rw [hlen]; simp
    have HLEN : Hid (PL.length = fes.length) := hlen
    clear hPL hd hnd hw hEL hlen HORA
    have hB0 := Below.refl WA.heap.size WA
    go_upto_region 12 with (fail)
    go_loopw [8] (fun s8 wz => ∃ i : Nat, 1 ≤ i ∧ (i ≤ PL.length ∨ i = 1) ∧ s8 = .int .i64 (i : Int) ∧ Below WA.heap.size WA wz) (fun s8 _ => PL.length - (numOf s8).toNat)
    case atStart => exact ⟨1, Nat.le_refl _, Or.inr rfl, rfl, hB0⟩
    case round =>
      obtain ⟨i, hi1, hi2, rfl, hBi⟩ := hrel
      clear q0 q1 hB0
      by_cases hil : i < PL.length
      · have a2 : (i : Int) < (PL.length : Int) := by omega
        have a1 : (0 : Int) ≤ (i : Int) := by omega
        obtain ⟨k, hk⟩ : ∃ k, i = k + 1 := ⟨i - 1, by omega⟩
        have hkl : k < PL.length := by omega
        have e1 : (0 : Int) ≤ (k : Int) := by omega
        have e2 : (k : Int) < (PL.length : Int) := by omega
        have hsub : IntKind.i64.wrap ((i : Int) - 1) = (k : Int) := by rw [IntKind.wrap_i64]; omega
        have hsub' : wrap64 ((i : Int) - 1) = (k : Int) := by unfold wrap64; omega
        obtain ⟨b, off, u, v, rfl, gi, _, _, ci0, ci1⟩ := (HEL.out.below hBi).get hil
        obtain ⟨b', off', x, y, e', gk, _, _, ck0, ck1⟩ := (HEL.out.below hBi).get hkl
        cases e'
        have hris := HRI.out i x y u v (by omega) hil (by rw [hk, Nat.add_sub_cancel]; exact gk) gi
        have HI1 : Hid (1 ≤ i ∧ i < PL.length) := ⟨hi1, hil⟩
        clear gi gk hk hi1 hi2
        have c1 : ¬ u < x := by omega
        go_upto_region 14 with (fail)
        by_cases hxu : x = u
        · subst hxu
          have hyv : ¬ v ≤ y := by omega
          have d1 : (x == x) = true := by simp
          clear hris
          go_quiet (fail)
          go_wp2
          go_roundw
          case rel => exact ⟨i + 1, by omega, Or.inl (by have := HI1.out; omega), by go_num, below_drewN hBi _⟩
          case measure => have := HI1.out; simp [numOf]; omega
        · have d1 : (x == u) = false := by simpa using hxu
          clear hris
          go_quiet (fail)
          go_wp2
          go_roundw
          case rel => exact ⟨i + 1, by omega, Or.inl (by have := HI1.out; omega), by go_num, below_drewN hBi _⟩
          case measure => have := HI1.out; simp [numOf]; omega
      · have a2 : ¬ (i : Int) < (PL.length : Int) := by omega
        go_upto_region 17 with (fail)
        generalize wr = Wb at hBi ⊢
        go_loopw [9] (fun s9 wz => ∃ i : Nat, i ≤ PL.length ∧ s9 = .int .i64 (i : Int) ∧ Below WA.heap.size WA wz) (fun s9 _ => PL.length - (numOf s9).toNat)
        case atStart => exact ⟨0, Nat.zero_le _, rfl, hBi⟩
        case round =>
          obtain ⟨j, hj, rfl, hBj⟩ := hrel
          clear hBi
          by_cases hjl : j < PL.length
          · have b2 : (j : Int) < (PL.length : Int) := by omega
            have b1' : (0 : Int) ≤ (j : Int) := by omega
            obtain ⟨b, off, x, y, rfl, gj, _, _, cj0, cj1⟩ := (HEL.out.below hBj).get hjl
            obtain ⟨x0, x1, y0, y1⟩ := HIN.out j x y gj
            have z1 : ¬ x < 0 := by omega
            have z2 : ¬ y < 0 := by omega
            have z3 : ¬ (N : Int) ≤ x := by omega
            have z4 : ¬ (N : Int) ≤ y := by omega
            obtain ⟨n0, n1⟩ := cell_two (two_next HT1A.out hBj)
            clear gj x0 x1 y0 y1
            go_upto_region 19 with (fail)
            go_quiet (fail)
            go_wp2
            go_roundw
            case rel => exact ⟨j + 1, by omega, by go_num, below_drewN hBj _⟩
            case measure => simp [numOf]; omega
          · have b2 : ¬ (j : Int) < (PL.length : Int) := by omega
            obtain ⟨n0, n1⟩ := cell_two (two_next HT1A.out hBj)
            have hBw := below_next hBA hBj
            have H14 : Hid (Calls Tryz.prog 14 #[.agg #[.int .i64 (N : Int), .slice lo PL.length lc]] wr fun e w' => e = .returned (.agg #[.int .i64 0, .int .i64 0]) ∧ Below wr.heap.size wr w') := refCheck_as (HEL.out.below hBj) hnl HCK.out
            have hfd27 : ∀ (c d : Int) (w : World), (Instr.field 27 (.agg #[.int .i64 c, .int .i64 d]) 0).run Tryz.prog w = .ok (.int .i64 c) w := fun _ _ _ => by kernel_rfl
            go_upto_region 23 with (first | (go_at_call 14; refine Calls.mono H14.out ?_; rintro e WC ⟨rfl, hbC⟩) | go_in)
            have hBC := below_next hBj hbC
            clear n0 n1 H14
            obtain ⟨n0, n1⟩ := cell_two (two_next HT1A.out hBC)
            have h10 : Calls Tryz.prog 10 #[.agg #[.int .i64 (N : Int), .slice lo PL.length lc]] WC fun e w' => Below WC.heap.size WC w' ∧ ∃ ao cap, e = .returned (.slice ao N cap) ∧ GridAt w' (.slice ao N cap) N (hasB PL) := by
              obtain ⟨_, _, _, _, hg⟩ := chk_good (show (chk (N : Int) PL).1 = 0 by rw [HCK.out])
              exact gridOf_any N _ PL WC (HEL.out.below hBC) hN hll hg
            have H16' : Hid (∀ (W : World) (gao : Option Addr) (gcap : Nat), GridAt W (.slice gao N gcap) N (hasB PL) → Calls Tryz.prog 16 #[.slice gao N gcap] W fun e w' => Below W.heap.size W w' ∧ ∃ ao' c, e = .returned (.agg #[.int .i64 (N : Int), .slice ao' fes.length c]) ∧ EdgesAt w' (.slice ao' fes.length c) fes) := fun W gao gcap hG => by
              rw [HFES.out, ← allP_congr HBO.out]; exact ofGrid_any N gao gcap (hasB PL) W hG hN
            have H18 : Hid (∀ (W : World) (ao' : Option Addr) (c : Nat), Below WA.heap.size WA W → EdgesAt W (.slice ao' fes.length c) fes → Calls Tryz.prog 18 #[.slice ao' fes.length c, .slice fo fes.length fc] W fun e w' => e = .returned (.bool true) ∧ Below W.heap.size W w') := fun W ao' c hW hE => pairs_true hE (HFE.out.below hW)
            have H19 : Hid (∀ W, Below WA.heap.size WA W → Calls Tryz.prog 19 #[.slice lo PL.length lc] W fun e w' => e = .returned (.bool true) ∧ Below W.heap.size W w') := fun W hW => by
              refine Calls.mono (trans_call (HEL.out.below hW)) ?_
              rintro e w' ⟨bb, rfl, hbb, hB⟩
              rw [hbb.2 HTR.out]; exact ⟨rfl, hB⟩
            go_wp2_with (first
              | (go_at_call 10; refine Calls.mono h10 ?_; rintro e WD ⟨hbD, gao2, gcap2, rfl, hG2⟩; have hBD := below_next hBC hbD)
              | (go_at_call 16; refine Calls.mono (H16'.out _ _ _ hG2) ?_; rintro e WE ⟨hbE, fo2, fc2, rfl, hFE2⟩; have hBE := below_next hBD hbE)
              | (go_at_call 18; refine Calls.mono (H18.out _ _ _ hBE hFE2) ?_; rintro e WF ⟨rfl, hbF⟩; have hBF := below_next hBE hbF)
              | (go_at_call 19; refine Calls.mono (H19.out _ hBF) ?_; rintro e WG ⟨rfl, hbG⟩; have hBG := below_next hBF hbG)
              | go_in)
            go_ret
            exact ⟨rfl, below_next hBA hBG⟩
end Go.Proofs.YtkkfjfphmlcieaaGreat
