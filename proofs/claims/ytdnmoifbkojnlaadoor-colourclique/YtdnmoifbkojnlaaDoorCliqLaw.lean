/- ColourClique's walk. -/
import Derived.Test.YtdnmoifbkojnlaaDoorCliqC
import Derived.Test.YtdnmoifbkojnlaaDoorRefC
import Derived.Test.YtdnmoifbkojnlaaDoorSmallF
namespace Go.Proofs.YtdnmoifbkojnlaaDoor
open Go.RowKit Go.Maps
attribute [local go_sem ↓] Go.wp_at_zero Go.wp_at_succ

theorem ints_nums {W : World} {vo : Option Addr} {vc : Nat} {T : List Nat} (h : NumsAt W vo T) (hl : T.length ≤ 1000) (hx : ∀ x ∈ T, x < 1000) : IntsAt W (.slice vo T.length vc) (T.map (fun (x : Nat) => (x : Int))) := by
  refine ⟨vo, vc, by simp, by simp; omega, fun x hx' => ?_, fun k hk => ?_⟩
  · obtain ⟨y, hy, rfl⟩ := List.mem_map.1 hx'
    have := hx y hy
    unfold I64
    omega
  · have hk' : k < T.length := by simpa using hk
    obtain ⟨b, e, hc⟩ := h k T[k] (List.getElem?_eq_getElem hk')
    exact ⟨b, 0, e, by rw [Nat.zero_add, hc]; simp⟩
theorem opn_all (adj : Nat → Nat → Bool) (n : Nat) : opn adj n [] 0 = List.range n := List.filter_eq_self.2 fun w _ => by simp
set_option maxRecDepth 4000 in
set_option maxHeartbeats 1000000 in
theorem refClique_call {W : World} {tv : Value} {n tn : Nat} {es : List Pair} {T : List Nat} (hn : n ≤ 100) (hG : GridAt W tv n (hasB es)) (hs : ∀ x y : Nat, hasB es (x : Int) (y : Int) = hasB es (y : Int) (x : Int)) (hT : T = cq (adjE es) (List.range n) [] []) (htn : tn = T.length) :
    Calls Tryd.prog 10 #[tv] W fun e w' => ∃ bo bc, e = .returned (.slice bo tn bc) ∧ NumsAt w' bo T ∧ Below W.heap.size W w' := by
  obtain ⟨tao, tcap, etv⟩ : ∃ tao tcap, tv = .slice tao n tcap := by
    obtain ⟨tao, tcap, e, _⟩ := hG
    exact ⟨tao, tcap, e⟩
  have hB := below_alloc (Below.refl _ W) (Obj.cells #[.slice none 0 0] 29)
  have o1 := one_new W (.slice none 0 0) 29
  have h20 := refC_call (bb := W.heap.size) (adj := adjE es) hn hG (fun v z => rfl) (fun x y => hs x y) (Nat.le_refl _) (n - frm []) [] [] (W.alloc (Obj.cells #[.slice none 0 0] 29)) none 0 rfl (fun x hx => by simp at hx) (Nat.zero_le _) (Nat.zero_le _) hB (fun k u hu => by simp at hu) (fun x hx => by cases hx) ⟨none, 0, o1, fun k u hu => by simp at hu, fun x hx => by cases hx⟩
  have e1 : frm [] = 0 := rfl
  have e2 : upL [] [] = [] := rfl
  rw [e1, opn_all, e2, ← hT] at h20
  subst etv
  have H20 : Hid (Calls Tryd.prog 20 #[.slice tao n tcap, .slice none 0 0, ptr W.heap.size] (W.alloc (Obj.cells #[.slice none 0 0] 29)) fun e w' => e = .returned (.tuple #[]) ∧ RB w' W.heap.size T ∧ Turns (Mb W.heap.size) (W.alloc (Obj.cells #[.slice none 0 0] 29)) w') := h20
  have HTN : Hid (tn = T.length) := htn
  clear h20 hG hs hT htn e1 e2 o1
  go_enter Tryd.func10, Tryd.ntmps10
  go_upto_region 3 with (first | (go_at_call 20; refine Calls.mono H20.out ?_; rintro e W1 ⟨rfl, hrb, ht⟩) | go_in)
  obtain ⟨bo, bc, o2, hn2, _⟩ := hrb
  have c2 : W1.cell? ⟨W.heap.size, 0, none⟩ = some (.slice bo T.length bc) := box_cell o2 rfl
  rw [← HTN.out] at c2
  have hBf : Below W.heap.size W W1 := Turns.below hB ht hB.size (fun x e => by
    have e' : x = W.heap.size := e
    omega)
  clear o2 ht
  go_wp2
  go_ret
  exact ⟨bo, bc, rfl, hn2, hBf⟩
set_option maxRecDepth 4000 in
set_option maxHeartbeats 3000000 in
theorem cliqueLaw_bad {w : World} {n : Int} {vo : Option Addr} {vc : Nat} {es : List Pair} (hE : EdgesAt w (.slice vo es.length vc) es) (hcap : es.length ≤ vc) {c d : Int} (hs : smallF n es 24 = (c, d)) (hc : c ≠ 0) :
    Calls Tryd.prog 3 #[.agg #[.int .i64 n, .slice vo es.length vc]] w fun e w' => e = .returned (.bool true) ∧ Below w.heap.size w w' := by
  have HE : Hid (EdgesAt w (.slice vo es.length vc) es) := hE
  have HS : Hid (smallF n es ((24 : Nat) : Int) = (c, d)) := hs
  have HC : Hid (c ≠ 0) := hc
  have kc : (c != 0) = true := by simp [hc]
  clear hE hs hc
  go_enter Tryd.func3, Tryd.ntmps3
  go_upto_region 1 with (fail)
  have t1 := two_new w (.int .i64 n) (.slice vo es.length vc) 24
  have hB0 := below_alloc (Below.refl _ w) (Obj.cells #[.int .i64 n, .slice vo es.length vc] 24)
  obtain ⟨b1, hb1⟩ : ∃ b, b = w.heap.size := ⟨_, rfl⟩
  rw [← hb1] at t1 ⊢
  generalize w.alloc (Obj.cells #[.int .i64 n, .slice vo es.length vc] 24) = W0 at t1 hB0 ⊢
  have HT1 : Hid (Two W0 b1 (.int .i64 n) (.slice vo es.length vc) 24) := t1
  obtain ⟨q0, q1⟩ := cell_two t1
  have h6 := own_any n vo vc es W0 (HE.out.below hB0)
  have H6 : Hid (Calls Tryd.prog 4 #[.agg #[.int .i64 n, .slice vo es.length vc]] W0 fun e w' => Below W0.heap.size W0 w' ∧ ∃ ao c, e = .returned (.agg #[.int .i64 n, .slice ao es.length c]) ∧ EdgesAt w' (.slice ao es.length c) es ∧ es.length ≤ c) := h6
  clear hb1 h6 t1
  go_upto_region 2 with (first | (go_at_call 4; refine Calls.mono H6.out ?_; rintro e W1 ⟨hb1, ao, ac, rfl, hEo, _⟩) | go_in)
  have hb1a := below_alloc hb1 (Obj.cells #[.int .i64 n, .slice ao es.length ac] 24)
  have t3 := two_new W1 (.int .i64 n) (.slice ao es.length ac) 24
  have HEO : Hid (EdgesAt (W1.alloc (Obj.cells #[.int .i64 n, .slice ao es.length ac] 24)) (.slice ao es.length ac) es) := hEo.below (below_alloc (Below.refl _ W1) _)
  obtain ⟨b3, hb3⟩ : ∃ b, b = W1.heap.size := ⟨_, rfl⟩
  rw [← hb3] at t3 ⊢
  generalize W1.alloc (Obj.cells #[.int .i64 n, .slice ao es.length ac] 24) = W2 at t3 hb1a HEO ⊢
  have t12 := two_next HT1.out hb1a
  have HT12 : Hid (Two W2 b1 (.int .i64 n) (.slice vo es.length vc) 24) := t12
  have HT3 : Hid (Two W2 b3 (.int .i64 n) (.slice ao es.length ac) 24) := t3
  have hB2 := below_next hB0 hb1a
  clear q0 q1 H6 hb1 hEo hb3 hb1a t3 HT1 hB0
  obtain ⟨q0, q1⟩ := cell_two t12
  clear t12
  have h7 := smallFault_call (most := 24) (n := n) (HE.out.below hB2) hcap
  rw [HS.out] at h7
  have H7 : Hid (Calls Tryd.prog 5 #[.agg #[.int .i64 n, .slice vo es.length vc], .int .i64 24] W2 fun e w' => e = .returned (.agg #[.int .i64 c, .int .i64 d]) ∧ Below W2.heap.size W2 w') := h7
  clear h7
  go_upto_region 3 with (first | (go_at_call 5; refine Calls.mono H7.out ?_; rintro e W3 ⟨rfl, hb3⟩) | go_in)
  have hb3a := below_alloc hb3 (Obj.cells #[.int .i64 c, .int .i64 d] 27)
  have t4 := two_new W3 (.int .i64 c) (.int .i64 d) 27
  have HEO4 : Hid (EdgesAt (W3.alloc (Obj.cells #[.int .i64 c, .int .i64 d] 27)) (.slice ao es.length ac) es) := HEO.out.below hb3a
  obtain ⟨b4, hb4⟩ : ∃ b, b = W3.heap.size := ⟨_, rfl⟩
  rw [← hb4] at t4 ⊢
  generalize W3.alloc (Obj.cells #[.int .i64 c, .int .i64 d] 27) = W4 at t4 hb3a HEO4 ⊢
  have HT4 : Hid (Two W4 b4 (.int .i64 c) (.int .i64 d) 27) := t4
  have t14 := two_next HT12.out hb3a
  have t34 := two_next HT3.out hb3a
  have HT14 : Hid (Two W4 b1 (.int .i64 n) (.slice vo es.length vc) 24) := t14
  have HT34 : Hid (Two W4 b3 (.int .i64 n) (.slice ao es.length ac) 24) := t34
  have hB4 := below_next hB2 hb3a
  clear q0 q1 H7 hb3 hb4 hb3a t4 t14 HT12 HT3 hB2 HEO
  obtain ⟨q0, q1⟩ := cell_two t34
  clear t34
  go_upto_region 4 with (first | (go_at_call 6; refine Calls.mono (clique_bad HEO4.out HS.out HC.out) ?_; rintro e W5 ⟨rfl, hb5⟩) | go_in)
  have t7 := two_new W5 (.int .i64 c) (.int .i64 d) 27
  have hb5a := below_alloc hb5 (Obj.cells #[.int .i64 c, .int .i64 d] 27)
  obtain ⟨b7, hb7⟩ : ∃ b, b = W5.heap.size := ⟨_, rfl⟩
  rw [← hb7] at t7 ⊢
  generalize W5.alloc (Obj.cells #[.int .i64 c, .int .i64 d] 27) = W6 at t7 hb5a ⊢
  have HT7 : Hid (Two W6 b7 (.int .i64 c) (.int .i64 d) 27) := t7
  have HT46 : Hid (Two W6 b4 (.int .i64 c) (.int .i64 d) 27) := two_next HT4.out hb5a
  have HT16 : Hid (Two W6 b1 (.int .i64 n) (.slice vo es.length vc) 24) := two_next HT14.out hb5a
  have HT36 : Hid (Two W6 b3 (.int .i64 n) (.slice ao es.length ac) 24) := two_next HT34.out hb5a
  have HEO6 : Hid (EdgesAt W6 (.slice ao es.length ac) es) := HEO4.out.below hb5a
  have hB6 := below_next hB4 hb5a
  have H9 : Hid (Calls Tryd.prog 7 #[] W6 fun e w' => e = .returned (.bool true) ∧ Below W6.heap.size W6 w') := begun_call W6
  have H10 : Hid (∀ W, Below W6.heap.size W6 W → Calls Tryd.prog 8 #[.agg #[.int .i64 n, .slice ao es.length ac], .agg #[.int .i64 n, .slice vo es.length vc]] W fun e w' => e = .returned (.bool true) ∧ Below W.heap.size W w') := fun W hW => kept_true n _ _ es W (HEO6.out.below hW) (HE.out.below (below_next hB6 hW))
  have hneq := neq27 c d
  clear q0 q1 hb5 hb5a hb7 t7 HT4 HT14 HT34 HEO4 hB4
  go_upto_region 6 with (first
    | (go_at_call 7; refine Calls.mono H9.out ?_; rintro e W7 ⟨rfl, hb7⟩; have t77 := two_next HT7.out hb7; have t47 := two_next HT46.out hb7; have t17 := two_next HT16.out hb7; have t37 := two_next HT36.out hb7; obtain ⟨q0, q1⟩ := cell_two t77; obtain ⟨q2, q3⟩ := cell_two t47; obtain ⟨q4, q5⟩ := cell_two t17; obtain ⟨q6, q7⟩ := cell_two t37)
    | (go_at_call 8; refine Calls.mono (H10.out _ hb7) ?_; rintro e W8 ⟨rfl, hb8⟩)
    | go_in)
  have hb68 := below_next hb7 hb8
  have hB8 := below_next hB6 hb68
  have t48 := two_next HT46.out hb68
  have t18 := two_next HT16.out hb68
  clear q0 q1 q2 q3 q4 q5 q6 q7 t77 t47 t17 t37 hb7 hb8 H9 H10 hneq HT7 HT46 HT16 HT36 HEO6 hB6
  obtain ⟨q2, q3⟩ := cell_two t48
  obtain ⟨q4, q5⟩ := cell_two t18
  go_wp2
  go_ret
  exact ⟨rfl, hB8⟩
set_option maxRecDepth 4000 in
set_option maxHeartbeats 3000000 in
theorem cliqueLaw_ok {w : World} {N : Nat} {vo : Option Addr} {vc : Nat} {es : List Pair} (hE : EdgesAt w (.slice vo es.length vc) es) (hcap : es.length ≤ vc) (hs : (chk N es).1 = 0) (hN : N ≤ 24) (ht : T32 w) :
    Calls Tryd.prog 3 #[.agg #[.int .i64 (N : Int), .slice vo es.length vc]] w fun e w' => e = .returned (.bool true) ∧ Below w.heap.size w w' := by
  obtain ⟨T, hT⟩ : ∃ T, T = cq (adjE es) (List.range N) [] [] := ⟨_, rfl⟩
  obtain ⟨tn, htn⟩ : ∃ tn, tn = T.length := ⟨_, rfl⟩
  have HT : Hid (T = cq (adjE es) (List.range N) [] []) := hT
  have HTN : Hid (tn = T.length) := htn
  have HTAB : Hid (T32 w) := ht
  clear hT htn ht
  have HE : Hid (EdgesAt w (.slice vo es.length vc) es) := hE
  have hsm : smallF (N : Int) es ((24 : Nat) : Int) = (0, 0) := by
    unfold smallF
    rw [if_pos hs, if_neg (by omega)]
  have HS : Hid (smallF (N : Int) es ((24 : Nat) : Int) = (0, 0)) := hsm
  have HCHK : Hid ((chk (N : Int) es).1 = 0) := hs
  clear hE hs hsm
  go_enter Tryd.func3, Tryd.ntmps3
  go_upto_region 1 with (fail)
  have t1 := two_new w (.int .i64 (N : Int)) (.slice vo es.length vc) 24
  have hB0 := below_alloc (Below.refl _ w) (Obj.cells #[.int .i64 (N : Int), .slice vo es.length vc] 24)
  obtain ⟨b1, hb1⟩ : ∃ b, b = w.heap.size := ⟨_, rfl⟩
  rw [← hb1] at t1 ⊢
  generalize w.alloc (Obj.cells #[.int .i64 (N : Int), .slice vo es.length vc] 24) = W0 at t1 hB0 ⊢
  have HT1 : Hid (Two W0 b1 (.int .i64 (N : Int)) (.slice vo es.length vc) 24) := t1
  obtain ⟨q0, q1⟩ := cell_two t1
  have h6 := own_any (N : Int) vo vc es W0 (HE.out.below hB0)
  have H6 : Hid (Calls Tryd.prog 4 #[.agg #[.int .i64 (N : Int), .slice vo es.length vc]] W0 fun e w' => Below W0.heap.size W0 w' ∧ ∃ ao c, e = .returned (.agg #[.int .i64 (N : Int), .slice ao es.length c]) ∧ EdgesAt w' (.slice ao es.length c) es ∧ es.length ≤ c) := h6
  clear hb1 h6 t1
  go_upto_region 2 with (first | (go_at_call 4; refine Calls.mono H6.out ?_; rintro e W1 ⟨hb1, ao, ac, rfl, hEo, _⟩) | go_in)
  have hb1a := below_alloc hb1 (Obj.cells #[.int .i64 (N : Int), .slice ao es.length ac] 24)
  have t3 := two_new W1 (.int .i64 (N : Int)) (.slice ao es.length ac) 24
  have HEO : Hid (EdgesAt (W1.alloc (Obj.cells #[.int .i64 (N : Int), .slice ao es.length ac] 24)) (.slice ao es.length ac) es) := hEo.below (below_alloc (Below.refl _ W1) _)
  obtain ⟨b3, hb3⟩ : ∃ b, b = W1.heap.size := ⟨_, rfl⟩
  rw [← hb3] at t3 ⊢
  generalize W1.alloc (Obj.cells #[.int .i64 (N : Int), .slice ao es.length ac] 24) = W2 at t3 hb1a HEO ⊢
  have t12 := two_next HT1.out hb1a
  have HT12 : Hid (Two W2 b1 (.int .i64 (N : Int)) (.slice vo es.length vc) 24) := t12
  have HT3 : Hid (Two W2 b3 (.int .i64 (N : Int)) (.slice ao es.length ac) 24) := t3
  have hB2 := below_next hB0 hb1a
  clear q0 q1 H6 hb1 hEo hb3 hb1a t3 HT1 hB0
  obtain ⟨q0, q1⟩ := cell_two t12
  clear t12
  have h7 := smallFault_call (most := 24) (n := (N : Int)) (HE.out.below hB2) hcap
  rw [HS.out] at h7
  have H7 : Hid (Calls Tryd.prog 5 #[.agg #[.int .i64 (N : Int), .slice vo es.length vc], .int .i64 24] W2 fun e w' => e = .returned (.agg #[.int .i64 0, .int .i64 0]) ∧ Below W2.heap.size W2 w') := h7
  clear h7
  go_upto_region 3 with (first | (go_at_call 5; refine Calls.mono H7.out ?_; rintro e W3 ⟨rfl, hb3⟩) | go_in)
  have hb3a := below_alloc hb3 (Obj.cells #[.int .i64 0, .int .i64 0] 27)
  have t4 := two_new W3 (.int .i64 0) (.int .i64 0) 27
  have HEO4 : Hid (EdgesAt (W3.alloc (Obj.cells #[.int .i64 0, .int .i64 0] 27)) (.slice ao es.length ac) es) := HEO.out.below hb3a
  obtain ⟨b4, hb4⟩ : ∃ b, b = W3.heap.size := ⟨_, rfl⟩
  rw [← hb4] at t4 ⊢
  generalize W3.alloc (Obj.cells #[.int .i64 0, .int .i64 0] 27) = W4 at t4 hb3a HEO4 ⊢
  have HT4 : Hid (Two W4 b4 (.int .i64 0) (.int .i64 0) 27) := t4
  have t14 := two_next HT12.out hb3a
  have t34 := two_next HT3.out hb3a
  have HT14 : Hid (Two W4 b1 (.int .i64 (N : Int)) (.slice vo es.length vc) 24) := t14
  have HT34 : Hid (Two W4 b3 (.int .i64 (N : Int)) (.slice ao es.length ac) 24) := t34
  have hB4 := below_next hB2 hb3a
  clear q0 q1 H7 hb3 hb4 hb3a t4 t14 HT12 HT3 hB2 HEO
  obtain ⟨q0, q1⟩ := cell_two t34
  clear t34
  have ht4 : T32 W4 := t32_turns HTAB.out (Turns.of_below hB4 (fun _ => False)) id
  have H14 : Hid (Calls Tryd.prog 6 #[.agg #[.int .i64 (N : Int), .slice ao es.length ac]] W4 fun e w' => ∃ bo bc, e = .returned (.tuple #[.slice bo tn bc, .agg #[.int .i64 0, .int .i64 0]]) ∧ NumsAt w' bo T ∧ Below W4.heap.size W4 w') := clique_ok HEO4.out HCHK.out hN ht4 HT.out HTN.out
  go_upto_region 4 with (first | (go_at_call 6; refine Calls.mono H14.out ?_; rintro e W5 ⟨bo, bc, rfl, hnum, hb5⟩) | go_in)
  have t7 := two_new W5 (.int .i64 0) (.int .i64 0) 27
  have hb5a := below_alloc hb5 (Obj.cells #[.int .i64 0, .int .i64 0] 27)
  have hnum6 := hnum.below (below_alloc (Below.refl _ W5) (Obj.cells #[.int .i64 0, .int .i64 0] 27))
  obtain ⟨b7, hb7⟩ : ∃ b, b = W5.heap.size := ⟨_, rfl⟩
  rw [← hb7] at t7 ⊢
  generalize W5.alloc (Obj.cells #[.int .i64 0, .int .i64 0] 27) = W6 at t7 hb5a hnum6 ⊢
  have HNUM6 : Hid (NumsAt W6 bo T) := hnum6
  clear hnum hnum6 H14 ht4
  have HLOW7 : Hid (w.heap.size ≤ b7) := by
    have h1 := hB4.size
    have h2 := hb5.size
    show w.heap.size ≤ b7
    omega
  have HT7 : Hid (Two W6 b7 (.int .i64 0) (.int .i64 0) 27) := t7
  have HT46 : Hid (Two W6 b4 (.int .i64 0) (.int .i64 0) 27) := two_next HT4.out hb5a
  have HT16 : Hid (Two W6 b1 (.int .i64 (N : Int)) (.slice vo es.length vc) 24) := two_next HT14.out hb5a
  have HT36 : Hid (Two W6 b3 (.int .i64 (N : Int)) (.slice ao es.length ac) 24) := two_next HT34.out hb5a
  have HEO6 : Hid (EdgesAt W6 (.slice ao es.length ac) es) := HEO4.out.below hb5a
  have hB6 := below_next hB4 hb5a
  have H9 : Hid (Calls Tryd.prog 7 #[] W6 fun e w' => e = .returned (.bool true) ∧ Below W6.heap.size W6 w') := begun_call W6
  have H10 : Hid (∀ W, Below W6.heap.size W6 W → Calls Tryd.prog 8 #[.agg #[.int .i64 (N : Int), .slice ao es.length ac], .agg #[.int .i64 (N : Int), .slice vo es.length vc]] W fun e w' => e = .returned (.bool true) ∧ Below W.heap.size W w') := fun W hW => kept_true (N : Int) _ _ es W (HEO6.out.below hW) (HE.out.below (below_next hB6 hW))
  have hneq := neq27 0 0
  clear q0 q1 hb5 hb5a hb7 t7 HT4 HT14 HT34 HEO4 hB4
  go_upto_region 6 with (first
    | (go_at_call 7; refine Calls.mono H9.out ?_; rintro e W7 ⟨rfl, hb7⟩; have t77 := two_next HT7.out hb7; have t47 := two_next HT46.out hb7; have t17 := two_next HT16.out hb7; have t37 := two_next HT36.out hb7; obtain ⟨q0, q1⟩ := cell_two t77; obtain ⟨q2, q3⟩ := cell_two t47; obtain ⟨q4, q5⟩ := cell_two t17; obtain ⟨q6, q7⟩ := cell_two t37)
    | (go_at_call 8; refine Calls.mono (H10.out _ hb7) ?_; rintro e W8 ⟨rfl, hb8⟩)
    | go_in)
  have hb68 := below_next hb7 hb8
  have hB8 := below_next hB6 hb68
  have t48 := two_next HT46.out hb68
  have t18 := two_next HT16.out hb68
  have HT78 : Hid (Two W8 b7 (.int .i64 0) (.int .i64 0) 27) := two_next HT7.out hb68
  clear q0 q1 q2 q3 q4 q5 q6 q7 t77 t47 t17 t37 hb7 hb8 H9 H10 hneq HT7 HT46 HT16 HT36 HEO6 hB6
  have HT18 : Hid (Two W8 b1 (.int .i64 (N : Int)) (.slice vo es.length vc) 24) := t18
  obtain ⟨q2, q3⟩ := cell_two t48
  obtain ⟨q4, q5⟩ := cell_two t18
  have HNUM8 : Hid (NumsAt W8 bo T) := HNUM6.out.below hb68
  obtain ⟨_, _, _, hlen, hgood⟩ := chk_good HCHK.out
  have HGD : Hid (∀ e ∈ es, (0 ≤ e.1 ∧ e.1 < (N : Int) ∧ 0 ≤ e.2 ∧ e.2 < (N : Int)) ∧ e.1 ≠ e.2) := hgood
  by_cases h14 : N ≤ 14
  · have i1 : ¬ ((N : Int) > 14) := by omega
    have h11 := gridOf_any N _ es W8 (HE.out.below hB8) (by omega) hlen hgood
    have H11 : Hid (Calls Tryd.prog 11 #[.agg #[.int .i64 (N : Int), .slice vo es.length vc]] W8 fun e w' => Below W8.heap.size W8 w' ∧ ∃ ao cap, e = .returned (.slice ao N cap) ∧ GridAt w' (.slice ao N cap) N (hasB es)) := h11
    have H10 : Hid (∀ (W : World) (v : Value), GridAt W v N (hasB es) → Calls Tryd.prog 10 #[v] W fun e w' => ∃ bo bc, e = .returned (.slice bo tn bc) ∧ NumsAt w' bo T ∧ Below W.heap.size W w') := fun W v hG => refClique_call (by omega) hG (fun x y => hasB_comm es x y) HT.out HTN.out
    have H9 : Hid (∀ (W : World) (vo wo : Option Addr) (vc wc : Nat), NumsAt W vo T → NumsAt W wo T → Calls Tryd.prog 9 #[.slice vo tn vc, .slice wo tn wc] W fun e w' => e = .returned (.bool true) ∧ Below W.heap.size W w') := fun W vo wo vc wc h1 h2 => by
      have hTl : T.length ≤ 100 := by
        rw [HT.out]
        have := cq_le (adjE es) (List.range N).length (List.range N) [] [] (Nat.le_refl _)
        simp at this
        omega
      have hmem : ∀ x ∈ T, x < N := by
        have h := cq_isC (adj := adjE es) (n := N) (List.range N).length (List.range N) [] [] (Nat.le_refl _) ⟨fun x hx => by simp at hx, List.Pairwise.nil⟩ ⟨fun x hx => by simp at hx, List.Pairwise.nil⟩ (fun v hv => ⟨List.mem_range.1 hv, fun x hx => by simp at hx⟩)
        rw [← HT.out] at h
        exact h.1
      rw [HTN.out]
      exact ints_true _ _ (T.map (fun (x : Nat) => (x : Int))) W (ints_nums h1 (by omega) (fun x hx => by have := hmem x hx; omega)) (ints_nums h2 (by omega) (fun x hx => by have := hmem x hx; omega))
    clear h11 hgood hlen
    go_upto_region 12 with (first
      | (go_at_call 11; refine Calls.mono H11.out ?_; rintro e W9 ⟨hb9, gao, gcap, rfl, hG⟩; have HG : Hid (GridAt W9 (.slice gao N gcap) N (hasB es)) := hG; clear hG)
      | (go_at_call 10; refine Calls.mono (H10.out _ _ HG.out) ?_; rintro e WA ⟨bo2, bc2, rfl, hn2, hbA⟩; have HN2 : Hid (NumsAt WA bo2 T) := hn2; have HN1 : Hid (NumsAt WA bo T) := (HNUM8.out.below hb9).below hbA; clear hn2)
      | (go_at_call 9; refine Calls.mono (H9.out _ _ _ _ _ HN1.out HN2.out) ?_; rintro e WC ⟨rfl, hbC⟩)
      | go_in)
    have hb8C := below_next hb9 (below_next hbA hbC)
    have hBC := below_next hB8 hb8C
    have t1C := two_next HT18.out hb8C
    have t7C := two_next HT78.out hb8C
    have HT7C : Hid (Two WC b7 (.int .i64 0) (.int .i64 0) 27) := t7C
    have HEC : Hid (EdgesAt WC (.slice vo es.length vc) es) := HE.out.below hBC
    have hlow7 := HLOW7.out
    clear q2 q3 q4 q5 t48 t18 H11 H10 H9 HG HN1 HN2 hb9 hbA hbC t7C
    obtain ⟨q4, q5⟩ := cell_two t1C
    by_cases h12 : N ≤ 12
    · have h8 := number_ok HEC.out HCHK.out h12
      have H8 : Hid (Calls Tryd.prog 12 #[.agg #[.int .i64 (N : Int), .slice vo es.length vc]] WC fun e w' => ∃ (k : Nat) (l : Value), e = .returned (.tuple #[.int .i64 (k : Int), l, .agg #[.int .i64 0, .int .i64 0]]) ∧ NumIs N es WC w' k l ∧ Below WC.heap.size WC w') := h8
      clear h8
      go_upto_region 13 with (first | (go_at_call 12; refine Calls.mono H8.out ?_; rintro e WD ⟨k, lv, rfl, hnum, hbD⟩; have t7D := two_next HT7C.out hbD; have ff := free_two t7D; obtain ⟨r0, r1⟩ := cell_two t7D) | go_in)
      have hkt : tn ≤ k := by
        obtain ⟨_, ⟨g, Mc, _, _, hMl, _, hP⟩, _⟩ := hnum
        have h := cq_isC (adj := adjE es) (n := N) (List.range N).length (List.range N) [] [] (Nat.le_refl _) ⟨fun x hx => by simp at hx, List.Pairwise.nil⟩ ⟨fun x hx => by simp at hx, List.Pairwise.nil⟩ (fun v hv => ⟨List.mem_range.1 hv, fun x hx => by simp at hx⟩)
        rw [← HT.out] at h
        rw [HTN.out]
        refine clique_colours h (fun x => Mc.getD x 0) (fun x hx => hP.lt x (by omega)) (fun x y hx hy hxy => ?_)
        have hne : x ≠ y := fun e => by
          subst e
          unfold adjE hasB at hxy
          obtain ⟨q, hq, hqq⟩ := List.any_eq_true.1 hxy
          have := (HGD.out q hq).2
          simp at hqq
          omega
        rcases Nat.lt_or_gt_of_ne hne with hlt | hgt
        · exact fun e => hP.ne y x (by omega) hlt (by unfold adjE at hxy ⊢; rw [hasB_comm]; exact hxy) e.symm
        · exact hP.ne x y (by omega) hgt hxy
      have x9 := two_setN (x' := .int .i64 0) (y' := .int .i64 0) t7D
      have hB9 := ((below_next hBC hbD).setCell (p := ⟨b7, 0, none⟩) hlow7 (.int .i64 0)).setCell (p := ⟨b7, 1, none⟩) hlow7 (.int .i64 0)
      generalize (WD.setCell ⟨b7, 0, none⟩ (.int .i64 0)).setCell ⟨b7, 1, none⟩ (.int .i64 0) = WE at x9 hB9 ⊢
      obtain ⟨s0, s1⟩ := cell_two x9
      have k1 : (k : Int) ≥ (tn : Int) := by omega
      clear hnum t7D ff r0 r1 x9 q4 q5 t1C hkt
      go_wp2
      go_ret
      exact ⟨by simp, hB9⟩
    · have hsm : smallF (N : Int) es ((12 : Nat) : Int) = (2, 0) := by
        unfold smallF
        rw [if_pos HCHK.out, if_pos (by omega)]
      have h8 := number_bad (n := (N : Int)) HEC.out hsm (by omega)
      have H8 : Hid (Calls Tryd.prog 12 #[.agg #[.int .i64 (N : Int), .slice vo es.length vc]] WC fun e w' => e = .returned (.tuple #[.int .i64 0, .slice none 0 0, .agg #[.int .i64 2, .int .i64 0]]) ∧ Below WC.heap.size WC w') := h8
      clear h8 hsm
      go_upto_region 13 with (first | (go_at_call 12; refine Calls.mono H8.out ?_; rintro e WD ⟨rfl, hbD⟩; have t7D := two_next HT7C.out hbD; have ff := free_two t7D; obtain ⟨r0, r1⟩ := cell_two t7D) | go_in)
      have x9 := two_setN (x' := .int .i64 2) (y' := .int .i64 0) t7D
      have hB9 := ((below_next hBC hbD).setCell (p := ⟨b7, 0, none⟩) hlow7 (.int .i64 2)).setCell (p := ⟨b7, 1, none⟩) hlow7 (.int .i64 0)
      generalize (WD.setCell ⟨b7, 0, none⟩ (.int .i64 2)).setCell ⟨b7, 1, none⟩ (.int .i64 0) = WE at x9 hB9 ⊢
      obtain ⟨s0, s1⟩ := cell_two x9
      clear t7D ff r0 r1 x9 q4 q5 t1C
      go_wp2
      go_ret
      exact ⟨rfl, hB9⟩
  · have i1 : (N : Int) > 14 := by omega
    go_wp2
    go_ret
    exact ⟨rfl, hB8⟩
end Go.Proofs.YtdnmoifbkojnlaaDoor
