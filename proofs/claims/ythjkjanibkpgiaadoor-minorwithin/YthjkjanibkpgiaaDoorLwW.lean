/- MinorWithin's walk. -/
import Derived.Test.YthjkjanibkpgiaaDoorOwnS
import Derived.Test.YthjkjanibkpgiaaDoorRowsP
import Derived.Deep.CutBlock
namespace Go.Proofs.YthjkjanibkpgiaaDoor
set_option maxRecDepth 8000
open Go.RowKit Go.Maps
attribute [local go_sem ↓] Go.wp_at_zero Go.wp_at_succ
def zL (T : List Nat) : List Int := T.map fun (x : Nat) => (x : Int)
theorem ints_own {w : World} {base vc : Nat} {vo : Option Addr} {T : List Nat} (h : w.ownsRow base 3 1 (.slice vo T.length vc) T.length (qv T)) (hT : ∀ x ∈ T, x < 1000000000) (hl : T.length ≤ 1000) : IntsAt w (.slice vo T.length vc) (zL T) := by
  have e1 : (zL T).length = T.length := by simp [zL]
  have e2 : (zL T).map (Value.int .i64) = qv T := by simp [zL, qv]
  refine intsAt_row (base := base) (by rw [e1, e2]; exact h) (fun x hx => ?_) (by rw [e1]; omega)
  obtain ⟨y, hy, rfl⟩ := List.mem_map.1 hx
  have := hT y hy
  exact ⟨by omega, by omega⟩
theorem ints_num {w : World} {vc : Nat} {vo : Option Addr} {T : List Nat} (h : NumF w vo T.length (fun i => (T.getD i 0 : Int))) (hT : ∀ x ∈ T, x < 1000000000) (hl : T.length ≤ 1000) : IntsAt w (.slice vo T.length vc) (zL T) := by
  have e1 : (zL T).length = T.length := by simp [zL]
  refine ⟨vo, vc, by rw [e1], by rw [e1]; omega, fun x hx => ?_, fun k hk => ?_⟩
  · obtain ⟨y, hy, rfl⟩ := List.mem_map.1 hx
    have := hT y hy
    exact ⟨by omega, by omega⟩
  · have hk' : k < T.length := by rw [e1] at hk; exact hk
    obtain ⟨b, off, e, c⟩ := h k hk'
    refine ⟨b, off, e, ?_⟩
    rw [c]
    simp [zL, hk']
/-- What Within answers, its first part; ok. -/
def WthB (B : Nat) (w' : World) (n : Int) (es : List Pair) (n2 : Int) (es2 : List Pair) (P : Int × Int) (y : Value) (ok : Bool) : Prop :=
  (P.1 ≠ 0 ∧ y = .slice none 0 0 ∧ ok = false) ∨ (P = (0, 0) ∧ ∀ (N M : Nat) (eg eh : List E2), n = N → n2 = M → es = pzT eg → es2 = pzT eh → ok = (fitL N (gB (nearF eg)) (hB (nearF eh)) M []).isSome ∧ SlV B (fitL N (gB (nearF eg)) (hB (nearF eh)) M []) y w')
theorem wthB_of {B : Nat} {w' : World} {n : Int} {es : List Pair} {n2 : Int} {es2 : List Pair} {e : Ending} (h : WthA B w' n es n2 es2 e) : ∃ y ok, e = .returned (.tuple #[y, .bool ok, .agg #[.int .i64 (chk2 n es n2 es2).1, .int .i64 (chk2 n es n2 es2).2]]) ∧ WthB B w' n es n2 es2 (chk2 n es n2 es2) y ok := by
  rcases h with ⟨h0, rfl⟩ | ⟨h0, N, M, eg, eh, y, rfl, rfl, rfl, rfl, _, _, _, _, _, _, rfl, h7⟩
  · exact ⟨_, _, rfl, Or.inl ⟨h0, rfl, rfl⟩⟩
  · refine ⟨_, _, by rw [h0], Or.inr ⟨h0, fun N' M' eg' eh' e1 e2 e3 e4 => ?_⟩⟩
    obtain rfl : N = N' := by omega
    obtain rfl : M = M' := by omega
    obtain rfl := pzT_inj e3
    obtain rfl := pzT_inj e4
    exact ⟨rfl, h7⟩
theorem fit_same {N M : Nat} {eg eh : List E2} (h1 : ∀ e ∈ eg, e.1 ≠ e.2) (h2 : ∀ e ∈ eh, e.1 ≠ e.2) : fitL N (fun (i j : Nat) => hasB (pzT eg) i j) (fun (i j : Nat) => hasB (pzT eh) i j) M [] = fitL N (gB (nearF eg)) (hB (nearF eh)) M [] :=
  fitL_congr (M := M) (fun x y _ _ => by rw [hasB_adj]; unfold gB; rw [nearF_bit eg h1, adjE_comm]) (fun x y _ _ => by rw [hasB_adj]; unfold hB; rw [nearF_bit eh h2]) M [] (by simp) (fun x hx => by cases hx)
def VL (N M : Nat) (ao ao2 : Option Addr) (el el2 cap cap2 : Nat) (eg eh : List E2) (rb : Bool) (zl : List Int) : Nat → Value → World → Prop
  | 0, x, _ => x = .agg #[.int .i64 (N : Int), .slice ao el cap]
  | 1, x, w => ∃ go gc, x = .slice go N gc ∧ GridAt w (.slice go N gc) N (hasB (pzT eg))
  | 2, x, _ => x = .agg #[.int .i64 (M : Int), .slice ao2 el2 cap2]
  | 3, x, w => ∃ go gc, x = .slice go M gc ∧ GridAt w (.slice go M gc) M (hasB (pzT eh))
  | 4, x, w => ∃ z, x = .tuple #[z, .bool rb] ∧ IntsAt w z zl
  | 5, x, w => ∃ z, x = .tuple #[z, .bool rb] ∧ IntsAt w z zl
  | 6, x, w => IntsAt w x zl
  | 8, x, w => IntsAt w x zl
  | _, x, _ => x = .bool rb
theorem VL.mono {N M : Nat} {ao ao2 : Option Addr} {el el2 cap cap2 : Nat} {eg eh : List E2} {rb : Bool} {zl : List Int} : ∀ i x (w w' : World), VL N M ao ao2 el el2 cap cap2 eg eh rb zl i x w → Below w.heap.size w w' → VL N M ao ao2 el el2 cap cap2 eg eh rb zl i x w' := fun i x w w' h hb => by
  match i, h with
  | 0, h => exact h
  | 1, ⟨b, c, e, h⟩ => exact ⟨b, c, e, h.below hb⟩
  | 2, h => exact h
  | 3, ⟨b, c, e, h⟩ => exact ⟨b, c, e, h.below hb⟩
  | 4, ⟨y, e, h⟩ => exact ⟨y, e, h.below hb⟩
  | 5, ⟨y, e, h⟩ => exact ⟨y, e, h.below hb⟩
  | 6, h => exact IntsAt.below h hb
  | 7, h => exact h
  | 8, h => exact IntsAt.below h hb
  | _ + 9, h => exact h
set_option maxHeartbeats 16000000 in
theorem within_law {w : World} {n n2 : Int} {ao ao2 : Option Addr} {cap cap2 : Nat} {es es2 : List Pair} (hE : EdgesAt w (.slice ao es.length cap) es) (hcap : es.length ≤ cap) (hE2 : EdgesAt w (.slice ao2 es2.length cap2) es2) (hcap2 : es2.length ≤ cap2) (hT : T32 w) :
    Calls Tryd.prog 4 #[.agg #[.int .i64 n, .slice ao es.length cap], .agg #[.int .i64 n2, .slice ao2 es2.length cap2]] w fun e w' => e = .returned (.bool true) ∧ Below w.heap.size w w' := by
  obtain ⟨el, hel⟩ : ∃ el, el = es.length := ⟨_, rfl⟩
  obtain ⟨el2, hel2⟩ : ∃ el, el = es2.length := ⟨_, rfl⟩
  have C5 : Hid (∀ A, Below w.heap.size w A → Calls Tryd.prog 5 #[.agg #[.int .i64 n, .slice ao el cap]] A fun e w' => Below A.heap.size A w' ∧ ∃ ao c, e = .returned (.agg #[.int .i64 n, .slice ao el c]) ∧ EdgesAt w' (.slice ao el c) es ∧ el ≤ c) := fun A hA => by rw [hel]; exact own_any n ao cap es A (hE.below hA)
  have C5b : Hid (∀ A, Below w.heap.size w A → Calls Tryd.prog 5 #[.agg #[.int .i64 n2, .slice ao2 el2 cap2]] A fun e w' => Below A.heap.size A w' ∧ ∃ ao c, e = .returned (.agg #[.int .i64 n2, .slice ao el2 c]) ∧ EdgesAt w' (.slice ao el2 c) es2 ∧ el2 ≤ c) := fun A hA => by rw [hel2]; exact own_any n2 ao2 cap2 es2 A (hE2.below hA)
  obtain ⟨P, hP⟩ : ∃ P, P = chk2 n es n2 es2 := ⟨_, rfl⟩
  have C6 : Hid (∀ A, Below w.heap.size w A → Calls Tryd.prog 6 #[.agg #[.int .i64 n, .slice ao el cap], .agg #[.int .i64 n2, .slice ao2 el2 cap2]] A fun e w' => e = .returned (.agg #[.int .i64 P.1, .int .i64 P.2]) ∧ Below A.heap.size A w') := fun A hA => by rw [hel, hel2, hP]; exact twoF_call (hE.below hA) hcap (hE2.below hA) hcap2
  have C13 : Hid (∀ A v c v2 c2, Below w.heap.size w A → EdgesAt A (.slice v el c) es → EdgesAt A (.slice v2 el2 c2) es2 → Calls Tryd.prog 13 #[.agg #[.int .i64 n, .slice v el c], .agg #[.int .i64 n2, .slice v2 el2 c2]] A fun e w' => (∃ y ok, e = .returned (.tuple #[y, .bool ok, .agg #[.int .i64 P.1, .int .i64 P.2]]) ∧ WthB A.heap.size w' n es n2 es2 P y ok) ∧ Below A.heap.size A w') := fun A v c v2 c2 hA hEA hEB => by
    rw [hel] at hEA ⊢
    rw [hel2] at hEB ⊢
    rw [hP]
    exact (within_call (n := n) (n2 := n2) hEA hEB (hT.below hA)).mono fun e w' ⟨h1, h2⟩ => ⟨wthB_of h1, h2⟩
  have C8 : Hid (∀ A, Below w.heap.size w A → Calls Tryd.prog 8 #[] A fun e w' => e = .returned (.bool true) ∧ Below A.heap.size A w') := fun A hA => begun_call (hT.below hA)
  have HE : Hid (EdgesAt w (.slice ao el cap) es ∧ EdgesAt w (.slice ao2 el2 cap2) es2) := by rw [hel, hel2]; exact ⟨hE, hE2⟩
  have HP : Hid (P = chk2 n es n2 es2 ∧ el = es.length ∧ el2 = es2.length) := ⟨hP, hel, hel2⟩
  rw [← hel, ← hel2]
  clear hE hcap hE2 hcap2 hT hP hel hel2
  obtain ⟨p1, p2⟩ := P
  simp only at C6 C13 HP
  have hneq := neq27 p1 p2
  go_enter Tryd.func4, Tryd.ntmps4
  go_upto_region 1 with (fail)
  have t1 := two_alloc (two_new w (.int .i64 n) (.slice ao el cap) 24) (Obj.cells #[.int .i64 n2, .slice ao2 el2 cap2] 24)
  have t2 := two_new (w.alloc (Obj.cells #[.int .i64 n, .slice ao el cap] 24)) (.int .i64 n2) (.slice ao2 el2 cap2) 24
  rw [show (w.alloc (Obj.cells #[.int .i64 n, .slice ao el cap] 24)).heap.size = w.heap.size + 1 by simp] at t2
  have hB0 : Below w.heap.size w ((w.alloc (Obj.cells #[.int .i64 n, .slice ao el cap] 24)).alloc (Obj.cells #[.int .i64 n2, .slice ao2 el2 cap2] 24)) := below_alloc (below_alloc (Below.refl _ w) _) _
  generalize w.heap.size + 1 = bh at t2 ⊢
  generalize hbg : w.heap.size = bg at t1 ⊢
  generalize (w.alloc (Obj.cells #[.int .i64 n, .slice ao el cap] 24)).alloc (Obj.cells #[.int .i64 n2, .slice ao2 el2 cap2] 24) = W0 at *
  have HW0 : Hid (Two W0 bg (.int .i64 n) (.slice ao el cap) 24 ∧ Two W0 bh (.int .i64 n2) (.slice ao2 el2 cap2) 24 ∧ Below w.heap.size w W0) := ⟨t1, t2, hbg ▸ hB0⟩
  clear t1 t2 hB0 hbg
  refine region_ext (J := S24 W0 (VO n n2 ao ao2 el el2 cap cap2 es es2)) (by kernel_rfl) (by kernel_rfl) (by kernel_rfl) S24.start ?_ ?_
  · intro i o hi L xs a w1 hS hL hd hcl hX
    match i, hi with
    | 0, hi =>
      cases hi
      have s1 := hX.out (s := 2) rfl
      obtain ⟨y0, y1⟩ := cell_two (two_next HW0.out.1 hS.bel)
      refine wpOp_value rfl rfl (v := .agg #[.int .i64 n, .slice ao el cap]) (w' := w1) ?_ ⟨_, rfl, hS.put VO.mono hL (by omega) (Below.refl _ _) rfl⟩
      simp [go_sem, Act.eval, s1, y0, y1]
    | 1, hi =>
      cases hi
      have l1 := hd ⟨0, .data⟩ (by simp) rfl
      have r1 := (hX.rd 0 _ 13 rfl rfl l1).trans (hS.told 0 (by omega) l1)
      refine wpOp_call rfl rfl (f := 5) (args := #[.agg #[.int .i64 n, .slice ao el cap]]) (w' := w1) ?_ ?_
      · simp [go_sem, Act.eval, r1]
      · refine Calls.mono (C5.out _ (below_next HW0.out.2.2 hS.bel)) ?_
        rintro e w2 ⟨hB', oo, c, rfl, hE', _⟩
        exact ⟨_, rfl, _, rfl, hS.put VO.mono hL (by omega) hB' ⟨oo, c, rfl, hE'⟩⟩
    | 2, hi =>
      cases hi
      have s1 := hX.out (s := 3) rfl
      obtain ⟨y0, y1⟩ := cell_two (two_next HW0.out.2.1 hS.bel)
      refine wpOp_value rfl rfl (v := .agg #[.int .i64 n2, .slice ao2 el2 cap2]) (w' := w1) ?_ ⟨_, rfl, hS.put VO.mono hL (by omega) (Below.refl _ _) rfl⟩
      simp [go_sem, Act.eval, s1, y0, y1]
    | 3, hi =>
      cases hi
      have l1 := hd ⟨2, .data⟩ (by simp) rfl
      have r1 := (hX.rd 2 _ 15 rfl rfl l1).trans (hS.told 2 (by omega) l1)
      refine wpOp_call rfl rfl (f := 5) (args := #[.agg #[.int .i64 n2, .slice ao2 el2 cap2]]) (w' := w1) ?_ ?_
      · simp [go_sem, Act.eval, r1]
      · refine Calls.mono (C5b.out _ (below_next HW0.out.2.2 hS.bel)) ?_
        rintro e w2 ⟨hB', oo, c, rfl, hE', _⟩
        exact ⟨_, rfl, _, rfl, hS.put VO.mono hL (by omega) hB' ⟨oo, c, rfl, hE'⟩⟩
    | 4, hi =>
      cases hi
      refine wpOp_value rfl rfl (v := ptr w1.heap.size) (w' := w1.alloc (Obj.cells #[.int .i64 0, .slice none 0 0] 24)) ?_ ⟨_, rfl, hS.alloc4 VO.mono hL⟩
      simp [go_sem]
    | 5, hi =>
      cases hi
      refine wpOp_value rfl rfl (v := ptr w1.heap.size) (w' := w1.alloc (Obj.cells #[.int .i64 0, .slice none 0 0] 24)) ?_ ⟨_, rfl, hS.alloc5 VO.mono hL⟩
      simp [go_sem]
    | 6, hi =>
      cases hi
      have l1 := hd ⟨1, .data⟩ (by simp) rfl
      have l4 := hd ⟨4, .data⟩ (by simp) rfl
      obtain ⟨oo, c, e1, h1⟩ := hS.told 1 (by omega) l1
      obtain ⟨b', e4, _, x0, ao0, k0, c0, h4, _⟩ := hS.a4 l4
      have r1 := (hX.rd 1 _ 14 rfl rfl l1).trans e1
      have r4 := (hX.rd 4 _ 5 rfl rfl l4).trans e4
      obtain ⟨q1, q2, q3, q4, q5, q6⟩ := store_two' h4 (.int .i64 n) (.slice oo el c)
      refine wpOp_skip rfl rfl (w' := (w1.setCell ⟨b', 0, none⟩ (.int .i64 n)).setCell ⟨b', 1, none⟩ (.slice oo el c)) ?_ ⟨undef, rfl, hS.store6 (fun w b x ao k c hh y z => VO.set hh y z) l4 l1 e4 e1 undef⟩
      simp [go_sem, Act.eval, r1, r4, q1, q2, q3, q4]
    | 7, hi =>
      cases hi
      have l1 := hd ⟨3, .data⟩ (by simp) rfl
      have l4 := hd ⟨5, .data⟩ (by simp) rfl
      obtain ⟨oo, c, e1, h1⟩ := hS.told 3 (by omega) l1
      obtain ⟨b', e4, _, x0, ao0, k0, c0, h4, _⟩ := hS.a5 l4
      have r1 := (hX.rd 3 _ 16 rfl rfl l1).trans e1
      have r4 := (hX.rd 5 _ 6 rfl rfl l4).trans e4
      obtain ⟨q1, q2, q3, q4, q5, q6⟩ := store_two' h4 (.int .i64 n2) (.slice oo el2 c)
      refine wpOp_skip rfl rfl (w' := (w1.setCell ⟨b', 0, none⟩ (.int .i64 n2)).setCell ⟨b', 1, none⟩ (.slice oo el2 c)) ?_ ⟨undef, rfl, hS.store7 (fun w b x ao k c hh y z => VO.set hh y z) l4 l1 e4 e1 undef⟩
      simp [go_sem, Act.eval, r1, r4, q1, q2, q3, q4]
    | _ + 8, hi => cases hi
  · intro L xs W1 hS hall
    obtain ⟨oo, oc, e1, hEo⟩ := hS.told 1 (by omega) (hall 1 (by decide))
    obtain ⟨oo2, oc2, e3, hEo2⟩ := hS.told 3 (by omega) (hall 3 (by decide))
    obtain ⟨b5, e4, hb5, x5, ao5, k5, c5, o5, f5⟩ := hS.a4 (hall 4 (by decide))
    obtain ⟨b6, e5, hb6, x6, ao6, k6, c6, o6, f6⟩ := hS.a5 (hall 5 (by decide))
    have f5' := f5 (hall 6 (by decide))
    have f6' := f6 (hall 7 (by decide))
    rw [e1] at f5'
    rw [e3] at f6'
    injection f5' with f5'
    injection f6' with f6'
    have g5 : x5 = .int .i64 n ∧ Value.slice ao5 k5 c5 = .slice oo el oc := by
      have := congrArg Array.toList f5'
      simp at this
      exact ⟨this.1.symm, by rw [this.2.1, this.2.2.1, this.2.2.2]⟩
    have g6 : x6 = .int .i64 n2 ∧ Value.slice ao6 k6 c6 = .slice oo2 el2 oc2 := by
      have := congrArg Array.toList f6'
      simp at this
      exact ⟨this.1.symm, by rw [this.2.1, this.2.2.1, this.2.2.2]⟩
    rw [g5.1, g5.2] at o5
    rw [g6.1, g6.2] at o6
    have hB1 := hS.bel
    simp only [puts, e4, e5]
    generalize xs 0 = z0
    generalize xs 1 = z1
    generalize xs 2 = z2
    generalize xs 3 = z3
    simp only [Act.put, List.setIfInBounds_toArray, List.set_cons_succ, List.set_cons_zero]
    have HW1 : Hid (Two W1 bg (.int .i64 n) (.slice ao el cap) 24 ∧ Two W1 bh (.int .i64 n2) (.slice ao2 el2 cap2) 24 ∧ Below w.heap.size w W1 ∧ Two W1 b5 (.int .i64 n) (.slice oo el oc) 24 ∧ Two W1 b6 (.int .i64 n2) (.slice oo2 el2 oc2) 24 ∧ EdgesAt W1 (.slice oo el oc) es ∧ EdgesAt W1 (.slice oo2 el2 oc2) es2) := ⟨two_next HW0.out.1 hB1, two_next HW0.out.2.1 hB1, below_next HW0.out.2.2 hB1, o5, o6, hEo, hEo2⟩
    clear hS hall e1 e3 e4 e5 f5 f6 f5' f6' g5 g6 o5 o6 hEo hEo2 hB1 hb5 hb6 C5 C5b HW0
    obtain ⟨d0, d1⟩ := cell_two HW1.out.1
    obtain ⟨d2, d3⟩ := cell_two HW1.out.2.1
    go_upto_region 3 with (first | (go_at_call 6; refine Calls.mono (C6.out _ HW1.out.2.2.1) ?_; rintro e W2 ⟨rfl, h2⟩) | fail)
    have x7 := two_new W2 (.int .i64 p1) (.int .i64 p2) 27
    have hB3 := below_alloc (Below.refl _ W2) (Obj.cells #[.int .i64 p1, .int .i64 p2] 27)
    generalize W2.heap.size = b7 at x7 ⊢
    generalize W2.alloc (Obj.cells #[.int .i64 p1, .int .i64 p2] 27) = W3 at *
    have hB13 := below_next h2 hB3
    have HW3 : Hid (Two W3 bg (.int .i64 n) (.slice ao el cap) 24 ∧ Two W3 bh (.int .i64 n2) (.slice ao2 el2 cap2) 24 ∧ Below w.heap.size w W3 ∧ Two W3 b5 (.int .i64 n) (.slice oo el oc) 24 ∧ Two W3 b6 (.int .i64 n2) (.slice oo2 el2 oc2) 24 ∧ EdgesAt W3 (.slice oo el oc) es ∧ EdgesAt W3 (.slice oo2 el2 oc2) es2 ∧ Two W3 b7 (.int .i64 p1) (.int .i64 p2) 27) := ⟨two_next HW1.out.1 hB13, two_next HW1.out.2.1 hB13, below_next HW1.out.2.2.1 hB13, two_next HW1.out.2.2.2.1 hB13, two_next HW1.out.2.2.2.2.1 hB13, HW1.out.2.2.2.2.2.1.below hB13, HW1.out.2.2.2.2.2.2.below hB13, x7⟩
    clear d0 d1 d2 d3 h2 x7 hB3 hB13 C6 HW1
    obtain ⟨d0, d1⟩ := cell_two HW3.out.2.2.2.1
    obtain ⟨d2, d3⟩ := cell_two HW3.out.2.2.2.2.1
    go_upto_region 4 with (first | (go_at_call 13; refine Calls.mono (C13.out _ _ _ _ _ HW3.out.2.2.1 HW3.out.2.2.2.2.2.1 HW3.out.2.2.2.2.2.2.1) ?_; rintro e W4 ⟨⟨y, ok, rfl, hw4⟩, h4⟩) | fail)
    have x10 := two_new W4 (.int .i64 p1) (.int .i64 p2) 27
    have hB5 := below_alloc (Below.refl _ W4) (Obj.cells #[.int .i64 p1, .int .i64 p2] 27)
    generalize W4.heap.size = b10 at x10 ⊢
    have HWY : Hid (WthB W3.heap.size W4 n es n2 es2 (p1, p2) y ok) := hw4
    have HB45 : Hid (Below W4.heap.size W4 (W4.alloc (Obj.cells #[.int .i64 p1, .int .i64 p2] 27))) := below_alloc (Below.refl _ W4) _
    generalize W4.alloc (Obj.cells #[.int .i64 p1, .int .i64 p2] 27) = W5 at *
    have HK : Hid (∀ A, Below W5.heap.size W5 A → Two A bg (.int .i64 n) (.slice ao el cap) 24 ∧ Two A bh (.int .i64 n2) (.slice ao2 el2 cap2) 24 ∧ Below w.heap.size w A ∧ Two A b5 (.int .i64 n) (.slice oo el oc) 24 ∧ Two A b6 (.int .i64 n2) (.slice oo2 el2 oc2) 24 ∧ EdgesAt A (.slice oo el oc) es ∧ EdgesAt A (.slice oo2 el2 oc2) es2 ∧ Two A b7 (.int .i64 p1) (.int .i64 p2) 27 ∧ Two A b10 (.int .i64 p1) (.int .i64 p2) 27 ∧ Below W4.heap.size W4 A) := fun A hA => by
      have hb := below_next h4 (below_next HB45.out hA)
      have hx := HW3.out
      exact ⟨two_next hx.1 hb, two_next hx.2.1 hb, below_next hx.2.2.1 hb, two_next hx.2.2.2.1 hb, two_next hx.2.2.2.2.1 hb, hx.2.2.2.2.2.1.below hb, hx.2.2.2.2.2.2.1.below hb, two_next hx.2.2.2.2.2.2.2 hb, two_next x10 hA, below_next HB45.out hA⟩
    clear d0 d1 d2 d3 hw4 h4 x10 hB5 C13 HW3
    have C9a : Hid (∀ A, Below W5.heap.size W5 A → Calls Tryd.prog 9 #[.agg #[.int .i64 n, .slice oo el oc], .agg #[.int .i64 n, .slice ao el cap]] A fun e w' => e = .returned (.bool true) ∧ Below A.heap.size A w') := fun A hA => by
      have hx := HK.out A hA
      exact kept_true n _ _ es A hx.2.2.2.2.2.1 (HE.out.1.below hx.2.2.1)
    have C9b : Hid (∀ A, Below W5.heap.size W5 A → Calls Tryd.prog 9 #[.agg #[.int .i64 n2, .slice oo2 el2 oc2], .agg #[.int .i64 n2, .slice ao2 el2 cap2]] A fun e w' => e = .returned (.bool true) ∧ Below A.heap.size A w') := fun A hA => by
      have hx := HK.out A hA
      exact kept_true n2 _ _ es2 A hx.2.2.2.2.2.2.1 (HE.out.2.below hx.2.2.1)
    have C8' : Hid (Calls Tryd.prog 8 #[] W5 fun e w' => e = .returned (.bool true) ∧ Below W5.heap.size W5 w') := C8.out _ (HK.out _ (Below.refl _ _)).2.2.1
    clear C8
    go_upto_region 6 with (first
      | (go_at_call 8; refine Calls.mono C8'.out ?_; rintro e V1 ⟨rfl, g1⟩; obtain ⟨y0, y1⟩ := cell_two (HK.out _ g1).2.2.2.2.2.2.2.2.1; obtain ⟨y2, y3⟩ := cell_two (HK.out _ g1).2.2.2.2.2.2.2.1; obtain ⟨y4, y5⟩ := cell_two (HK.out _ g1).2.2.2.1; obtain ⟨y6, y7⟩ := cell_two (HK.out _ g1).1)
      | (go_at_call 9; (have hh := g2); refine Calls.mono (C9b.out _ (below_next g1 g2)) ?_; rintro e V3 ⟨rfl, g3⟩)
      | (go_at_call 9; refine Calls.mono (C9a.out _ g1) ?_; rintro e V2 ⟨rfl, g2⟩; obtain ⟨y8, y9⟩ := cell_two (HK.out _ (below_next g1 g2)).2.2.2.2.1; obtain ⟨ya, yb⟩ := cell_two (HK.out _ (below_next g1 g2)).2.1)
      | fail)
    have HG : Hid (Below W5.heap.size W5 V3) := below_next g1 (below_next g2 g3)
    clear g1 g2 g3 y0 y1 y2 y3 y4 y5 y6 y7 y8 y9 ya yb C9a C9b C8' hneq
    obtain ⟨y0, y1⟩ := cell_two (HK.out _ HG.out).2.2.2.2.2.2.2.1
    have HBw : Hid (Below w.heap.size w V3) := (HK.out _ HG.out).2.2.1
    by_cases h0 : p1 = 0
    · have kc : (p1 != 0) = false := by simpa using h0
      have hck : (chk2 n es n2 es2).1 = 0 := by rw [← HP.out.1]; exact h0
      obtain ⟨g1, g2, g3, g4, g5⟩ := chk2_good hck
      obtain ⟨_, hn0, _, hlen0, hgood⟩ := chk_good g2
      obtain ⟨_, hm0, _, hlen1, hgood2⟩ := chk_good g3
      obtain ⟨N, rfl⟩ := Int.eq_ofNat_of_zero_le hn0
      obtain ⟨M, rfl⟩ := Int.eq_ofNat_of_zero_le hm0
      obtain ⟨eg, rfl, heg⟩ := pzT_nat (N := N) hgood
      obtain ⟨eh, rfl, heh⟩ := pzT_nat (N := M) hgood2
      have hneg := pz_ne hgood
      have hneh := pz_ne hgood2
      obtain ⟨R, hR⟩ : ∃ R, R = fitL N (gB (nearF eg)) (hB (nearF eh)) M [] := ⟨_, rfl⟩
      have hRl : ∀ l, R = some l → l.length = M ∧ ∀ x ∈ l, x < N := fun l hl => by
        rw [hR] at hl
        exact ⟨by simpa using fitL_len M [] l hl, fitL_lt M [] l (fun x hx => by cases hx) hl⟩
      obtain ⟨hok, hsl⟩ : ok = R.isSome ∧ SlV W3.heap.size R y V3 := by
        rcases HWY.out with ⟨h, _⟩ | ⟨_, h⟩
        · exact absurd h0 h
        · obtain ⟨h1, h2⟩ := h N M eg eh rfl rfl rfl rfl
          rw [← hR] at h1 h2
          exact ⟨h1, h2.mono (HK.out _ HG.out).2.2.2.2.2.2.2.2.2⟩
      have hint : IntsAt V3 y (zL (R.getD [])) := by
        cases R with
        | none =>
          have e : y = .slice none 0 0 := hsl
          rw [e]
          exact intsAt_nil _
        | some l =>
          obtain ⟨vo, vc, e, ho⟩ := hsl
          rw [e]
          obtain ⟨z1, z2⟩ := hRl l rfl
          exact ints_own ho (fun x hx => by have := z2 x hx; omega) (by show l.length ≤ 1000; omega)
      subst hok
      have HY : Hid (IntsAt V3 y (zL (R.getD [])) ∧ (∀ l, R = some l → l.length = M ∧ ∀ x ∈ l, x < N) ∧ N ≤ 10 ∧ M ≤ 6) := ⟨hint, hRl, by omega, by omega⟩
      have C12 : Hid (∀ A, Below w.heap.size w A → Calls Tryd.prog 12 #[.agg #[.int .i64 (N : Int), .slice ao el cap]] A fun e w' => Below A.heap.size A w' ∧ ∃ ao cap, e = .returned (.slice ao N cap) ∧ GridAt w' (.slice ao N cap) N (hasB (pzT eg))) := fun A hA => gridOf_any N _ _ A (HE.out.1.below hA) (by omega) hlen0 hgood
      have C12b : Hid (∀ A, Below w.heap.size w A → Calls Tryd.prog 12 #[.agg #[.int .i64 (M : Int), .slice ao2 el2 cap2]] A fun e w' => Below A.heap.size A w' ∧ ∃ ao cap, e = .returned (.slice ao M cap) ∧ GridAt w' (.slice ao M cap) M (hasB (pzT eh))) := fun A hA => gridOf_any M _ _ A (HE.out.2.below hA) (by omega) hlen1 hgood2
      have C14 : Hid (∀ A go gc ho hc, GridAt A (.slice go N gc) N (hasB (pzT eg)) → GridAt A (.slice ho M hc) M (hasB (pzT eh)) → Calls Tryd.prog 14 #[.slice go N gc, .slice ho M hc, .slice none 0 0] A fun e w' => (∃ z, e = .returned (.tuple #[z, .bool R.isSome]) ∧ IntsAt w' z (zL (R.getD []))) ∧ Below A.heap.size A w') := fun A go gc ho hc h1 h2 => by
        have h := first_call (N := N) (M := M) (by omega) (by omega) M [] A none 0 (by simp) (fun j hj => by simp at hj) h1 h2 (fun x hx => by cases hx)
        rw [fit_same hneg hneh, ← hR] at h
        refine h.mono ?_
        rintro e w' ⟨h3, h4⟩
        refine ⟨?_, h4⟩
        cases R with
        | none => exact ⟨_, h3, intsAt_nil _⟩
        | some l =>
          obtain ⟨po, pc, e1, hf⟩ := h3
          obtain ⟨z1, z2⟩ := hRl l rfl
          exact ⟨_, e1, ints_num hf (fun x hx => by have := z2 x hx; omega) (by show l.length ≤ 1000; omega)⟩
      obtain ⟨rb, hrb⟩ : ∃ rb, rb = R.isSome := ⟨_, rfl⟩
      rw [← hrb] at C14 ⊢
      obtain ⟨zl, hzl⟩ : ∃ z, z = zL (R.getD []) := ⟨_, rfl⟩
      rw [← hzl] at C14 HY
      clear hck g1 g2 g3 g4 g5 hn0 hm0 hlen0 hlen1 hgood hgood2 heg heh hneg hneh hRl hsl hint hrb hzl hR HWY HP h0
      go_upto_region 8 with (fail)
      clear y0 y1
      refine region_ext (J := ST V3 (VL N M ao ao2 el el2 cap cap2 eg eh rb zl)) (by kernel_rfl) (by kernel_rfl) (by kernel_rfl) ST.start ?_ ?_
      · intro i o hi L xs a w1 hS hL hd hcl hX
        have hbw := below_next HBw.out hS.bel
        match i, hi with
        | 0, hi =>
          cases hi
          have s1 := hX.out (s := 2) rfl
          obtain ⟨y0, y1⟩ := cell_two (two_next (HK.out _ HG.out).1 hS.bel)
          refine wpOp_value rfl rfl (v := .agg #[.int .i64 (N : Int), .slice ao el cap]) (w' := w1) ?_ ⟨_, rfl, hS.put VL.mono (Below.refl _ _) rfl⟩
          simp [go_sem, Act.eval, s1, y0, y1]
        | 1, hi =>
          cases hi
          have l1 := hd ⟨0, .data⟩ (by simp) rfl
          have r1 := (hX.rd 0 _ 57 rfl rfl l1).trans (hS.told 0 l1)
          refine wpOp_call rfl rfl (f := 12) (args := #[.agg #[.int .i64 (N : Int), .slice ao el cap]]) (w' := w1) ?_ ?_
          · simp [go_sem, Act.eval, r1]
          · refine Calls.mono (C12.out _ hbw) ?_
            rintro e w2 ⟨hB', go, gc, rfl, hg⟩
            exact ⟨_, rfl, _, rfl, hS.put VL.mono hB' ⟨go, gc, rfl, hg⟩⟩
        | 2, hi =>
          cases hi
          have s1 := hX.out (s := 3) rfl
          obtain ⟨y0, y1⟩ := cell_two (two_next (HK.out _ HG.out).2.1 hS.bel)
          refine wpOp_value rfl rfl (v := .agg #[.int .i64 (M : Int), .slice ao2 el2 cap2]) (w' := w1) ?_ ⟨_, rfl, hS.put VL.mono (Below.refl _ _) rfl⟩
          simp [go_sem, Act.eval, s1, y0, y1]
        | 3, hi =>
          cases hi
          have l1 := hd ⟨2, .data⟩ (by simp) rfl
          have r1 := (hX.rd 2 _ 59 rfl rfl l1).trans (hS.told 2 l1)
          refine wpOp_call rfl rfl (f := 12) (args := #[.agg #[.int .i64 (M : Int), .slice ao2 el2 cap2]]) (w' := w1) ?_ ?_
          · simp [go_sem, Act.eval, r1]
          · refine Calls.mono (C12b.out _ hbw) ?_
            rintro e w2 ⟨hB', go, gc, rfl, hg⟩
            exact ⟨_, rfl, _, rfl, hS.put VL.mono hB' ⟨go, gc, rfl, hg⟩⟩
        | 4, hi =>
          cases hi
          have l1 := hd ⟨1, .data⟩ (by simp) rfl
          have l3 := hd ⟨3, .data⟩ (by simp) rfl
          obtain ⟨go, gc, e1, hg⟩ := hS.told 1 l1
          obtain ⟨ho, hc, e3, hh⟩ := hS.told 3 l3
          have r1 := (hX.rd 1 _ 58 rfl rfl l1).trans e1
          have r3 := (hX.rd 3 _ 60 rfl rfl l3).trans e3
          refine wpOp_call rfl rfl (f := 14) (args := #[.slice go N gc, .slice ho M hc, .slice none 0 0]) (w' := w1) ?_ ?_
          · simp [go_sem, Act.eval, r1, r3]
          · refine Calls.mono (C14.out _ _ _ _ _ hg hh) ?_
            rintro e w2 ⟨⟨z, rfl, hz⟩, hB'⟩
            exact ⟨_, rfl, _, rfl, hS.put VL.mono hB' ⟨z, rfl, hz⟩⟩
        | 5, hi =>
          cases hi
          have l1 := hd ⟨4, .data⟩ (by simp) rfl
          obtain ⟨z, e1, hz⟩ := hS.told 4 l1
          have r1 := (hX.rd 4 _ 61 rfl rfl l1).trans e1
          refine wpOp_value rfl rfl (v := .tuple #[z, .bool rb]) (w' := w1) ?_ ⟨_, rfl, hS.put VL.mono (Below.refl _ _) ⟨z, rfl, hz⟩⟩
          simp [go_sem, Act.eval, r1]
        | 6, hi =>
          cases hi
          have l1 := hd ⟨5, .data⟩ (by simp) rfl
          obtain ⟨z, e1, hz⟩ := hS.told 5 l1
          have r1 := (hX.rd 5 _ 56 rfl rfl l1).trans e1
          refine wpOp_value rfl rfl (v := z) (w' := w1) ?_ ⟨_, rfl, hS.put VL.mono (Below.refl _ _) hz⟩
          simp [go_sem, Act.eval, r1]
        | 7, hi =>
          cases hi
          have l1 := hd ⟨5, .data⟩ (by simp) rfl
          obtain ⟨z, e1, hz⟩ := hS.told 5 l1
          have r1 := (hX.rd 5 _ 56 rfl rfl l1).trans e1
          refine wpOp_value rfl rfl (v := .bool rb) (w' := w1) ?_ ⟨_, rfl, hS.put VL.mono (Below.refl _ _) rfl⟩
          simp [go_sem, Act.eval, r1]
        | 8, hi =>
          cases hi
          have l1 := hd ⟨6, .data⟩ (by simp) rfl
          have hz := hS.told 6 l1
          have r1 := hX.rd 6 _ 62 rfl rfl l1
          refine wpOp_value rfl rfl (v := xs 6) (w' := w1) ?_ ⟨_, rfl, hS.put VL.mono (Below.refl _ _) hz⟩
          simp [go_sem, Act.eval, r1]
        | 9, hi =>
          cases hi
          have l1 := hd ⟨7, .data⟩ (by simp) rfl
          have r1 := (hX.rd 7 _ 63 rfl rfl l1).trans (hS.told 7 l1)
          refine wpOp_value rfl rfl (v := .bool rb) (w' := w1) ?_ ⟨_, rfl, hS.put VL.mono (Below.refl _ _) rfl⟩
          simp [go_sem, Act.eval, r1]
        | _ + 10, hi => cases hi
      · intro L xs W7 hS hall
        have hz : IntsAt W7 (xs 8) zl := hS.told 8 (hall 8 (by decide))
        have hz2 : xs 9 = .bool rb := hS.told 9 (hall 9 (by decide))
        have hB7 := hS.bel
        have C15 : Hid (Calls Tryd.prog 15 #[y, xs 8] W7 fun e w' => e = .returned (.bool true) ∧ Below W7.heap.size W7 w') := by
          refine (ints_trueN y (xs 8) zl W7 (HY.out.1.below hB7) hz).mono ?_
          rintro e w' ⟨h1, m, rfl⟩
          exact ⟨h1, drewN_below _ _⟩
        have HB7 : Hid (Below w.heap.size w W7) := below_next HBw.out hB7
        simp only [puts, hz2]
        clear hS hall hz hz2 hB7 C12 C12b C14
        generalize xs 0 = z0'
        generalize xs 1 = z1'
        generalize xs 2 = z2'
        generalize xs 3 = z3'
        generalize xs 4 = z4'
        generalize xs 5 = z5'
        generalize xs 6 = z6'
        generalize xs 7 = z7'
        generalize xs 8 = z8' at *
        simp only [Act.put, List.setIfInBounds_toArray, List.set_cons_succ, List.set_cons_zero]
        have hrr : (rb == rb) = true := by simp
        go_wp2_with (first | (go_at_call 15; refine Calls.mono C15.out ?_; rintro e W8 ⟨rfl, h8⟩) | fail)
        go_ret
        exact ⟨rfl, below_next HB7.out h8⟩
    · have kc : (p1 != 0) = true := by simpa using h0
      obtain ⟨ey, eok⟩ : y = .slice none 0 0 ∧ ok = false := by
        rcases HWY.out with ⟨_, h1, h2⟩ | ⟨h, _⟩
        · exact ⟨h1, h2⟩
        · exact absurd (congrArg Prod.fst h) h0
      subst ey eok
      clear h0 HWY HP
      go_wp2
      go_ret
      exact ⟨rfl, HBw.out⟩
end Go.Proofs.YthjkjanibkpgiaaDoor
