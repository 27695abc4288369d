/- MinorMinors' walk. -/
import Derived.Test.YthjkjanibkpgiaaDoorMmAB
import Derived.Test.YthjkjanibkpgiaaDoorOwnS
import Derived.Deep.CutBlock
namespace Go.Proofs.YthjkjanibkpgiaaDoor
set_option maxRecDepth 8000
open Go.RowKit Go.Maps
attribute [local go_sem ↓] Go.wp_at_zero Go.wp_at_succ
theorem RowsU.below {w w' : World} {X : Nat} {v : Value} {ls : List (List Nat)} (h : RowsU w X v ls) (hb : Below w.heap.size w w') : RowsU w' X v ls := by
  obtain ⟨hs, h1, h2, h3, h4⟩ := h
  refine ⟨hs, h1, ownsRow_blocks h2 fun b hv => hb.block b (h2.lt b hv).2, h3, fun i y l hy hl => ?_⟩
  obtain ⟨vo, vc, e, ho⟩ := h4 i y l hy hl
  exact ⟨vo, vc, e, ownsRow_blocks ho fun b hv => hb.block b (ho.lt b hv).2⟩
theorem wanted_at {l : List Oper} {a : Act} {o og : Oper} {g d : Nat} {b : Bool} (ho : o.guard = some (g, b)) (hg : l[g]? = some og) (hd : og.dst = some d) (hv : a.tmps.getD d undef = .bool b) : Region.wanted o (yielded l.toArray a.tmps) = true := by
  have h1 : a.tmps[d]? = some (.bool b) := by
    rw [Array.getD_eq_getD_getElem?] at hv
    cases h : a.tmps[d]? with
    | none => rw [h] at hv; cases hv
    | some x => rw [h] at hv; exact congrArg some hv
  have h2 : l.toArray[g]? = some og := by simpa using hg
  unfold Region.wanted
  rw [ho]
  unfold yielded
  simp only [h2, Option.bind_some, hd, h1, beq_self_eq_true]
/-- What Minor answers, its first part; ok. -/
def MinB (B : Nat) (w' : World) (n : Int) (es : List Pair) (n2 : Int) (es2 : List Pair) (P : Int × Int) (y : Value) (ok : Bool) : Prop :=
  (P.1 ≠ 0 ∧ y = .slice none 0 0 ∧ ok = false) ∨ (P = (0, 0) ∧ ∀ (N M : Nat) (eg eh : List E2), n = N → n2 = M → es = pzT eg → es2 = pzT eh → ∃ tog : Nat → Bool, (∀ x, x ≠ 0 → (tog x = true ↔ Rch (nearF eg) N x (Lib.ctz 32 x) x)) ∧
    ((ok = true ∧ ∃ c l, Cho tog (2 ^ N - 1).testBit c ∧ c.length = M ∧ fitP (nearF eg) (nearF eh) N M c = some l ∧ RowsU w' B y (l.map fun at_ => bl (c.getD at_ 0))) ∨
     (ok = false ∧ (∀ c, Cho tog (2 ^ N - 1).testBit c → c.length = M → fitP (nearF eg) (nearF eh) N M c = none) ∧ y = .slice none 0 0)))
theorem minB_of {B : Nat} {w' : World} {n : Int} {es : List Pair} {n2 : Int} {es2 : List Pair} {e : Ending} (h : MinA B w' n es n2 es2 e) : ∃ y ok, e = .returned (.tuple #[y, .bool ok, .agg #[.int .i64 (chk2 n es n2 es2).1, .int .i64 (chk2 n es n2 es2).2]]) ∧ MinB B w' n es n2 es2 (chk2 n es n2 es2) y ok := by
  rcases h with ⟨h0, rfl⟩ | ⟨h0, N, M, eg, eh, y, db, tog, rfl, rfl, rfl, rfl, _, _, _, _, _, _, ht, rfl, h7⟩
  · exact ⟨_, _, rfl, Or.inl ⟨h0, rfl, rfl⟩⟩
  · refine ⟨_, _, by rw [h0], Or.inr ⟨h0, fun N' M' eg' eh' e1 e2 e3 e4 => ?_⟩⟩
    obtain rfl : N = N' := by omega
    obtain rfl : M = M' := by omega
    obtain rfl := pzT_inj e3
    obtain rfl := pzT_inj e4
    exact ⟨tog, ht, h7⟩
def VN (N M : Nat) (ao ao2 : Option Addr) (el el2 cap cap2 : Nat) (eg eh : List E2) (bg bh : Nat) : Nat → Value → World → Prop
  | 0, x, _ => x = .pointer (some ⟨bg, 0, none⟩)
  | 1, x, _ => x = .int .i64 (N : Int)
  | 2, x, _ => x = .bool false
  | 3, x, _ => x = .bool false
  | 4, x, _ => x = .pointer (some ⟨bh, 0, none⟩)
  | 5, x, _ => x = .int .i64 (M : Int)
  | 6, x, _ => x = .bool false
  | 7, x, _ => x = .bool false
  | 8, x, _ => x = .bool false
  | 9, x, _ => x = .agg #[.int .i64 (N : Int), .slice ao el cap]
  | 10, x, w => ∃ go gc, x = .slice go N gc ∧ GridAt w (.slice go N gc) N (hasB (pzT eg))
  | 11, x, _ => x = .agg #[.int .i64 (M : Int), .slice ao2 el2 cap2]
  | 12, x, w => ∃ go gc, x = .slice go M gc ∧ GridAt w (.slice go M gc) M (hasB (pzT eh))
  | 13, x, _ => x = .bool false
  | _, x, _ => x = .bool true
theorem VN.mono {N M : Nat} {ao ao2 : Option Addr} {el el2 cap cap2 : Nat} {eg eh : List E2} {bg bh : Nat} : ∀ i x (w w' : World), VN N M ao ao2 el el2 cap cap2 eg eh bg bh i x w → Below w.heap.size w w' → VN N M ao ao2 el el2 cap cap2 eg eh bg bh i x w' := fun i x w w' h hb => by
  match i, h with
  | 0, h => exact h
  | 1, h => exact h
  | 2, h => exact h
  | 3, h => exact h
  | 4, h => exact h
  | 5, h => exact h
  | 6, h => exact h
  | 7, h => exact h
  | 8, h => exact h
  | 9, h => exact h
  | 10, ⟨b, c, e, h⟩ => exact ⟨b, c, e, h.below hb⟩
  | 11, h => exact h
  | 12, ⟨b, c, e, h⟩ => exact ⟨b, c, e, h.below hb⟩
  | 13, h => exact h
  | _ + 14, h => exact h
set_option maxHeartbeats 16000000 in
theorem minors_law {w : World} {n n2 : Int} {ao ao2 : Option Addr} {cap cap2 : Nat} {es es2 : List Pair} (hE : EdgesAt w (.slice ao es.length cap) es) (hcap : es.length ≤ cap) (hE2 : EdgesAt w (.slice ao2 es2.length cap2) es2) (hcap2 : es2.length ≤ cap2) (hT : T32 w) :
    Calls Tryd.prog 3 #[.agg #[.int .i64 n, .slice ao es.length cap], .agg #[.int .i64 n2, .slice ao2 es2.length cap2]] w fun e w' => e = .returned (.bool true) ∧ Below w.heap.size w w' := by
  obtain ⟨el, hel⟩ : ∃ el, el = es.length := ⟨_, rfl⟩
  obtain ⟨el2, hel2⟩ : ∃ el, el = es2.length := ⟨_, rfl⟩
  have C5 : Hid (∀ A, Below w.heap.size w A → Calls Tryd.prog 5 #[.agg #[.int .i64 n, .slice ao el cap]] A fun e w' => Below A.heap.size A w' ∧ ∃ ao c, e = .returned (.agg #[.int .i64 n, .slice ao el c]) ∧ EdgesAt w' (.slice ao el c) es ∧ el ≤ c) := fun A hA => by rw [hel]; exact own_any n ao cap es A (hE.below hA)
  have C5b : Hid (∀ A, Below w.heap.size w A → Calls Tryd.prog 5 #[.agg #[.int .i64 n2, .slice ao2 el2 cap2]] A fun e w' => Below A.heap.size A w' ∧ ∃ ao c, e = .returned (.agg #[.int .i64 n2, .slice ao el2 c]) ∧ EdgesAt w' (.slice ao el2 c) es2 ∧ el2 ≤ c) := fun A hA => by rw [hel2]; exact own_any n2 ao2 cap2 es2 A (hE2.below hA)
  obtain ⟨P, hP⟩ : ∃ P, P = chk2 n es n2 es2 := ⟨_, rfl⟩
  have C6 : Hid (∀ A, Below w.heap.size w A → Calls Tryd.prog 6 #[.agg #[.int .i64 n, .slice ao el cap], .agg #[.int .i64 n2, .slice ao2 el2 cap2]] A fun e w' => e = .returned (.agg #[.int .i64 P.1, .int .i64 P.2]) ∧ Below A.heap.size A w') := fun A hA => by rw [hel, hel2, hP]; exact twoF_call (hE.below hA) hcap (hE2.below hA) hcap2
  have C7 : Hid (∀ A v c v2 c2, Below w.heap.size w A → EdgesAt A (.slice v el c) es → EdgesAt A (.slice v2 el2 c2) es2 → Calls Tryd.prog 7 #[.agg #[.int .i64 n, .slice v el c], .agg #[.int .i64 n2, .slice v2 el2 c2]] A fun e w' => (∃ y ok, e = .returned (.tuple #[y, .bool ok, .agg #[.int .i64 P.1, .int .i64 P.2]]) ∧ MinB A.heap.size w' n es n2 es2 P y ok) ∧ Below A.heap.size A w') := fun A v c v2 c2 hA hEA hEB => by
    rw [hel] at hEA ⊢
    rw [hel2] at hEB ⊢
    rw [hP]
    exact (minor_call (n := n) (n2 := n2) hEA hEB (hT.below hA)).mono fun e w' ⟨h1, h2⟩ => ⟨minB_of h1, h2⟩
  have C8 : Hid (∀ A, Below w.heap.size w A → Calls Tryd.prog 8 #[] A fun e w' => e = .returned (.bool true) ∧ Below A.heap.size A w') := fun A hA => begun_call (hT.below hA)
  have HE : Hid (EdgesAt w (.slice ao el cap) es ∧ EdgesAt w (.slice ao2 el2 cap2) es2) := by rw [hel, hel2]; exact ⟨hE, hE2⟩
  have HP : Hid (P = chk2 n es n2 es2 ∧ el = es.length ∧ el2 = es2.length) := ⟨hP, hel, hel2⟩
  rw [← hel, ← hel2]
  clear hE hcap hE2 hcap2 hT hP hel hel2
  obtain ⟨p1, p2⟩ := P
  simp only at C6 C7 HP
  have hneq := neq27 p1 p2
  go_enter Tryd.func3, Tryd.ntmps3
  go_upto_region 1 with (fail)
  have t1 := two_alloc (two_new w (.int .i64 n) (.slice ao el cap) 24) (Obj.cells #[.int .i64 n2, .slice ao2 el2 cap2] 24)
  have t2 := two_new (w.alloc (Obj.cells #[.int .i64 n, .slice ao el cap] 24)) (.int .i64 n2) (.slice ao2 el2 cap2) 24
  rw [show (w.alloc (Obj.cells #[.int .i64 n, .slice ao el cap] 24)).heap.size = w.heap.size + 1 by simp] at t2
  have hB0 : Below w.heap.size w ((w.alloc (Obj.cells #[.int .i64 n, .slice ao el cap] 24)).alloc (Obj.cells #[.int .i64 n2, .slice ao2 el2 cap2] 24)) := below_alloc (below_alloc (Below.refl _ w) _) _
  generalize w.heap.size + 1 = bh at t2 ⊢
  generalize hbg : w.heap.size = bg at t1 ⊢
  generalize (w.alloc (Obj.cells #[.int .i64 n, .slice ao el cap] 24)).alloc (Obj.cells #[.int .i64 n2, .slice ao2 el2 cap2] 24) = W0 at *
  have HW0 : Hid (Two W0 bg (.int .i64 n) (.slice ao el cap) 24 ∧ Two W0 bh (.int .i64 n2) (.slice ao2 el2 cap2) 24 ∧ Below w.heap.size w W0) := ⟨t1, t2, hbg ▸ hB0⟩
  clear t1 t2 hB0 hbg
  refine region_ext (J := S24 W0 (VO n n2 ao ao2 el el2 cap cap2 es es2)) (by kernel_rfl) (by kernel_rfl) (by kernel_rfl) S24.start ?_ ?_
  · intro i o hi L xs a w1 hS hL hd hcl hX
    match i, hi with
    | 0, hi =>
      cases hi
      have s1 := hX.out (s := 2) rfl
      obtain ⟨y0, y1⟩ := cell_two (two_next HW0.out.1 hS.bel)
      refine wpOp_value rfl rfl (v := .agg #[.int .i64 n, .slice ao el cap]) (w' := w1) ?_ ⟨_, rfl, hS.put VO.mono hL (by omega) (Below.refl _ _) rfl⟩
      simp [go_sem, Act.eval, s1, y0, y1]
    | 1, hi =>
      cases hi
      have l1 := hd ⟨0, .data⟩ (by simp) rfl
      have r1 := (hX.rd 0 _ 11 rfl rfl l1).trans (hS.told 0 (by omega) l1)
      refine wpOp_call rfl rfl (f := 5) (args := #[.agg #[.int .i64 n, .slice ao el cap]]) (w' := w1) ?_ ?_
      · simp [go_sem, Act.eval, r1]
      · refine Calls.mono (C5.out _ (below_next HW0.out.2.2 hS.bel)) ?_
        rintro e w2 ⟨hB', oo, c, rfl, hE', _⟩
        exact ⟨_, rfl, _, rfl, hS.put VO.mono hL (by omega) hB' ⟨oo, c, rfl, hE'⟩⟩
    | 2, hi =>
      cases hi
      have s1 := hX.out (s := 3) rfl
      obtain ⟨y0, y1⟩ := cell_two (two_next HW0.out.2.1 hS.bel)
      refine wpOp_value rfl rfl (v := .agg #[.int .i64 n2, .slice ao2 el2 cap2]) (w' := w1) ?_ ⟨_, rfl, hS.put VO.mono hL (by omega) (Below.refl _ _) rfl⟩
      simp [go_sem, Act.eval, s1, y0, y1]
    | 3, hi =>
      cases hi
      have l1 := hd ⟨2, .data⟩ (by simp) rfl
      have r1 := (hX.rd 2 _ 13 rfl rfl l1).trans (hS.told 2 (by omega) l1)
      refine wpOp_call rfl rfl (f := 5) (args := #[.agg #[.int .i64 n2, .slice ao2 el2 cap2]]) (w' := w1) ?_ ?_
      · simp [go_sem, Act.eval, r1]
      · refine Calls.mono (C5b.out _ (below_next HW0.out.2.2 hS.bel)) ?_
        rintro e w2 ⟨hB', oo, c, rfl, hE', _⟩
        exact ⟨_, rfl, _, rfl, hS.put VO.mono hL (by omega) hB' ⟨oo, c, rfl, hE'⟩⟩
    | 4, hi =>
      cases hi
      refine wpOp_value rfl rfl (v := ptr w1.heap.size) (w' := w1.alloc (Obj.cells #[.int .i64 0, .slice none 0 0] 24)) ?_ ⟨_, rfl, hS.alloc4 VO.mono hL⟩
      simp [go_sem]
    | 5, hi =>
      cases hi
      refine wpOp_value rfl rfl (v := ptr w1.heap.size) (w' := w1.alloc (Obj.cells #[.int .i64 0, .slice none 0 0] 24)) ?_ ⟨_, rfl, hS.alloc5 VO.mono hL⟩
      simp [go_sem]
    | 6, hi =>
      cases hi
      have l1 := hd ⟨1, .data⟩ (by simp) rfl
      have l4 := hd ⟨4, .data⟩ (by simp) rfl
      obtain ⟨oo, c, e1, h1⟩ := hS.told 1 (by omega) l1
      obtain ⟨b', e4, _, x0, ao0, k0, c0, h4, _⟩ := hS.a4 l4
      have r1 := (hX.rd 1 _ 12 rfl rfl l1).trans e1
      have r4 := (hX.rd 4 _ 5 rfl rfl l4).trans e4
      obtain ⟨q1, q2, q3, q4, q5, q6⟩ := store_two' h4 (.int .i64 n) (.slice oo el c)
      refine wpOp_skip rfl rfl (w' := (w1.setCell ⟨b', 0, none⟩ (.int .i64 n)).setCell ⟨b', 1, none⟩ (.slice oo el c)) ?_ ⟨undef, rfl, hS.store6 (fun w b x ao k c hh y z => VO.set hh y z) l4 l1 e4 e1 undef⟩
      simp [go_sem, Act.eval, r1, r4, q1, q2, q3, q4]
    | 7, hi =>
      cases hi
      have l1 := hd ⟨3, .data⟩ (by simp) rfl
      have l4 := hd ⟨5, .data⟩ (by simp) rfl
      obtain ⟨oo, c, e1, h1⟩ := hS.told 3 (by omega) l1
      obtain ⟨b', e4, _, x0, ao0, k0, c0, h4, _⟩ := hS.a5 l4
      have r1 := (hX.rd 3 _ 14 rfl rfl l1).trans e1
      have r4 := (hX.rd 5 _ 6 rfl rfl l4).trans e4
      obtain ⟨q1, q2, q3, q4, q5, q6⟩ := store_two' h4 (.int .i64 n2) (.slice oo el2 c)
      refine wpOp_skip rfl rfl (w' := (w1.setCell ⟨b', 0, none⟩ (.int .i64 n2)).setCell ⟨b', 1, none⟩ (.slice oo el2 c)) ?_ ⟨undef, rfl, hS.store7 (fun w b x ao k c hh y z => VO.set hh y z) l4 l1 e4 e1 undef⟩
      simp [go_sem, Act.eval, r1, r4, q1, q2, q3, q4]
    | _ + 8, hi => cases hi
  · intro L xs W1 hS hall
    obtain ⟨oo, oc, e1, hEo⟩ := hS.told 1 (by omega) (hall 1 (by decide))
    obtain ⟨oo2, oc2, e3, hEo2⟩ := hS.told 3 (by omega) (hall 3 (by decide))
    obtain ⟨b5, e4, hb5, x5, ao5, k5, c5, o5, f5⟩ := hS.a4 (hall 4 (by decide))
    obtain ⟨b6, e5, hb6, x6, ao6, k6, c6, o6, f6⟩ := hS.a5 (hall 5 (by decide))
    have f5' := f5 (hall 6 (by decide))
    have f6' := f6 (hall 7 (by decide))
    rw [e1] at f5'
    rw [e3] at f6'
    injection f5' with f5'
    injection f6' with f6'
    have g5 : x5 = .int .i64 n ∧ Value.slice ao5 k5 c5 = .slice oo el oc := by
      have := congrArg Array.toList f5'
      simp at this
      exact ⟨this.1.symm, by rw [this.2.1, this.2.2.1, this.2.2.2]⟩
    have g6 : x6 = .int .i64 n2 ∧ Value.slice ao6 k6 c6 = .slice oo2 el2 oc2 := by
      have := congrArg Array.toList f6'
      simp at this
      exact ⟨this.1.symm, by rw [this.2.1, this.2.2.1, this.2.2.2]⟩
    rw [g5.1, g5.2] at o5
    rw [g6.1, g6.2] at o6
    have hB1 := hS.bel
    simp only [puts, e4, e5]
    generalize xs 0 = z0
    generalize xs 1 = z1
    generalize xs 2 = z2
    generalize xs 3 = z3
    simp only [Act.put, List.setIfInBounds_toArray, List.set_cons_succ, List.set_cons_zero]
    have HW1 : Hid (Two W1 bg (.int .i64 n) (.slice ao el cap) 24 ∧ Two W1 bh (.int .i64 n2) (.slice ao2 el2 cap2) 24 ∧ Below w.heap.size w W1 ∧ Two W1 b5 (.int .i64 n) (.slice oo el oc) 24 ∧ Two W1 b6 (.int .i64 n2) (.slice oo2 el2 oc2) 24 ∧ EdgesAt W1 (.slice oo el oc) es ∧ EdgesAt W1 (.slice oo2 el2 oc2) es2) := ⟨two_next HW0.out.1 hB1, two_next HW0.out.2.1 hB1, below_next HW0.out.2.2 hB1, o5, o6, hEo, hEo2⟩
    clear hS hall e1 e3 e4 e5 f5 f6 f5' f6' g5 g6 o5 o6 hEo hEo2 hB1 hb5 hb6 C5 C5b HW0
    obtain ⟨d0, d1⟩ := cell_two HW1.out.1
    obtain ⟨d2, d3⟩ := cell_two HW1.out.2.1
    go_upto_region 3 with (first | (go_at_call 6; refine Calls.mono (C6.out _ HW1.out.2.2.1) ?_; rintro e W2 ⟨rfl, h2⟩) | fail)
    have x7 := two_new W2 (.int .i64 p1) (.int .i64 p2) 27
    have hB3 := below_alloc (Below.refl _ W2) (Obj.cells #[.int .i64 p1, .int .i64 p2] 27)
    generalize W2.heap.size = b7 at x7 ⊢
    generalize W2.alloc (Obj.cells #[.int .i64 p1, .int .i64 p2] 27) = W3 at *
    have hB13 := below_next h2 hB3
    have HW3 : Hid (Two W3 bg (.int .i64 n) (.slice ao el cap) 24 ∧ Two W3 bh (.int .i64 n2) (.slice ao2 el2 cap2) 24 ∧ Below w.heap.size w W3 ∧ Two W3 b5 (.int .i64 n) (.slice oo el oc) 24 ∧ Two W3 b6 (.int .i64 n2) (.slice oo2 el2 oc2) 24 ∧ EdgesAt W3 (.slice oo el oc) es ∧ EdgesAt W3 (.slice oo2 el2 oc2) es2 ∧ Two W3 b7 (.int .i64 p1) (.int .i64 p2) 27) := ⟨two_next HW1.out.1 hB13, two_next HW1.out.2.1 hB13, below_next HW1.out.2.2.1 hB13, two_next HW1.out.2.2.2.1 hB13, two_next HW1.out.2.2.2.2.1 hB13, HW1.out.2.2.2.2.2.1.below hB13, HW1.out.2.2.2.2.2.2.below hB13, x7⟩
    clear d0 d1 d2 d3 h2 x7 hB3 hB13 C6 HW1
    obtain ⟨d0, d1⟩ := cell_two HW3.out.2.2.2.1
    obtain ⟨d2, d3⟩ := cell_two HW3.out.2.2.2.2.1
    go_upto_region 4 with (first | (go_at_call 7; refine Calls.mono (C7.out _ _ _ _ _ HW3.out.2.2.1 HW3.out.2.2.2.2.2.1 HW3.out.2.2.2.2.2.2.1) ?_; rintro e W4 ⟨⟨y, ok, rfl, hw4⟩, h4⟩) | fail)
    have x10 := two_new W4 (.int .i64 p1) (.int .i64 p2) 27
    have hB5 := below_alloc (Below.refl _ W4) (Obj.cells #[.int .i64 p1, .int .i64 p2] 27)
    generalize W4.heap.size = b10 at x10 ⊢
    have HWY : Hid (MinB W3.heap.size W4 n es n2 es2 (p1, p2) y ok) := hw4
    have HB45 : Hid (Below W4.heap.size W4 (W4.alloc (Obj.cells #[.int .i64 p1, .int .i64 p2] 27))) := below_alloc (Below.refl _ W4) _
    generalize W4.alloc (Obj.cells #[.int .i64 p1, .int .i64 p2] 27) = W5 at *
    have HK : Hid (∀ A, Below W5.heap.size W5 A → Two A bg (.int .i64 n) (.slice ao el cap) 24 ∧ Two A bh (.int .i64 n2) (.slice ao2 el2 cap2) 24 ∧ Below w.heap.size w A ∧ Two A b5 (.int .i64 n) (.slice oo el oc) 24 ∧ Two A b6 (.int .i64 n2) (.slice oo2 el2 oc2) 24 ∧ EdgesAt A (.slice oo el oc) es ∧ EdgesAt A (.slice oo2 el2 oc2) es2 ∧ Two A b7 (.int .i64 p1) (.int .i64 p2) 27 ∧ Two A b10 (.int .i64 p1) (.int .i64 p2) 27 ∧ Below W4.heap.size W4 A) := fun A hA => by
      have hb := below_next h4 (below_next HB45.out hA)
      have hx := HW3.out
      exact ⟨two_next hx.1 hb, two_next hx.2.1 hb, below_next hx.2.2.1 hb, two_next hx.2.2.2.1 hb, two_next hx.2.2.2.2.1 hb, hx.2.2.2.2.2.1.below hb, hx.2.2.2.2.2.2.1.below hb, two_next hx.2.2.2.2.2.2.2 hb, two_next x10 hA, below_next HB45.out hA⟩
    clear d0 d1 d2 d3 hw4 h4 x10 hB5 C7 HW3
    have C9a : Hid (∀ A, Below W5.heap.size W5 A → Calls Tryd.prog 9 #[.agg #[.int .i64 n, .slice oo el oc], .agg #[.int .i64 n, .slice ao el cap]] A fun e w' => e = .returned (.bool true) ∧ Below A.heap.size A w') := fun A hA => by
      have hx := HK.out A hA
      exact kept_true n _ _ es A hx.2.2.2.2.2.1 (HE.out.1.below hx.2.2.1)
    have C9b : Hid (∀ A, Below W5.heap.size W5 A → Calls Tryd.prog 9 #[.agg #[.int .i64 n2, .slice oo2 el2 oc2], .agg #[.int .i64 n2, .slice ao2 el2 cap2]] A fun e w' => e = .returned (.bool true) ∧ Below A.heap.size A w') := fun A hA => by
      have hx := HK.out A hA
      exact kept_true n2 _ _ es2 A hx.2.2.2.2.2.2.1 (HE.out.2.below hx.2.2.1)
    have C8' : Hid (Calls Tryd.prog 8 #[] W5 fun e w' => e = .returned (.bool true) ∧ Below W5.heap.size W5 w') := C8.out _ (HK.out _ (Below.refl _ _)).2.2.1
    clear C8
    go_upto_region 6 with (first
      | (go_at_call 8; refine Calls.mono C8'.out ?_; rintro e V1 ⟨rfl, g1⟩; obtain ⟨y0, y1⟩ := cell_two (HK.out _ g1).2.2.2.2.2.2.2.2.1; obtain ⟨y2, y3⟩ := cell_two (HK.out _ g1).2.2.2.2.2.2.2.1; obtain ⟨y4, y5⟩ := cell_two (HK.out _ g1).2.2.2.1; obtain ⟨y6, y7⟩ := cell_two (HK.out _ g1).1)
      | (go_at_call 9; (have hh := g2); refine Calls.mono (C9b.out _ (below_next g1 g2)) ?_; rintro e V3 ⟨rfl, g3⟩)
      | (go_at_call 9; refine Calls.mono (C9a.out _ g1) ?_; rintro e V2 ⟨rfl, g2⟩; obtain ⟨y8, y9⟩ := cell_two (HK.out _ (below_next g1 g2)).2.2.2.2.1; obtain ⟨ya, yb⟩ := cell_two (HK.out _ (below_next g1 g2)).2.1)
      | fail)
    have HG : Hid (Below W5.heap.size W5 V3) := below_next g1 (below_next g2 g3)
    clear g1 g2 g3 y0 y1 y2 y3 y4 y5 y6 y7 y8 y9 ya yb C9a C9b C8' hneq
    obtain ⟨y0, y1⟩ := cell_two (HK.out _ HG.out).2.2.2.2.2.2.2.1
    have HBw : Hid (Below w.heap.size w V3) := (HK.out _ HG.out).2.2.1
    by_cases h0 : p1 = 0
    · have kc : (p1 != 0) = false := by simpa using h0
      have hck : (chk2 n es n2 es2).1 = 0 := by rw [← HP.out.1]; exact h0
      obtain ⟨g1, g2, g3, g4, g5⟩ := chk2_good hck
      obtain ⟨_, hn0, _, hlen0, hgood⟩ := chk_good g2
      obtain ⟨_, hm0, _, hlen1, hgood2⟩ := chk_good g3
      obtain ⟨N, rfl⟩ := Int.eq_ofNat_of_zero_le hn0
      obtain ⟨M, rfl⟩ := Int.eq_ofNat_of_zero_le hm0
      obtain ⟨eg, rfl, heg⟩ := pzT_nat (N := N) hgood
      obtain ⟨eh, rfl, heh⟩ := pzT_nat (N := M) hgood2
      have hneg := pz_ne hgood
      have hneh := pz_ne hgood2
      have hN10 : N ≤ 10 := by omega
      have hM6 : M ≤ 6 := by omega
      obtain ⟨tog, htog, hty⟩ : ∃ tog : Nat → Bool, (∀ x, x ≠ 0 → (tog x = true ↔ Rch (nearF eg) N x (Lib.ctz 32 x) x)) ∧
          ((ok = true ∧ ∃ c l, Cho tog (2 ^ N - 1).testBit c ∧ c.length = M ∧ fitP (nearF eg) (nearF eh) N M c = some l ∧ RowsU W4 W3.heap.size y (l.map fun at_ => bl (c.getD at_ 0))) ∨
           (ok = false ∧ (∀ c, Cho tog (2 ^ N - 1).testBit c → c.length = M → fitP (nearF eg) (nearF eh) N M c = none) ∧ y = .slice none 0 0)) := by
        rcases HWY.out with ⟨h, _⟩ | ⟨_, h⟩
        · exact absurd h0 h
        · exact h N M eg eh rfl rfl rfl rfl
      obtain ⟨PQ, hPQ⟩ := pq_ex (hasB (pzT eg)) N
      rcases hty with ⟨rfl, c, l, q1, q2, q3, q4⟩ | ⟨rfl, q1, rfl⟩
      · obtain ⟨G, s1, s2, s3, s4, s5, s6⟩ := minor_sound hneg hneh hN10 htog q1 q2 q3
        have hT3 := HK.out _ HG.out
        have C10 : Hid (Calls Tryd.prog 10 #[.agg #[.int .i64 (N : Int), .slice ao el cap], .agg #[.int .i64 (M : Int), .slice ao2 el2 cap2], y] V3 fun e w' => e = .returned (.bool true) ∧ Below V3.heap.size V3 w') :=
          sets_call (HE.out.1.below hT3.2.2.1) (HE.out.2.below hT3.2.2.1) (q4.below hT3.2.2.2.2.2.2.2.2.2) s1 hlen0 hlen1 hgood hgood2 hN10 hM6 s2 s3 s4 s5 (hPQ G) (s6 _ (hPQ G))
        obtain ⟨y2, y3⟩ := cell_two hT3.1
        obtain ⟨y4, y5⟩ := cell_two hT3.2.1
        clear hck g1 g2 g3 g4 g5 hn0 hm0 hlen0 hlen1 hgood hgood2 heg heh hneg hneh h0 q1 q2 q3 q4 s1 s2 s3 s4 s5 s6 hPQ htog hT3 HWY HP HE
        go_wp2_with (first | (go_at_call 10; refine Calls.mono C10.out ?_; rintro e V4 ⟨rfl, h4⟩) | fail)
        go_ret
        exact ⟨rfl, below_next HBw.out h4⟩
      · have hT3 := HK.out _ HG.out
        obtain ⟨y2, y3⟩ := cell_two hT3.1
        obtain ⟨y4, y5⟩ := cell_two hT3.2.1
        have HT3 : Hid (Two V3 bg (.int .i64 (N : Int)) (.slice ao el cap) 24 ∧ Two V3 bh (.int .i64 (M : Int)) (.slice ao2 el2 cap2) 24) := ⟨hT3.1, hT3.2.1⟩
        by_cases hN6 : 6 < N
        · have n1 : (N : Int) > 6 := by omega
          have n2' : (6 : Int) < (N : Int) := by omega
          clear hck g1 g2 g3 g4 g5 hn0 hm0 hlen0 hlen1 hgood hgood2 heg heh hneg hneh h0 q1 hPQ htog hT3 HWY HP HE
          go_upto_region 12 with (fail)
          have z2 := cell_growD y2
          have z4 := cell_growD y4
          refine wp_region_below (by kernel_rfl) (by kernel_rfl) ?_
          repeat (go_big_quiet_step (fail))
          refine wpQuiet_nil ?_
          rintro _ ⟨gp, rfl⟩
          have HB8 : Hid (Below w.heap.size w (growD V3 gp)) := below_next HBw.out (growD_below V3 gp)
          clear z2 z4 y0 y1 y2 y3 y4 y5
          generalize growD V3 gp = w8 at *
          go_wp2
          go_ret
          exact ⟨rfl, HB8.out⟩
        · by_cases hM4 : 4 < M
          · have n1 : ¬ (N : Int) > 6 := by omega
            have n2' : ¬ (6 : Int) < (N : Int) := by omega
            have n3 : (M : Int) > 4 := by omega
            have n4 : (4 : Int) < (M : Int) := by omega
            clear hck g1 g2 g3 g4 g5 hn0 hm0 hlen0 hlen1 hgood hgood2 heg heh hneg hneh h0 q1 hPQ htog hT3 HWY HP HE
            go_upto_region 12 with (fail)
            have z2 := cell_growD y2
            have z4 := cell_growD y4
            refine wp_region_below (by kernel_rfl) (by kernel_rfl) ?_
            repeat (go_big_quiet_step (fail))
            refine wpQuiet_nil ?_
            rintro _ ⟨gp, rfl⟩
            have HB8 : Hid (Below w.heap.size w (growD V3 gp)) := below_next HBw.out (growD_below V3 gp)
            clear z2 z4 y0 y1 y2 y3 y4 y5
            generalize growD V3 gp = w8 at *
            go_wp2
            go_ret
            exact ⟨rfl, HB8.out⟩
          · have C12 : Hid (∀ A, Below w.heap.size w A → Calls Tryd.prog 12 #[.agg #[.int .i64 (N : Int), .slice ao el cap]] A fun e w' => Below A.heap.size A w' ∧ ∃ ao cap, e = .returned (.slice ao N cap) ∧ GridAt w' (.slice ao N cap) N (hasB (pzT eg))) := fun A hA => gridOf_any N _ _ A (HE.out.1.below hA) (by omega) hlen0 hgood
            have C12b : Hid (∀ A, Below w.heap.size w A → Calls Tryd.prog 12 #[.agg #[.int .i64 (M : Int), .slice ao2 el2 cap2]] A fun e w' => Below A.heap.size A w' ∧ ∃ ao cap, e = .returned (.slice ao M cap) ∧ GridAt w' (.slice ao M cap) M (hasB (pzT eh))) := fun A hA => gridOf_any M _ _ A (HE.out.2.below hA) (by omega) hlen1 hgood2
            have hnom := minor_complete hneg hneh hN10 htog hPQ q1
            have C11 : Hid (∀ A go gc ho hc, GridAt A (.slice go N gc) N (hasB (pzT eg)) → GridAt A (.slice ho M hc) M (hasB (pzT eh)) → Calls Tryd.prog 11 #[.slice go N gc, .slice ho M hc] A fun e w' => e = .returned (.bool false) ∧ Below A.heap.size A w') := fun A go gc ho hc h1 h2 => refMin_call hPQ (by omega) (by omega) h1 h2 hnom
            have n1 : ¬ (N : Int) > 6 := by omega
            have n2' : ¬ (6 : Int) < (N : Int) := by omega
            have n3 : ¬ (M : Int) > 4 := by omega
            have n4 : ¬ (4 : Int) < (M : Int) := by omega
            clear hck g1 g2 g3 g4 g5 hn0 hm0 hlen0 hlen1 hgood hgood2 heg heh hneg hneh h0 q1 hPQ htog hT3 HWY HP HE hnom
            go_upto_region 12 with (fail)
            clear y0 y1 y2 y3 y4 y5
            refine region_ext (J := ST V3 (VN N M ao ao2 el el2 cap cap2 eg eh bg bh)) (by kernel_rfl) (by kernel_rfl) (by kernel_rfl) ST.start ?_ ?_
            · intro i o hi L xs a w1 hS hL hd hcl hX
              have hbw := below_next HBw.out hS.bel
              match i, hi with
              | 0, hi =>
                cases hi
                have s1 := hX.out (s := 2) rfl
                refine wpOp_value rfl rfl (v := .pointer (some ⟨bg, 0, none⟩)) (w' := w1) ?_ ⟨_, rfl, hS.put VN.mono (Below.refl _ _) rfl⟩
                simp [go_sem, Act.eval, s1]
              | 1, hi =>
                cases hi
                have l1 := hd ⟨0, .data⟩ (by simp) rfl
                have r1 := (hX.rd 0 _ 62 rfl rfl l1).trans (hS.told 0 l1)
                obtain ⟨z0, _⟩ := cell_two (two_next HT3.out.1 hS.bel)
                refine wpOp_value rfl rfl (v := .int .i64 (N : Int)) (w' := w1) ?_ ⟨_, rfl, hS.put VN.mono (Below.refl _ _) rfl⟩
                simp [go_sem, Act.eval, r1, z0]
              | 2, hi =>
                cases hi
                have l1 := hd ⟨1, .data⟩ (by simp) rfl
                have r1 := (hX.rd 1 _ 63 rfl rfl l1).trans (hS.told 1 l1)
                refine wpOp_value rfl rfl (v := .bool false) (w' := w1) ?_ ⟨_, rfl, hS.put VN.mono (Below.refl _ _) rfl⟩
                simp [go_sem, Act.eval, r1, n2']
              | 3, hi =>
                cases hi
                have l1 := hd ⟨2, .data⟩ (by simp) rfl
                have r1 := (hX.rd 2 _ 64 rfl rfl l1).trans (hS.told 2 l1)
                refine wpOp_value rfl rfl (v := .bool false) (w' := w1) ?_ ⟨_, rfl, hS.put VN.mono (Below.refl _ _) rfl⟩
                simp [go_sem, Act.eval, r1]
              | 4, hi =>
                cases hi
                have l3 := hd ⟨3, .guard⟩ (by simp) rfl
                have r3 := (hX.rd 3 _ 65 rfl rfl l3).trans (hS.told 3 l3)
                have s1 := hX.out (s := 3) rfl
                refine wpOp_value rfl (wanted_at (g := 3) (d := 65) rfl rfl rfl r3) (v := .pointer (some ⟨bh, 0, none⟩)) (w' := w1) ?_ ⟨_, rfl, hS.put VN.mono (Below.refl _ _) rfl⟩
                simp [go_sem, Act.eval, s1]
              | 5, hi =>
                cases hi
                have l3 := hd ⟨3, .guard⟩ (by simp) rfl
                have r3 := (hX.rd 3 _ 65 rfl rfl l3).trans (hS.told 3 l3)
                have l1 := hd ⟨4, .data⟩ (by simp) rfl
                have r1 := (hX.rd 4 _ 66 rfl rfl l1).trans (hS.told 4 l1)
                obtain ⟨z0, _⟩ := cell_two (two_next HT3.out.2 hS.bel)
                refine wpOp_value rfl (wanted_at (g := 3) (d := 65) rfl rfl rfl r3) (v := .int .i64 (M : Int)) (w' := w1) ?_ ⟨_, rfl, hS.put VN.mono (Below.refl _ _) rfl⟩
                simp [go_sem, Act.eval, r1, z0]
              | 6, hi =>
                cases hi
                have l3 := hd ⟨3, .guard⟩ (by simp) rfl
                have r3 := (hX.rd 3 _ 65 rfl rfl l3).trans (hS.told 3 l3)
                have l1 := hd ⟨5, .data⟩ (by simp) rfl
                have r1 := (hX.rd 5 _ 67 rfl rfl l1).trans (hS.told 5 l1)
                refine wpOp_value rfl (wanted_at (g := 3) (d := 65) rfl rfl rfl r3) (v := .bool false) (w' := w1) ?_ ⟨_, rfl, hS.put VN.mono (Below.refl _ _) rfl⟩
                simp [go_sem, Act.eval, r1, n4]
              | 7, hi =>
                cases hi
                have l3 := hd ⟨3, .data⟩ (by simp) rfl
                have r3 := (hX.rd 3 _ 65 rfl rfl l3).trans (hS.told 3 l3)
                have l1 := hd ⟨6, .data⟩ (by simp) rfl
                have r1 := (hX.rd 6 _ 68 rfl rfl l1).trans (hS.told 6 l1)
                refine wpOp_value rfl rfl (v := .bool false) (w' := w1) ?_ ⟨_, rfl, hS.put VN.mono (Below.refl _ _) rfl⟩
                simp [go_sem, Act.eval, r1, r3]
              | 8, hi =>
                cases hi
                have l1 := hd ⟨7, .data⟩ (by simp) rfl
                have r1 := (hX.rd 7 _ 69 rfl rfl l1).trans (hS.told 7 l1)
                refine wpOp_value rfl rfl (v := .bool false) (w' := w1) ?_ ⟨_, rfl, hS.put VN.mono (Below.refl _ _) rfl⟩
                simp [go_sem, Act.eval, r1]
              | 9, hi =>
                cases hi
                have l8 := hd ⟨8, .guard⟩ (by simp) rfl
                have r8 := (hX.rd 8 _ 70 rfl rfl l8).trans (hS.told 8 l8)
                have s1 := hX.out (s := 2) rfl
                obtain ⟨z0, z1⟩ := cell_two (two_next HT3.out.1 hS.bel)
                refine wpOp_value rfl (wanted_at (g := 8) (d := 70) rfl rfl rfl r8) (v := .agg #[.int .i64 (N : Int), .slice ao el cap]) (w' := w1) ?_ ⟨_, rfl, hS.put VN.mono (Below.refl _ _) rfl⟩
                simp [go_sem, Act.eval, s1, z0, z1]
              | 10, hi =>
                cases hi
                have l8 := hd ⟨8, .guard⟩ (by simp) rfl
                have r8 := (hX.rd 8 _ 70 rfl rfl l8).trans (hS.told 8 l8)
                have l1 := hd ⟨9, .data⟩ (by simp) rfl
                have r1 := (hX.rd 9 _ 71 rfl rfl l1).trans (hS.told 9 l1)
                refine wpOp_call rfl (wanted_at (g := 8) (d := 70) rfl rfl rfl r8) (f := 12) (args := #[.agg #[.int .i64 (N : Int), .slice ao el cap]]) (w' := w1) ?_ ?_
                · simp [go_sem, Act.eval, r1]
                · refine Calls.mono (C12.out _ hbw) ?_
                  rintro e w2 ⟨hB', go, gc, rfl, hg⟩
                  exact ⟨_, rfl, _, rfl, hS.put VN.mono hB' ⟨go, gc, rfl, hg⟩⟩
              | 11, hi =>
                cases hi
                have l8 := hd ⟨8, .guard⟩ (by simp) rfl
                have r8 := (hX.rd 8 _ 70 rfl rfl l8).trans (hS.told 8 l8)
                have s1 := hX.out (s := 3) rfl
                obtain ⟨z0, z1⟩ := cell_two (two_next HT3.out.2 hS.bel)
                refine wpOp_value rfl (wanted_at (g := 8) (d := 70) rfl rfl rfl r8) (v := .agg #[.int .i64 (M : Int), .slice ao2 el2 cap2]) (w' := w1) ?_ ⟨_, rfl, hS.put VN.mono (Below.refl _ _) rfl⟩
                simp [go_sem, Act.eval, s1, z0, z1]
              | 12, hi =>
                cases hi
                have l8 := hd ⟨8, .guard⟩ (by simp) rfl
                have r8 := (hX.rd 8 _ 70 rfl rfl l8).trans (hS.told 8 l8)
                have l1 := hd ⟨11, .data⟩ (by simp) rfl
                have r1 := (hX.rd 11 _ 73 rfl rfl l1).trans (hS.told 11 l1)
                refine wpOp_call rfl (wanted_at (g := 8) (d := 70) rfl rfl rfl r8) (f := 12) (args := #[.agg #[.int .i64 (M : Int), .slice ao2 el2 cap2]]) (w' := w1) ?_ ?_
                · simp [go_sem, Act.eval, r1]
                · refine Calls.mono (C12b.out _ hbw) ?_
                  rintro e w2 ⟨hB', go, gc, rfl, hg⟩
                  exact ⟨_, rfl, _, rfl, hS.put VN.mono hB' ⟨go, gc, rfl, hg⟩⟩
              | 13, hi =>
                cases hi
                have l8 := hd ⟨8, .guard⟩ (by simp) rfl
                have r8 := (hX.rd 8 _ 70 rfl rfl l8).trans (hS.told 8 l8)
                have l1 := hd ⟨10, .data⟩ (by simp) rfl
                have l3 := hd ⟨12, .data⟩ (by simp) rfl
                obtain ⟨go, gc, e1, hg⟩ := hS.told 10 l1
                obtain ⟨ho, hc, e3, hh⟩ := hS.told 12 l3
                have r1 := (hX.rd 10 _ 72 rfl rfl l1).trans e1
                have r3 := (hX.rd 12 _ 74 rfl rfl l3).trans e3
                refine wpOp_call rfl (wanted_at (g := 8) (d := 70) rfl rfl rfl r8) (f := 11) (args := #[.slice go N gc, .slice ho M hc]) (w' := w1) ?_ ?_
                · simp [go_sem, Act.eval, r1, r3]
                · refine Calls.mono (C11.out _ _ _ _ _ hg hh) ?_
                  rintro e w2 ⟨rfl, hB'⟩
                  exact ⟨_, rfl, _, rfl, hS.put VN.mono hB' rfl⟩
              | 14, hi =>
                cases hi
                have l8 := hd ⟨8, .guard⟩ (by simp) rfl
                have r8 := (hX.rd 8 _ 70 rfl rfl l8).trans (hS.told 8 l8)
                have l1 := hd ⟨13, .data⟩ (by simp) rfl
                have r1 := (hX.rd 13 _ 75 rfl rfl l1).trans (hS.told 13 l1)
                refine wpOp_value rfl (wanted_at (g := 8) (d := 70) rfl rfl rfl r8) (v := .bool true) (w' := w1) ?_ ⟨_, rfl, hS.put VN.mono (Below.refl _ _) rfl⟩
                simp [go_sem, Act.eval, r1]
              | 15, hi =>
                cases hi
                have l3 := hd ⟨8, .data⟩ (by simp) rfl
                have r3 := (hX.rd 8 _ 70 rfl rfl l3).trans (hS.told 8 l3)
                have l1 := hd ⟨14, .data⟩ (by simp) rfl
                have r1 := (hX.rd 14 _ 76 rfl rfl l1).trans (hS.told 14 l1)
                refine wpOp_value rfl rfl (v := .bool true) (w' := w1) ?_ ⟨_, rfl, hS.put VN.mono (Below.refl _ _) rfl⟩
                simp [go_sem, Act.eval, r1, r3]
              | 16, hi =>
                cases hi
                have l1 := hd ⟨15, .data⟩ (by simp) rfl
                have r1 := (hX.rd 15 _ 77 rfl rfl l1).trans (hS.told 15 l1)
                refine wpOp_value rfl rfl (v := .bool true) (w' := w1) ?_ ⟨_, rfl, hS.put VN.mono (Below.refl _ _) rfl⟩
                simp [go_sem, Act.eval, r1]
              | _ + 17, hi => cases hi
            · intro L xs W7 hS hall
              have hz : xs 16 = .bool true := hS.told 16 (hall 16 (by decide))
              have hB7 := below_next HBw.out hS.bel
              simp only [puts, hz]
              simp only [Act.put, List.setIfInBounds_toArray, List.set_cons_succ, List.set_cons_zero]
              clear hS hall C11 C12 C12b
              go_wp2
              go_ret
              exact ⟨rfl, hB7⟩
    · have kc : (p1 != 0) = true := by simpa using h0
      obtain ⟨ey, eok⟩ : y = .slice none 0 0 ∧ ok = false := by
        rcases HWY.out with ⟨_, h1, h2⟩ | ⟨h, _⟩
        · exact ⟨h1, h2⟩
        · exact absurd (congrArg Prod.fst h) h0
      subst ey eok
      clear h0 HWY HP
      go_wp2
      go_ret
      exact ⟨rfl, HBw.out⟩
end Go.Proofs.YthjkjanibkpgiaaDoor
