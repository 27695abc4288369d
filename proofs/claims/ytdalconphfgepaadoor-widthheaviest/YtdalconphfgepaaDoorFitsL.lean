/- WidthFits' walk. -/
import Derived.Test.YtdalconphfgepaaDoorBegun
import Derived.Test.YtdalconphfgepaaDoorOverW
namespace Go.Proofs.YtdalconphfgepaaDoor
set_option maxRecDepth 8000
open Go.RowKit Go.Maps
attribute [local go_sem ↓] Go.wp_at_zero Go.wp_at_succ
theorem wpList_copyI {W : World} {ops : Array Oper} {rest : List Oper} {o : Oper} {a : Act} {Q : Exit → Act → World → Prop} {vo : Option Addr} {vc : Nat} {u : List Int} (hgd : o.guard = none) (s y : Operand)
    (ho : o.op = .call { callee := .builtin .append, args := #[s, y], argTypes := #[30, 30] }) (hs : a.eval s = .slice none 0 0) (hy : a.eval y = .slice vo u.length vc)
    (hu : IntsAt W (.slice vo u.length vc) u)
    (h : ∀ po pc w', IntsAt w' (.slice po u.length pc) u → Below W.heap.size W w' → wpList Tryd.prog ops Q rest (a.put o.dst (.slice po u.length pc)) w') :
    wpList Tryd.prog ops Q (o :: rest) a W := by
  obtain ⟨i3, hi3, hy0, hy1, hy2⟩ := info_parts Tryd.info3
  by_cases hl0 : u = []
  · subst hl0
    have hk := h none 0 W (intsAt_nil _) (Below.refl _ _)
    obtain ⟨dst, op, type, pos, after, guard⟩ := o
    simp only at ho hgd hk
    subst ho
    subst hgd
    refine wpList_plain rfl fun K hK => ?_
    have hk' := hK _ _ hk
    clear hk
    unfold Oper.wp
    obtain ⟨ρ, hρ⟩ : ∃ ρ, ρ = a.eval := ⟨_, rfl⟩
    rw [← hρ] at hs hy ⊢
    cases vo with
    | none =>
      simp [go_sem, hs, hy]
      exact hk'
    | some x =>
      simp [go_sem, hs, hy]
      exact hk'
  · have hpos : 0 < u.length := List.length_pos_iff.2 hl0
    obtain ⟨ao, cap, e, hl, hI, hc⟩ := hu
    cases e
    obtain ⟨b1, off1, rfl, _⟩ := hc 0 hpos
    refine wpList_append_own _ hgd s y 30 ho W.heap.size 3 i3 (.int .i64 0) 1 8 Tryd.underlying30 hi3 hy0 hy1 hy2 rfl (by decide) (.slice none 0 0) 0 [] hs (World.ownsRow_nil _ _ _ _) ⟨b1, off1, none⟩ u.length vc (u.map (Value.int .i64)) hy (by simp) ?n1 ?n2 ?n3 ?n4 (Nat.le_refl _) ?_
    case n1 =>
      intro j x hj
      rw [List.getElem?_map] at hj
      cases hx : u[j]? with
      | none => rw [hx] at hj; cases hj
      | some z =>
        rw [hx] at hj
        simp at hj
        subst hj
        have hjl := (List.getElem?_eq_some_iff.1 hx).1
        obtain ⟨b', off', e', c'⟩ := hc j hjl
        cases e'
        have e : (⟨b1, off1, none⟩ : Addr).add j = ⟨b1, off1 + j, none⟩ := by unfold Addr.add; split <;> simp_all
        rw [e, c', (List.getElem?_eq_some_iff.1 hx).2]
    case n2 =>
      intro x hx
      obtain ⟨z, _, rfl⟩ := List.mem_map.1 hx
      rfl
    case n3 => unfold maxLen; omega
    case n4 => omega
    intro v' w' h1 h2 _
    simp only [Nat.zero_add, List.nil_append] at h1
    have hB : Below W.heap.size W w' := (Below.refl _ _).grown h2 (Nat.le_refl _) (fun k hk => by cases hk)
    have hi := intsAt_row h1 hI hl
    obtain ⟨po, pc, rfl, _⟩ := id hi
    exact h po pc w' hi hB
theorem fitsR_bad {n : Int} {es : List Pair} {ls : List (List Int)} {f : Nat → Int} {ul : Nat} (h : (fitsR n es ls f ul).2.1 ≠ 0) : (fitsR n es ls f ul).1 = false := by
  unfold fitsR at h ⊢
  split
  · rfl
  · next h1 =>
    rw [if_neg h1] at h
    split
    · rfl
    · next h2 =>
      rw [if_neg h2] at h
      split
      · rfl
      · next h3 =>
        rw [if_neg h3] at h
        split
        · next h4 =>
          rw [if_pos h4] at h
          exact absurd rfl h
        · rfl
theorem fitsR_good {n : Int} {es : List Pair} {ls : List (List Int)} {f : Nat → Int} {ul : Nat} (h : (fitsR n es ls f ul).2.1 = 0) : ∃ N : Nat, n = N ∧ N ≤ 100 ∧ chk n es = (0, 0) ∧ ls.length ≤ 100 ∧ ul = ls.length ∧ (openR N ls 0).1 = 0 ∧ (fitsR n es ls f ul).1 = liesB N es (setsL N ls) f := by
  unfold fitsR at h ⊢
  by_cases h1 : (chk n es).1 ≠ 0
  · rw [if_pos h1] at h
    exact absurd h h1
  · rw [if_neg h1] at h ⊢
    obtain ⟨hck, hn0, hn1, _⟩ := chk_good (n := n) (es := es) (by simpa using h1)
    obtain ⟨N, rfl⟩ := Int.eq_ofNat_of_zero_le hn0
    by_cases h2 : 100 < ls.length
    · rw [if_pos h2] at h
      exact absurd h (by decide)
    · rw [if_neg h2] at h ⊢
      by_cases h3 : ul ≠ ls.length
      · rw [if_pos h3] at h
        exact absurd h (by decide)
      · rw [if_neg h3] at h ⊢
        by_cases h4 : (openR ((N : Int)).toNat ls 0).1 = 0
        · rw [if_pos h4]
          exact ⟨N, rfl, by omega, hck, by omega, by simpa using h3, h4, rfl⟩
        · rw [if_neg h4] at h
          exact absurd h h4
theorem fitsR_two {n : Int} {es : List Pair} {ls : List (List Int)} {f : Nat → Int} {ul : Nat} (h : (fitsR n es ls f ul).2.1 = 0) : (fitsR n es ls f ul).2 = (0, 0) := by
  unfold fitsR at h ⊢
  split
  · next h1 => rw [if_pos h1] at h; exact absurd h h1
  · next h1 =>
    rw [if_neg h1] at h
    split
    · next h2 => rw [if_pos h2] at h; exact absurd h (by decide)
    · next h2 =>
      rw [if_neg h2] at h
      split
      · next h3 => rw [if_pos h3] at h; exact absurd h (by decide)
      · next h3 =>
        rw [if_neg h3] at h
        split
        · rfl
        · next h4 => rw [if_neg h4] at h; exact absurd h h4
set_option maxHeartbeats 8000000 in
theorem fits_law {w : World} {n : Int} {ao uo : Option Addr} {cap uc : Nat} {es : List Pair} {x : Value} {ls : List (List Int)} {u : List Int} (hE : EdgesAt w (.slice ao es.length cap) es) (hcap : es.length ≤ cap) (hx : RowsAt w x ls) (hxc : RowsC w x ls) (hu : IntsAt w (.slice uo u.length uc) u) (ht : T64 w) :
    Calls Tryd.prog 4 #[.agg #[.int .i64 n, .slice ao es.length cap], x, .slice uo u.length uc] w fun e w' => e = .returned (.bool true) ∧ Below w.heap.size w w' := by
  obtain ⟨xo, xc, hxe, hx9⟩ := id hx
  clear hx9
  obtain ⟨xl, hxl⟩ : ∃ xl, xl = ls.length := ⟨_, rfl⟩
  rw [← hxl] at hxe
  subst hxe
  have HNF : ∀ {A : World} {po : Option Addr} {pc : Nat}, IntsAt A (.slice po u.length pc) u → NumF A po u.length (fun i => u.getD i 0) := fun hA => by
    obtain ⟨vo, vc, e, h1, _⟩ := ints_numF hA
    cases e
    exact h1
  obtain ⟨FR, hFR⟩ : ∃ FR, FR = fitsR n es ls (fun i => u.getD i 0) u.length := ⟨_, rfl⟩
  have C6 : Hid (∀ A, Below w.heap.size w A → Calls Tryd.prog 6 #[.agg #[.int .i64 n, .slice ao es.length cap]] A fun e w' => Below A.heap.size A w' ∧ ∃ ao c, e = .returned (.agg #[.int .i64 n, .slice ao es.length c]) ∧ EdgesAt w' (.slice ao es.length c) es ∧ es.length ≤ c) := fun A hA => own_any n ao cap es A (hE.below hA)
  have C16 : Hid (∀ A, Below w.heap.size w A → Calls Tryd.prog 16 #[.slice xo xl xc] A fun e w' => ∃ v', e = .returned v' ∧ RowsAt w' v' ls ∧ Below A.heap.size A w') := fun A hA => rows_call (hx.below hA)
  have C11 : Hid (∀ A, Below w.heap.size w A → Calls Tryd.prog 11 #[.agg #[.int .i64 n, .slice ao es.length cap], .slice xo xl xc, .slice uo u.length uc] A fun e w' => e = .returned (.agg #[.int .i64 FR.2.1, .int .i64 FR.2.2]) ∧ Below A.heap.size A w') := fun A hA => by
    rw [hFR]
    exact fault_call (fun i => u.getD i 0) (hE.below hA) hcap (hxc.below hA)
  have C17 : Hid (∀ A o y po pc, Below w.heap.size w A → EdgesAt A o es → RowsAt A y ls → IntsAt A (.slice po u.length pc) u → Calls Tryd.prog 17 #[.agg #[.int .i64 n, o], y, .slice po u.length pc] A fun e w' => e = .returned (.tuple #[.bool FR.1, .agg #[.int .i64 FR.2.1, .int .i64 FR.2.2]]) ∧ Below A.heap.size A w') := fun A o y po pc hA h1 h2 h3 => by
    rw [hFR]
    exact fits_call h1 h2 (HNF h3) (ht.under hA)
  have C9 : Hid (∀ A, Below w.heap.size w A → Calls Tryd.prog 9 #[] A fun e w' => e = .returned (.bool true) ∧ Below A.heap.size A w') := fun A hA => begun_call (ht.under hA)
  have C12 : Hid (FR.2.1 = 0 → ∀ A, Below w.heap.size w A → Calls Tryd.prog 12 #[.agg #[.int .i64 n, .slice ao es.length cap], .slice xo xl xc, .slice uo u.length uc] A fun e w' => e = .returned (.bool FR.1) ∧ Below A.heap.size A w') := fun h0 A hA => by
    rw [hFR] at h0 ⊢
    obtain ⟨N, rfl, hN, hck, hm, hul, hop, e⟩ := fitsR_good h0
    rw [e]
    have hnf := HNF (hu.below hA)
    have hE' := hE.below hA
    have hxl2 : xl = u.length := by omega
    subst hxl2
    exact over_call hE' (hxc.below hA) hck hN hul.symm (by omega) hop hnf
  have HEU : Hid (EdgesAt w (.slice ao es.length cap) es ∧ RowsAt w (.slice xo xl xc) ls ∧ IntsAt w (.slice uo u.length uc) u) := ⟨hE, hx, hu⟩
  have HFB : Hid (FR.2.1 ≠ 0 → FR.1 = false) := fun h => by rw [hFR] at h ⊢; exact fitsR_bad h
  clear hE hcap hx hxc hu ht hFR hxl HNF
  obtain ⟨rb, rc, rd⟩ := FR
  simp only at C11 C17 C12 HFB
  have hneq := neq27 rc rd
  go_enter Tryd.func4, Tryd.ntmps4
  go_upto_region 1 with (fail)
  have t3 := two_new w (.int .i64 n) (.slice ao es.length cap) 24
  have hB0 := below_alloc (Below.refl _ w) (Obj.cells #[.int .i64 n, .slice ao es.length cap] 24)
  generalize w.heap.size = b3 at t3 ⊢
  generalize w.alloc (Obj.cells #[.int .i64 n, .slice ao es.length cap] 24) = W0 at *
  have HW0 : Hid (Two W0 b3 (.int .i64 n) (.slice ao es.length cap) 24 ∧ Below w.heap.size w W0) := ⟨t3, hB0⟩
  obtain ⟨q0, q1⟩ := cell_two t3
  clear t3 hB0
  go_upto_region 2 with (first | (go_at_call 6; refine Calls.mono (C6.out _ HW0.out.2) ?_; rintro e W1 ⟨h1, oo, oc, rfl, hEo, _⟩) | (go_at_call 16; refine Calls.mono (C16.out _ (below_next HW0.out.2 h1)) ?_; rintro e W2 ⟨rx, rfl, hR2, h2⟩) | (at_builtin; refine wpList_copyI rfl _ _ rfl rfl rfl (HEU.out.2.2.below (below_next HW0.out.2 (below_next h1 h2))) ?_; intro po pc W3 hI3 h3) | fail)
  have hB3 := below_next h1 (below_next h2 h3)
  have t7 := two_new W3 (.int .i64 n) (.slice oo es.length oc) 24
  have hB4 := below_alloc (Below.refl _ W3) (Obj.cells #[.int .i64 n, .slice oo es.length oc] 24)
  generalize W3.heap.size = b7 at t7 ⊢
  generalize W3.alloc (Obj.cells #[.int .i64 n, .slice oo es.length oc] 24) = W4 at *
  have HW4 : Hid (Two W4 b3 (.int .i64 n) (.slice ao es.length cap) 24 ∧ Two W4 b7 (.int .i64 n) (.slice oo es.length oc) 24 ∧ EdgesAt W4 (.slice oo es.length oc) es ∧ RowsAt W4 rx ls ∧ IntsAt W4 (.slice po u.length pc) u ∧ Below w.heap.size w W4) := ⟨two_next HW0.out.1 (below_next hB3 hB4), t7, hEo.below (below_next (below_next h2 h3) hB4), hR2.below (below_next h3 hB4), hI3.below hB4, below_next HW0.out.2 (below_next hB3 hB4)⟩
  obtain ⟨q2, q3⟩ := cell_two HW4.out.1
  clear hB3 hB4 t7 h1 h2 h3 hEo hR2 hI3 q0 q1 C6 C16
  go_upto_region 3 with (first | (go_at_call 11; refine Calls.mono (C11.out _ HW4.out.2.2.2.2.2) ?_; rintro e W5 ⟨rfl, h5⟩) | fail)
  have x10 := two_new W5 (.int .i64 rc) (.int .i64 rd) 27
  have hB6 := below_alloc h5 (Obj.cells #[.int .i64 rc, .int .i64 rd] 27)
  obtain ⟨b10, hb10⟩ : ∃ b, b = W5.heap.size := ⟨_, rfl⟩
  rw [← hb10] at x10 ⊢
  generalize W5.alloc (Obj.cells #[.int .i64 rc, .int .i64 rd] 27) = W6 at *
  have HW6 : Hid (Two W6 b3 (.int .i64 n) (.slice ao es.length cap) 24 ∧ Two W6 b7 (.int .i64 n) (.slice oo es.length oc) 24 ∧ EdgesAt W6 (.slice oo es.length oc) es ∧ RowsAt W6 rx ls ∧ IntsAt W6 (.slice po u.length pc) u ∧ Below w.heap.size w W6 ∧ Two W6 b10 (.int .i64 rc) (.int .i64 rd) 27) := ⟨two_next HW4.out.1 hB6, two_next HW4.out.2.1 hB6, HW4.out.2.2.1.below hB6, HW4.out.2.2.2.1.below hB6, HW4.out.2.2.2.2.1.below hB6, below_next HW4.out.2.2.2.2.2 hB6, x10⟩
  obtain ⟨q4, q5⟩ := cell_two HW6.out.2.1
  clear hB6 h5 x10 hb10 q2 q3 C11
  go_upto_region 4 with (first | (go_at_call 17; refine Calls.mono (C17.out _ _ _ _ _ HW6.out.2.2.2.2.2.1 HW6.out.2.2.1 HW6.out.2.2.2.1 HW6.out.2.2.2.2.1) ?_; rintro e W7 ⟨rfl, h7⟩) | fail)
  have x12 := two_new W7 (.int .i64 rc) (.int .i64 rd) 27
  have hB8 := below_alloc h7 (Obj.cells #[.int .i64 rc, .int .i64 rd] 27)
  obtain ⟨b12, hb12⟩ : ∃ b, b = W7.heap.size := ⟨_, rfl⟩
  rw [← hb12] at x12 ⊢
  generalize W7.alloc (Obj.cells #[.int .i64 rc, .int .i64 rd] 27) = W8 at *
  have HW8 : Hid (∀ A, Below W8.heap.size W8 A → Two A b3 (.int .i64 n) (.slice ao es.length cap) 24 ∧ Two A b7 (.int .i64 n) (.slice oo es.length oc) 24 ∧ EdgesAt A (.slice oo es.length oc) es ∧ RowsAt A rx ls ∧ IntsAt A (.slice po u.length pc) u ∧ Below w.heap.size w A ∧ Two A b10 (.int .i64 rc) (.int .i64 rd) 27 ∧ Two A b12 (.int .i64 rc) (.int .i64 rd) 27) := fun A hA => by
    have hb := below_next hB8 hA
    exact ⟨two_next HW6.out.1 hb, two_next HW6.out.2.1 hb, HW6.out.2.2.1.below hb, HW6.out.2.2.2.1.below hb, HW6.out.2.2.2.2.1.below hb, below_next HW6.out.2.2.2.2.2.1 hb, two_next HW6.out.2.2.2.2.2.2 hb, two_next x12 hA⟩
  clear h7 x12 hb12 q4 q5 C17 hB8
  have C10 : Hid (∀ A, Below W8.heap.size W8 A → Calls Tryd.prog 10 #[.agg #[.int .i64 n, .slice oo es.length oc], .agg #[.int .i64 n, .slice ao es.length cap]] A fun e w' => e = .returned (.bool true) ∧ Below A.heap.size A w') := fun A hA => by
    obtain ⟨_, _, k3, _, _, k6, _⟩ := HW8.out A hA
    exact kept_true n _ _ es A k3 (HEU.out.1.below k6)
  have C18 : Hid (∀ A, Below W8.heap.size W8 A → Calls Tryd.prog 18 #[rx, .slice xo xl xc] A fun e w' => e = .returned (.bool true) ∧ Below A.heap.size A w') := fun A hA => by
    obtain ⟨_, _, _, k4, _, k6, _⟩ := HW8.out A hA
    exact (lists_true _ _ ls A k4 (HEU.out.2.1.below k6)).mono fun e w' ⟨h1, m, h2⟩ => ⟨h1, by rw [h2]; exact below_drewN (Below.refl _ _) _⟩
  have C19 : Hid (∀ A, Below W8.heap.size W8 A → Calls Tryd.prog 19 #[.slice po u.length pc, .slice uo u.length uc] A fun e w' => e = .returned (.bool true) ∧ Below A.heap.size A w') := fun A hA => by
    obtain ⟨_, _, _, _, k5, k6, _⟩ := HW8.out A hA
    exact (ints_true _ _ u A k5 (HEU.out.2.2.below k6)).mono fun e w' ⟨h1, m, h2⟩ => ⟨h1, by rw [h2]; exact below_drewN (Below.refl _ _) _⟩
  go_upto_region 6 with (first | (go_at_call 9; refine Calls.mono (C9.out _ (HW8.out _ (Below.refl _ _)).2.2.2.2.2.1) ?_; rintro e V1 ⟨rfl, g1⟩; obtain ⟨z0, z1⟩ := cell_two (HW8.out _ g1).2.2.2.2.2.2.1; obtain ⟨z2, z3⟩ := cell_two (HW8.out _ g1).2.2.2.2.2.2.2; obtain ⟨z4, z5⟩ := cell_two (HW8.out _ g1).1; obtain ⟨z6, z7⟩ := cell_two (HW8.out _ g1).2.1) | (go_at_call 10; refine Calls.mono (C10.out _ g1) ?_; rintro e V2 ⟨rfl, g2⟩) | (go_at_call 18; refine Calls.mono (C18.out _ (below_next g1 g2)) ?_; rintro e V3 ⟨rfl, g3⟩) | (go_at_call 19; refine Calls.mono (C19.out _ (below_next (below_next g1 g2) g3)) ?_; rintro e V4 ⟨rfl, g4⟩) | fail)
  have g5 := below_next (below_next (below_next g1 g2) g3) g4
  obtain ⟨k1, _, _, _, _, k6, k7, _⟩ := HW8.out _ g5
  obtain ⟨y0, y1⟩ := cell_two k7
  obtain ⟨y2, y3⟩ := cell_two k1
  have HV : Hid (Below w.heap.size w V4) := k6
  clear k1 k6 k7 g5 g1 g2 g3 g4 z0 z1 z2 z3 z4 z5 z6 z7 C10 C18 C19 C9 HW8
  by_cases h0 : rc = 0
  · have kc : (rc != 0) = false := by simpa using h0
    have C12' : Hid _ := C12.out h0 V4 HV.out
    clear h0 HFB C12
    go_wp2_with (first | (go_at_call 12; refine Calls.mono C12'.out ?_; rintro e V5 ⟨rfl, g6⟩) | go_in)
    go_ret
    exact ⟨by simp, below_next HV.out g6⟩
  · have kc : (rc != 0) = true := by simpa using h0
    have hrb : rb = false := HFB.out h0
    subst hrb
    clear h0 HFB C12
    go_wp2
    go_ret
    exact ⟨rfl, HV.out⟩
end Go.Proofs.YtdalconphfgepaaDoor
