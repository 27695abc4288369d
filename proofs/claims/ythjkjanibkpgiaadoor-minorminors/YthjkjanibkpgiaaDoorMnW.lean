/- Minor. -/
import Derived.Test.YthjkjanibkpgiaaDoorMnM
namespace Go.Proofs.YthjkjanibkpgiaaDoor
set_option maxRecDepth 8000
open Go.RowKit Go.Maps
attribute [local go_sem ↓] Go.wp_at_zero Go.wp_at_succ
set_option maxHeartbeats 16000000 in
theorem minor_call {w : World} {n n2 : Int} {ao ao2 : Option Addr} {cap cap2 : Nat} {es es2 : List Pair} (hE : EdgesAt w (.slice ao es.length cap) es) (hE2 : EdgesAt w (.slice ao2 es2.length cap2) es2) (hT : T32 w) :
    Calls Tryd.prog 7 #[.agg #[.int .i64 n, .slice ao es.length cap], .agg #[.int .i64 n2, .slice ao2 es2.length cap2]] w fun e w' => MinA w.heap.size w' n es n2 es2 e ∧ Below w.heap.size w w' := by
  have C18 : Hid (∀ A, Below w.heap.size w A → Calls Tryd.prog 18 #[.agg #[.int .i64 n, .slice ao es.length cap], .agg #[.int .i64 n2, .slice ao2 es2.length cap2]] A fun e w' => e = .returned (.agg #[.int .i64 (chk2 n es n2 es2).1, .int .i64 (chk2 n es n2 es2).2]) ∧ Below A.heap.size A w') := fun A hA => check2_call (hE.below hA) (hE2.below hA)
  have HE : Hid (EdgesAt w (.slice ao es.length cap) es ∧ EdgesAt w (.slice ao2 es2.length cap2) es2 ∧ T32 w) := ⟨hE, hE2, hT⟩
  obtain ⟨P, hP⟩ : ∃ P, P = chk2 n es n2 es2 := ⟨_, rfl⟩
  have HP : Hid (P = chk2 n es n2 es2) := hP
  rw [← hP] at C18
  obtain ⟨p1, p2⟩ := P
  simp only at C18
  clear hE hE2 hP hT
  go_enter Tryd.func7, Tryd.ntmps7
  go_upto_region 1 with (fail)
  have t2 : Two (((((w.alloc (Obj.cells #[.int .i64 n, .slice ao es.length cap] 24)).alloc (Obj.cells #[.int .i64 n2, .slice ao2 es2.length cap2] 24)).alloc (Obj.cells #[.slice none 0 0] 29)).alloc (Obj.cells #[.int .i64 0, .int .i64 0] 27))) w.heap.size (.int .i64 n) (.slice ao es.length cap) 24 := two_alloc (two_alloc (two_alloc (two_new _ _ _ _) _) _) _
  have t3 : Two (((((w.alloc (Obj.cells #[.int .i64 n, .slice ao es.length cap] 24)).alloc (Obj.cells #[.int .i64 n2, .slice ao2 es2.length cap2] 24)).alloc (Obj.cells #[.slice none 0 0] 29)).alloc (Obj.cells #[.int .i64 0, .int .i64 0] 27))) (w.heap.size + 1) (.int .i64 n2) (.slice ao2 es2.length cap2) 24 := by
    have := two_alloc (two_alloc (two_new (w.alloc (Obj.cells #[.int .i64 n, .slice ao es.length cap] 24)) (.int .i64 n2) (.slice ao2 es2.length cap2) 24) (Obj.cells #[.slice none 0 0] 29)) (Obj.cells #[.int .i64 0, .int .i64 0] 27)
    simpa using this
  have t4 : One (((((w.alloc (Obj.cells #[.int .i64 n, .slice ao es.length cap] 24)).alloc (Obj.cells #[.int .i64 n2, .slice ao2 es2.length cap2] 24)).alloc (Obj.cells #[.slice none 0 0] 29)).alloc (Obj.cells #[.int .i64 0, .int .i64 0] 27))) (w.heap.size + 1 + 1) (.slice none 0 0) 29 := by
    have := one_alloc' (one_new ((w.alloc (Obj.cells #[.int .i64 n, .slice ao es.length cap] 24)).alloc (Obj.cells #[.int .i64 n2, .slice ao2 es2.length cap2] 24)) (.slice none 0 0) 29) (Obj.cells #[.int .i64 0, .int .i64 0] 27)
    simpa using this
  have t6 : Two (((((w.alloc (Obj.cells #[.int .i64 n, .slice ao es.length cap] 24)).alloc (Obj.cells #[.int .i64 n2, .slice ao2 es2.length cap2] 24)).alloc (Obj.cells #[.slice none 0 0] 29)).alloc (Obj.cells #[.int .i64 0, .int .i64 0] 27))) (w.heap.size + 1 + 1 + 1) (.int .i64 0) (.int .i64 0) 27 := by
    have := two_new (((w.alloc (Obj.cells #[.int .i64 n, .slice ao es.length cap] 24)).alloc (Obj.cells #[.int .i64 n2, .slice ao2 es2.length cap2] 24)).alloc (Obj.cells #[.slice none 0 0] 29)) (.int .i64 0) (.int .i64 0) 27
    simpa using this
  have hB0 : Below w.heap.size w (((((w.alloc (Obj.cells #[.int .i64 n, .slice ao es.length cap] 24)).alloc (Obj.cells #[.int .i64 n2, .slice ao2 es2.length cap2] 24)).alloc (Obj.cells #[.slice none 0 0] 29)).alloc (Obj.cells #[.int .i64 0, .int .i64 0] 27))) := below_alloc (below_alloc (below_alloc (below_alloc (Below.refl _ w) _) _) _) _
  obtain ⟨b6, hb6⟩ : ∃ b, b = w.heap.size + 1 + 1 + 1 := ⟨_, rfl⟩
  obtain ⟨b4, hb4⟩ : ∃ b, b = w.heap.size + 1 + 1 := ⟨_, rfl⟩
  obtain ⟨b3, hb3⟩ : ∃ b, b = w.heap.size + 1 := ⟨_, rfl⟩
  obtain ⟨b2, hb2⟩ : ∃ b, b = w.heap.size := ⟨_, rfl⟩
  rw [← hb6] at t6 ⊢
  rw [← hb4] at t4 ⊢
  rw [← hb3] at t3 ⊢
  rw [← hb2] at t2 ⊢
  have HB : Hid (b2 = w.heap.size ∧ b3 = w.heap.size + 1 ∧ b4 = w.heap.size + 2 ∧ b6 = w.heap.size + 3) := ⟨hb2, hb3, by omega, by omega⟩
  generalize (((((w.alloc (Obj.cells #[.int .i64 n, .slice ao es.length cap] 24)).alloc (Obj.cells #[.int .i64 n2, .slice ao2 es2.length cap2] 24)).alloc (Obj.cells #[.slice none 0 0] 29)).alloc (Obj.cells #[.int .i64 0, .int .i64 0] 27))) = W1 at *
  have HW1 : Hid (Below w.heap.size w W1 ∧ Two W1 b2 (.int .i64 n) (.slice ao es.length cap) 24 ∧ Two W1 b3 (.int .i64 n2) (.slice ao2 es2.length cap2) 24 ∧ One W1 b4 (.slice none 0 0) 29 ∧ Two W1 b6 (.int .i64 0) (.int .i64 0) 27) := ⟨hB0, t2, t3, t4, t6⟩
  obtain ⟨c0, c1⟩ := cell_two t2
  obtain ⟨c2, c3⟩ := cell_two t3
  clear t2 t3 t4 t6 hB0 hb2 hb3 hb4 hb6
  go_upto_region 2 with (first | (go_at_call 18; refine Calls.mono (C18.out _ HW1.out.1) ?_; rintro e W2 ⟨rfl, h2⟩) | fail)
  have x5 := two_new W2 (.int .i64 p1) (.int .i64 p2) 27
  have hB3 := below_alloc (Below.refl _ W2) (Obj.cells #[.int .i64 p1, .int .i64 p2] 27)
  generalize W2.heap.size = b7 at x5 ⊢
  generalize W2.alloc (Obj.cells #[.int .i64 p1, .int .i64 p2] 27) = W3 at *
  have hB13 : Below W1.heap.size W1 W3 := below_next h2 hB3
  have HW3 : Hid (Below w.heap.size w W3 ∧ Two W3 b2 (.int .i64 n) (.slice ao es.length cap) 24 ∧ Two W3 b3 (.int .i64 n2) (.slice ao2 es2.length cap2) 24 ∧ One W3 b4 (.slice none 0 0) 29 ∧ Two W3 b6 (.int .i64 0) (.int .i64 0) 27 ∧ W1.heap.size ≤ W3.heap.size) := ⟨below_next HW1.out.1 hB13, two_next HW1.out.2.1 hB13, two_next HW1.out.2.2.1 hB13, one_turns HW1.out.2.2.2.1 (Turns.of_below hB13 (fun _ => False)) (fun h => h), two_next HW1.out.2.2.2.2 hB13, hB13.size⟩
  obtain ⟨d0, d1⟩ := cell_two x5
  have HB7 : Hid (Two W3 b7 (.int .i64 p1) (.int .i64 p2) 27) := x5
  clear h2 hB3 x5 c0 c1 c2 c3 C18 HW1 hB13
  by_cases h : p1 = 0
  · have k1 : (p1 != 0) = false := by simpa using h
    have hP0 : (chk2 n es n2 es2).1 = 0 := by rw [← HP.out]; exact h
    obtain ⟨g1, g2, g3, g4, g5⟩ := chk2_good hP0
    obtain ⟨_, hn0, _, hlen0, hgood⟩ := chk_good g2
    obtain ⟨_, hm0, _, hlen1, hgood2⟩ := chk_good g3
    obtain ⟨N, rfl⟩ := Int.eq_ofNat_of_zero_le hn0
    obtain ⟨M, rfl⟩ := Int.eq_ofNat_of_zero_le hm0
    obtain ⟨eg, rfl, heg⟩ := pzT_nat (N := N) hgood
    obtain ⟨eh, rfl, heh⟩ := pzT_nat (N := M) hgood2
    have hneg := pz_ne hgood
    have hneh := pz_ne hgood2
    have hl1 : (pzT eg).length = eg.length := by simp [pzT]
    have hl2 : (pzT eh).length = eh.length := by simp [pzT]
    rw [hl1] at HE HW3 hlen0 ⊢
    rw [hl2] at HE HW3 hlen1 ⊢
    have hN10 : N ≤ 10 := by omega
    have hM6 : M ≤ 6 := by omega
    obtain ⟨tog, ht0, htog⟩ := tog_ex (nearF eg) N
    have CG : Hid (∀ A, Below w.heap.size w A → Calls Tryd.prog 19 #[.agg #[.int .i64 (N : Int), .slice ao eg.length cap]] A fun e w' => (∃ b, e = .returned (sl b N) ∧ A.heap.size ≤ b ∧ RowV w' b 53 N (nv (nearF eg))) ∧ Below A.heap.size A w') := fun A hA => nearSets_call (HE.out.1.below hA) heg hneg (by omega) hlen0
    have CH : Hid (∀ A, Below w.heap.size w A → Calls Tryd.prog 19 #[.agg #[.int .i64 (M : Int), .slice ao2 eh.length cap2]] A fun e w' => (∃ b, e = .returned (sl b M) ∧ A.heap.size ≤ b ∧ RowV w' b 53 M (nv (nearF eh))) ∧ Below A.heap.size A w') := fun A hA => nearSets_call (HE.out.2.1.below hA) heh hneh (by omega) hlen1
    have CF : Hid (∀ (A : World) (b8 b9 nb wb : Nat), Below w.heap.size w A → One A b8 (sl nb N) 47 → One A b9 (sl wb M) 47 → One A b4 (.slice none 0 0) 29 → RowV A nb 53 N (nv (nearF eg)) → RowV A wb 53 M (nv (nearF eh)) → Calls Tryd.prog 20 #[sl nb N, .int .i64 (M : Int), .func (.func 21) #[] #[ptr b8, ptr b9, ptr b4]] A fun e w' => ∃ db, e = .returned (.bool db) ∧ Turns (fun k => k = b4) A w' ∧ Hid ((db = true ∧ ∃ c l, Cho tog (2 ^ N - 1).testBit c ∧ c.length = M ∧ fitP (nearF eg) (nearF eh) N M c = some l ∧ SetsV w' A.heap.size b4 (l.map fun at_ => bl (c.getD at_ 0))) ∨
       (db = false ∧ (∀ c, Cho tog (2 ^ N - 1).testBit c → c.length = M → fitP (nearF eg) (nearF eh) N M c = none) ∧ One w' b4 (.slice none 0 0) 29))) := fun A b8 b9 nb wb hA h1 h2 h3 h4 h5 => by
      exact pieces_call h1 h2 h3 h4 h5 (HE.out.2.2.below hA) (nearF_lt hneg heg) (nearF_lt hneh heh) hN10 hM6 (by have := HB.out; omega) ht0 htog
    have HN : Hid (chk2 (N : Int) (pzT eg) (M : Int) (pzT eh) = (0, 0) ∧ (∀ e ∈ eg, e.1 < N ∧ e.2 < N) ∧ (∀ e ∈ eh, e.1 < M ∧ e.2 < M) ∧ (∀ e ∈ eg, e.1 ≠ e.2) ∧ (∀ e ∈ eh, e.1 ≠ e.2) ∧ N ≤ 10 ∧ M ≤ 6 ∧ (∀ x, x ≠ 0 → (tog x = true ↔ Rch (nearF eg) N x (Lib.ctz 32 x) x))) := ⟨g1, heg, heh, hneg, hneh, hN10, hM6, htog⟩
    clear heg heh hneg hneh g1 g2 g3 g4 g5 hn0 hm0 hgood hgood2 hP0 h HP hN10 hM6 hlen0 hlen1 hl1 hl2 ht0 htog
    go_upto_region 4 with (fail)
    clear d0 d1
    refine region_ext (J := S47 W3 (VM (.agg #[.int .i64 (N : Int), .slice ao eg.length cap]) (.agg #[.int .i64 (M : Int), .slice ao2 eh.length cap2]) N M eg eh)) (by kernel_rfl) (by kernel_rfl) (by kernel_rfl) S47.start ?_ ?_
    · intro i o hi L xs a w1 hS hL hd hcl hX
      match i, hi with
      | 0, hi =>
        cases hi
        have s1 := hX.out (s := 2) rfl
        obtain ⟨y0, y1⟩ := cell_two (two_next HW3.out.2.1 hS.bel)
        refine wpOp_value rfl rfl (v := .agg #[.int .i64 (N : Int), .slice ao eg.length cap]) (w' := w1) ?_ ⟨_, rfl, hS.put VM.mono hL (by omega) (Below.refl _ _) rfl⟩
        simp [go_sem, Act.eval, s1, y0, y1]
      | 1, hi =>
        cases hi
        have l1 := hd ⟨0, .data⟩ (by simp) rfl
        have r1 := (hX.rd 0 _ 17 rfl rfl l1).trans (hS.told 0 (by omega) l1)
        refine wpOp_call rfl rfl (f := 19) (args := #[.agg #[.int .i64 (N : Int), .slice ao eg.length cap]]) (w' := w1) ?_ ?_
        · simp [go_sem, Act.eval, r1]
        · refine Calls.mono (CG.out _ (below_next HW3.out.1 hS.bel)) ?_
          rintro e w2 ⟨⟨b, rfl, _, hb⟩, hB'⟩
          exact ⟨_, rfl, _, rfl, hS.put VM.mono hL (by omega) hB' ⟨b, rfl, hb⟩⟩
      | 2, hi =>
        cases hi
        have s1 := hX.out (s := 3) rfl
        obtain ⟨y0, y1⟩ := cell_two (two_next HW3.out.2.2.1 hS.bel)
        refine wpOp_value rfl rfl (v := .agg #[.int .i64 (M : Int), .slice ao2 eh.length cap2]) (w' := w1) ?_ ⟨_, rfl, hS.put VM.mono hL (by omega) (Below.refl _ _) rfl⟩
        simp [go_sem, Act.eval, s1, y0, y1]
      | 3, hi =>
        cases hi
        have l1 := hd ⟨2, .data⟩ (by simp) rfl
        have r1 := (hX.rd 2 _ 19 rfl rfl l1).trans (hS.told 2 (by omega) l1)
        refine wpOp_call rfl rfl (f := 19) (args := #[.agg #[.int .i64 (M : Int), .slice ao2 eh.length cap2]]) (w' := w1) ?_ ?_
        · simp [go_sem, Act.eval, r1]
        · refine Calls.mono (CH.out _ (below_next HW3.out.1 hS.bel)) ?_
          rintro e w2 ⟨⟨b, rfl, _, hb⟩, hB'⟩
          exact ⟨_, rfl, _, rfl, hS.put VM.mono hL (by omega) hB' ⟨b, rfl, hb⟩⟩
      | 4, hi =>
        cases hi
        refine wpOp_value rfl rfl (v := ptr w1.heap.size) (w' := w1.alloc (Obj.cells #[.slice none 0 0] 47)) ?_ ⟨_, rfl, hS.alloc4 VM.mono hL⟩
        simp [go_sem]
      | 5, hi =>
        cases hi
        refine wpOp_value rfl rfl (v := ptr w1.heap.size) (w' := w1.alloc (Obj.cells #[.slice none 0 0] 47)) ?_ ⟨_, rfl, hS.alloc5 VM.mono hL⟩
        simp [go_sem]
      | 6, hi =>
        cases hi
        have l1 := hd ⟨1, .data⟩ (by simp) rfl
        have l4 := hd ⟨4, .data⟩ (by simp) rfl
        obtain ⟨b, e1, h1⟩ := hS.told 1 (by omega) l1
        obtain ⟨b', e4, _, h4⟩ := hS.a4 l4
        rw [if_neg (by rw [hL]; decide)] at h4
        have r1 := (hX.rd 1 _ 18 rfl rfl l1).trans e1
        have r4 := (hX.rd 4 _ 8 rfl rfl l4).trans e4
        have y0 := box_cell h4 (i := 0) rfl
        have y1 := one_free h4
        refine wpOp_skip rfl rfl (w' := w1.setCell ⟨b', 0, none⟩ (xs 1)) ?_ ⟨undef, rfl, hS.store6 (fun w c y z hh => VM.set47 hh) l4 l1 e4 undef⟩
        rw [e1]
        simp [go_sem, Act.eval, r1, r4, y0, y1]
      | 7, hi =>
        cases hi
        have l1 := hd ⟨3, .data⟩ (by simp) rfl
        have l4 := hd ⟨5, .data⟩ (by simp) rfl
        obtain ⟨b, e1, h1⟩ := hS.told 3 (by omega) l1
        obtain ⟨b', e4, _, h4⟩ := hS.a5 l4
        rw [if_neg (by rw [hL]; decide)] at h4
        have r1 := (hX.rd 3 _ 20 rfl rfl l1).trans e1
        have r4 := (hX.rd 5 _ 9 rfl rfl l4).trans e4
        have y0 := box_cell h4 (i := 0) rfl
        have y1 := one_free h4
        refine wpOp_skip rfl rfl (w' := w1.setCell ⟨b', 0, none⟩ (xs 3)) ?_ ⟨undef, rfl, hS.store7 (fun w c y z hh => VM.set47 hh) l4 l1 e4 undef⟩
        rw [e1]
        simp [go_sem, Act.eval, r1, r4, y0, y1]
      | _ + 8, hi => cases hi
    · intro L xs W7 hS hall
      obtain ⟨nb, e1, h1⟩ := hS.told 1 (by omega) (hall 1 (by decide))
      obtain ⟨wb, e3, h3⟩ := hS.told 3 (by omega) (hall 3 (by decide))
      obtain ⟨b8, e4, hb8, o8⟩ := hS.a4 (hall 4 (by decide))
      obtain ⟨b9, e5, hb9, o9⟩ := hS.a5 (hall 5 (by decide))
      rw [if_pos (hall 6 (by decide)), e1] at o8
      rw [if_pos (hall 7 (by decide)), e3] at o9
      have hB7 := hS.bel
      have hb := HB.out
      have o4 : One W7 b4 (.slice none 0 0) 29 := one_turns HW3.out.2.2.2.1 (Turns.of_below hB7 (fun _ => False)) (fun h => h)
      have CF' : Hid _ := CF.out W7 b8 b9 nb wb (below_next HW3.out.1 hB7) o8 o9 o4 h1 h3
      have HW7 : Hid (Below w.heap.size w W7 ∧ One W7 b4 (.slice none 0 0) 29 ∧ Two W7 b6 (.int .i64 0) (.int .i64 0) 27 ∧ W3.heap.size ≤ W7.heap.size) := ⟨below_next HW3.out.1 hB7, o4, two_next HW3.out.2.2.2.2.1 hB7, hB7.size⟩
      have c8 := box_cell o8 (i := 0) rfl
      obtain ⟨c3, c3'⟩ := cell_two (two_next HW3.out.2.2.1 hB7)
      simp only [puts, e4, e5]
      generalize xs 0 = z0
      generalize xs 1 = z1
      generalize xs 2 = z2
      generalize xs 3 = z3
      clear hS hall e1 e3 e4 e5 h1 h3 hb8 hb9 o8 o9 o4 hB7 hb CG CH CF
      go_upto_region 6 with (first | (go_at_call 20; refine Calls.mono CF'.out ?_; rintro e W8 ⟨db, rfl, ht, hg⟩) | fail)
      have hb := HB.out
      obtain ⟨y, o4, ⟨yo, yn, yc, hyB⟩, hgy⟩ : ∃ y, One W8 b4 y 29 ∧ (∃ yo yn yc, y = .slice yo yn yc) ∧ ((db = true ∧ ∃ c l, Cho tog (2 ^ N - 1).testBit c ∧ c.length = M ∧ fitP (nearF eg) (nearF eh) N M c = some l ∧ RowsU W8 W7.heap.size y (l.map fun at_ => bl (c.getD at_ 0))) ∨ (db = false ∧ (∀ c, Cho tog (2 ^ N - 1).testBit c → c.length = M → fitP (nearF eg) (nearF eh) N M c = none) ∧ y = .slice none 0 0)) := by
        rcases hg.out with ⟨rfl, c, l, g1, g2, g3, v, hs, g4, g5, g6, g7, g8⟩ | ⟨rfl, g1, g2⟩
        · obtain ⟨vo, vc, e⟩ := id g5
          exact ⟨v, g4, ⟨_, _, _, e⟩, Or.inl ⟨rfl, c, l, g1, g2, g3, hs, g5, g6, g7, g8⟩⟩
        · exact ⟨_, g2, ⟨_, _, _, rfl⟩, Or.inr ⟨rfl, g1, rfl⟩⟩
      subst hyB
      have t6 : Two W8 b6 (.int .i64 0) (.int .i64 0) 27 := two_turns HW7.out.2.2.1 ht (by omega)
      have hB8 : Below w.heap.size w W8 := Turns.below HW7.out.1 ht HW7.out.1.size (fun k hk => by omega)
      have HY : Hid ((db = true ∧ ∃ c l, Cho tog (2 ^ N - 1).testBit c ∧ c.length = M ∧ fitP (nearF eg) (nearF eh) N M c = some l ∧ RowsU W8 W7.heap.size (.slice yo yn yc) (l.map fun at_ => bl (c.getD at_ 0))) ∨ (db = false ∧ (∀ c, Cho tog (2 ^ N - 1).testBit c → c.length = M → fitP (nearF eg) (nearF eh) N M c = none) ∧ Value.slice yo yn yc = .slice none 0 0)) := hgy
      have c4 := box_cell o4 (i := 0) rfl
      have f4 := one_free o4
      have hb64 : b6 ≠ b4 := by omega
      obtain ⟨q1, q2, q3, q4, q5, q6⟩ := store_two' (two_far (o := 0) (u := .slice yo yn yc) t6 hb64) (.int .i64 0) (.int .i64 0)
      have o5 : One (((W8.setCell ⟨b4, 0, none⟩ (.slice yo yn yc)).setCell ⟨b6, 0, none⟩ (.int .i64 0)).setCell ⟨b6, 1, none⟩ (.int .i64 0)) b4 (.slice yo yn yc) 29 := one_far (one_far (box_set o4 0 (.slice yo yn yc)) (fun e => hb64 e.symm)) (fun e => hb64 e.symm)
      have c5 := box_cell o5 (i := 0) rfl
      have HW8 : Hid (Below w.heap.size w W8 ∧ One W8 b4 (.slice yo yn yc) 29 ∧ Two W8 b6 (.int .i64 0) (.int .i64 0) 27 ∧ W3.heap.size ≤ W7.heap.size ∧ w.heap.size ≤ W7.heap.size ∧ b6 < W7.heap.size ∧ b4 < W7.heap.size) := ⟨hB8, o4, t6, HW7.out.2.2.2, HW7.out.1.size, lt_of_block HW7.out.2.2.1, lt_of_block HW7.out.2.1⟩
      clear hg hgy o4 t6 hB8 o5 ht CF' c8 c3 c3' hb hb64
      go_wp2
      have hb := HB.out
      have hN := HN.out
      have h8 := HW8.out
      have hT : Turns (fun k => k = b4 ∨ k = b6) W8 ((((W8.setCell ⟨b4, 0, none⟩ (.slice yo yn yc)).setCell ⟨b6, 0, none⟩ (.int .i64 0)).setCell ⟨b6, 1, none⟩ (.int .i64 0))) :=
        (((setCell_turns W8 b4 0 _).mono fun k _ e => Or.inl e).trans ((setCell_turns _ b6 0 _).mono fun k _ e => Or.inr e)).trans ((setCell_turns _ b6 1 _).mono fun k _ e => Or.inr e)
      refine bodyPost_ret (v := .tuple #[.slice yo yn yc, .bool db, .agg #[.int .i64 0, .int .i64 0]]) ?_ rfl ⟨Or.inr ⟨hN.1, N, M, eg, eh, .slice yo yn yc, db, tog, rfl, rfl, rfl, rfl, hN.2.1, hN.2.2.1, hN.2.2.2.1, hN.2.2.2.2.1, hN.2.2.2.2.2.1, hN.2.2.2.2.2.2.1, hN.2.2.2.2.2.2.2, rfl, ?_⟩, ?_⟩
      · simp [results, Tryd.results7, go_sem, c5, q5, q6]
      · rcases HY.out with ⟨e1, c, l, g1, g2, g3, hs, g4, g5, g6, g7⟩ | h
        · refine Or.inl ⟨e1, c, l, g1, g2, g3, hs, g4, ?_, g6, fun i hh l' hi hl => ?_⟩
          · exact ownsRow_mono (ownsRow_blocks g5 fun b hb' => hT.block b (g5.lt b hb').2 (fun e => by have := (g5.lt b hb').1; omega)) h8.2.2.2.2.1
          · obtain ⟨z1, z2, z3, z4⟩ := g7 i hh l' hi hl
            exact ⟨z1, z2, z3, ownsRow_mono (ownsRow_blocks z4 fun b hb' => hT.block b (z4.lt b hb').2 (fun e => by have := (z4.lt b hb').1; omega)) h8.2.2.2.2.1⟩
        · exact Or.inr h
      · exact Turns.below h8.1 hT h8.1.size (fun k hk => by omega)
  · have k1 : (p1 != 0) = true := by simpa using h
    have HN : Hid (p1 ≠ 0) := h
    clear h
    obtain ⟨q1, q2, q3, q4, q5, q6⟩ := store_two' HW3.out.2.2.2.2.1 (.int .i64 p1) (.int .i64 p2)
    have c4 := box_cell (i := 0) HW3.out.2.2.2.1 rfl
    have f4 := one_free HW3.out.2.2.2.1
    have hb7 : b7 ≠ b4 := by
      intro e
      have h1 := HB7.out
      rw [e] at h1
      have h2 : W3.heap[b4]? = _ := HW3.out.2.2.2.1
      have h3 : W3.heap[b4]? = _ := h1
      rw [h3] at h2
      cases h2
    have hb6 : b6 ≠ b4 := by have := HB.out; omega
    obtain ⟨e0, e1⟩ := cell_two (two_far (o := 0) (u := .slice none 0 0) HB7.out hb7)
    obtain ⟨r1, r2, r3, r4, r5, r6⟩ := store_two' (two_far (o := 0) (u := .slice none 0 0) HW3.out.2.2.2.2.1 hb6) (.int .i64 p1) (.int .i64 p2)
    have o4 : One ((W3.setCell ⟨b6, 0, none⟩ (.int .i64 p1)).setCell ⟨b6, 1, none⟩ (.int .i64 p2)) b4 (.slice none 0 0) 29 := one_far (one_far HW3.out.2.2.2.1 (fun e => hb6 e.symm)) (fun e => hb6 e.symm)
    have c4' := box_cell (i := 0) o4 rfl
    have f4' := one_free o4
    have o5 : One (W3.setCell ⟨b4, 0, none⟩ (.slice none 0 0)) b4 (.slice none 0 0) 29 := box_set HW3.out.2.2.2.1 0 _
    have c5' : ((((W3.setCell ⟨b4, 0, none⟩ (.slice none 0 0)).setCell ⟨b6, 0, none⟩ (.int .i64 p1)).setCell ⟨b6, 1, none⟩ (.int .i64 p2))).cell? ⟨b4, 0, none⟩ = some (.slice none 0 0) := box_cell (i := 0) (one_far (one_far o5 (fun e => hb6 e.symm)) (fun e => hb6 e.symm)) rfl
    have t7 : Two ((((W3.setCell ⟨b6, 0, none⟩ (.int .i64 p1)).setCell ⟨b6, 1, none⟩ (.int .i64 p2)).setCell ⟨b4, 0, none⟩ (.slice none 0 0))) b6 (.int .i64 p1) (.int .i64 p2) 27 := two_far (two_setN HW3.out.2.2.2.2.1) hb6
    obtain ⟨s0, s1⟩ := cell_two t7
    have o8 : One ((((W3.setCell ⟨b6, 0, none⟩ (.int .i64 p1)).setCell ⟨b6, 1, none⟩ (.int .i64 p2)).setCell ⟨b4, 0, none⟩ (.slice none 0 0))) b4 (.slice none 0 0) 29 := box_set o4 0 _
    have c8 := box_cell (i := 0) o8 rfl
    clear o4 o5 t7 o8 hb7
    go_upto_region 3 with (fail)
    go_region
    go_wp2
    refine bodyPost_ret (v := .tuple #[.slice none 0 0, .bool false, .agg #[.int .i64 p1, .int .i64 p2]]) ?_ rfl ⟨Or.inl ⟨?_, ?_⟩, ?_⟩
    · simp [results, Tryd.results7, go_sem, c5', r5, r6]
    · rw [← HP.out]; exact HN.out
    · rw [← HP.out]
    · have hb := HB.out
      exact (((HW3.out.1.setCell (show w.heap.size ≤ b4 by omega) _).setCell (show w.heap.size ≤ b6 by omega) _).setCell (show w.heap.size ≤ b6 by omega) _).drew
end Go.Proofs.YthjkjanibkpgiaaDoor
