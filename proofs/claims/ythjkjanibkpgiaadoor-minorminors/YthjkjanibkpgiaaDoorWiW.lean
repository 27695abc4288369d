/- Within. -/
import Derived.Test.YthjkjanibkpgiaaDoorCk2
import Derived.Test.YthjkjanibkpgiaaDoorRegX
import Derived.Test.YthjkjanibkpgiaaDoorTailM
namespace Go.Proofs.YthjkjanibkpgiaaDoor
set_option maxRecDepth 8000
open Go.RowKit Go.Maps
attribute [local go_sem ↓] Go.wp_at_zero Go.wp_at_succ
/-- The list that is found, or none. -/
def SlV (B : Nat) (R : Option (List Nat)) (y : Value) (w : World) : Prop := match R with
  | some l => ∃ vo vc, y = .slice vo l.length vc ∧ w.ownsRow B 3 1 (.slice vo l.length vc) l.length (qv l)
  | none => y = .slice none 0 0
theorem SlV.mono {B : Nat} {R : Option (List Nat)} {y : Value} {w w' : World} (h : SlV B R y w) (hb : Below w.heap.size w w') : SlV B R y w' := by
  cases R with
  | none => exact h
  | some l =>
    obtain ⟨vo, vc, e, h⟩ := h
    exact ⟨vo, vc, e, ownsRow_blocks h fun b hv => hb.block b (h.lt b hv).2⟩
theorem SlV.set27 {B : Nat} {R : Option (List Nat)} {y u v u' v' : Value} {w : World} {b : Nat} (h : SlV B R y w) (h2 : Two w b u v 27) : SlV B R y ((w.setCell ⟨b, 0, none⟩ u').setCell ⟨b, 1, none⟩ v') := by
  cases R with
  | none => exact h
  | some l =>
    obtain ⟨vo, vc, e, h⟩ := h
    refine ⟨vo, vc, e, ownsRow_blocks h fun b' hb => ?_⟩
    have hne : b' ≠ b := fun e => by
      subst e
      obtain ⟨cur, hc⟩ := own_cells h hb
      have h3 : w.heap[b']? = _ := h2
      rw [hc] at h3
      cases h3
    exact (Below.heap_setCell _ _ _ _ hne).trans (Below.heap_setCell _ _ _ _ hne)
theorem fst_val {B B' : Nat} {R : Option (List Nat)} {e : Ending} {w : World} (hB : B' ≤ B) (h : FstA B R e w) : ∃ y, e = .returned (.tuple #[y, .bool R.isSome]) ∧ SlV B' R y w := by
  cases R with
  | none => exact ⟨_, h, rfl⟩
  | some l =>
    obtain ⟨vo, vc, e1, h1⟩ := h
    exact ⟨_, e1, vo, vc, rfl, ownsRow_mono h1 hB⟩
/-- What Within answers. -/
def WthA (B : Nat) (w' : World) (n : Int) (es : List Pair) (n2 : Int) (es2 : List Pair) (e : Ending) : Prop :=
  ((chk2 n es n2 es2).1 ≠ 0 ∧ e = .returned (.tuple #[.slice none 0 0, .bool false, .agg #[.int .i64 (chk2 n es n2 es2).1, .int .i64 (chk2 n es n2 es2).2]])) ∨
  (chk2 n es n2 es2 = (0, 0) ∧ ∃ (N M : Nat) (eg eh : List E2) (y : Value), n = N ∧ n2 = M ∧ es = pzT eg ∧ es2 = pzT eh ∧ (∀ e ∈ eg, e.1 < N ∧ e.2 < N) ∧ (∀ e ∈ eh, e.1 < M ∧ e.2 < M) ∧ (∀ e ∈ eg, e.1 ≠ e.2) ∧ (∀ e ∈ eh, e.1 ≠ e.2) ∧ N ≤ 10 ∧ M ≤ 6 ∧ e = .returned (.tuple #[y, .bool (fitL N (gB (nearF eg)) (hB (nearF eh)) M []).isSome, .agg #[.int .i64 0, .int .i64 0]]) ∧ SlV B (fitL N (gB (nearF eg)) (hB (nearF eh)) M []) y w')
theorem pz_ne {n : Int} {L : List E2} (h : ∀ e ∈ pzT L, (0 ≤ e.1 ∧ e.1 < n ∧ 0 ≤ e.2 ∧ e.2 < n) ∧ e.1 ≠ e.2) : ∀ e ∈ L, e.1 ≠ e.2 := fun e he hc => (h ((e.1 : Int), (e.2 : Int)) (List.mem_map_of_mem he)).2 (by simp only; rw [hc])
def VW (x1 x2 : Value) (N M : Nat) (eg eh : List E2) (B : Nat) (R : Option (List Nat)) : Nat → Value → World → Prop
  | 0, x, _ => x = x1
  | 1, x, w => ∃ b, x = sl b N ∧ RowV w b 53 N (nv (nearF eg))
  | 2, x, _ => x = x2
  | 3, x, w => ∃ b, x = sl b M ∧ RowV w b 53 M (nv (nearF eh))
  | 4, x, w => ∃ y, x = .tuple #[y, .bool R.isSome] ∧ SlV B R y w
  | 5, x, w => ∃ y, x = .tuple #[y, .bool R.isSome] ∧ SlV B R y w
  | 6, x, w => SlV B R x w
  | 8, x, w => SlV B R x w
  | _, x, _ => x = .bool R.isSome
theorem VW.mono {x1 x2 : Value} {N M : Nat} {eg eh : List E2} {B : Nat} {R : Option (List Nat)} : ∀ i x (w w' : World), VW x1 x2 N M eg eh B R i x w → Below w.heap.size w w' → VW x1 x2 N M eg eh B R i x w' := fun i x w w' h hb => by
  match i, h with
  | 0, h => exact h
  | 1, ⟨b, e, h⟩ => exact ⟨b, e, h.block (hb.block _ h.lt)⟩
  | 2, h => exact h
  | 3, ⟨b, e, h⟩ => exact ⟨b, e, h.block (hb.block _ h.lt)⟩
  | 4, ⟨y, e, h⟩ => exact ⟨y, e, h.mono hb⟩
  | 5, ⟨y, e, h⟩ => exact ⟨y, e, h.mono hb⟩
  | 6, h => exact SlV.mono h hb
  | 7, h => exact h
  | 8, h => exact SlV.mono h hb
  | _ + 9, h => exact h
set_option maxHeartbeats 16000000 in
theorem within_call {w : World} {n n2 : Int} {ao ao2 : Option Addr} {cap cap2 : Nat} {es es2 : List Pair} (hE : EdgesAt w (.slice ao es.length cap) es) (hE2 : EdgesAt w (.slice ao2 es2.length cap2) es2) (hT : T32 w) :
    Calls Tryd.prog 13 #[.agg #[.int .i64 n, .slice ao es.length cap], .agg #[.int .i64 n2, .slice ao2 es2.length cap2]] w fun e w' => WthA w.heap.size w' n es n2 es2 e ∧ Below w.heap.size w w' := by
  have C18 : Hid (∀ A, Below w.heap.size w A → Calls Tryd.prog 18 #[.agg #[.int .i64 n, .slice ao es.length cap], .agg #[.int .i64 n2, .slice ao2 es2.length cap2]] A fun e w' => e = .returned (.agg #[.int .i64 (chk2 n es n2 es2).1, .int .i64 (chk2 n es n2 es2).2]) ∧ Below A.heap.size A w') := fun A hA => check2_call (hE.below hA) (hE2.below hA)
  have HE : Hid (EdgesAt w (.slice ao es.length cap) es ∧ EdgesAt w (.slice ao2 es2.length cap2) es2 ∧ T32 w) := ⟨hE, hE2, hT⟩
  obtain ⟨P, hP⟩ : ∃ P, P = chk2 n es n2 es2 := ⟨_, rfl⟩
  have HP : Hid (P = chk2 n es n2 es2) := hP
  rw [← hP] at C18
  obtain ⟨p1, p2⟩ := P
  simp only at C18
  clear hE hE2 hP hT
  go_enter Tryd.func13, Tryd.ntmps13
  go_upto_region 1 with (fail)
  have t2 : Two ((((w.alloc (Obj.cells #[.int .i64 n, .slice ao es.length cap] 24)).alloc (Obj.cells #[.int .i64 n2, .slice ao2 es2.length cap2] 24)).alloc (Obj.cells #[.int .i64 0, .int .i64 0] 27))) w.heap.size (.int .i64 n) (.slice ao es.length cap) 24 := two_alloc (two_alloc (two_new _ _ _ _) _) _
  have t3 : Two ((((w.alloc (Obj.cells #[.int .i64 n, .slice ao es.length cap] 24)).alloc (Obj.cells #[.int .i64 n2, .slice ao2 es2.length cap2] 24)).alloc (Obj.cells #[.int .i64 0, .int .i64 0] 27))) (w.heap.size + 1) (.int .i64 n2) (.slice ao2 es2.length cap2) 24 := by
    have := two_alloc (two_new (w.alloc (Obj.cells #[.int .i64 n, .slice ao es.length cap] 24)) (.int .i64 n2) (.slice ao2 es2.length cap2) 24) (Obj.cells #[.int .i64 0, .int .i64 0] 27)
    simpa using this
  have t4 : Two ((((w.alloc (Obj.cells #[.int .i64 n, .slice ao es.length cap] 24)).alloc (Obj.cells #[.int .i64 n2, .slice ao2 es2.length cap2] 24)).alloc (Obj.cells #[.int .i64 0, .int .i64 0] 27))) (w.heap.size + 1 + 1) (.int .i64 0) (.int .i64 0) 27 := by
    have := two_new ((w.alloc (Obj.cells #[.int .i64 n, .slice ao es.length cap] 24)).alloc (Obj.cells #[.int .i64 n2, .slice ao2 es2.length cap2] 24)) (.int .i64 0) (.int .i64 0) 27
    simpa using this
  have hB0 : Below w.heap.size w ((((w.alloc (Obj.cells #[.int .i64 n, .slice ao es.length cap] 24)).alloc (Obj.cells #[.int .i64 n2, .slice ao2 es2.length cap2] 24)).alloc (Obj.cells #[.int .i64 0, .int .i64 0] 27))) := below_alloc (below_alloc (below_alloc (Below.refl _ w) _) _) _
  obtain ⟨b2, hb2⟩ : ∃ b, b = w.heap.size := ⟨_, rfl⟩
  obtain ⟨b3, hb3⟩ : ∃ b, b = w.heap.size + 1 := ⟨_, rfl⟩
  obtain ⟨b6, hb6⟩ : ∃ b, b = w.heap.size + 1 + 1 := ⟨_, rfl⟩
  rw [← hb6] at t4 ⊢
  rw [← hb3] at t3 ⊢
  have HB6 : Hid (w.heap.size ≤ b6) := by show w.heap.size ≤ b6; omega
  rw [← hb2] at t2
  generalize ((((w.alloc (Obj.cells #[.int .i64 n, .slice ao es.length cap] 24)).alloc (Obj.cells #[.int .i64 n2, .slice ao2 es2.length cap2] 24)).alloc (Obj.cells #[.int .i64 0, .int .i64 0] 27))) = W1 at *
  have HW1 : Hid (Two W1 b6 (.int .i64 0) (.int .i64 0) 27 ∧ Below w.heap.size w W1 ∧ Two W1 b2 (.int .i64 n) (.slice ao es.length cap) 24 ∧ Two W1 b3 (.int .i64 n2) (.slice ao2 es2.length cap2) 24) := ⟨t4, hB0, t2, t3⟩
  obtain ⟨c0, c1⟩ := cell_two t2
  obtain ⟨c2, c3⟩ := cell_two t3
  rw [hb2] at c0 c1
  clear t2 t3 t4 hB0 hb3 hb6
  go_upto_region 2 with (first | (go_at_call 18; refine Calls.mono (C18.out _ HW1.out.2.1) ?_; rintro e W2 ⟨rfl, h2⟩) | fail)
  have x5 := two_new W2 (.int .i64 p1) (.int .i64 p2) 27
  have hB3 := below_alloc (Below.refl _ W2) (Obj.cells #[.int .i64 p1, .int .i64 p2] 27)
  generalize W2.heap.size = b7 at x5 ⊢
  generalize W2.alloc (Obj.cells #[.int .i64 p1, .int .i64 p2] 27) = W3 at *
  have HW3 : Hid (Two W3 b6 (.int .i64 0) (.int .i64 0) 27 ∧ Below w.heap.size w W3 ∧ Two W3 w.heap.size (.int .i64 n) (.slice ao es.length cap) 24 ∧ Two W3 b3 (.int .i64 n2) (.slice ao2 es2.length cap2) 24) := ⟨two_next HW1.out.1 (below_next h2 hB3), below_next HW1.out.2.1 (below_next h2 hB3), hb2 ▸ two_next HW1.out.2.2.1 (below_next h2 hB3), two_next HW1.out.2.2.2 (below_next h2 hB3)⟩
  obtain ⟨d0, d1⟩ := cell_two x5
  clear h2 hB3 x5 c0 c1 c2 c3 C18 HW1 hb2
  by_cases h : p1 = 0
  · have k1 : (p1 != 0) = false := by simpa using h
    have hP0 : (chk2 n es n2 es2).1 = 0 := by rw [← HP.out]; exact h
    obtain ⟨g1, g2, g3, g4, g5⟩ := chk2_good hP0
    obtain ⟨_, hn0, _, hlen0, hgood⟩ := chk_good g2
    obtain ⟨_, hm0, _, hlen1, hgood2⟩ := chk_good g3
    obtain ⟨N, rfl⟩ := Int.eq_ofNat_of_zero_le hn0
    obtain ⟨M, rfl⟩ := Int.eq_ofNat_of_zero_le hm0
    obtain ⟨eg, rfl, heg⟩ := pzT_nat (N := N) hgood
    obtain ⟨eh, rfl, heh⟩ := pzT_nat (N := M) hgood2
    have hneg := pz_ne hgood
    have hneh := pz_ne hgood2
    have hl1 : (pzT eg).length = eg.length := by simp [pzT]
    have hl2 : (pzT eh).length = eh.length := by simp [pzT]
    rw [hl1] at HE HW3 hlen0 ⊢
    rw [hl2] at HE HW3 hlen1 ⊢
    have hN10 : N ≤ 10 := by omega
    have hM6 : M ≤ 6 := by omega
    obtain ⟨R, hR⟩ : ∃ R, R = fitL N (gB (nearF eg)) (hB (nearF eh)) M [] := ⟨_, rfl⟩
    have CG : Hid (∀ A, Below w.heap.size w A → Calls Tryd.prog 19 #[.agg #[.int .i64 (N : Int), .slice ao eg.length cap]] A fun e w' => (∃ b, e = .returned (sl b N) ∧ A.heap.size ≤ b ∧ RowV w' b 53 N (nv (nearF eg))) ∧ Below A.heap.size A w') := fun A hA => nearSets_call (HE.out.1.below hA) heg hneg (by omega) hlen0
    have CH : Hid (∀ A, Below w.heap.size w A → Calls Tryd.prog 19 #[.agg #[.int .i64 (M : Int), .slice ao2 eh.length cap2]] A fun e w' => (∃ b, e = .returned (sl b M) ∧ A.heap.size ≤ b ∧ RowV w' b 53 M (nv (nearF eh))) ∧ Below A.heap.size A w') := fun A hA => nearSets_call (HE.out.2.1.below hA) heh hneh (by omega) hlen1
    have CF : Hid (∀ (A : World) (nb wb : Nat), Below w.heap.size w A → RowV A nb 53 N (nv (nearF eg)) → RowV A wb 53 M (nv (nearF eh)) → Calls Tryd.prog 22 #[sl nb N, sl wb M] A fun e w' => (∃ y, e = .returned (.tuple #[y, .bool R.isSome]) ∧ SlV w.heap.size R y w') ∧ Below A.heap.size A w') := fun A nb wb hA h1 h2 => by
      refine (fst_call h1 h2 (HE.out.2.2.below hA) (nearF_lt hneg heg) (nearF_lt hneh heh) (by omega) (by omega)).mono fun e w' ⟨h3, h4⟩ => ⟨?_, h4⟩
      rw [← hR] at h3
      exact fst_val (by have := hA.size; omega) h3
    have HN : Hid (chk2 (N : Int) (pzT eg) (M : Int) (pzT eh) = (0, 0) ∧ (∀ e ∈ eg, e.1 < N ∧ e.2 < N) ∧ (∀ e ∈ eh, e.1 < M ∧ e.2 < M) ∧ (∀ e ∈ eg, e.1 ≠ e.2) ∧ (∀ e ∈ eh, e.1 ≠ e.2) ∧ N ≤ 10 ∧ M ≤ 6 ∧ R = fitL N (gB (nearF eg)) (hB (nearF eh)) M []) := ⟨g1, heg, heh, hneg, hneh, hN10, hM6, hR⟩
    clear heg heh hneg hneh g1 g2 g3 g4 g5 hn0 hm0 hgood hgood2 hP0 h HP hN10 hM6 hR hlen0 hlen1 hl1 hl2
    go_upto_region 4 with (fail)
    clear d0 d1
    refine region_ext (J := ST W3 (VW (.agg #[.int .i64 (N : Int), .slice ao eg.length cap]) (.agg #[.int .i64 (M : Int), .slice ao2 eh.length cap2]) N M eg eh w.heap.size R)) (by kernel_rfl) (by kernel_rfl) (by kernel_rfl) ST.start ?_ ?_
    · intro i o hi L xs a w1 hS hL hd hcl hX
      match i, hi with
      | 0, hi =>
        cases hi
        have s1 := hX.out (s := 2) rfl
        obtain ⟨y0, y1⟩ := cell_two (two_next HW3.out.2.2.1 hS.bel)
        refine wpOp_value rfl rfl (v := .agg #[.int .i64 (N : Int), .slice ao eg.length cap]) (w' := w1) ?_ ⟨_, rfl, hS.put VW.mono (Below.refl _ _) rfl⟩
        simp [go_sem, Act.eval, s1, y0, y1]
      | 1, hi =>
        cases hi
        have l1 := hd ⟨0, .data⟩ (by simp) rfl
        have e1 := hS.told 0 l1
        have r1 := (hX.rd 0 _ 16 rfl rfl l1).trans e1
        refine wpOp_call rfl rfl (f := 19) (args := #[.agg #[.int .i64 (N : Int), .slice ao eg.length cap]]) (w' := w1) ?_ ?_
        · simp [go_sem, Act.eval, r1]
        · refine Calls.mono (CG.out _ (below_next HW3.out.2.1 hS.bel)) ?_
          rintro e w2 ⟨⟨b, rfl, _, hb⟩, hB'⟩
          exact ⟨_, rfl, _, rfl, hS.put VW.mono hB' ⟨b, rfl, hb⟩⟩
      | 2, hi =>
        cases hi
        have s1 := hX.out (s := 3) rfl
        obtain ⟨y0, y1⟩ := cell_two (two_next HW3.out.2.2.2 hS.bel)
        refine wpOp_value rfl rfl (v := .agg #[.int .i64 (M : Int), .slice ao2 eh.length cap2]) (w' := w1) ?_ ⟨_, rfl, hS.put VW.mono (Below.refl _ _) rfl⟩
        simp [go_sem, Act.eval, s1, y0, y1]
      | 3, hi =>
        cases hi
        have l1 := hd ⟨2, .data⟩ (by simp) rfl
        have e1 := hS.told 2 l1
        have r1 := (hX.rd 2 _ 18 rfl rfl l1).trans e1
        refine wpOp_call rfl rfl (f := 19) (args := #[.agg #[.int .i64 (M : Int), .slice ao2 eh.length cap2]]) (w' := w1) ?_ ?_
        · simp [go_sem, Act.eval, r1]
        · refine Calls.mono (CH.out _ (below_next HW3.out.2.1 hS.bel)) ?_
          rintro e w2 ⟨⟨b, rfl, _, hb⟩, hB'⟩
          exact ⟨_, rfl, _, rfl, hS.put VW.mono hB' ⟨b, rfl, hb⟩⟩
      | 4, hi =>
        cases hi
        have l1 := hd ⟨1, .data⟩ (by simp) rfl
        have l3 := hd ⟨3, .data⟩ (by simp) rfl
        obtain ⟨nb, e1, h1⟩ := hS.told 1 l1
        obtain ⟨wb, e3, h3⟩ := hS.told 3 l3
        have r1 := (hX.rd 1 _ 17 rfl rfl l1).trans e1
        have r3 := (hX.rd 3 _ 19 rfl rfl l3).trans e3
        refine wpOp_call rfl rfl (f := 22) (args := #[sl nb N, sl wb M]) (w' := w1) ?_ ?_
        · simp [go_sem, Act.eval, r1, r3]
        · refine Calls.mono (CF.out _ _ _ (below_next HW3.out.2.1 hS.bel) h1 h3) ?_
          rintro e w2 ⟨⟨y, rfl, hy⟩, hB'⟩
          exact ⟨_, rfl, _, rfl, hS.put VW.mono hB' ⟨y, rfl, hy⟩⟩
      | 5, hi =>
        cases hi
        have l1 := hd ⟨4, .data⟩ (by simp) rfl
        obtain ⟨y, e1, h1⟩ := hS.told 4 l1
        have r1 := (hX.rd 4 _ 20 rfl rfl l1).trans e1
        refine wpOp_value rfl rfl (v := .tuple #[y, .bool R.isSome]) (w' := w1) ?_ ⟨_, rfl, hS.put VW.mono (Below.refl _ _) ⟨y, rfl, h1⟩⟩
        simp [go_sem, Act.eval, r1]
      | 6, hi =>
        cases hi
        have l1 := hd ⟨5, .data⟩ (by simp) rfl
        obtain ⟨y, e1, h1⟩ := hS.told 5 l1
        have r1 := (hX.rd 5 _ 15 rfl rfl l1).trans e1
        refine wpOp_value rfl rfl (v := y) (w' := w1) ?_ ⟨_, rfl, hS.put VW.mono (Below.refl _ _) h1⟩
        simp [go_sem, Act.eval, r1]
      | 7, hi =>
        cases hi
        have l1 := hd ⟨5, .data⟩ (by simp) rfl
        obtain ⟨y, e1, h1⟩ := hS.told 5 l1
        have r1 := (hX.rd 5 _ 15 rfl rfl l1).trans e1
        refine wpOp_value rfl rfl (v := .bool R.isSome) (w' := w1) ?_ ⟨_, rfl, hS.put VW.mono (Below.refl _ _) rfl⟩
        simp [go_sem, Act.eval, r1]
      | 8, hi =>
        cases hi
        have l1 := hd ⟨6, .data⟩ (by simp) rfl
        have h1 := hS.told 6 l1
        have r1 := hX.rd 6 _ 21 rfl rfl l1
        refine wpOp_value rfl rfl (v := xs 6) (w' := w1) ?_ ⟨_, rfl, hS.put VW.mono (Below.refl _ _) h1⟩
        simp [go_sem, Act.eval, r1]
      | 9, hi =>
        cases hi
        have l1 := hd ⟨7, .data⟩ (by simp) rfl
        have e1 := hS.told 7 l1
        have r1 := (hX.rd 7 _ 22 rfl rfl l1).trans e1
        refine wpOp_value rfl rfl (v := .bool R.isSome) (w' := w1) ?_ ⟨_, rfl, hS.put VW.mono (Below.refl _ _) rfl⟩
        simp [go_sem, Act.eval, r1]
      | _ + 10, hi => cases hi
    · intro L xs W7 hS hall
      have hy := hS.told 8 (hall 8 (by decide))
      have hz : xs 9 = .bool R.isSome := hS.told 9 (hall 9 (by decide))
      have hB7 := hS.bel
      obtain ⟨q1, q2, q3, q4, q5, q6⟩ := store_two' (two_next HW3.out.1 hB7) (.int .i64 0) (.int .i64 0)
      obtain ⟨y, hyd⟩ : ∃ y, y = xs 8 := ⟨_, rfl⟩
      have HX : Hid (SlV w.heap.size R y W7 ∧ Below w.heap.size w W7 ∧ Two W7 b6 (.int .i64 0) (.int .i64 0) 27) := ⟨hyd ▸ hy, below_next HW3.out.2.1 hB7, two_next HW3.out.1 hB7⟩
      clear hS hall hy hB7
      simp only [puts, hz, ← hyd]
      clear hz hyd
      obtain ⟨rb, hrb⟩ : ∃ rb, rb = R.isSome := ⟨_, rfl⟩
      rw [← hrb]
      have HRB : Hid (rb = R.isSome) := hrb
      clear hrb CF CG CH
      go_wp2
      refine bodyPost_ret (v := .tuple #[y, .bool rb, .agg #[.int .i64 0, .int .i64 0]]) ?_ rfl ⟨?_, (HX.out.2.1.setCell HB6.out _).setCell HB6.out _⟩
      · simp [results, Tryd.results13, go_sem, q5, q6]
      · refine Or.inr ⟨HN.out.1, N, M, eg, eh, y, rfl, rfl, rfl, rfl, HN.out.2.1, HN.out.2.2.1, HN.out.2.2.2.1, HN.out.2.2.2.2.1, HN.out.2.2.2.2.2.1, HN.out.2.2.2.2.2.2.1, ?_, ?_⟩
        · rw [← HN.out.2.2.2.2.2.2.2, HRB.out]
        · rw [← HN.out.2.2.2.2.2.2.2]
          exact SlV.set27 HX.out.1 HX.out.2.2
  · have k1 : (p1 != 0) = true := by simpa using h
    have HN : Hid (p1 ≠ 0) := h
    clear h
    go_upto_region 3 with (fail)
    have g0 := cell_growD d0
    have g1 := cell_growD d1
    clear d0 d1
    refine wp_region_tailT 3 (by kernel_rfl) (by kernel_rfl) (by kernel_rfl) (by decide) ?_
    simp only [List.take_succ_cons, List.take_zero, List.drop_succ_cons, List.drop_zero]
    repeat (go_big_quiet_step (fail))
    refine wpQuiet_nil ?_
    rintro _ ⟨gp, rfl⟩
    have hB8 := growD_below W3 gp
    clear g0 g1
    generalize growD W3 gp = w8 at *
    obtain ⟨q1, q2, q3, q4, q5, q6⟩ := store_two' (two_next HW3.out.1 hB8) (.int .i64 p1) (.int .i64 p2)
    have HB8 : Hid (Below w.heap.size w w8) := below_next HW3.out.2.1 hB8
    clear hB8
    go_wp2
    refine bodyPost_ret (v := .tuple #[.slice none 0 0, .bool false, .agg #[.int .i64 p1, .int .i64 p2]]) ?_ rfl ⟨?_, (HB8.out.setCell HB6.out _).setCell HB6.out _⟩
    · simp [results, Tryd.results13, go_sem, q5, q6]
    · unfold WthA
      rw [← HP.out]
      exact Or.inl ⟨HN.out, rfl⟩
end Go.Proofs.YthjkjanibkpgiaaDoor
