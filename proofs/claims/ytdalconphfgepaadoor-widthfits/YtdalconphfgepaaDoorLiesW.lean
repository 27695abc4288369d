/- A graph over bags: width.lies, width.Fits. -/
import Derived.Test.YtdalconphfgepaaDoorHoldMC
namespace Go.Proofs.YtdalconphfgepaaDoor
set_option maxRecDepth 8000
open Go.RowKit Go.Maps
attribute [local go_sem ↓] Go.wp_at_zero Go.wp_at_succ
def liesB (n : Nat) (es : List Pair) (bags : List Nat) (f : Nat → Int) : Bool := if bags.length = 0 then n == 0 else treeB bags.length f && holdB es bags && hangB n bags f bags.length
theorem NumF.below {w w' : World} {vo : Option Addr} {n : Nat} {f : Nat → Int} (h : NumF w vo n f) (hb : Below w.heap.size w w') : NumF w' vo n f := fun j hj => by
  obtain ⟨b', off, e, hc⟩ := h j hj
  exact ⟨b', off, e, by rw [hb.cell (World.block_lt_of_cell? w _ hc)]; exact hc⟩
set_option maxHeartbeats 2000000 in
theorem lies_call {w : World} {n b m uc : Nat} {v : Value} {es : List Pair} {bags : List Nat} {uo : Option Addr} {f : Nat → Int} (hE : EdgesAt w v es) (hck : chk n es = (0, 0)) (hn : n ≤ 100) (hS : SetsAt w b bags) (hl : bags.length = m) (hm : m ≤ 100) (hF : NumF w uo m f) (hbit : ∀ j v, (at' bags j).testBit v = true → v < n) (ht : T64 w) :
    Calls Tryd.prog 38 #[.agg #[.int .i64 (n : Int), v], sl b m, .slice uo m uc] w fun e w' => e = .returned (.bool (liesB n es bags f)) ∧ Below w.heap.size w w' := by
  obtain ⟨_, _, _, hel, hgood⟩ := chk_good (n := (n : Int)) (es := es) (by rw [hck])
  have C58 : Hid (∀ A, Below w.heap.size w A → Calls Tryd.prog 58 #[.slice uo m uc] A fun e w' => e = .returned (.bool (treeB m f)) ∧ w' = A) := fun A hA => isTree_call (hF.below hA) (by omega)
  have C59 : Hid (∀ A, Below w.heap.size w A → Calls Tryd.prog 59 #[v, sl b m] A fun e w' => e = .returned (.bool (holdB es bags)) ∧ Below A.heap.size A w') := fun A hA => hold_call (hE.below hA) (fun e he => (hgood e he).1) hel hn (hS.under hA) hl hm
  have C60 : Hid (treeB m f = true → ∀ A, Below w.heap.size w A → Calls Tryd.prog 60 #[.int .i64 (n : Int), sl b m, .slice uo m uc] A fun e w' => e = .returned (.bool (hangB n bags f m)) ∧ Below A.heap.size A w') := fun htr A hA => hang_call (hS.under hA) hl hm (hF.below hA) (fun k hk => (tree_up (treeB_all htr).1 hk).imp id (fun h => h.1)) hn hbit (ht.under hA)
  have HL : Hid (liesB n es bags f = if m = 0 then n == 0 else treeB m f && holdB es bags && hangB n bags f m) := by
    show _ = _
    unfold liesB
    rw [hl]
  clear hE hck hS hl hF hbit ht hgood hel
  obtain ⟨tB, htB⟩ : ∃ t, t = treeB m f := ⟨_, rfl⟩
  obtain ⟨hB, hhB⟩ : ∃ t, t = holdB es bags := ⟨_, rfl⟩
  obtain ⟨gB, hgB⟩ : ∃ t, t = hangB n bags f m := ⟨_, rfl⟩
  rw [← htB] at C58 C60 HL
  rw [← hhB] at C59 HL
  rw [← hgB] at C60 HL
  generalize liesB n es bags f = R at *
  clear htB hhB hgB
  go_enter Tryd.func38, Tryd.ntmps38
  go_upto_region 1 with (fail)
  have t3 := two_new w (.int .i64 (n : Int)) v 24
  have hB0 := below_alloc (Below.refl _ w) (Obj.cells #[.int .i64 (n : Int), v] 24)
  generalize w.heap.size = b3 at t3 ⊢
  generalize w.alloc (Obj.cells #[.int .i64 (n : Int), v] 24) = W at *
  obtain ⟨c0, c1⟩ := cell_two t3
  have HW : Hid (Two W b3 (.int .i64 (n : Int)) v 24 ∧ Below w.heap.size w W) := ⟨t3, hB0⟩
  clear t3 hB0
  by_cases h0 : m = 0
  · have k1 : ((m : Int) == 0) = true := by simp; omega
    have HR : Hid (R = (n == 0)) := by
      show _ = _
      rw [HL.out, if_pos h0]
    clear h0 HL
    go_wp2
    go_ret
    refine ⟨?_, HW.out.2⟩
    rw [HR.out]
    congr 2
    by_cases h : n = 0
    · subst h; rfl
    · have h2 : (n == 0) = false := by simpa using h
      rw [h2]
      simp; omega
  · have k1 : ((m : Int) == 0) = false := by simp; omega
    have HR : Hid (R = (tB && hB && gB)) := by
      show _ = _
      rw [HL.out, if_neg h0]
    clear h0 HL
    cases tB with
    | false =>
      go_wp2_with (first | (go_at_call 58; refine Calls.mono (C58.out _ HW.out.2) ?_; rintro e w1 ⟨rfl, rfl⟩) | go_in)
      go_ret
      exact ⟨by rw [HR.out]; rfl, HW.out.2⟩
    | true =>
      cases hB with
      | false =>
        go_wp2_with (first | (go_at_call 58; refine Calls.mono (C58.out _ HW.out.2) ?_; rintro e w1 ⟨rfl, rfl⟩) | (go_at_call 59; refine Calls.mono (C59.out _ HW.out.2) ?_; rintro e w2 ⟨rfl, h2⟩) | go_in)
        go_ret
        exact ⟨by rw [HR.out]; rfl, below_next HW.out.2 h2⟩
      | true =>
        have C60' : Hid _ := C60.out rfl
        go_wp2_with (first | (go_at_call 58; refine Calls.mono (C58.out _ HW.out.2) ?_; rintro e w1 ⟨rfl, rfl⟩) | (go_at_call 59; refine Calls.mono (C59.out _ HW.out.2) ?_; rintro e w2 ⟨rfl, h2⟩; obtain ⟨d0, d1⟩ := cell_two (two_next HW.out.1 h2)) | (go_at_call 60; refine Calls.mono (C60'.out _ (below_next HW.out.2 h2)) ?_; rintro e w3 ⟨rfl, h3⟩) | go_in)
        go_ret
        exact ⟨by rw [HR.out]; rfl, below_next (below_next HW.out.2 h2) h3⟩
/-- What Fits answers. -/
def fitsR (n : Int) (es : List Pair) (ls : List (List Int)) (f : Nat → Int) (ul : Nat) : Bool × Int × Int :=
  if (chk n es).1 ≠ 0 then (false, (chk n es).1, (chk n es).2)
  else if 100 < ls.length then (false, 2, 0)
  else if ul ≠ ls.length then (false, 6, 0)
  else if (openR n.toNat ls 0).1 = 0 then (liesB n.toNat es (setsL n.toNat ls) f, 0, 0)
  else (false, (openR n.toNat ls 0).1, (openR n.toNat ls 0).2)
theorem bagS_bits {N : Nat} : ∀ (l : List Int) (s : Nat), (∀ v, s.testBit v = true → v < N) → ∀ v, (bagS N l s).1.testBit v = true → v < N
  | [], s, h, v, hv => h v hv
  | x :: l, s, h, v, hv => by
    unfold bagS at hv
    split at hv
    · simp at hv
    · split at hv
      · simp at hv
      · refine bagS_bits l _ (fun u hu => ?_) v hv
        rw [bit_add] at hu
        rcases Bool.or_eq_true_iff.1 hu with h1 | h1
        · exact h u h1
        · have := of_decide_eq_true h1
          omega
theorem setsL_bits {N : Nat} {ls : List (List Int)} (j v : Nat) (h : (at' (setsL N ls) j).testBit v = true) : v < N := by
  unfold at' setsL at h
  rw [List.getD_eq_getElem?_getD, List.getElem?_map] at h
  cases e : ls[j]? with
  | none => rw [e] at h; simp at h
  | some l => rw [e] at h; exact bagS_bits l 0 (fun u hu => by simp at hu) v h
set_option maxHeartbeats 3000000 in
theorem fits_call {w : World} {n : Int} {v x : Value} {es : List Pair} {ls : List (List Int)} {uo : Option Addr} {ul uc : Nat} {f : Nat → Int} (hE : EdgesAt w v es) (hx : RowsAt w x ls) (hF : NumF w uo ul f) (ht : T64 w) :
    Calls Tryd.prog 17 #[.agg #[.int .i64 n, v], x, .slice uo ul uc] w fun e w' => e = .returned (.tuple #[.bool (fitsR n es ls f ul).1, .agg #[.int .i64 (fitsR n es ls f ul).2.1, .int .i64 (fitsR n es ls f ul).2.2]]) ∧ Below w.heap.size w w' := by
  obtain ⟨xo, xc, hxe, hx9⟩ := id hx
  clear hx9
  have C37 : Hid (∀ A, Below w.heap.size w A → Calls Tryd.prog 37 #[.agg #[.int .i64 n, v], x, .slice uo ul uc] A fun e w' => Below A.heap.size A w' ∧ ((∃ bv c d, e = .returned (.tuple #[bv, .agg #[.int .i64 c, .int .i64 d]]) ∧ c ≠ 0 ∧ fitsR n es ls f ul = (false, c, d)) ∨ (∃ b, e = .returned (.tuple #[sl b ls.length, .agg #[.int .i64 0, .int .i64 0]]) ∧ (fitsR n es ls f ul).2 = (0, 0) ∧ ∀ A', Below w'.heap.size w' A' → Calls Tryd.prog 38 #[.agg #[.int .i64 n, v], sl b ls.length, .slice uo ul uc] A' fun e w'' => e = .returned (.bool (fitsR n es ls f ul).1) ∧ Below A'.heap.size A' w''))) := fun A hA => by
    by_cases hc : (chk n es).1 = 0
    · obtain ⟨hck, hn0, hn1, _⟩ := chk_good hc
      obtain ⟨N, rfl⟩ := Int.eq_ofNat_of_zero_le hn0
      refine (open_ok (hE.below hA) (hx.below hA) hck (by omega)).mono ?_
      rintro e w' ⟨hB, h⟩
      refine ⟨hB, ?_⟩
      have hf : fitsR (N : Int) es ls f ul = if 100 < ls.length then (false, 2, 0) else if ul ≠ ls.length then (false, 6, 0) else if (openR N ls 0).1 = 0 then (liesB N es (setsL N ls) f, 0, 0) else (false, (openR N ls 0).1, (openR N ls 0).2) := by
        unfold fitsR
        rw [if_neg (by simpa using hc)]
        rfl
      by_cases h1 : 100 < ls.length
      · rw [if_pos h1] at h hf
        exact Or.inl ⟨_, 2, 0, h, by decide, hf⟩
      · rw [if_neg h1] at h hf
        by_cases h2 : ul ≠ ls.length
        · rw [if_pos h2] at h hf
          exact Or.inl ⟨_, 6, 0, h, by decide, hf⟩
        · rw [if_neg h2] at h hf
          by_cases h3 : (openR N ls 0).1 = 0
          · rw [if_pos h3] at h hf
            obtain ⟨b, he, hb, hS⟩ := h
            refine Or.inr ⟨b, he, by rw [hf], fun A' hA' => ?_⟩
            have hul : ul = ls.length := by simpa using h2
            subst hul
            rw [hf]
            have hBB := below_next (below_next hA hB) hA'
            exact lies_call (hE.below hBB) hck (by omega) (hS.under hA') (by simp [setsL]) (by omega) (hF.below hBB) setsL_bits (ht.under hBB)
          · rw [if_neg h3] at h hf
            exact Or.inl ⟨_, _, _, h, h3, hf⟩
    · obtain ⟨ao, cap, rfl⟩ := hE.form'
      subst hxe
      refine (open_bad (hE.below hA) hc).mono ?_
      rintro e w' ⟨he, hB⟩
      exact ⟨hB, Or.inl ⟨_, _, _, he, hc, by unfold fitsR; rw [if_pos (by simpa using hc)]⟩⟩
  clear hE hF ht
  generalize fitsR n es ls f ul = FR at *
  obtain ⟨rb, rc, rd⟩ := FR
  generalize ls.length = ll at *
  simp only at C37 ⊢
  clear hxe hx
  go_enter Tryd.func17, Tryd.ntmps17
  go_upto_region 1 with (fail)
  have x3 := two_new w (.int .i64 n) v 24
  have hB2 : Below w.heap.size w ((w.alloc (Obj.cells #[.int .i64 n, v] 24)).alloc (Obj.cells #[.int .i64 0, .int .i64 0] 27)) := below_alloc (below_alloc (Below.refl _ w) _) _
  have y3 : Two ((w.alloc (Obj.cells #[.int .i64 n, v] 24)).alloc (Obj.cells #[.int .i64 0, .int .i64 0] 27)) w.heap.size (.int .i64 n) v 24 := two_alloc x3 _
  have y7 : Two ((w.alloc (Obj.cells #[.int .i64 n, v] 24)).alloc (Obj.cells #[.int .i64 0, .int .i64 0] 27)) (w.heap.size + 1) (.int .i64 0) (.int .i64 0) 27 := two_nxt _ _ _ _ _
  obtain ⟨q, hq⟩ : ∃ q, q = w.heap.size := ⟨_, rfl⟩
  obtain ⟨b7, hb7⟩ : ∃ b7, b7 = w.heap.size + 1 := ⟨_, rfl⟩
  rw [← hb7] at y7 ⊢
  rw [← hq] at y3 ⊢
  generalize (w.alloc (Obj.cells #[.int .i64 n, v] 24)).alloc (Obj.cells #[.int .i64 0, .int .i64 0] 27) = W2 at *
  have HB2 : Hid (Below w.heap.size w W2 ∧ Two W2 b7 (.int .i64 0) (.int .i64 0) 27 ∧ w.heap.size ≤ b7 ∧ Two W2 q (.int .i64 n) v 24 ∧ q ≠ b7) := ⟨hB2, y7, by omega, y3, by omega⟩
  obtain ⟨c0, c1⟩ := cell_two y3
  have C37' : Hid _ := C37.out W2 hB2
  clear hq hb7 x3 hB2 y3 y7 C37
  go_upto_region 2 with (first | (go_at_call 37; refine Calls.mono C37'.out ?_; rintro e w3 ⟨h3, hcase⟩; rcases hcase with ⟨bv, c, d, rfl, hc, hfr⟩ | ⟨bb, rfl, hfr, C38⟩) | fail)
  · have hB4 : Below W2.heap.size W2 (w3.alloc (Obj.cells #[.int .i64 c, .int .i64 d] 27)) := below_alloc h3 _
    have x9 := two_new w3 (.int .i64 c) (.int .i64 d) 27
    have x7 : Two (w3.alloc (Obj.cells #[.int .i64 c, .int .i64 d] 27)) b7 (.int .i64 0) (.int .i64 0) 27 := two_next HB2.out.2.1 hB4
    generalize w3.alloc (Obj.cells #[.int .i64 c, .int .i64 d] 27) = w4 at *
    generalize w3.heap.size = b9 at *
    have HW4 : Hid (Below w.heap.size w w4 ∧ Two w4 b7 (.int .i64 0) (.int .i64 0) 27) := ⟨below_next HB2.out.1 hB4, x7⟩
    obtain ⟨a0, a1⟩ := cell_two x9
    have hc1 : (c != 0) = true := by simpa using hc
    have HFR : Hid _ := hfr
    clear h3 hB4 C37' c0 c1 x9 x7 hfr hc
    go_upto_region 3 with (fail)
    have g0 := cell_growD a0
    have g1 := cell_growD a1
    clear a0 a1
    refine wp_region_tailT 2 (by kernel_rfl) (by kernel_rfl) (by kernel_rfl) (by decide) ?_
    simp only [List.take_succ_cons, List.take_zero, List.drop_succ_cons, List.drop_zero]
    repeat (quiet_step (fail))
    refine wpQuiet_nil ?_
    rintro _ ⟨gp, rfl⟩
    have hB8 := growD_below w4 gp
    clear g0 g1
    generalize growD w4 gp = w8 at *
    have y5 := two_next HW4.out.2 hB8
    obtain ⟨k0, k1⟩ := cell_two y5
    have f0 := box_free y5 0
    have z6 := box_set y5 0 (.int .i64 c)
    have k2 := box_cell z6 (i := 1) rfl
    have f2 := box_free z6 1
    have y7 := two_setN (x' := .int .i64 c) (y' := .int .i64 d) y5
    obtain ⟨l0, l1⟩ := cell_two y7
    have HB8 : Hid (Below w.heap.size w w8) := below_next HW4.out.1 hB8
    clear hB8 y5 z6 y7
    go_wp2
    have hfr := HFR.out
    simp only [Prod.mk.injEq] at hfr
    obtain ⟨rfl, rfl, rfl⟩ := hfr
    refine bodyPost_ret (v := .tuple #[.bool false, .agg #[.int .i64 rc, .int .i64 rd]]) ?_ rfl ⟨rfl, (HB8.out.setCell HB2.out.2.2.1 _).setCell HB2.out.2.2.1 _⟩
    simp [results, Tryd.results17, go_sem, l0, l1]
  · have hB4 : Below w3.heap.size w3 (w3.alloc (Obj.cells #[.int .i64 0, .int .i64 0] 27)) := below_alloc (Below.refl _ w3) _
    have x9 := two_new w3 (.int .i64 0) (.int .i64 0) 27
    have hB5 := below_next h3 hB4
    generalize w3.alloc (Obj.cells #[.int .i64 0, .int .i64 0] 27) = w4 at *
    have C38' : Hid _ := C38 w4 hB4
    generalize w3.heap.size = b9 at *
    have HW4 : Hid (Below w.heap.size w w4 ∧ Two w4 b7 (.int .i64 0) (.int .i64 0) 27 ∧ Two w4 q (.int .i64 n) v 24) := ⟨below_next HB2.out.1 hB5, two_next HB2.out.2.1 hB5, two_next HB2.out.2.2.2.1 hB5⟩
    obtain ⟨a0, a1⟩ := cell_two x9
    obtain ⟨c0', c1'⟩ := cell_two HW4.out.2.2
    have HFR : Hid _ := hfr
    clear h3 hB4 hB5 C37' c0 c1 x9 hfr C38
    go_upto_region 4 with (fail)
    go_wp2_with (first | (go_at_call 38; refine Calls.mono C38'.out ?_; rintro e w6 ⟨rfl, h6⟩; have y5 := two_next HW4.out.2.1 h6; obtain ⟨k0, k1⟩ := cell_two y5; have f0 := box_free y5 0; have z6 := box_set y5 0 (.int .i64 0); have k2 := box_cell z6 (i := 1) rfl; have f2 := box_free z6 1; obtain ⟨l0, l1⟩ := cell_two (two_setN (x' := .int .i64 0) (y' := .int .i64 0) y5)) | go_in)
    have hfr := HFR.out
    simp only [Prod.mk.injEq] at hfr
    obtain ⟨rfl, rfl⟩ := hfr
    refine bodyPost_ret (v := .tuple #[.bool rb, .agg #[.int .i64 0, .int .i64 0]]) ?_ rfl ⟨rfl, ((below_next HW4.out.1 h6).setCell HB2.out.2.2.1 _).setCell HB2.out.2.2.1 _⟩
    simp [results, Tryd.results17, go_sem, l0, l1]
end Go.Proofs.YtdalconphfgepaaDoor
