/- Brooks, with three edges or more at some node. -/
import Derived.Test.YtdnmoifbkojnlaaGreatBrkU
namespace Go.Proofs.YtdnmoifbkojnlaaGreat
open Go.RowKit Go.Maps
attribute [local go_sem ↓] Go.wp_at_zero Go.wp_at_succ
set_option maxRecDepth 8000 in
set_option maxHeartbeats 4000000 in
theorem brooks_few {w : World} {N : Nat} {vo : Option Addr} {vc : Nat} {es : List Pair} (hE : EdgesAt w (.slice vo es.length vc) es) (hs : (chk N es).1 = 0) {R : Nat → Nat → Bool} (hR : ∀ v x, R v x = true ↔ Star (St N (eB es) allB) v x) (hp1 : partsN N allB R = 1) (hnf : 2 * es.length ≠ N * (N - 1)) (h3 : 2 < dgM (eB es) N N) :
    Calls Tryz.prog 6 #[.agg #[.int .i64 (N : Int), .slice vo es.length vc]] w fun e w' => (∃ (ro : Option Addr) (rc : Nat) (M : List Nat), e = .returned (.tuple #[.slice ro N rc, .agg #[.int .i64 0, .int .i64 0]]) ∧ NumF w' ro N (fun i => (M.getD i 0 : Int)) ∧ M.length = N ∧ Prop' (dgM (eB es) N N) (fun v z => hasB es (v : Int) (z : Int)) M) ∧ Below w.heap.size w w' := by
  obtain ⟨_, _, hN', hle, hgd⟩ := chk_good hs
  have hN : N ≤ 100 := by omega
  have hap := chk_apart hs
  have HE : Hid (EdgesAt w (.slice vo es.length vc) es) := hE
  have HGD : Hid (Good N es) := hgd
  obtain ⟨fes, hfes⟩ : ∃ fes, fes = allP N (hasB es) := ⟨_, rfl⟩
  obtain ⟨fl, hfl⟩ : ∃ fl, fl = fes.length := ⟨_, rfl⟩
  have HFES : Hid (fes = allP N (hasB es)) := hfes
  have HFL : Hid (fl = fes.length) := hfl
  have hfe : fl = es.length := by rw [hfl, hfes]; exact (allP_length hgd hap).1
  have hl1 : fl ≤ 1000 := by rw [hfe]; exact hle
  have HFS : Hid (formS (N : Int) es = ⟨N, fes, 0, 0⟩) := by
    show formS (N : Int) es = ⟨N, fes, 0, 0⟩
    rw [hfes]; exact formS_good hs
  have HCF : Hid ((chk N fes).1 = 0) := by
    show (chk N fes).1 = 0
    rw [hfes, chk_allP hN (by rw [← hfes, ← hfl]; exact hl1)]
  have HEB : Hid (eB fes = eB es) := by
    show eB fes = eB es
    rw [hfes]; exact eB_form hgd
  have HR : Hid (∀ v x, R v x = true ↔ Star (St N (eB es) allB) v x) := hR
  have HAP : Hid (apart es) := hap
  have HPL : Hid ((piecesS N allB R).length = partsN N allB R) := by
    show (piecesS N allB R).length = partsN N allB R
    unfold piecesS piecesTo partsN
    rw [List.length_map]
  obtain ⟨pl, hpl⟩ : ∃ pl, pl = partsN N allB R := ⟨_, rfl⟩
  have HP : Hid (pl = partsN N allB R) := hpl
  have hpl9 : pl ≤ N := by rw [hpl]; exact partsN_le _ _ _
  have HFE : Hid (fl = es.length) := hfe
  obtain ⟨mm, hmm⟩ : ∃ mm, mm = dgM (eB es) N N := ⟨_, rfl⟩
  have HMM : Hid (mm = dgM (eB es) N N) := hmm
  have hmN : mm ≤ N := by rw [hmm]; exact dgM_le _ _ _
  have HP1 : Hid (partsN N allB R = 1) := hp1
  have HNF : Hid (2 * es.length ≠ N * (N - 1)) := hnf
  have h3' : 2 < mm := by rw [hmm]; exact h3
  clear hE hs hR hN' hle hgd hap hfes hfl hpl hfe hp1 hnf h3 hmm
  go_enter Tryz.func6, Tryz.ntmps6
  go_upto_region 1 with (fail)
  have t1 := two_alloc (two_new w (.int .i64 (N : Int)) (.slice vo es.length vc) 24) (Obj.cells #[.int .i64 0, .int .i64 0] 27)
  have t3 := two_nxt w (Obj.cells #[.int .i64 (N : Int), .slice vo es.length vc] 24) (.int .i64 0) (.int .i64 0) 27
  have hB0 := below_alloc (below_alloc (Below.refl _ w) (Obj.cells #[.int .i64 (N : Int), .slice vo es.length vc] 24)) (Obj.cells #[.int .i64 0, .int .i64 0] 27)
  obtain ⟨b1, hb1⟩ : ∃ b, b = w.heap.size := ⟨_, rfl⟩
  obtain ⟨b3, hb3⟩ : ∃ b, b = w.heap.size + 1 := ⟨_, rfl⟩
  have HB3 : Hid (w.heap.size ≤ b3) := by show w.heap.size ≤ b3; omega
  rw [← hb3] at t3 ⊢
  rw [← hb1] at t1 ⊢
  generalize (w.alloc (Obj.cells #[.int .i64 (N : Int), .slice vo es.length vc] 24)).alloc (Obj.cells #[.int .i64 0, .int .i64 0] 27) = W0 at t1 t3 hB0 ⊢
  clear hb1 hb3
  obtain ⟨q0, q1⟩ := cell_two t1
  have h34 := form_as (HE.out.below hB0) HFS.out
  have H34 : Hid (Calls Tryz.prog 15 #[.agg #[.int .i64 (N : Int), .slice vo es.length vc]] W0 fun e w' => Below W0.heap.size W0 w' ∧ ∃ ao cap, e = .returned (.tuple #[.agg #[.int .i64 (N : Int), .slice ao fl cap], .agg #[.int .i64 0, .int .i64 0]]) ∧ EdgesAt w' (.slice ao fl cap) fes) := h34.mono (by
    rintro e w' ⟨hb, ao, cap, rfl, hEl, _⟩
    rw [HFL.out]
    exact ⟨hb, ao, cap, rfl, hEl⟩)
  clear h34
  go_upto_region 2 with (first | (go_at_call 15; refine Calls.mono H34.out ?_; rintro e W1 ⟨hb, lo, lc, rfl, hEl⟩) | go_in)
  have t4 := two_alloc (two_new W1 (.int .i64 (N : Int)) (.slice lo fl lc) 24) (Obj.cells #[.int .i64 0, .int .i64 0] 27)
  have t5 := two_nxt W1 (Obj.cells #[.int .i64 (N : Int), .slice lo fl lc] 24) (.int .i64 0) (.int .i64 0) 27
  have hB2 := below_alloc (below_alloc hb (Obj.cells #[.int .i64 (N : Int), .slice lo fl lc] 24)) (Obj.cells #[.int .i64 0, .int .i64 0] 27)
  have hE2 := hEl.below (below_alloc (below_alloc (Below.refl _ W1) (Obj.cells #[.int .i64 (N : Int), .slice lo fl lc] 24)) (Obj.cells #[.int .i64 0, .int .i64 0] 27))
  obtain ⟨b4, hb4⟩ : ∃ b, b = W1.heap.size := ⟨_, rfl⟩
  obtain ⟨b5, hb5⟩ : ∃ b, b = W1.heap.size + 1 := ⟨_, rfl⟩
  rw [← hb5] at t5 ⊢
  rw [← hb4] at t4 ⊢
  generalize (W1.alloc (Obj.cells #[.int .i64 (N : Int), .slice lo fl lc] 24)).alloc (Obj.cells #[.int .i64 0, .int .i64 0] 27) = W2 at t4 t5 hB2 hE2 ⊢
  have HT4 : Hid (Two W2 b4 (.int .i64 (N : Int)) (.slice lo fl lc) 24) := t4
  have HT3 : Hid (Two W2 b3 (.int .i64 0) (.int .i64 0) 27) := two_next t3 hB2
  have HBW : Hid (Below w.heap.size w W2) := below_next hB0 hB2
  have HE2 : Hid (EdgesAt W2 (.slice lo fl lc) fes) := hE2
  clear hb4 hb5 q0 q1 H34 hb hEl hE2 hB2 hB0 t1 t3
  obtain ⟨q0, q1⟩ := cell_two t5
  obtain ⟨q2, q3⟩ := cell_two t4
  clear t4 t5
  have H16 : Hid (Calls Tryz.prog 16 #[.agg #[.int .i64 (N : Int), .slice lo fl lc]] W2 fun r w' => ∃ ao cap, r = .returned (.tuple #[.slice ao pl cap, .agg #[.int .i64 0, .int .i64 0]]) ∧ Below W2.heap.size W2 w') := by
    have hE2 := HE2.out
    rw [HFL.out] at hE2
    have := components_ok N lo lc fes W2 hE2 HCF.out R (by
      have e : bothB fes = eB es := HEB.out
      rw [e]; exact HR.out)
    rw [← HFL.out] at this
    refine this.mono ?_
    rintro r w' ⟨v', rfl, hls, hb⟩
    obtain ⟨ao, cap, rfl⟩ := hls.form
    rw [HPL.out, ← HP.out]
    exact ⟨ao, cap, rfl, hb⟩
  go_upto_region 4 with (fail)
  go_upto_region 5 with (first | (go_at_call 16; refine Calls.mono H16.out ?_; rintro e W3 ⟨po, pc, rfl, hb3⟩) | go_in)
  have hb3a := below_alloc hb3 (Obj.cells #[.int .i64 0, .int .i64 0] 27)
  generalize W3.alloc (Obj.cells #[.int .i64 0, .int .i64 0] 27) = W4 at hb3a ⊢
  have HT44 : Hid (Two W4 b4 (.int .i64 (N : Int)) (.slice lo fl lc) 24) := two_next HT4.out hb3a
  have HT34 : Hid (Two W4 b3 (.int .i64 0) (.int .i64 0) 27) := two_next HT3.out hb3a
  have HBW4 : Hid (Below w.heap.size w W4) := below_next HBW.out hb3a
  have HE4 : Hid (EdgesAt W4 (.slice lo fl lc) fes) := HE2.out.below hb3a
  clear q0 q1 q2 q3 H16 hb3 hb3a HT4 HT3 HBW HE2
  obtain ⟨q2, q3⟩ := cell_two HT44.out
  obtain ⟨q0, q1⟩ := cell_two HT34.out
  have fz0 := free_two HT34.out 0
  have fz1 := free_two HT34.out 1
  have H17 : Hid (Calls Tryz.prog 17 #[.agg #[.int .i64 (N : Int), .slice lo fl lc]] W4 fun e w' => e = .returned (.bool (decide (2 * es.length = N * (N - 1)))) ∧ Below W4.heap.size W4 w') := by
    rw [← HFE.out]; exact isFull_call hN hl1
  have hp1 : pl = 1 := by rw [HP.out]; exact HP1.out
  have hpn : ((pl : Int) != 1) = false := by simp [hp1]
  have H17' : Hid (Calls Tryz.prog 17 #[.agg #[.int .i64 (N : Int), .slice lo fl lc]] W4 fun e w' => e = .returned (.bool false) ∧ Below W4.heap.size W4 w') := by
    have := H17.out
    rw [decide_eq_false HNF.out] at this
    exact this
  have HCONN : Hid (Hang (fun a b => eB es a b = true) (fun a => a < N)) := hang_all (hang_of_parts (fun a b h => by rw [eB_sym]; exact h) HR.out (by rw [HP1.out]; exact Nat.le_refl _))
  clear H17 hp1
  go_upto_region 7 with (first | (go_at_call 17; refine Calls.mono H17'.out ?_; rintro e W5 ⟨rfl, hb5⟩) | go_in)
  have HT45 : Hid (Two W5 b4 (.int .i64 (N : Int)) (.slice lo fl lc) 24) := two_next HT44.out hb5
  have HT35 : Hid (Two W5 b3 (.int .i64 0) (.int .i64 0) 27) := two_next HT34.out hb5
  have HBW5 : Hid (Below w.heap.size w W5) := below_next HBW4.out hb5
  have HE5 : Hid (EdgesAt W5 (.slice lo fl lc) fes) := HE4.out.below hb5
  clear q0 q1 q2 q3 fz0 fz1 hb5 HT44 HT34 HBW4 HE4 H17' hpn
  obtain ⟨q2, q3⟩ := cell_two HT45.out
  have H18 : Hid (Calls Tryz.prog 18 #[.agg #[.int .i64 (N : Int), .slice lo fl lc]] W5 fun e w' => ∃ g vs, e = .returned (sl g N) ∧ W5.heap.size ≤ g ∧ NearL w' W5.heap.size g N vs (fun i => nbOf fes i) ∧ Below W5.heap.size W5 w') := by
    have := HE5.out
    rw [HFL.out] at this ⊢
    refine nearBy_call this hN (by rw [← HFL.out]; exact hl1) (fun k e he => ?_)
    rw [HFES.out] at he
    obtain ⟨u, v, h1, h2, _, h3⟩ := allP_mem.1 (List.mem_of_getElem? he)
    exact ⟨u, v, h3, h1, h2⟩
  go_upto_region 8 with (first | (go_at_call 18; refine Calls.mono H18.out ?_; rintro e W6 ⟨g, vs, rfl, hg6, hnl, hb6⟩) | go_in)
  have HNL : Hid (NearL W6 W5.heap.size g N vs (fun i => nbOf fes i)) := hnl
  have HT46 : Hid (Two W6 b4 (.int .i64 (N : Int)) (.slice lo fl lc) 24) := two_next HT45.out hb6
  have HT36 : Hid (Two W6 b3 (.int .i64 0) (.int .i64 0) 27) := two_next HT35.out hb6
  have HBW6 : Hid (Below w.heap.size w W6) := below_next HBW5.out hb6
  have HE6 : Hid (EdgesAt W6 (.slice lo fl lc) fes) := HE5.out.below hb6
  have HMX : Hid (mxL (fun i => nbOf fes i) N = mm) := by
    show mxL (fun i => nbOf fes i) N = mm
    rw [HFES.out, most_form HGD.out, HMM.out]
  have H19 : Hid (Calls Tryz.prog 19 #[sl g N] W6 fun e w' => e = .returned (.int .i64 (mm : Int)) ∧ w' = W6) := by
    have := most_call HNL.out hN
    rw [HMX.out] at this
    exact this
  clear q2 q3 hg6 hnl hb6 HT45 HT35 HBW5 HE5 H18
  obtain ⟨q2, q3⟩ := cell_two HT46.out
  have k1 : (mm : Int) > 2 := by omega
  go_upto_region 9 with (first | (go_at_call 19; refine Calls.mono H19.out ?_; rintro e W7 ⟨rfl, rfl⟩) | go_in)
  obtain ⟨RK, hRK⟩ := ex2 (fun i j => Star (LkF N (allP N (hasB fes))) i j)
  obtain ⟨Rx, hRx⟩ := ex3 (fun y v x => Star (St N (eB es) (notB y)) v x)
  obtain ⟨cl, hcl⟩ : ∃ cl, cl = cutsTo (blocksS (allP N (hasB fes)) RK) N := ⟨_, rfl⟩
  have HCL : Hid (cl = refCutsTo N R Rx N) := by
    show cl = refCutsTo N R Rx N
    rw [hcl]
    refine cuts_same (m := N) (es := fes) (by rw [HFES.out]; exact form_good es) hRK (fun v x => ?_) (fun y v x => ?_)
    · have e : pn (hasB fes) = eB es := HEB.out
      rw [e]; exact HR.out v x
    · have e : pn (hasB fes) = eB es := HEB.out
      rw [e]; exact hRx y v x
  have H20 : Hid (Calls Tryz.prog 20 #[.agg #[.int .i64 (N : Int), .slice lo fl lc]] W7 fun r w' => ∃ ao cap, r = .returned (.tuple #[.slice ao cl.length cap, .agg #[.int .i64 0, .int .i64 0]]) ∧ NumsAt w' ao cl ∧ Below W7.heap.size W7 w') := by
    have hE2 := HE6.out
    rw [HFL.out] at hE2
    have := cuts_ok N lo lc fes W7 hE2 HCF.out RK hRK
    rw [← HFL.out, ← hcl] at this
    refine this.mono ?_
    rintro r w' ⟨v', rfl, how, hb⟩
    obtain ⟨ao, cap, rfl⟩ := form_row how
    exact ⟨ao, cap, rfl, numsAt_own how, hb⟩
  have HCLL : Hid (cl.length ≤ 1000) := by
    show cl.length ≤ 1000
    rw [HCL.out]; exact Nat.le_trans (refCutsTo_le _ _ _ _) (by omega)
  have HRX : Hid (∀ y v x, Rx y v x = true ↔ Star (St N (eB es) (notB y)) v x) := hRx
  clear hcl hRK hRx
  go_upto_region 10 with (first | (go_at_call 20; refine Calls.mono H20.out ?_; rintro e W8 ⟨co, cc, rfl, hnum, hb8⟩) | go_in)
  have hb8a := below_alloc hb8 (Obj.cells #[.int .i64 0, .int .i64 0] 27)
  have HNUM : Hid (NumsAt (W8.alloc (Obj.cells #[.int .i64 0, .int .i64 0] 27)) co cl) := hnum.below (below_alloc (Below.refl _ W8) _)
  generalize W8.alloc (Obj.cells #[.int .i64 0, .int .i64 0] 27) = W9 at hb8a HNUM ⊢
  have HNL9 : Hid (NearL W9 W5.heap.size g N vs (fun i => nbOf fes i)) := HNL.out.below hb8a
  have HT39 : Hid (Two W9 b3 (.int .i64 0) (.int .i64 0) 27) := two_next HT36.out hb8a
  have HBW9 : Hid (Below w.heap.size w W9) := below_next HBW6.out hb8a
  have H21 : Hid (Calls Tryz.prog 21 #[sl g N, .slice co cl.length cc] W9 fun e w' => (∃ q col, e = .returned (sl q N) ∧ W9.heap.size ≤ q ∧ RowV w' q 3 N (iv col) ∧ Done N mm (eB es) col) ∧ Below W9.heap.size W9 w') := by
    refine few_call hN HNL9.out HMX.out ?_ (by omega) (by omega) HNUM.out HCLL.out (fun x hx => ?_) (fun x hx hn => ?_) (not_full HGD.out HAP.out HNF.out)
    · have := gz_form HGD.out HCONN.out
      rw [← HFES.out, ← HMM.out] at this
      exact this
    · rw [HCL.out] at hx
      exact (cut_in HR.out HRX.out HP1.out).1 hx
    · rw [HCL.out] at hn
      exact Classical.byContradiction fun h => hn ((cut_in HR.out HRX.out HP1.out).2 ⟨hx, h⟩)
  clear q2 q3 hb8 hnum hb8a HT46 HT36 HBW6 HE6 H20 HNL H19 HNL9 HNUM
  go_wp2_with (first | (go_at_call 21; refine Calls.mono H21.out ?_; rintro e Wa ⟨⟨q, col, rfl, hq, hrow, hdn⟩, hba⟩; have t3a := two_next HT39.out hba; obtain ⟨z0, z1⟩ := cell_two t3a; have f0 := free_two t3a 0; have f1 := free_two t3a 1; have y0 : (Wa.setCell ⟨b3, 0, none⟩ (.int .i64 0)).cell? ⟨b3, 1, none⟩ = some (.int .i64 0) := box_cell (box_set t3a 0 (.int .i64 0)) rfl; have y1 : (Wa.setCell ⟨b3, 0, none⟩ (.int .i64 0)).frozen? ⟨b3, 1, none⟩ = false := box_free (box_set t3a 0 (.int .i64 0)) 1) | go_in)
  have tz := two_set t3a (x' := .int .i64 0) (y' := .int .i64 0)
  obtain ⟨x0, x1⟩ := cell_two tz
  have HDN : Hid (Done N mm (eB es) col) := hdn
  have HRW : Hid (RowV Wa q 3 N (iv col)) := hrow
  have hb3l := lt_of_block HT39.out
  clear hdn hrow
  refine bodyPost_ret (v := .tuple #[sl q N, .agg #[.int .i64 0, .int .i64 0]]) ?_ rfl ⟨?_, ?_⟩
  · simp [results, Tryz.results6, go_sem, *]
  · obtain ⟨d1, d2, d3⟩ := done_list HDN.out
    refine ⟨some ⟨q, 0, none⟩, N, _, rfl, fun j hj => ⟨q, 0, rfl, ?_⟩, d1, by rw [← HMM.out]; exact d2⟩
    rw [Nat.zero_add]
    have hc : RowV ((Wa.setCell ⟨b3, 0, none⟩ (.int .i64 0)).setCell ⟨b3, 1, none⟩ (.int .i64 0)) q 3 N (iv col) := HRW.out.block ((Below.heap_setCell _ _ _ _ (show q ≠ b3 by omega)).trans (Below.heap_setCell _ _ _ _ (show q ≠ b3 by omega)))
    have := hc.cell hj
    rw [this]
    show some (Value.int .i64 (col j)) = _
    rw [d3 j hj]
  · exact ((below_next HBW9.out hba).setCell HB3.out _).setCell HB3.out _
end Go.Proofs.YtdnmoifbkojnlaaGreat
