/- Brooks, paths and rings. -/
import Derived.Test.YtdnmoifbkojnlaaGreatBrkU
namespace Go.Proofs.YtdnmoifbkojnlaaGreat
open Go.RowKit Go.Maps
attribute [local go_sem ↓] Go.wp_at_zero Go.wp_at_succ
set_option maxRecDepth 8000 in
set_option maxHeartbeats 4000000 in
theorem brooks_two {w : World} {N : Nat} {vo : Option Addr} {vc : Nat} {es : List Pair} (hE : EdgesAt w (.slice vo es.length vc) es) (hs : (chk N es).1 = 0) {R : Nat → Nat → Bool} (hR : ∀ v x, R v x = true ↔ Star (St N (eB es) allB) v x) (hp1 : partsN N allB R = 1) (hnf : 2 * es.length ≠ N * (N - 1)) (h3 : dgM (eB es) N N ≤ 2) :
    Calls Tryz.prog 6 #[.agg #[.int .i64 (N : Int), .slice vo es.length vc]] w fun e w' => (((N % 2 = 1 ∧ es.length = N ∧ dgM (eB es) N N = 2) ∧ e = .returned (.tuple #[.slice none 0 0, .agg #[.int .i64 8, .int .i64 0]])) ∨ (¬ (N % 2 = 1 ∧ es.length = N ∧ dgM (eB es) N N = 2) ∧ ∃ (ro : Option Addr) (rc : Nat) (M : List Nat), e = .returned (.tuple #[.slice ro N rc, .agg #[.int .i64 0, .int .i64 0]]) ∧ NumF w' ro N (fun i => (M.getD i 0 : Int)) ∧ M.length = N ∧ Prop' (dgM (eB es) N N) (fun v z => hasB es (v : Int) (z : Int)) M)) ∧ Below w.heap.size w w' := by
  obtain ⟨_, _, hN', hle, hgd⟩ := chk_good hs
  have hN : N ≤ 100 := by omega
  have hap := chk_apart hs
  have HE : Hid (EdgesAt w (.slice vo es.length vc) es) := hE
  have HGD : Hid (Good N es) := hgd
  obtain ⟨fes, hfes⟩ : ∃ fes, fes = allP N (hasB es) := ⟨_, rfl⟩
  obtain ⟨fl, hfl⟩ : ∃ fl, fl = fes.length := ⟨_, rfl⟩
  have HFES : Hid (fes = allP N (hasB es)) := hfes
  have HFL : Hid (fl = fes.length) := hfl
  have hfe : fl = es.length := by rw [hfl, hfes]; exact (allP_length hgd hap).1
  have hl1 : fl ≤ 1000 := by rw [hfe]; exact hle
  have HFS : Hid (formS (N : Int) es = ⟨N, fes, 0, 0⟩) := by
    show formS (N : Int) es = ⟨N, fes, 0, 0⟩
    rw [hfes]; exact formS_good hs
  have HCF : Hid ((chk N fes).1 = 0) := by
    show (chk N fes).1 = 0
    rw [hfes, chk_allP hN (by rw [← hfes, ← hfl]; exact hl1)]
  have HEB : Hid (eB fes = eB es) := by
    show eB fes = eB es
    rw [hfes]; exact eB_form hgd
  have HR : Hid (∀ v x, R v x = true ↔ Star (St N (eB es) allB) v x) := hR
  have HAP : Hid (apart es) := hap
  have HPL : Hid ((piecesS N allB R).length = partsN N allB R) := by
    show (piecesS N allB R).length = partsN N allB R
    unfold piecesS piecesTo partsN
    rw [List.length_map]
  obtain ⟨pl, hpl⟩ : ∃ pl, pl = partsN N allB R := ⟨_, rfl⟩
  have HP : Hid (pl = partsN N allB R) := hpl
  have hpl9 : pl ≤ N := by rw [hpl]; exact partsN_le _ _ _
  have HFE : Hid (fl = es.length) := hfe
  obtain ⟨mm, hmm⟩ : ∃ mm, mm = dgM (eB es) N N := ⟨_, rfl⟩
  have HMM : Hid (mm = dgM (eB es) N N) := hmm
  have hmN : mm ≤ N := by rw [hmm]; exact dgM_le _ _ _
  have HP1 : Hid (partsN N allB R = 1) := hp1
  have HNF : Hid (2 * es.length ≠ N * (N - 1)) := hnf
  have h3' : mm ≤ 2 := by rw [hmm]; exact h3
  clear hE hs hR hN' hle hgd hap hfes hfl hpl hfe hp1 hnf h3 hmm
  go_enter Tryz.func6, Tryz.ntmps6
  go_upto_region 1 with (fail)
  have t1 := two_alloc (two_new w (.int .i64 (N : Int)) (.slice vo es.length vc) 24) (Obj.cells #[.int .i64 0, .int .i64 0] 27)
  have t3 := two_nxt w (Obj.cells #[.int .i64 (N : Int), .slice vo es.length vc] 24) (.int .i64 0) (.int .i64 0) 27
  have hB0 := below_alloc (below_alloc (Below.refl _ w) (Obj.cells #[.int .i64 (N : Int), .slice vo es.length vc] 24)) (Obj.cells #[.int .i64 0, .int .i64 0] 27)
  obtain ⟨b1, hb1⟩ : ∃ b, b = w.heap.size := ⟨_, rfl⟩
  obtain ⟨b3, hb3⟩ : ∃ b, b = w.heap.size + 1 := ⟨_, rfl⟩
  have HB3 : Hid (w.heap.size ≤ b3) := by show w.heap.size ≤ b3; omega
  rw [← hb3] at t3 ⊢
  rw [← hb1] at t1 ⊢
  generalize (w.alloc (Obj.cells #[.int .i64 (N : Int), .slice vo es.length vc] 24)).alloc (Obj.cells #[.int .i64 0, .int .i64 0] 27) = W0 at t1 t3 hB0 ⊢
  clear hb1 hb3
  obtain ⟨q0, q1⟩ := cell_two t1
  have h34 := form_as (HE.out.below hB0) HFS.out
  have H34 : Hid (Calls Tryz.prog 15 #[.agg #[.int .i64 (N : Int), .slice vo es.length vc]] W0 fun e w' => Below W0.heap.size W0 w' ∧ ∃ ao cap, e = .returned (.tuple #[.agg #[.int .i64 (N : Int), .slice ao fl cap], .agg #[.int .i64 0, .int .i64 0]]) ∧ EdgesAt w' (.slice ao fl cap) fes) := h34.mono (by
    rintro e w' ⟨hb, ao, cap, rfl, hEl, _⟩
    rw [HFL.out]
    exact ⟨hb, ao, cap, rfl, hEl⟩)
  clear h34
  go_upto_region 2 with (first | (go_at_call 15; refine Calls.mono H34.out ?_; rintro e W1 ⟨hb, lo, lc, rfl, hEl⟩) | go_in)
  have t4 := two_alloc (two_new W1 (.int .i64 (N : Int)) (.slice lo fl lc) 24) (Obj.cells #[.int .i64 0, .int .i64 0] 27)
  have t5 := two_nxt W1 (Obj.cells #[.int .i64 (N : Int), .slice lo fl lc] 24) (.int .i64 0) (.int .i64 0) 27
  have hB2 := below_alloc (below_alloc hb (Obj.cells #[.int .i64 (N : Int), .slice lo fl lc] 24)) (Obj.cells #[.int .i64 0, .int .i64 0] 27)
  have hE2 := hEl.below (below_alloc (below_alloc (Below.refl _ W1) (Obj.cells #[.int .i64 (N : Int), .slice lo fl lc] 24)) (Obj.cells #[.int .i64 0, .int .i64 0] 27))
  obtain ⟨b4, hb4⟩ : ∃ b, b = W1.heap.size := ⟨_, rfl⟩
  obtain ⟨b5, hb5⟩ : ∃ b, b = W1.heap.size + 1 := ⟨_, rfl⟩
  rw [← hb5] at t5 ⊢
  rw [← hb4] at t4 ⊢
  generalize (W1.alloc (Obj.cells #[.int .i64 (N : Int), .slice lo fl lc] 24)).alloc (Obj.cells #[.int .i64 0, .int .i64 0] 27) = W2 at t4 t5 hB2 hE2 ⊢
  have HT4 : Hid (Two W2 b4 (.int .i64 (N : Int)) (.slice lo fl lc) 24) := t4
  have HT3 : Hid (Two W2 b3 (.int .i64 0) (.int .i64 0) 27) := two_next t3 hB2
  have HBW : Hid (Below w.heap.size w W2) := below_next hB0 hB2
  have HE2 : Hid (EdgesAt W2 (.slice lo fl lc) fes) := hE2
  clear hb4 hb5 q0 q1 H34 hb hEl hE2 hB2 hB0 t1 t3
  obtain ⟨q0, q1⟩ := cell_two t5
  obtain ⟨q2, q3⟩ := cell_two t4
  clear t4 t5
  have H16 : Hid (Calls Tryz.prog 16 #[.agg #[.int .i64 (N : Int), .slice lo fl lc]] W2 fun r w' => ∃ ao cap, r = .returned (.tuple #[.slice ao pl cap, .agg #[.int .i64 0, .int .i64 0]]) ∧ Below W2.heap.size W2 w') := by
    have hE2 := HE2.out
    rw [HFL.out] at hE2
    have := components_ok N lo lc fes W2 hE2 HCF.out R (by
      have e : bothB fes = eB es := HEB.out
      rw [e]; exact HR.out)
    rw [← HFL.out] at this
    refine this.mono ?_
    rintro r w' ⟨v', rfl, hls, hb⟩
    obtain ⟨ao, cap, rfl⟩ := hls.form
    rw [HPL.out, ← HP.out]
    exact ⟨ao, cap, rfl, hb⟩
  go_upto_region 4 with (fail)
  go_upto_region 5 with (first | (go_at_call 16; refine Calls.mono H16.out ?_; rintro e W3 ⟨po, pc, rfl, hb3⟩) | go_in)
  have hb3a := below_alloc hb3 (Obj.cells #[.int .i64 0, .int .i64 0] 27)
  generalize W3.alloc (Obj.cells #[.int .i64 0, .int .i64 0] 27) = W4 at hb3a ⊢
  have HT44 : Hid (Two W4 b4 (.int .i64 (N : Int)) (.slice lo fl lc) 24) := two_next HT4.out hb3a
  have HT34 : Hid (Two W4 b3 (.int .i64 0) (.int .i64 0) 27) := two_next HT3.out hb3a
  have HBW4 : Hid (Below w.heap.size w W4) := below_next HBW.out hb3a
  have HE4 : Hid (EdgesAt W4 (.slice lo fl lc) fes) := HE2.out.below hb3a
  clear q0 q1 q2 q3 H16 hb3 hb3a HT4 HT3 HBW HE2
  obtain ⟨q2, q3⟩ := cell_two HT44.out
  obtain ⟨q0, q1⟩ := cell_two HT34.out
  have fz0 := free_two HT34.out 0
  have fz1 := free_two HT34.out 1
  have H17 : Hid (Calls Tryz.prog 17 #[.agg #[.int .i64 (N : Int), .slice lo fl lc]] W4 fun e w' => e = .returned (.bool (decide (2 * es.length = N * (N - 1)))) ∧ Below W4.heap.size W4 w') := by
    rw [← HFE.out]; exact isFull_call hN hl1
  have hp1 : pl = 1 := by rw [HP.out]; exact HP1.out
  have hpn : ((pl : Int) != 1) = false := by simp [hp1]
  have H17' : Hid (Calls Tryz.prog 17 #[.agg #[.int .i64 (N : Int), .slice lo fl lc]] W4 fun e w' => e = .returned (.bool false) ∧ Below W4.heap.size W4 w') := by
    have := H17.out
    rw [decide_eq_false HNF.out] at this
    exact this
  have HCONN : Hid (Hang (fun a b => eB es a b = true) (fun a => a < N)) := hang_all (hang_of_parts (fun a b h => by rw [eB_sym]; exact h) HR.out (by rw [HP1.out]; exact Nat.le_refl _))
  clear H17 hp1
  go_upto_region 7 with (first | (go_at_call 17; refine Calls.mono H17'.out ?_; rintro e W5 ⟨rfl, hb5⟩) | go_in)
  have HT45 : Hid (Two W5 b4 (.int .i64 (N : Int)) (.slice lo fl lc) 24) := two_next HT44.out hb5
  have HT35 : Hid (Two W5 b3 (.int .i64 0) (.int .i64 0) 27) := two_next HT34.out hb5
  have HBW5 : Hid (Below w.heap.size w W5) := below_next HBW4.out hb5
  have HE5 : Hid (EdgesAt W5 (.slice lo fl lc) fes) := HE4.out.below hb5
  clear q0 q1 q2 q3 fz0 fz1 hb5 HT44 HT34 HBW4 HE4 H17' hpn
  obtain ⟨q2, q3⟩ := cell_two HT45.out
  have H18 : Hid (Calls Tryz.prog 18 #[.agg #[.int .i64 (N : Int), .slice lo fl lc]] W5 fun e w' => ∃ g vs, e = .returned (sl g N) ∧ W5.heap.size ≤ g ∧ NearL w' W5.heap.size g N vs (fun i => nbOf fes i) ∧ Below W5.heap.size W5 w') := by
    have := HE5.out
    rw [HFL.out] at this ⊢
    refine nearBy_call this hN (by rw [← HFL.out]; exact hl1) (fun k e he => ?_)
    rw [HFES.out] at he
    obtain ⟨u, v, h1, h2, _, h3⟩ := allP_mem.1 (List.mem_of_getElem? he)
    exact ⟨u, v, h3, h1, h2⟩
  go_upto_region 8 with (first | (go_at_call 18; refine Calls.mono H18.out ?_; rintro e W6 ⟨g, vs, rfl, hg6, hnl, hb6⟩) | go_in)
  have HNL : Hid (NearL W6 W5.heap.size g N vs (fun i => nbOf fes i)) := hnl
  have HT46 : Hid (Two W6 b4 (.int .i64 (N : Int)) (.slice lo fl lc) 24) := two_next HT45.out hb6
  have HT36 : Hid (Two W6 b3 (.int .i64 0) (.int .i64 0) 27) := two_next HT35.out hb6
  have HBW6 : Hid (Below w.heap.size w W6) := below_next HBW5.out hb6
  have HE6 : Hid (EdgesAt W6 (.slice lo fl lc) fes) := HE5.out.below hb6
  have HMX : Hid (mxL (fun i => nbOf fes i) N = mm) := by
    show mxL (fun i => nbOf fes i) N = mm
    rw [HFES.out, most_form HGD.out, HMM.out]
  have H19 : Hid (Calls Tryz.prog 19 #[sl g N] W6 fun e w' => e = .returned (.int .i64 (mm : Int)) ∧ w' = W6) := by
    have := most_call HNL.out hN
    rw [HMX.out] at this
    exact this
  clear q2 q3 hg6 hnl hb6 HT45 HT35 HBW5 HE5 H18
  obtain ⟨q2, q3⟩ := cell_two HT46.out
  have k1 : ¬ (mm : Int) > 2 := by omega
  go_upto_region 11 with (first | (go_at_call 19; refine Calls.mono H19.out ?_; rintro e W7 ⟨rfl, rfl⟩) | go_in)
  have H22 : Hid (Calls Tryz.prog 22 #[.agg #[.int .i64 (N : Int), .slice lo fl lc]] W7 fun r w' => ∃ v1 v2 far, r = .returned (.tuple #[v1, v2, .agg #[.int .i64 0, .int .i64 0]]) ∧ SidesTo N (eB es) R W7.heap.size w' v1 v2 far ∧ Below W7.heap.size W7 w') := by
    have hE2 := HE6.out
    rw [HFL.out] at hE2
    have e : pn (hasB fes) = eB es := HEB.out
    have := sides_ok N lo lc fes W7 hE2 HCF.out R (by rw [e]; exact HR.out)
    rw [← HFL.out, e] at this
    exact this
  go_upto_region 12 with (first | (go_at_call 22; refine Calls.mono H22.out ?_; rintro e W8 ⟨v1, v2, far, rfl, hside, hb8⟩) | go_in)
  have hb8a := below_alloc hb8 (Obj.cells #[.int .i64 0, .int .i64 0] 27)
  have HB89 : Hid (Below W8.heap.size W8 (W8.alloc (Obj.cells #[.int .i64 0, .int .i64 0] 27))) := below_alloc (Below.refl _ W8) _
  generalize W8.alloc (Obj.cells #[.int .i64 0, .int .i64 0] 27) = W9 at hb8a HB89 ⊢
  have HT39 : Hid (Two W9 b3 (.int .i64 0) (.int .i64 0) 27) := two_next HT36.out hb8a
  have HBW9 : Hid (Below w.heap.size w W9) := below_next HBW6.out hb8a
  have hb3l := lt_of_block HT36.out
  clear q2 q3 hb8 hb8a HT46 HT36 HBW6 HE6 H22 HNL H19
  obtain ⟨hfar, hside⟩ := hside
  have HFAR : Hid (FarAll N (eB es) R far N) := hfar
  clear hfar
  obtain ⟨z0, z1⟩ := cell_two HT39.out
  have f0 := free_two HT39.out 0
  have f1 := free_two HT39.out 1
  rcases hside with ⟨rfl, how, hne⟩ | ⟨rfl, ⟨g2, n2, c2, rg, rfl, hn3, hodd, _, _, hring⟩, _⟩
  · obtain ⟨ao, cap, rfl⟩ := form_row how
    have HOW : Hid (W8.ownsRow W7.heap.size 3 1 (.slice ao N cap) N (qv ((List.range N).map fun x => far x % 2))) := how
    have HNE : Hid (∀ a b, a < N → b < N → eB es a b = true → far a ≠ far b) := hne
    clear how hne
    have y0 : (W9.setCell ⟨b3, 0, none⟩ (.int .i64 0)).cell? ⟨b3, 1, none⟩ = some (.int .i64 0) := box_cell (box_set HT39.out 0 (.int .i64 0)) rfl
    have y1 : (W9.setCell ⟨b3, 0, none⟩ (.int .i64 0)).frozen? ⟨b3, 1, none⟩ = false := box_free (box_set HT39.out 0 (.int .i64 0)) 1
    have tz := two_set HT39.out (x' := .int .i64 0) (y' := .int .i64 0)
    obtain ⟨x0, x1⟩ := cell_two tz
    go_wp2
    refine bodyPost_ret (v := .tuple #[.slice ao N cap, .agg #[.int .i64 0, .int .i64 0]]) ?_ rfl ⟨Or.inr ⟨?_, ?_⟩, ?_⟩
    · simp [results, Tryz.results6, go_sem, *]
    · rintro ⟨h1, h2, h3⟩
      have := ring_even HGD.out HAP.out (by rw [← HMM.out]; omega) h2 (c := fun x => far x % 2 == 0) (fun a b hab => ?_)
      · omega
      · have hg := eB_good HGD.out hab
        have d1 := HFAR.out.near HR.out hg.1 hg.2.1 hab
        have d2 := HFAR.out.near HR.out hg.2.1 hg.1 (by rw [eB_sym]; exact hab)
        have d3 := HNE.out a b hg.1 hg.2.1 hab
        intro he
        rw [Bool.eq_iff_iff, beq_iff_eq, beq_iff_eq] at he
        omega
    · have h2 := two_edges HGD.out HAP.out HCONN.out HNF.out
      have hmm2 : dgM (eB es) N N = 2 := by rw [← HMM.out] at h2 ⊢; omega
      have hlen : ((List.range N).map fun x => far x % 2).length = N := by simp
      have hget : ∀ x, x < N → ((List.range N).map fun x => far x % 2).getD x 0 = far x % 2 := fun x hx => by simp [List.getD, hx]
      refine ⟨ao, cap, (List.range N).map fun x => far x % 2, rfl, fun j hj => ?_, hlen, ⟨fun i hi => ?_, fun i j hi hj he => ?_⟩⟩
      · have how := HOW.out
        have e1 : W8.ownsRow W7.heap.size 3 1 (.slice ao ((List.range N).map fun x => far x % 2).length cap) ((List.range N).map fun x => far x % 2).length (qv ((List.range N).map fun x => far x % 2)) := by rw [hlen]; exact how
        obtain ⟨b, e, hc⟩ := numsAt_own e1 j (far j % 2) (by simp [hj])
        have hbk := World.block_lt_of_cell? _ _ hc
        have hge : W7.heap.size ≤ b := (how.lt b (by rw [e]; rfl)).1
        refine ⟨b, 0, e, ?_⟩
        show _ = some (Value.int .i64 ((((List.range N).map fun x => far x % 2).getD j 0 : Nat) : Int))
        rw [Nat.zero_add, hget j hj]
        have hc9 := (HB89.out.cell (p := ⟨b, j, none⟩) hbk).trans hc
        have T := (setCell_turns W9 b3 0 (.int .i64 0)).trans (setCell_turns (W9.setCell ⟨b3, 0, none⟩ (.int .i64 0)) b3 1 (.int .i64 0))
        exact cell_turns hc9 T (show ¬ b = b3 by omega)
      · rw [hlen] at hi
        rw [hget i hi, hmm2]
        omega
      · rw [hlen] at hi
        rw [hget i hi, hget j (by omega)]
        have hab : eB es i j = true := he
        have d1 := HFAR.out.near HR.out hi (show j < N by omega) hab
        have d2 := HFAR.out.near HR.out (show j < N by omega) hi (by rw [eB_sym]; exact hab)
        have d3 := HNE.out i j hi (by omega) hab
        omega
    · exact (HBW9.out.setCell HB3.out _).setCell HB3.out _
  · have hn3' := hring.len
    have HRING : Hid (RingF N (eB es) n2 rg) := hring
    have k2 : (n2 : Int) > 0 := by omega
    clear hring
    have y0 : (W9.setCell ⟨b3, 0, none⟩ (.int .i64 8)).cell? ⟨b3, 1, none⟩ = some (.int .i64 0) := box_cell (box_set HT39.out 0 (.int .i64 8)) rfl
    have y1 : (W9.setCell ⟨b3, 0, none⟩ (.int .i64 8)).frozen? ⟨b3, 1, none⟩ = false := box_free (box_set HT39.out 0 (.int .i64 8)) 1
    have tz := two_set HT39.out (x' := .int .i64 8) (y' := .int .i64 0)
    obtain ⟨x0, x1⟩ := cell_two tz
    go_wp2
    refine bodyPost_ret (v := .tuple #[.slice none 0 0, .agg #[.int .i64 8, .int .i64 0]]) ?_ rfl ⟨Or.inl ⟨?_, rfl⟩, ?_⟩
    · simp [results, Tryz.results6, go_sem, *]
    · obtain ⟨e1, e2, e3⟩ := ring_all HGD.out HAP.out (by rw [← HMM.out]; omega) HCONN.out HRING.out
      exact ⟨by omega, e2, e3⟩
    · exact (HBW9.out.setCell HB3.out _).setCell HB3.out _
end Go.Proofs.YtdnmoifbkojnlaaGreat
