/- Brooks, sent back: not in one piece, or full. -/
import Derived.Test.YtdnmoifbkojnlaaGreatBrkU
namespace Go.Proofs.YtdnmoifbkojnlaaGreat
open Go.RowKit Go.Maps
attribute [local go_sem ↓] Go.wp_at_zero Go.wp_at_succ
set_option maxRecDepth 8000 in
set_option maxHeartbeats 4000000 in
theorem brooks_kind {w : World} {N : Nat} {vo : Option Addr} {vc : Nat} {es : List Pair} (hE : EdgesAt w (.slice vo es.length vc) es) (hs : (chk N es).1 = 0) {R : Nat → Nat → Bool} (hR : ∀ v x, R v x = true ↔ Star (St N (eB es) allB) v x) (hk : partsN N allB R ≠ 1 ∨ 2 * es.length = N * (N - 1)) :
    Calls Tryz.prog 6 #[.agg #[.int .i64 (N : Int), .slice vo es.length vc]] w fun e w' => (e = .returned (.tuple #[.slice none 0 0, .agg #[.int .i64 8, .int .i64 0]])) ∧ Below w.heap.size w w' := by
  obtain ⟨_, _, hN', hle, hgd⟩ := chk_good hs
  have hN : N ≤ 100 := by omega
  have hap := chk_apart hs
  have HE : Hid (EdgesAt w (.slice vo es.length vc) es) := hE
  have HGD : Hid (Good N es) := hgd
  obtain ⟨fes, hfes⟩ : ∃ fes, fes = allP N (hasB es) := ⟨_, rfl⟩
  obtain ⟨fl, hfl⟩ : ∃ fl, fl = fes.length := ⟨_, rfl⟩
  have HFES : Hid (fes = allP N (hasB es)) := hfes
  have HFL : Hid (fl = fes.length) := hfl
  have hfe : fl = es.length := by rw [hfl, hfes]; exact (allP_length hgd hap).1
  have hl1 : fl ≤ 1000 := by rw [hfe]; exact hle
  have HFS : Hid (formS (N : Int) es = ⟨N, fes, 0, 0⟩) := by
    show formS (N : Int) es = ⟨N, fes, 0, 0⟩
    rw [hfes]; exact formS_good hs
  have HCF : Hid ((chk N fes).1 = 0) := by
    show (chk N fes).1 = 0
    rw [hfes, chk_allP hN (by rw [← hfes, ← hfl]; exact hl1)]
  have HEB : Hid (eB fes = eB es) := by
    show eB fes = eB es
    rw [hfes]; exact eB_form hgd
  have HR : Hid (∀ v x, R v x = true ↔ Star (St N (eB es) allB) v x) := hR
  have HAP : Hid (apart es) := hap
  have HPL : Hid ((piecesS N allB R).length = partsN N allB R) := by
    show (piecesS N allB R).length = partsN N allB R
    unfold piecesS piecesTo partsN
    rw [List.length_map]
  obtain ⟨pl, hpl⟩ : ∃ pl, pl = partsN N allB R := ⟨_, rfl⟩
  have HP : Hid (pl = partsN N allB R) := hpl
  have hpl9 : pl ≤ N := by rw [hpl]; exact partsN_le _ _ _
  have HFE : Hid (fl = es.length) := hfe
  have HK : Hid (partsN N allB R ≠ 1 ∨ 2 * es.length = N * (N - 1)) := hk
  clear hE hs hR hN' hle hgd hap hfes hfl hpl hfe hk
  go_enter Tryz.func6, Tryz.ntmps6
  go_upto_region 1 with (fail)
  have t1 := two_alloc (two_new w (.int .i64 (N : Int)) (.slice vo es.length vc) 24) (Obj.cells #[.int .i64 0, .int .i64 0] 27)
  have t3 := two_nxt w (Obj.cells #[.int .i64 (N : Int), .slice vo es.length vc] 24) (.int .i64 0) (.int .i64 0) 27
  have hB0 := below_alloc (below_alloc (Below.refl _ w) (Obj.cells #[.int .i64 (N : Int), .slice vo es.length vc] 24)) (Obj.cells #[.int .i64 0, .int .i64 0] 27)
  obtain ⟨b1, hb1⟩ : ∃ b, b = w.heap.size := ⟨_, rfl⟩
  obtain ⟨b3, hb3⟩ : ∃ b, b = w.heap.size + 1 := ⟨_, rfl⟩
  have HB3 : Hid (w.heap.size ≤ b3) := by show w.heap.size ≤ b3; omega
  rw [← hb3] at t3 ⊢
  rw [← hb1] at t1 ⊢
  generalize (w.alloc (Obj.cells #[.int .i64 (N : Int), .slice vo es.length vc] 24)).alloc (Obj.cells #[.int .i64 0, .int .i64 0] 27) = W0 at t1 t3 hB0 ⊢
  clear hb1 hb3
  obtain ⟨q0, q1⟩ := cell_two t1
  have h34 := form_as (HE.out.below hB0) HFS.out
  have H34 : Hid (Calls Tryz.prog 15 #[.agg #[.int .i64 (N : Int), .slice vo es.length vc]] W0 fun e w' => Below W0.heap.size W0 w' ∧ ∃ ao cap, e = .returned (.tuple #[.agg #[.int .i64 (N : Int), .slice ao fl cap], .agg #[.int .i64 0, .int .i64 0]]) ∧ EdgesAt w' (.slice ao fl cap) fes) := h34.mono (by
    rintro e w' ⟨hb, ao, cap, rfl, hEl, _⟩
    rw [HFL.out]
    exact ⟨hb, ao, cap, rfl, hEl⟩)
  clear h34
  go_upto_region 2 with (first | (go_at_call 15; refine Calls.mono H34.out ?_; rintro e W1 ⟨hb, lo, lc, rfl, hEl⟩) | go_in)
  have t4 := two_alloc (two_new W1 (.int .i64 (N : Int)) (.slice lo fl lc) 24) (Obj.cells #[.int .i64 0, .int .i64 0] 27)
  have t5 := two_nxt W1 (Obj.cells #[.int .i64 (N : Int), .slice lo fl lc] 24) (.int .i64 0) (.int .i64 0) 27
  have hB2 := below_alloc (below_alloc hb (Obj.cells #[.int .i64 (N : Int), .slice lo fl lc] 24)) (Obj.cells #[.int .i64 0, .int .i64 0] 27)
  have hE2 := hEl.below (below_alloc (below_alloc (Below.refl _ W1) (Obj.cells #[.int .i64 (N : Int), .slice lo fl lc] 24)) (Obj.cells #[.int .i64 0, .int .i64 0] 27))
  obtain ⟨b4, hb4⟩ : ∃ b, b = W1.heap.size := ⟨_, rfl⟩
  obtain ⟨b5, hb5⟩ : ∃ b, b = W1.heap.size + 1 := ⟨_, rfl⟩
  rw [← hb5] at t5 ⊢
  rw [← hb4] at t4 ⊢
  generalize (W1.alloc (Obj.cells #[.int .i64 (N : Int), .slice lo fl lc] 24)).alloc (Obj.cells #[.int .i64 0, .int .i64 0] 27) = W2 at t4 t5 hB2 hE2 ⊢
  have HT4 : Hid (Two W2 b4 (.int .i64 (N : Int)) (.slice lo fl lc) 24) := t4
  have HT3 : Hid (Two W2 b3 (.int .i64 0) (.int .i64 0) 27) := two_next t3 hB2
  have HBW : Hid (Below w.heap.size w W2) := below_next hB0 hB2
  have HE2 : Hid (EdgesAt W2 (.slice lo fl lc) fes) := hE2
  clear hb4 hb5 q0 q1 H34 hb hEl hE2 hB2 hB0 t1 t3
  obtain ⟨q0, q1⟩ := cell_two t5
  obtain ⟨q2, q3⟩ := cell_two t4
  clear t4 t5
  have H16 : Hid (Calls Tryz.prog 16 #[.agg #[.int .i64 (N : Int), .slice lo fl lc]] W2 fun r w' => ∃ ao cap, r = .returned (.tuple #[.slice ao pl cap, .agg #[.int .i64 0, .int .i64 0]]) ∧ Below W2.heap.size W2 w') := by
    have hE2 := HE2.out
    rw [HFL.out] at hE2
    have := components_ok N lo lc fes W2 hE2 HCF.out R (by
      have e : bothB fes = eB es := HEB.out
      rw [e]; exact HR.out)
    rw [← HFL.out] at this
    refine this.mono ?_
    rintro r w' ⟨v', rfl, hls, hb⟩
    obtain ⟨ao, cap, rfl⟩ := hls.form
    rw [HPL.out, ← HP.out]
    exact ⟨ao, cap, rfl, hb⟩
  go_upto_region 4 with (fail)
  go_upto_region 5 with (first | (go_at_call 16; refine Calls.mono H16.out ?_; rintro e W3 ⟨po, pc, rfl, hb3⟩) | go_in)
  have hb3a := below_alloc hb3 (Obj.cells #[.int .i64 0, .int .i64 0] 27)
  generalize W3.alloc (Obj.cells #[.int .i64 0, .int .i64 0] 27) = W4 at hb3a ⊢
  have HT44 : Hid (Two W4 b4 (.int .i64 (N : Int)) (.slice lo fl lc) 24) := two_next HT4.out hb3a
  have HT34 : Hid (Two W4 b3 (.int .i64 0) (.int .i64 0) 27) := two_next HT3.out hb3a
  have HBW4 : Hid (Below w.heap.size w W4) := below_next HBW.out hb3a
  have HE4 : Hid (EdgesAt W4 (.slice lo fl lc) fes) := HE2.out.below hb3a
  clear q0 q1 q2 q3 H16 hb3 hb3a HT4 HT3 HBW HE2
  obtain ⟨q2, q3⟩ := cell_two HT44.out
  obtain ⟨q0, q1⟩ := cell_two HT34.out
  have fz0 := free_two HT34.out 0
  have fz1 := free_two HT34.out 1
  have H17 : Hid (Calls Tryz.prog 17 #[.agg #[.int .i64 (N : Int), .slice lo fl lc]] W4 fun e w' => e = .returned (.bool (decide (2 * es.length = N * (N - 1)))) ∧ Below W4.heap.size W4 w') := by
    rw [← HFE.out]; exact isFull_call hN hl1
  by_cases hp1 : pl = 1
  · have hf : 2 * es.length = N * (N - 1) := by
      rcases HK.out with h | h
      · exact absurd (HP.out ▸ hp1) h
      · exact h
    have hpn : ((pl : Int) != 1) = false := by simp [hp1]
    have H17' : Hid (Calls Tryz.prog 17 #[.agg #[.int .i64 (N : Int), .slice lo fl lc]] W4 fun e w' => e = .returned (.bool true) ∧ Below W4.heap.size W4 w') := by
      have := H17.out
      rw [decide_eq_true hf] at this
      exact this
    clear H17
    go_upto_region 6 with (first | (go_at_call 17; refine Calls.mono H17'.out ?_; rintro e W5 ⟨rfl, hb5⟩) | go_in)
    have t35 := two_next HT34.out hb5
    have HB5 : Hid (Below w.heap.size w W5) := below_next HBW4.out hb5
    clear q0 q1 q2 q3 fz0 fz1 hb5
    obtain ⟨q0, q1⟩ := cell_two t35
    have fz0 := free_two t35 0
    have fz1 := free_two t35 1
    have tz := two_set t35 (x' := .int .i64 8) (y' := .int .i64 0)
    obtain ⟨z0, z1⟩ := cell_two tz
    have fy0 : (W5.setCell ⟨b3, 0, none⟩ (.int .i64 8)).cell? ⟨b3, 1, none⟩ = some (.int .i64 0) := by
      have := box_set t35 0 (.int .i64 8)
      exact box_cell this rfl
    have fy1 : (W5.setCell ⟨b3, 0, none⟩ (.int .i64 8)).frozen? ⟨b3, 1, none⟩ = false := by
      have := box_set t35 0 (.int .i64 8)
      simp [World.frozen?, show (W5.setCell ⟨b3, 0, none⟩ (.int .i64 8)).heap[b3]? = _ from this]
    go_wp2
    refine bodyPost_ret (v := .tuple #[.slice none 0 0, .agg #[.int .i64 8, .int .i64 0]]) ?_ rfl ⟨rfl, ?_⟩
    · simp [results, Tryz.results6, go_sem, *]
    · exact (HB5.out.setCell HB3.out _).setCell HB3.out _
  · have hpn : ((pl : Int) != 1) = true := by simp; omega
    have tz := two_set HT34.out (x' := .int .i64 8) (y' := .int .i64 0)
    obtain ⟨z0, z1⟩ := cell_two tz
    have fy0 : (W4.setCell ⟨b3, 0, none⟩ (.int .i64 8)).cell? ⟨b3, 1, none⟩ = some (.int .i64 0) := by
      have := box_set HT34.out 0 (.int .i64 8)
      exact box_cell this rfl
    have fy1 : (W4.setCell ⟨b3, 0, none⟩ (.int .i64 8)).frozen? ⟨b3, 1, none⟩ = false := by
      have := box_set HT34.out 0 (.int .i64 8)
      simp [World.frozen?, show (W4.setCell ⟨b3, 0, none⟩ (.int .i64 8)).heap[b3]? = _ from this]
    go_wp2
    refine bodyPost_ret (v := .tuple #[.slice none 0 0, .agg #[.int .i64 8, .int .i64 0]]) ?_ rfl ⟨rfl, ?_⟩
    · simp [results, Tryz.results6, go_sem, *]
    · exact (HBW4.out.setCell HB3.out _).setCell HB3.out _
end Go.Proofs.YtdnmoifbkojnlaaGreat
