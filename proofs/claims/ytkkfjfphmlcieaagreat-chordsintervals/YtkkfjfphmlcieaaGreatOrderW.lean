/- Order. -/
import Derived.Test.YtkkfjfphmlcieaaGreatOrderM
import Derived.Test.YtkkfjfphmlcieaaGreatNearW
namespace Go.Proofs.YtkkfjfphmlcieaaGreat
set_option maxRecDepth 4000
open Go.RowKit Go.Maps
attribute [local go_sem ↓] Go.wp_at_zero Go.wp_at_succ
theorem bothB_sym (es : List Pair) (a b : Nat) : bothB es a b = bothB es b a := by unfold bothB; exact hasB_comm _ _ _
theorem bothB_irr {m : Nat} {es : List Pair} (hg : ∀ e ∈ es, (0 ≤ e.1 ∧ e.1 < m ∧ 0 ≤ e.2 ∧ e.2 < m) ∧ e.1 ≠ e.2) (a : Nat) : bothB es a a = false := by
  cases h : bothB es a a with
  | false => rfl
  | true =>
    unfold bothB hasB at h
    obtain ⟨q, hq, hqq⟩ := List.any_eq_true.1 h
    have := (hg q hq).2
    simp at hqq
    omega
def OrderEnd (N : Nat) (es : List Pair) (base : Nat) (r : Ending) (w' : World) : Prop :=
  (∃ (O : List Nat) (oo : Option Addr) (oc : Nat), r = .returned (.tuple #[.slice oo O.length oc, .slice none 0 0, .agg #[.int .i64 0, .int .i64 0]]) ∧ w'.ownsRow base 3 1 (.slice oo O.length oc) O.length (qv O) ∧ IsOrd N (bothB es) O) ∨
  ∃ (h : List Nat) (po : Option Addr) (pc : Nat), r = .returned (.tuple #[.slice none 0 0, .slice po h.length pc, .agg #[.int .i64 0, .int .i64 0]]) ∧ w'.ownsRow base 3 1 (.slice po h.length pc) h.length (qv h) ∧ IsHole N (bothB es) h
set_option maxHeartbeats 4000000 in
theorem order_ok {w : World} {N : Nat} {vo : Option Addr} {vc : Nat} {es : List Pair} (hE : EdgesAt w (.slice vo es.length vc) es) (hs : (chk N es).1 = 0) :
    Calls Tryz.prog 21 #[.agg #[.int .i64 (N : Int), .slice vo es.length vc]] w fun r w' => OrderEnd N es w.heap.size r w' ∧ Below w.heap.size w w' := by
  obtain ⟨hs0, _, hN', hle, hgd⟩ := chk_good hs
  have hN : N ≤ 100 := by omega
  have HE : Hid (EdgesAt w (.slice vo es.length vc) es) := hE
  have HS : Hid (chk (N : Int) es = (0, 0)) := hs0
  have HGD : Hid (∀ e ∈ es, (0 ≤ e.1 ∧ e.1 < (N : Int) ∧ 0 ≤ e.2 ∧ e.2 < (N : Int)) ∧ e.1 ≠ e.2) := hgd
  clear hE hs hs0 hN' hle hgd
  go_enter Tryz.func21, Tryz.ntmps21
  go_upto_region 1 with (fail)
  have t1 := two_alloc (two_new w (.int .i64 (N : Int)) (.slice vo es.length vc) 24) (Obj.cells #[.int .i64 0, .int .i64 0] 27)
  have t4 := two_nxt w (Obj.cells #[.int .i64 (N : Int), .slice vo es.length vc] 24) (.int .i64 0) (.int .i64 0) 27
  have hB0 := below_alloc (below_alloc (Below.refl _ w) (Obj.cells #[.int .i64 (N : Int), .slice vo es.length vc] 24)) (Obj.cells #[.int .i64 0, .int .i64 0] 27)
  obtain ⟨b1, hb1⟩ : ∃ b, b = w.heap.size := ⟨_, rfl⟩
  obtain ⟨b4, hb4⟩ : ∃ b, b = w.heap.size + 1 := ⟨_, rfl⟩
  have HB4 : Hid (w.heap.size ≤ b4) := by show w.heap.size ≤ b4; omega
  rw [← hb4] at t4 ⊢
  rw [← hb1] at t1 ⊢
  generalize (w.alloc (Obj.cells #[.int .i64 (N : Int), .slice vo es.length vc] 24)).alloc (Obj.cells #[.int .i64 0, .int .i64 0] 27) = W0 at t1 t4 hB0 ⊢
  clear hb1 hb4
  obtain ⟨q0, q1⟩ := cell_two t1
  have H19 : Hid (Calls Tryz.prog 34 #[.agg #[.int .i64 (N : Int), .slice vo es.length vc]] W0 fun e w' => e = .returned (.agg #[.int .i64 0, .int .i64 0]) ∧ Below W0.heap.size W0 w') := check_as (HE.out.below hB0) HS.out
  go_upto_region 2 with (first | (go_at_call 34; refine Calls.mono H19.out ?_; rintro e W1 ⟨rfl, hb1⟩) | go_in)
  have hb1a := below_alloc hb1 (Obj.cells #[.int .i64 0, .int .i64 0] 27)
  have t5 := two_new W1 (.int .i64 0) (.int .i64 0) 27
  obtain ⟨b5, hb5⟩ : ∃ b, b = W1.heap.size := ⟨_, rfl⟩
  rw [← hb5] at t5 ⊢
  generalize W1.alloc (Obj.cells #[.int .i64 0, .int .i64 0] 27) = W2 at t5 hb1a ⊢
  have HT1 : Hid (Two W2 b1 (.int .i64 (N : Int)) (.slice vo es.length vc) 24) := two_next t1 hb1a
  have HT4 : Hid (Two W2 b4 (.int .i64 0) (.int .i64 0) 27) := two_next t4 hb1a
  have HBW : Hid (Below w.heap.size w W2) := below_next hB0 hb1a
  obtain ⟨q2, q3⟩ := cell_two t5
  clear q0 q1 H19 hb1 hb1a hb5 t5 t1 t4 hB0
  obtain ⟨q0, q1⟩ := cell_two HT1.out
  have H20 : Hid (Calls Tryz.prog 33 #[.agg #[.int .i64 (N : Int), .slice vo es.length vc]] W2 fun r w' => ∃ ao, r = .returned (.slice ao N N) ∧ (∀ g, ao = some g → W2.heap.size ≤ g.block) ∧ ∃ bl, NearsAt w' ao N bl (bothB es) ∧ (∀ i, i < N → W2.heap.size ≤ bl i) ∧ Below W2.heap.size W2 w') := nearBy_call N vo vc es W2 (HE.out.below HBW.out) (by omega) (fun e he => (HGD.out e he).1)
  go_upto_region 5 with (first | (go_at_call 33; refine Calls.mono H20.out ?_; rintro e W3 ⟨ao, rfl, hao, bl, hnr, hbl, hb3⟩) | go_in)
  have HNR : Hid (NearsAt W3 ao N bl (bothB es)) := hnr
  have HBL : Hid (∀ i, i < N → W2.heap.size ≤ bl i) := hbl
  have HT13 : Hid (Two W3 b1 (.int .i64 (N : Int)) (.slice vo es.length vc) 24) := two_next HT1.out hb3
  have HT43 : Hid (Two W3 b4 (.int .i64 0) (.int .i64 0) 27) := two_next HT4.out hb3
  have HB3 : Hid (Below W2.heap.size W2 W3) := hb3
  have H21 : Hid (Calls Tryz.prog 35 #[.slice ao N N] W3 fun r w' => PeelEnd W3 N (bothB es) ao bl r w' ∧ Turns (Marks N bl) W3 w') := peel_call hnr hN (bothB_sym es)
  have hl1 := lt_of_block HT1.out
  have hl4 := lt_of_block HT4.out
  clear q0 q1 q2 q3 H20 hnr hbl hb3 hao
  go_upto_region 6 with (first | (go_at_call 35; refine Calls.mono H21.out ?_; rintro e W5 ⟨⟨O, L, oo, oc, rfl, hown, hpi, hcl, hnr5⟩, ht5⟩) | go_in)
  have HPI : Hid (PeelI N (bothB es) O L) := hpi
  have HCL : Hid (∀ x ∈ L, clqB N (offV (bothB es) O) (offV (bothB es) O x) = false) := hcl
  have HNR5 : Hid (NearsAt W5 ao N bl (offV (bothB es) O)) := hnr5
  have HOW : Hid (W5.ownsRow W3.heap.size 3 1 (.slice oo O.length oc) O.length (qv O)) := hown
  have nM : ∀ b, b < W2.heap.size → ¬ Marks N bl b := fun b hb ⟨i, hi, e⟩ => by have := HBL.out i hi; omega
  have HT15 : Hid (Two W5 b1 (.int .i64 (N : Int)) (.slice vo es.length vc) 24) := two_turns HT13.out ht5 (nM b1 hl1)
  have HT45 : Hid (Two W5 b4 (.int .i64 0) (.int .i64 0) 27) := two_turns HT43.out ht5 (nM b4 hl4)
  have HBW5 : Hid (Below w.heap.size w W5) := by
    have h1 := below_next HBW.out HB3.out
    exact Turns.below h1 ht5 h1.size (fun k ⟨i, hi, e⟩ => by have := HBL.out i hi; have := HBW.out.size; omega)
  have hON : O.length ≤ N := by
    have := nat_nodup_len O (List.range N) hpi.nd (fun x hx => List.mem_range.2 (hpi.lt x hx))
    simpa using this
  clear hpi hcl hnr5 hown ht5 H21 nM HT13 HT43
  obtain ⟨q0, q1⟩ := cell_two HT15.out
  by_cases hlt : O.length < N
  · have k1 : (O.length : Int) < (N : Int) := by omega
    have H22 : Hid (Calls Tryz.prog 36 #[.slice ao N N] W5 fun r w' => (∃ (h : List Nat) (po : Option Addr) (pc : Nat), r = .returned (.slice po h.length pc) ∧ w'.ownsRow W5.heap.size 3 1 (.slice po h.length pc) h.length (qv h) ∧ IsHole N (bothB es) h) ∧ Below W5.heap.size W5 w') := by
      refine (findHole_call HNR5.out hN (offV_sym (bothB_sym es) O) (fun x => by simp [offV, bothB_irr HGD.out])).mono ?_
      rintro r w' ⟨⟨_, hno⟩ | ⟨h, po, pc, hr, ho, hh⟩, hb⟩
      · exact (peel_hole (bothB_sym es) HPI.out HCL.out hlt hno).elim
      · exact ⟨⟨h, po, pc, hr, ho, hh.off⟩, hb⟩
    go_wp2_with (first | (go_at_call 36; refine Calls.mono H22.out ?_; rintro r W6 ⟨⟨h, po, pc, rfl, hown6, hhole⟩, hb6⟩; have t46 := two_next HT45.out hb6; obtain ⟨z0, z1⟩ := cell_two t46; have f0 := free_two t46 0; have f1 := free_two t46 1; have y0 : (W6.setCell ⟨b4, 0, none⟩ (.int .i64 0)).cell? ⟨b4, 1, none⟩ = some (.int .i64 0) := box_cell (box_set t46 0 (.int .i64 0)) rfl; have y1 : (W6.setCell ⟨b4, 0, none⟩ (.int .i64 0)).frozen? ⟨b4, 1, none⟩ = false := box_free (box_set t46 0 (.int .i64 0)) 1) | go_in)
    have tz := two_setN t46 (x' := .int .i64 0) (y' := .int .i64 0)
    obtain ⟨x0, x1⟩ := cell_two tz
    have HHO : Hid (IsHole N (bothB es) h) := hhole
    have HO6 : Hid (W6.ownsRow W5.heap.size 3 1 (.slice po h.length pc) h.length (qv h)) := hown6
    have hl45 := lt_of_block HT45.out
    have hszw := HBW5.out.size
    clear hhole hown6
    refine bodyPost_ret (v := .tuple #[.slice none 0 0, .slice po h.length pc, .agg #[.int .i64 0, .int .i64 0]]) ?_ rfl ⟨Or.inr ⟨h, po, pc, rfl, ?_, HHO.out⟩, ?_⟩
    · simp [results, Tryz.results21, go_sem, *]
    · refine ownsRow_mono (ownsRow_turnsC HO6.out ((setCell_turns W6 b4 0 _).trans (setCell_turns _ b4 1 _)) (fun b hb e => ?_)) hszw
      have := (HO6.out.lt b hb).1
      omega
    · exact ((below_next HBW5.out hb6).setCell HB4.out _).setCell HB4.out _
  · have k1 : ¬ (O.length : Int) < (N : Int) := by omega
    have HORD : Hid (IsOrd N (bothB es) O) := HPI.out.ord (by omega)
    obtain ⟨z0, z1⟩ := cell_two HT45.out
    have f0 := free_two HT45.out 0
    have f1 := free_two HT45.out 1
    have y0 : (W5.setCell ⟨b4, 0, none⟩ (.int .i64 0)).cell? ⟨b4, 1, none⟩ = some (.int .i64 0) := box_cell (box_set HT45.out 0 (.int .i64 0)) rfl
    have y1 : (W5.setCell ⟨b4, 0, none⟩ (.int .i64 0)).frozen? ⟨b4, 1, none⟩ = false := box_free (box_set HT45.out 0 (.int .i64 0)) 1
    have tz := two_setN HT45.out (x' := .int .i64 0) (y' := .int .i64 0)
    obtain ⟨x0, x1⟩ := cell_two tz
    have hl43 : b4 < W3.heap.size := Nat.lt_of_lt_of_le hl4 HB3.out.size
    clear hlt
    go_wp2
    refine bodyPost_ret (v := .tuple #[.slice oo O.length oc, .slice none 0 0, .agg #[.int .i64 0, .int .i64 0]]) ?_ rfl ⟨Or.inl ⟨O, oo, oc, rfl, ?_, HORD.out⟩, ?_⟩
    · simp [results, Tryz.results21, go_sem, *]
    · refine ownsRow_mono (ownsRow_turnsC HOW.out ((setCell_turns W5 b4 0 _).trans (setCell_turns _ b4 1 _)) (fun b hb e => ?_)) (Nat.le_trans HBW.out.size HB3.out.size)
      have := (HOW.out.lt b hb).1
      omega
    · exact (HBW5.out.setCell HB4.out _).setCell HB4.out _
set_option maxHeartbeats 2000000 in
theorem order_bad {w : World} {n : Int} {vo : Option Addr} {vc : Nat} {es : List Pair} (hE : EdgesAt w (.slice vo es.length vc) es) {c d : Int} (hs : chk n es = (c, d)) (hc : c ≠ 0) :
    Calls Tryz.prog 21 #[.agg #[.int .i64 n, .slice vo es.length vc]] w fun e w' => e = .returned (.tuple #[.slice none 0 0, .slice none 0 0, .agg #[.int .i64 c, .int .i64 d]]) ∧ Below w.heap.size w w' := by
  have HE : Hid (EdgesAt w (.slice vo es.length vc) es) := hE
  have HS : Hid (chk n es = (c, d)) := hs
  have kc : (c != 0) = true := by simp [hc]
  clear hE hs
  go_enter Tryz.func21, Tryz.ntmps21
  go_upto_region 1 with (fail)
  have t1 := two_alloc (two_new w (.int .i64 n) (.slice vo es.length vc) 24) (Obj.cells #[.int .i64 0, .int .i64 0] 27)
  have t4 := two_nxt w (Obj.cells #[.int .i64 n, .slice vo es.length vc] 24) (.int .i64 0) (.int .i64 0) 27
  have hB0 := below_alloc (below_alloc (Below.refl _ w) (Obj.cells #[.int .i64 n, .slice vo es.length vc] 24)) (Obj.cells #[.int .i64 0, .int .i64 0] 27)
  obtain ⟨b1, hb1⟩ : ∃ b, b = w.heap.size := ⟨_, rfl⟩
  obtain ⟨b4, hb4⟩ : ∃ b, b = w.heap.size + 1 := ⟨_, rfl⟩
  have HB4 : Hid (w.heap.size ≤ b4) := by show w.heap.size ≤ b4; omega
  rw [← hb4] at t4 ⊢
  rw [← hb1] at t1 ⊢
  generalize (w.alloc (Obj.cells #[.int .i64 n, .slice vo es.length vc] 24)).alloc (Obj.cells #[.int .i64 0, .int .i64 0] 27) = W0 at t1 t4 hB0 ⊢
  clear hb1 hb4
  obtain ⟨q0, q1⟩ := cell_two t1
  have H19 : Hid (Calls Tryz.prog 34 #[.agg #[.int .i64 n, .slice vo es.length vc]] W0 fun e w' => e = .returned (.agg #[.int .i64 c, .int .i64 d]) ∧ Below W0.heap.size W0 w') := check_as (HE.out.below hB0) HS.out
  go_upto_region 2 with (first | (go_at_call 34; refine Calls.mono H19.out ?_; rintro e W1 ⟨rfl, hb1⟩) | go_in)
  have hb1a := below_alloc hb1 (Obj.cells #[.int .i64 c, .int .i64 d] 27)
  have t5 := two_new W1 (.int .i64 c) (.int .i64 d) 27
  obtain ⟨b5, hb5⟩ : ∃ b, b = W1.heap.size := ⟨_, rfl⟩
  rw [← hb5] at t5 ⊢
  generalize W1.alloc (Obj.cells #[.int .i64 c, .int .i64 d] 27) = W2 at t5 hb1a ⊢
  have t4' := two_next t4 hb1a
  have HBW : Hid (Below w.heap.size w W2) := below_next hB0 hb1a
  clear q0 q1 H19 hb1 hb1a hb5 t1 t4 hB0
  obtain ⟨q0, q1⟩ := cell_two t5
  obtain ⟨q2, q3⟩ := cell_two t4'
  have f0 := free_two t4'
  go_upto_region 3 with (fail)
  go_region
  all_goals
    go_wp2
    obtain ⟨s0, s1⟩ := cell_two (two_setN (x' := .int .i64 c) (y' := .int .i64 d) t4')
    have hBf := ((HBW.out.setCell (p := ⟨b4, 0, none⟩) HB4.out (.int .i64 c)).setCell (p := ⟨b4, 1, none⟩) HB4.out (.int .i64 d)).drew
    refine bodyPost_ret (v := .tuple #[.slice none 0 0, .slice none 0 0, .agg #[.int .i64 c, .int .i64 d]]) ?_ rfl ⟨rfl, hBf⟩
    simp [results, Tryz.results21, go_sem, s0, s1]
end Go.Proofs.YtkkfjfphmlcieaaGreat
