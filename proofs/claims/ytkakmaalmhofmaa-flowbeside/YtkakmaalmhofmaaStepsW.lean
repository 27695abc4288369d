/- steps: along which edges something goes, and which way. -/
import Derived.Test.YtkakmaalmhofmaaUnwind
import Derived.Test.YtkakmaalmhofmaaAlong
import Derived.Deep.RegionLaw
namespace Go.Proofs.Ytkakmaalmhofmaa
open Go.RowKit Go.Maps
attribute [local go_sem ↓] Go.wp_at_zero Go.wp_at_succ

/-- The steps along the first k edges. -/
def stepB (es : List Pair) (R : Nat → Int) : Nat → Nat → Nat → Bool
  | 0, _, _ => false
  | k + 1, a, b => (decide (R (2 * k + 1) = 0) && (a == endB es k && b == endA es k)) || ((decide (R (2 * k) = 0) && (a == endA es k && b == endB es k)) || stepB es R k a b)

set_option maxRecDepth 4000 in
set_option maxHeartbeats 2000000 in
theorem steps_call {c : Pp} {w : World} {R : Nat → Int} {N : Nat} {v : Value} {es : List Pair} (hps : PS c w R) (hM : c.M = 2 * es.length) (hE : EdgesAt w v es) (hN : N ≤ 100) (hl : es.length ≤ 1000) (hg : ∀ e ∈ es, 0 ≤ e.1 ∧ e.1 < N ∧ 0 ≤ e.2 ∧ e.2 < N) :
    Calls Try.prog 38 #[ptr c.bp, .agg #[.int .i64 (N : Int), v]] w fun r w' => ∃ ao, r = .returned (.slice ao N N) ∧ ∃ bl, NearsAt w' ao N bl (stepB es R es.length) ∧ (∀ i, i < N → w.heap.size ≤ bl i) ∧ Below w.heap.size w w' := by
  obtain ⟨eo, cap, rfl⟩ := hE.form
  have HPS : Hid (PS c w R) := hps
  have HE : Hid (EdgesAt w (.slice eo es.length cap) es) := hE
  have HG : Hid (∀ e ∈ es, 0 ≤ e.1 ∧ e.1 < N ∧ 0 ≤ e.2 ∧ e.2 < N) := hg
  have HM : Hid (c.M = 2 * es.length) := hM
  clear hps hE hg hM
  go_enter Try.func38, Try.ntmps38
  go_upto_region 2 with (first | (go_at_call 59; refine (empties_call N _ (by omega)).mono ?_; rintro r W1 ⟨ao, rfl, hge, bl, hnr, hbl, hB1⟩) | go_in)
  have t0 : Two W1 w.heap.size (.int .i64 (N : Int)) (.slice eo es.length cap) 40 := two_next (two_new w _ _ 40) hB1
  have hBw : Below w.heap.size w W1 := below_next (below_alloc (Below.refl _ w) _) hB1
  have hbl2 : ∀ i, i < N → w.heap.size ≤ bl i := fun i hi => by have := hbl i hi; simp at this; omega
  have HNR : Hid (NearsAt W1 ao N bl (fun _ _ => false)) := hnr
  have HBL : Hid (∀ i, i < N → w.heap.size ≤ bl i) := hbl2
  obtain ⟨c0, c1⟩ := cell_two t0
  clear hnr hbl hbl2 hge hB1
  go_wp2
  clear c0 c1 t0
  go_loopw [16] (fun i wr => ∃ k : Nat, i = .int .i64 (k : Int) ∧ k ≤ es.length ∧ NearsAt wr ao N bl (stepB es R k) ∧ Below w.heap.size w wr) (fun i _ => es.length - (numOf i).toNat)
  case atStart => exact ⟨0, rfl, Nat.zero_le _, HNR.out, hBw⟩
  case round =>
    obtain ⟨k, rfl, hk, hnr, hB⟩ := hrel
    clear HNR hBw
    by_cases hlt : k < es.length
    · obtain ⟨_, _, e, hl2, hI, hcells⟩ := HE.out
      cases e
      obtain ⟨b, off, rfl, cx, cy⟩ := hcells k hlt
      have hg := HG.out es[k] (List.getElem_mem hlt)
      obtain ⟨x, y, hxy⟩ : ∃ x y, es[k] = (x, y) := ⟨es[k].1, es[k].2, rfl⟩
      have hA0 : endA es k = es[k].1.toNat := by unfold endA; rw [getD_lt hlt]
      have hB0 : endB es k = es[k].2.toNat := by unfold endB; rw [getD_lt hlt]
      rw [hxy] at cx cy hg hA0 hB0
      simp only at hg
      obtain ⟨x', rfl⟩ : ∃ x' : Nat, x = x' := ⟨x.toNat, by omega⟩
      obtain ⟨y', rfl⟩ : ∃ y' : Nat, y = y' := ⟨y.toNat, by omega⟩
      have hA : endA es k = x' := hA0
      have hBe : endB es k = y' := hB0
      have hbl := World.block_lt_of_cell? w _ cx
      rw [← hB.cell (by exact hbl)] at cx cy
      have i1 : (0 : Int) ≤ (k : Int) := by omega
      have i2 : (k : Int) < (es.length : Int) := by omega
      have hxn : x' < N := by omega
      have hyn : y' < N := by omega
      have HA : Hid (endA es k = x') := hA
      have HBe : Hid (endB es k = y') := hBe
      have HNR : Hid (NearsAt wr ao N bl (stepB es R k)) := hnr
      go_upto_region 5 with (fail)
      have t7 := two_new wr (.int .i64 (x' : Int)) (.int .i64 (y' : Int)) 51
      have hnr7 := NearsAt.below HNR.out (below_alloc (Below.refl _ wr) (Obj.cells #[.int .i64 (x' : Int), .int .i64 (y' : Int)] 51))
      have hB7 := below_alloc hB (Obj.cells #[.int .i64 (x' : Int), .int .i64 (y' : Int)] 51)
      obtain ⟨b7, hb7e⟩ : ∃ b, b = wr.heap.size := ⟨_, rfl⟩
      rw [← hb7e] at t7 ⊢
      generalize wr.alloc (Obj.cells #[.int .i64 (x' : Int), .int .i64 (y' : Int)] 51) = W7 at t7 hnr7 hB7 ⊢
      have hlaid := laid_call (a := k) (by omega)
      obtain ⟨p, hp⟩ : ∃ p, p = 2 * k := ⟨_, rfl⟩
      obtain ⟨q, hq⟩ : ∃ q, q = 2 * k + 1 := ⟨_, rfl⟩
      rw [← hq, ← hp] at hlaid
      have HLD : Hid (∀ (w : World), Calls Try.prog 55 #[.int .i64 (k : Int)] w fun e w' => e = .returned (.tuple #[.int .i64 (p : Int), .int .i64 (q : Int)]) ∧ w' = w) := hlaid
      have hM := HM.out
      have hps7 := PS.below HPS.out hB7
      have cb2 := box_cell hps7.box (i := 2) rfl
      rw [(hps7.room (by omega)).1] at cb2
      have crp := (hps7.room (by omega)).2.cell (j := p) (by omega)
      have p1 : (0 : Int) ≤ (p : Int) := by omega
      have p2 : (p : Int) < (c.M : Int) := by omega
      have HP : Hid (p = 2 * k) := hp
      have HQ : Hid (q = 2 * k + 1) := hq
      have HM2 : Hid (p < c.M ∧ q < c.M) := by constructor <;> omega
      have HN7 : Hid (NearsAt W7 ao N bl (stepB es R k)) := hnr7
      clear hlaid hps7 hp hq hM hnr hnr7 hcells hI hxy hg cx cy hA hBe hA0 hB0 HNR hB hb7e
      go_upto_if 33 with (first | (go_at_call 55; refine (HLD.out _).mono ?_; rintro r w2 ⟨rfl, hw2⟩; rw [hw2]; clear hw2) | go_in)
      generalize hgr : (R p == 0) = gr
      go_cut [] from 34 to 41 (fun wd => NearsAt wd ao N bl (fun a b => (decide (R p = 0) && (a == x' && b == y')) || stepB es R k a b) ∧ Two wd b7 (.int .i64 (x' : Int)) (.int .i64 (y' : Int)) 51 ∧ Below w.heap.size w wd)
      case first =>
        cases gr with
        | true =>
          have hr : R p = 0 := by rwa [beq_iff_eq] at hgr
          clear hgr
          obtain ⟨g, rfl, hcg⟩ := HN7.out.row x' hxn
          obtain ⟨z0, z1⟩ := cell_two t7
          have j1 : (0 : Int) ≤ (x' : Int) := by omega
          have j2 : (x' : Int) < (N : Int) := by omega
          have h60 := add_call (w := W7.drew) ((HN7.out.sets x' hxn).block rfl) (u := y') (by omega) hyn
          have H60 : Hid (Calls Try.prog 60 #[.map (some (bl x')), .int .i64 (y' : Int)] W7.drew fun e w' => e = .returned (.tuple #[]) ∧ SetN w' (bl x') N (fun k_1 => k_1 == y' || stepB es R k x' k_1) ∧ Turns (fun k => k = bl x') W7.drew w') := h60
          have HR0 : Hid (R p = 0) := hr
          clear h60 hr
          have hz := And.intro z0 (And.intro z1 hcg)
          go_upto_region 7 with (fail)
          go_region_with ((go_at_call 60; refine Calls.mono H60.out ?_; rintro r W8 ⟨rfl, hs8, ht8⟩))
          all_goals
            go_wp2_with fail
            go_meet
            case rel =>
              have hn8 := NearsAt.put (w := W7.drew) (NearsAt.below HN7.out (Below.refl _ W7).drew) hxn hs8 ht8
              refine ⟨hn8.congr (fun i j _ _ => by simp [HR0.out]), two_turns (w := W7.drew) t7 ht8 (fun h => not_map (p := ⟨b7, 0, none⟩) z0 (HN7.out.sets x' hxn) h), ?_⟩
              exact ht8.below hB7.drew hB7.size (fun k hk => by rw [hk]; exact HBL.out x' hxn)
        | false =>
          have hr : ¬ R p = 0 := by rwa [beq_eq_false_iff_ne] at hgr
          have HR0 : Hid (¬ R p = 0) := hr
          clear hr hgr
          go_wp2_with fail
          go_meet
          case rel => exact ⟨NearsAt.congr HN7.out (fun i j _ _ => by simp [HR0.out]), t7, hB7⟩
      case rest =>
        clear HN7 t7 hB7 cb2 crp hgr
        obtain ⟨hn8, t8, hB8⟩ := hcut
        have hps8 := PS.below HPS.out hB8
        have cb2 := box_cell hps8.box (i := 2) rfl
        rw [(hps8.room (by have := HM2.out; omega)).1] at cb2
        have crq := (hps8.room (by have := HM2.out; omega)).2.cell (j := q) HM2.out.2
        have q1 : (0 : Int) ≤ (q : Int) := by omega
        have q2 : (q : Int) < (c.M : Int) := by have := HM2.out; omega
        have HN8 : Hid (NearsAt wc ao N bl (fun a b => (decide (R p = 0) && (a == x' && b == y')) || stepB es R k a b)) := hn8
        have HST : Hid (∀ a b, stepB es R (k + 1) a b = ((decide (R q = 0) && (a == y' && b == x')) || ((decide (R p = 0) && (a == x' && b == y')) || stepB es R k a b))) := fun a b => by
          show ((decide (R (2 * k + 1) = 0) && (a == endB es k && b == endA es k)) || ((decide (R (2 * k) = 0) && (a == endA es k && b == endB es k)) || stepB es R k a b)) = _
          rw [← HQ.out, ← HP.out, HA.out, HBe.out]
        clear hps8 hn8
        by_cases hr : R q = 0
        · have k1 : (R q == 0) = true := by rw [beq_iff_eq]; exact hr
          obtain ⟨g, rfl, hcg⟩ := HN8.out.row y' hyn
          obtain ⟨z0, z1⟩ := cell_two t8
          have j1 : (0 : Int) ≤ (y' : Int) := by omega
          have j2 : (y' : Int) < (N : Int) := by omega
          have h60 := add_call (w := wc.drew) ((HN8.out.sets y' hyn).block rfl) (u := x') (by omega) hxn
          have H60 : Hid (Calls Try.prog 60 #[.map (some (bl y')), .int .i64 (x' : Int)] wc.drew fun e w' => e = .returned (.tuple #[]) ∧ SetN w' (bl y') N (fun k_1 => k_1 == x' || ((decide (R p = 0) && (y' == x' && k_1 == y')) || stepB es R k y' k_1)) ∧ Turns (fun k => k = bl y') wc.drew w') := h60
          have HR0 : Hid (R q = 0) := hr
          clear h60 hr
          have hz := And.intro z0 (And.intro z1 hcg)
          go_upto_region 9 with (fail)
          go_region_with ((go_at_call 60; refine Calls.mono H60.out ?_; rintro r W9 ⟨rfl, hs9, ht9⟩))
          all_goals
            have hn9 := NearsAt.put (w := wc.drew) (NearsAt.below HN8.out (Below.refl _ wc).drew) hyn hs9 ht9
            have hn9' := hn9.congr (f := stepB es R (k + 1)) (fun i j _ _ => by rw [HST.out]; simp [HR0.out])
            have hB9 := ht9.below hB8.drew hB8.size (fun k hk => by rw [hk]; exact HBL.out y' hyn)
            have HN9 : Hid (NearsAt W9 (some ⟨g, 0, none⟩) N bl (stepB es R (k + 1))) := hn9'
            clear hn9 hn9' hs9 ht9
            go_wp2
            go_roundw
            case rel => exact ⟨k + 1, by go_num, by omega, HN9.out, hB9⟩
            case measure => simp [numOf]; omega
        · have k1 : (R q == 0) = false := by rw [beq_eq_false_iff_ne]; exact hr
          have hn9' := HN8.out.congr (f := stepB es R (k + 1)) (fun i j _ _ => by rw [HST.out]; simp [hr])
          have HN9 : Hid (NearsAt wc ao N bl (stepB es R (k + 1))) := hn9'
          clear hr hn9'
          go_wp2
          go_roundw
          case rel => exact ⟨k + 1, by go_num, by omega, HN9.out, hB8⟩
          case measure => simp [numOf]; omega
    · have i2 : ¬ (k : Int) < (es.length : Int) := by omega
      have hke : k = es.length := by omega
      subst hke
      have HN9 : Hid (NearsAt wr ao N bl (stepB es R es.length)) := hnr
      clear hnr
      go_wp2
      go_ret
      exact ⟨ao, rfl, bl, HN9.out, HBL.out, hB⟩
end Go.Proofs.Ytkakmaalmhofmaa
