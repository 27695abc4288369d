/- The document's Check. -/
import Derived.Test.YtmeodnkmhakidaaSeen
namespace Go.Proofs.Ytmeodnkmhakidaa
open Go.RowKit Go.Maps
attribute [local go_sem ↓] Go.wp_at_zero Go.wp_at_succ

set_option maxHeartbeats 2000000 in
theorem refCheck_go (n : Int) (ao : Option Addr) (cap : Nat) (es : List Pair) (w : World) (hE : EdgesAt w (.slice ao es.length cap) es) (hcap : es.length ≤ cap) (hn0 : 0 ≤ n) (hn1 : n ≤ 100) (hl : es.length ≤ 1000) :
    Calls Try.prog 5 #[.agg #[.int .i64 n, .slice ao es.length cap]] w fun e w' => e = .returned (.agg #[.int .i64 (chkFrom n [] es).1, .int .i64 (chkFrom n [] es).2]) ∧ Below w.heap.size w w' := by
  have hE0 := hE
  obtain ⟨ao', cap', e, hl2, hI, hcells⟩ := hE
  cases e
  have hl3 : ¬ (1000 : Int) < (es.length : Int) := by omega
  have hn2 : ¬ n < 0 := by omega
  have hn3 : ¬ 100 < n := by omega
  have HE : Hid _ := hE0
  clear hE0 hI
  go_enter Try.func5, Try.ntmps5
  go_wp2
  go_loopw [3] (fun i wr => ∃ k : Nat, k ≤ es.length ∧ i = .int .i64 k ∧ RC w wr n ao cap es k) (fun i _ => es.length - (intOf i).toNat)
  case atStart =>
    refine ⟨0, Nat.zero_le _, rfl, ?_, ?_, below2 _ _, rfl⟩
    · rw [Below.heap_alloc _ _ _ (by simp)]; exact heap_alloc_new _ _
    · simpa using heap_alloc_new (w.alloc (Obj.cells #[.int .i64 n, .slice ao es.length cap] 24)) (Obj.cells #[.int .i64 0, .int .i64 0] 27)
  case round =>
    obtain ⟨k, hk, rfl, hrc⟩ := hrel
    by_cases hlt : k < es.length
    · have c00 := (cell_two hrc.b0).2
      have c0 := all_alloc (cell_two hrc.b0).1
      have c01 := all_alloc (cell_two hrc.b0).2
      have c10 := all_alloc (cell_two hrc.b1).1
      have c11 := all_alloc (cell_two hrc.b1).2
      have f10 := all_free (a := ⟨w.heap.size + 1, 0, none⟩) (lt_of_block hrc.b1) (free_two hrc.b1 0)
      have f11 := all_free (a := ⟨w.heap.size + 1, 1, none⟩) (lt_of_block hrc.b1) (free_two hrc.b1 1)
      obtain ⟨b, off, rfl, cx, cy⟩ := hcells k hlt
      obtain ⟨x, y, hxy⟩ : ∃ x y, es[k] = (x, y) := ⟨es[k].1, es[k].2, rfl⟩
      rw [hxy] at cx cy
      have hb := World.block_lt_of_cell? w _ cx
      rw [← hrc.below.cell (by exact hb)] at cx cy
      have HXY : Hid _ := hxy
      clear hxy hcells
      by_cases h1 : x < 0
      · go_wp2_with (go_at_call 6; refine (refF_any _ _ _).mono ?_; rintro e w2 ⟨rfl, hb2⟩; have hrc2 := hrc.step (below_next (below_alloc (Below.refl _ _) _) hb2); have d10 := (cell_two hrc2.b1).1; have d11 := (cell_two hrc2.b1).2; have g10 := free_two hrc2.b1)
        refine bodyPost_ret (v := .agg #[.int .i64 3, .int .i64 k]) ?_ rfl ⟨ret_fault (hrc.fault hlt HXY.out (by decide) (bad_range (by omega))), (hrc2.below.setCell (by simp) _).setCell (by simp) _⟩
        simp [results, Try.results5, go_sem, d10, d11]
      · by_cases h2 : y < 0
        · go_wp2_with (go_at_call 6; refine (refF_any _ _ _).mono ?_; rintro e w2 ⟨rfl, hb2⟩; have hrc2 := hrc.step (below_next (below_alloc (Below.refl _ _) _) hb2); have d10 := (cell_two hrc2.b1).1; have d11 := (cell_two hrc2.b1).2; have g10 := free_two hrc2.b1)
          refine bodyPost_ret (v := .agg #[.int .i64 3, .int .i64 k]) ?_ rfl ⟨ret_fault (hrc.fault hlt HXY.out (by decide) (bad_range (by omega))), (hrc2.below.setCell (by simp) _).setCell (by simp) _⟩
          simp [results, Try.results5, go_sem, d10, d11]
        · by_cases h3 : n ≤ x
          · go_wp2_with (go_at_call 6; refine (refF_any _ _ _).mono ?_; rintro e w2 ⟨rfl, hb2⟩; have hrc2 := hrc.step (below_next (below_alloc (Below.refl _ _) _) hb2); have d10 := (cell_two hrc2.b1).1; have d11 := (cell_two hrc2.b1).2; have g10 := free_two hrc2.b1)
            refine bodyPost_ret (v := .agg #[.int .i64 3, .int .i64 k]) ?_ rfl ⟨ret_fault (hrc.fault hlt HXY.out (by decide) (bad_range (by omega))), (hrc2.below.setCell (by simp) _).setCell (by simp) _⟩
            simp [results, Try.results5, go_sem, d10, d11]
          · by_cases h4 : n ≤ y
            · go_wp2_with (go_at_call 6; refine (refF_any _ _ _).mono ?_; rintro e w2 ⟨rfl, hb2⟩; have hrc2 := hrc.step (below_next (below_alloc (Below.refl _ _) _) hb2); have d10 := (cell_two hrc2.b1).1; have d11 := (cell_two hrc2.b1).2; have g10 := free_two hrc2.b1)
              refine bodyPost_ret (v := .agg #[.int .i64 3, .int .i64 k]) ?_ rfl ⟨ret_fault (hrc.fault hlt HXY.out (by decide) (bad_range (by omega))), (hrc2.below.setCell (by simp) _).setCell (by simp) _⟩
              simp [results, Try.results5, go_sem, d10, d11]
            · by_cases h5 : x = y
              · go_wp2_with (go_at_call 6; refine (refF_any _ _ _).mono ?_; rintro e w2 ⟨rfl, hb2⟩; have hrc2 := hrc.step (below_next (below_alloc (Below.refl _ _) _) hb2); have d10 := (cell_two hrc2.b1).1; have d11 := (cell_two hrc2.b1).2; have g10 := free_two hrc2.b1)
                refine bodyPost_ret (v := .agg #[.int .i64 4, .int .i64 k]) ?_ rfl ⟨ret_fault (hrc.fault hlt HXY.out (by decide) (by rw [← h5]; exact bad_loop ⟨by omega, by omega⟩)), (hrc2.below.setCell (by simp) _).setCell (by simp) _⟩
                simp [results, Try.results5, go_sem, d10, d11]
              · have hl4 : (k : Int) ≤ (cap : Int) := by omega
                have hl5 : (0 : Int) ≤ (k : Int) := by omega
                have hl6 : (es.length : Int) ≤ (cap : Int) := by omega
                go_wp2_with fail
                go_region_held3 (fun w' => Below (wr.alloc (.cells #[.int .i64 x, .int .i64 y] 38)).heap.size (wr.alloc (.cells #[.int .i64 x, .int .i64 y] 38)) w' ∧ w'.cell? ⟨w.heap.size, 1, none⟩ = some (.slice (some ⟨b, off, none⟩) es.length cap) ∧ w'.cell? ⟨wr.heap.size, 0, none⟩ = some (.int .i64 x) ∧ w'.cell? ⟨wr.heap.size, 1, none⟩ = some (.int .i64 y))
                  (first | assumption | exact rc_keep hrc (Below.refl _ _).drew | exact rc_keep hrc ((Below.refl _ _).drew.trans hb3))
                  ((go_at_call 12; refine (refHas_any 0 _ (es.take k) x y _ ?_).mono ?_; exact ((EdgesAt.take HE.out k hk _).below hrc.below).below (below_alloc (Below.refl _ _) _).drew; rintro e w3 ⟨rfl, hb3⟩))
                all_goals
                  go_split_ands
                  have hrc3 := hrc.step (below_next (below_alloc (Below.refl _ _) _) ((Below.refl _ _).drew.trans hb3))
                  have d10 := (cell_two hrc3.b1).1
                  have d11 := (cell_two hrc3.b1).2
                  have g10 := free_two hrc3.b1
                  generalize hh : hasB (es.take k) x y = q
                  have HH : Hid _ := hh
                  clear hh
                  cases q
                  rotate_left
                  · go_wp2_with (go_at_call 6; refine (refF_any _ _ _).mono ?_; rintro e w2 ⟨rfl, hb2⟩; have hrc2 := hrc3.step hb2; have d10' := (cell_two hrc2.b1).1; have d11' := (cell_two hrc2.b1).2; have g10' := free_two hrc2.b1)
                    refine bodyPost_ret (v := .agg #[.int .i64 5, .int .i64 k]) ?_ rfl ⟨ret_fault (hrc.fault hlt HXY.out (by decide) (bad_twice ⟨by omega, by omega, by omega, by omega⟩ h5 HH.out)), (hrc2.below.setCell (by simp) _).setCell (by simp) _⟩
                    simp [results, Try.results5, go_sem, d10', d11']
                  · go_wp2
                    go_roundw
                    case rel => exact ⟨k + 1, by omega, by go_num, hrc3.next hlt HXY.out (bad_none ⟨by omega, by omega, by omega, by omega⟩ h5 HH.out)⟩
                    case measure => simp [intOf]; omega
    · have hke : k = es.length := by omega
      subst hke
      have c01 := (cell_two hrc.b0).2
      have d10 := (cell_two hrc.b1).1
      have d11 := (cell_two hrc.b1).2
      have g10 := free_two hrc.b1
      clear hcells
      go_wp2
      refine bodyPost_ret (v := .agg #[.int .i64 0, .int .i64 0]) ?_ rfl ⟨ret_fault (by rw [hrc.hc, chk_end]), (hrc.below.setCell (by simp) _).setCell (by simp) _⟩
      simp [results, Try.results5, go_sem, d10, d11]

set_option maxHeartbeats 1000000 in
theorem refCheck_many (n : Int) (ao : Option Addr) (len cap : Nat) (w : World) (_hl : len ≤ 8796093022208) (h : many n len = true) :
    Calls Try.prog 5 #[.agg #[.int .i64 n, .slice ao len cap]] w fun e w' => e = .returned (.agg #[.int .i64 2, .int .i64 0]) ∧ Below w.heap.size w w' := by
  simp [many] at h
  by_cases h0 : n < 0
  · go_enter Try.func5, Try.ntmps5
    go_wp2_with (go_at_call 6; refine (refF_any _ _ _).mono ?_; rintro e w2 ⟨rfl, hb2⟩; obtain ⟨bc, bf, bc1, bf1, bc2, bf2⟩ := bcell hb2)
    refine bodyPost_ret (v := .agg #[.int .i64 2, .int .i64 0]) ?_ rfl ⟨rfl, ((below_next (below2 _ _) hb2).setCell (by simp) _).setCell (by simp) _⟩
    simp [results, Try.results5, go_sem, bc]
  · by_cases h1 : 100 < n
    · go_enter Try.func5, Try.ntmps5
      go_wp2_with (go_at_call 6; refine (refF_any _ _ _).mono ?_; rintro e w2 ⟨rfl, hb2⟩; obtain ⟨bc, bf, bc1, bf1, bc2, bf2⟩ := bcell hb2)
      refine bodyPost_ret (v := .agg #[.int .i64 2, .int .i64 0]) ?_ rfl ⟨rfl, ((below_next (below2 _ _) hb2).setCell (by simp) _).setCell (by simp) _⟩
      simp [results, Try.results5, go_sem, bc]
    · have hl2 : (1000 : Int) < (len : Int) := by omega
      go_enter Try.func5, Try.ntmps5
      go_wp2_with (go_at_call 6; refine (refF_any _ _ _).mono ?_; rintro e w2 ⟨rfl, hb2⟩; obtain ⟨bc, bf, bc1, bf1, bc2, bf2⟩ := bcell hb2)
      refine bodyPost_ret (v := .agg #[.int .i64 2, .int .i64 0]) ?_ rfl ⟨rfl, ((below_next (below2 _ _) hb2).setCell (by simp) _).setCell (by simp) _⟩
      simp [results, Try.results5, go_sem, bc]

theorem refCheck_any (n : Int) (ao : Option Addr) (cap : Nat) (es : List Pair) (w : World) (hE : EdgesAt w (.slice ao es.length cap) es) (hcap : es.length ≤ cap) :
    Calls Try.prog 5 #[.agg #[.int .i64 n, .slice ao es.length cap]] w fun e w' => e = .returned (.agg #[.int .i64 (chk n es).1, .int .i64 (chk n es).2]) ∧ Below w.heap.size w w' := by
  by_cases hm : many n es.length = true
  · have e : chk n es = (2, 0) := by unfold chk; rw [if_pos hm]
    rw [e]
    obtain ⟨ao', cap', e', hl, _⟩ := hE
    exact refCheck_many n ao es.length cap w hl hm
  · have e : chk n es = chkFrom n [] es := by unfold chk; rw [if_neg hm]
    rw [e]
    simp [many] at hm
    exact refCheck_go n ao cap es w hE hcap hm.1 hm.2.1 hm.2.2

end Go.Proofs.Ytmeodnkmhakidaa
