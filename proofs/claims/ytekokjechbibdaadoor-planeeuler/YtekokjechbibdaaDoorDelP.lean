/- slices.Delete of one piece. -/
import Derived.Lib.SliceRun
import Derived.Test.YtekokjechbibdaaDoorCrossN
namespace Go.Proofs.YtekokjechbibdaaDoor
set_option maxRecDepth 8000
open Go.RowKit Go.Maps
attribute [local go_sem ↓] Go.wp_at_zero Go.wp_at_succ
theorem run_clear4 (w : World) (ty : TypeId) (b o c : Nat) (hc : ∀ j, j < 4 → (w.cell? ⟨b, o + j, none⟩).isSome = true) (hf : ∀ j, j < 4 → w.frozen? ⟨b, o + j, none⟩ = false) :
    (Builtin.clear_ #[96] ty #[.slice (some ⟨b, o, none⟩) 1 c]).run Tryd.prog w = .ok (.tuple #[]) (w.setCells b o [.int .u64 0, .int .u64 0, .int .u64 0, .int .u64 0]) := by
  have hst := run_storeCells_cells (P := Tryd.prog) b o [.int .u64 0, .int .u64 0, .int .u64 0, .int .u64 0] 0 w (by simpa using hc) (by simpa using hf) (by intro v hv'; simp at hv'; subst hv'; rfl)
  simp only [Nat.add_zero] at hst
  have hzc : (Builtin.zeroCells (Value.agg #[.int .u64 0, .int .u64 0, .int .u64 0, .int .u64 0]).cells 1).toList = [.int .u64 0, .int .u64 0, .int .u64 0, .int .u64 0] := by
    kernel_rfl
  simp [Builtin.clear_, run_underlying Tryd.underlying96, Tryd.zeroValue103, hzc, hst]
theorem flatP_take : ∀ (P : List Piece) (i : Nat), (flatP P).take (i * 4) = flatP (P.take i)
  | [], i => by simp [flatP]
  | p :: l, 0 => by simp [flatP]
  | p :: l, i + 1 => by
    have e : flatP (p :: l) = pcell p ++ flatP l := by simp [flatP]
    have e2 : flatP ((p :: l).take (i + 1)) = pcell p ++ flatP (l.take i) := by simp [flatP]
    rw [e, e2, ← flatP_take l i, List.take_append]
    have h4 : (pcell p).length = 4 := rfl
    rw [h4, List.take_of_length_le (by omega), show (i + 1) * 4 - 4 = i * 4 by omega]
theorem flatP_drop : ∀ (P : List Piece) (i : Nat), (flatP P).drop (i * 4) = flatP (P.drop i)
  | [], i => by simp [flatP]
  | p :: l, 0 => by simp [flatP]
  | p :: l, i + 1 => by
    have e : flatP (p :: l) = pcell p ++ flatP l := by simp [flatP]
    rw [e, List.drop_succ_cons, ← flatP_drop l i, List.drop_append]
    have h4 : (pcell p).length = 4 := rfl
    rw [h4, List.drop_of_length_le (by omega), show (i + 1) * 4 - 4 = i * 4 by omega]
    simp
theorem flatP_one (L : List Piece) : ∀ u ∈ flatP L, u.oneCell' = true := fun u hu => by
  unfold flatP at hu
  obtain ⟨p, _, h⟩ := List.mem_flatMap.1 hu
  simp [pcell] at h
  rcases h with rfl | rfl | rfl | rfl <;> rfl
theorem setCells4 (w : World) (b o : Nat) (a0 a1 a2 a3 : Value) : w.setCells b o [a0, a1, a2, a3] = (((w.setCell ⟨b, o, none⟩ a0).setCell ⟨b, o + 1, none⟩ a1).setCell ⟨b, o + 2, none⟩ a2).setCell ⟨b, o + 3, none⟩ a3 := by
  simp [World.setCells]
set_option maxHeartbeats 4000000 in
theorem deleteP_mid {w : World} {lo g c m at' : Nat} {P : List Piece} (h : PRow w lo (.slice (some ⟨g, 0, none⟩) (m + 1) c) P) (hm : P.length = m + 1) (hi : at' ≤ m) (hml : m ≤ 1000000) (hlast : c ≠ at' + 1) :
    Calls Tryd.prog 61 #[.slice (some ⟨g, 0, none⟩) (m + 1) c, .int .i64 (at' : Int), .int .i64 ((at' : Int) + 1)] w fun e w' => e = .returned (.slice (some ⟨g, 0, none⟩) m c) ∧ PRow w' lo (.slice (some ⟨g, 0, none⟩) m c) (P.eraseIdx at') ∧ Turns (fun k => k = g) w w' := by
  obtain ⟨i3, hi3, hy0, hy1, hy2⟩ := info_parts Tryd.info103
  have hr : w.ownsRow lo 103 4 (.slice (some ⟨g, 0, none⟩) (m + 1) c) (m + 1) (flatP P) := by
    have h' : w.ownsRow lo 103 4 (.slice (some ⟨g, 0, none⟩) (m + 1) c) P.length (flatP P) := h
    rwa [hm] at h'
  obtain ⟨cur, h1, h2, h3, h4, h5, h6, h7⟩ := owns_block hr
  have hpre : w.ownsRow lo 103 4 (.slice (some ⟨g, 0, none⟩) at' c) at' (flatP (P.take at')) := by
    refine ⟨by rw [flatP_len, List.length_take]; congr 1; omega, Or.inr ⟨g, c, cur, rfl, h6, h1, by omega, h5, h2, ?_⟩⟩
    rw [← flatP_take, ← h3, List.take_take]
    congr 1
    omega
  have hsrc : ∀ j u, (flatP (P.drop (at' + 1)))[j]? = some u → w.cell? ((⟨g, (at' + 1) * 4, none⟩ : Addr).add j) = some u := fun j u hj => by
    rw [← flatP_drop, List.getElem?_drop] at hj
    have := hr.cells (g := g) rfl _ u hj
    rw [add_none] at this
    rw [show (⟨g, (at' + 1) * 4, none⟩ : Addr).add j = ⟨g, (at' + 1) * 4 + j, none⟩ by simp [Addr.add]]
    exact this
  have hdl : (P.drop (at' + 1)).length = m - at' := by rw [List.length_drop]; omega
  have her : P.eraseIdx at' = P.take at' ++ P.drop (at' + 1) := List.eraseIdx_eq_take_drop_succ ..
  have hel : (P.eraseIdx at').length = m := by rw [List.length_eraseIdx]; split <;> omega
  have HPRE : Hid (w.ownsRow lo 103 4 (.slice (some ⟨g, 0, none⟩) at' c) at' (flatP (P.take at')) ∧ (∀ j u, (flatP (P.drop (at' + 1)))[j]? = some u → w.cell? ((⟨g, (at' + 1) * 4, none⟩ : Addr).add j) = some u) ∧ (flatP (P.drop (at' + 1))).length = (m - at') * 4) := ⟨hpre, hsrc, by rw [flatP_len, hdl]⟩
  have HER : Hid (flatP (P.take at') ++ flatP (P.drop (at' + 1)) = flatP (P.eraseIdx at') ∧ (P.eraseIdx at').length = m) := ⟨by rw [her]; simp [flatP], hel⟩
  clear h hr h1 h2 h3 h6 h7 hpre hsrc hdl her hel hm
  have j1 : (0 : Int) ≤ (at' : Int) := by omega
  have j2 : (at' : Int) ≤ (at' : Int) + 1 := by omega
  have j3 : (at' : Int) + 1 ≤ (m : Int) + 1 := by omega
  have j4 : (m : Int) + 1 ≤ (c : Int) := by omega
  have j5 : ((at' : Int) == (at' : Int) + 1) = false := by simp; omega
  have j6 : ¬ (at' : Int) = (at' : Int) + 1 := by omega
  have j7 : ((at' : Int) + 1).toNat = at' + 1 := by omega
  have j8 : ((m : Int) + 1).toNat = m + 1 := by omega
  have j9 : (at' : Int) ≤ (c : Int) := by omega
  have j10 : ¬ c = 0 := by omega
  have j11 : ¬ (c : Int) = 0 := by omega
  have j12 : (0 : Int) ≤ (at' : Int) + 1 := by omega
  go_enter Tryd.func61, Tryd.ntmps61
  go_upto_region 5 with (fail)
  by_cases hcc : c = at' + 1
  · exact absurd hcc hlast
  · have hcc2 : ¬ (c : Int) = (at' : Int) + 1 := by omega
    have q1 : m + 1 - (at' + 1) = m - at' := by omega
    refine wp_region_tailT 6 (by kernel_rfl) (by kernel_rfl) (by kernel_rfl) (by decide) ?_
    simp only [List.take_succ_cons, List.take_zero, List.drop_succ_cons, List.drop_zero]
    repeat (quiet_step (fail))
    refine wpQuiet_nil ?_
    rintro _ ⟨gp, rfl⟩
    have hBg := growD_below w gp
    have hpre2 : (growD w gp).ownsRow lo 103 4 (.slice (some ⟨g, 0, none⟩) at' c) at' (flatP (P.take at')) := ownsRow_blocks HPRE.out.1 (fun b hb => hBg.block b (HPRE.out.1.lt b hb).2)
    have hTg : Turns (fun k => k = g) w (growD w gp) := Turns.of_below hBg _
    have hcl2 : ∀ j u, (flatP (P.drop (at' + 1)))[j]? = some u → (growD w gp).cell? ((⟨g, (at' + 1) * 4, none⟩ : Addr).add j) = some u := fun j u hj => by
      have := HPRE.out.2.1 j u hj
      exact (hBg.cell (World.block_lt_of_cell? _ _ this)).trans this
    generalize growD w gp = wg at *
    have HP2 : Hid _ := hpre2
    have HC2 : Hid (∀ j u, (flatP (P.drop (at' + 1)))[j]? = some u → wg.cell? ((⟨g, (at' + 1) * 4, none⟩ : Addr).add j) = some u) := hcl2
    have HTG : Hid (Turns (fun k => k = g) w wg) := hTg
    clear hpre2 hcl2 hTg hBg
    go_upto_region 6 with (first | (at_builtin; refine wpList_append_fits _ rfl _ _ 96 rfl lo 103 i3 4 Tryd.underlying96 hi3 hy1 g at' c (flatP (P.take at')) rfl HP2.out ⟨g, (at' + 1) * 4, none⟩ (m - at') (c - (at' + 1)) (flatP (P.drop (at' + 1))) ?hy HPRE.out.2.2 HC2.out (flatP_one _) (by omega) ?_; (case hy => first | rfl | (rw [← q1]; rfl)); intro w2 hr2 hg2) | fail)
    have hmm : at' + (m - at') = m := by omega
    rw [hmm] at hr2
    rw [HER.out.1] at hr2
    obtain ⟨cur, b1, b2, b3, _⟩ := owns_block hr2
    have hsz : m * 4 + 3 < cur.size := by rw [b2]; omega
    have hclr := run_clear4 w2 0 g (m * 4) (c - m) (fun j hj => by
      have := box_cell b1 (i := m * 4 + j) (Array.getElem?_eq_getElem (by omega))
      rw [this]; rfl) (fun j _ => box_free b1 _)
    rw [setCells4] at hclr
    have hrf : PRow ((((w2.setCell ⟨g, m * 4, none⟩ (.int .u64 0)).setCell ⟨g, m * 4 + 1, none⟩ (.int .u64 0)).setCell ⟨g, m * 4 + 2, none⟩ (.int .u64 0)).setCell ⟨g, m * 4 + 3, none⟩ (.int .u64 0)) lo (.slice (some ⟨g, 0, none⟩) m c) (P.eraseIdx at') := by
      have hbx := box_set (box_set (box_set (box_set b1 (m * 4) (.int .u64 0)) (m * 4 + 1) (.int .u64 0)) (m * 4 + 2) (.int .u64 0)) (m * 4 + 3) (.int .u64 0)
      refine ⟨hr2.1.trans (by rw [HER.out.2]), Or.inr ⟨g, c, _, by rw [HER.out.2], (hr2.lt g rfl).1, hbx, by rw [HER.out.2]; omega, h5, by simp [b2], ?_⟩⟩
      rw [HER.out.2, ← b3]
      rw [Array.toList_setIfInBounds, Array.toList_setIfInBounds, Array.toList_setIfInBounds, Array.toList_setIfInBounds]
      rw [List.take_set_of_le (by omega), List.take_set_of_le (by omega), List.take_set_of_le (by omega), List.take_set_of_le (by omega)]
    have hTf := (((setCell_turns w2 g (m * 4) (.int .u64 0)).trans (setCell_turns _ g (m * 4 + 1) (.int .u64 0))).trans (setCell_turns _ g (m * 4 + 2) (.int .u64 0))).trans (setCell_turns _ g (m * 4 + 3) (.int .u64 0))
    have hTw : Turns (fun k => k = g) w w2 := HTG.out.trans ⟨hg2.os, hg2.tape, hg2.output, hg2.size, fun k hk hm => hg2.block k hk (fun e => hm (by simpa using e))⟩
    have HRF : Hid _ := hrf
    have HTF : Hid (Turns (fun k => k = g) w ((((w2.setCell ⟨g, m * 4, none⟩ (.int .u64 0)).setCell ⟨g, m * 4 + 1, none⟩ (.int .u64 0)).setCell ⟨g, m * 4 + 2, none⟩ (.int .u64 0)).setCell ⟨g, m * 4 + 3, none⟩ (.int .u64 0))) := hTw.trans hTf
    have k1 : (m : Int) ≤ (m : Int) + 1 := by omega
    have k2 : ¬ c = m := by omega
    have k3 : ¬ (c : Int) = (m : Int) := by omega
    have k4 : m + 1 - m = 1 := by omega
    have k5 : (0 : Int) ≤ (m : Int) := by omega
    clear hr2 b1 b2 b3 hsz hrf hTf hTw hg2
    go_wp2
    go_ret
    exact ⟨rfl, HRF.out, HTF.out⟩
set_option maxHeartbeats 4000000 in
/-- The last one, where the row is full. -/
theorem deleteP_last {w : World} {lo g m : Nat} {P : List Piece} (h : PRow w lo (.slice (some ⟨g, 0, none⟩) (m + 1) (m + 1)) P) (hm : P.length = m + 1) (hml : m ≤ 1000000) :
    Calls Tryd.prog 61 #[.slice (some ⟨g, 0, none⟩) (m + 1) (m + 1), .int .i64 (m : Int), .int .i64 ((m : Int) + 1)] w fun e w' => e = .returned (.slice (some ⟨g, 0, none⟩) m (m + 1)) ∧ PRow w' lo (.slice (some ⟨g, 0, none⟩) m (m + 1)) (P.eraseIdx m) ∧ Turns (fun k => k = g) w w' := by
  obtain ⟨i3, hi3, hy0, hy1, hy2⟩ := info_parts Tryd.info103
  have hr : w.ownsRow lo 103 4 (.slice (some ⟨g, 0, none⟩) (m + 1) (m + 1)) (m + 1) (flatP P) := by
    have h' : w.ownsRow lo 103 4 (.slice (some ⟨g, 0, none⟩) (m + 1) (m + 1)) P.length (flatP P) := h
    rwa [hm] at h'
  obtain ⟨cur, h1, h2, h3, h4, h5, h6, h7⟩ := owns_block hr
  have hpre : w.ownsRow lo 103 4 (.slice (some ⟨g, 0, none⟩) m (m + 1)) m (flatP (P.take m)) := by
    refine ⟨by rw [flatP_len, List.length_take]; congr 1; omega, Or.inr ⟨g, m + 1, cur, rfl, h6, h1, by omega, h5, h2, ?_⟩⟩
    rw [← flatP_take, ← h3, List.take_take]
    congr 1
    omega
  have her : P.eraseIdx m = P.take m := by rw [List.eraseIdx_eq_take_drop_succ, List.drop_of_length_le (by omega), List.append_nil]
  have hel : (P.eraseIdx m).length = m := by rw [List.length_eraseIdx]; split <;> omega
  have HPRE : Hid (w.ownsRow lo 103 4 (.slice (some ⟨g, 0, none⟩) m (m + 1)) m (flatP (P.take m))) := hpre
  have HER : Hid (flatP (P.take m) ++ [] = flatP (P.eraseIdx m) ∧ (P.eraseIdx m).length = m) := ⟨by rw [her]; simp, hel⟩
  clear h hr h1 h2 h3 h6 h7 hpre her hel hm
  have j1 : (0 : Int) ≤ (m : Int) := by omega
  have j2 : (m : Int) ≤ (m : Int) + 1 := by omega
  have j5 : ((m : Int) == (m : Int) + 1) = false := by simp; omega
  have j6 : ¬ (m : Int) = (m : Int) + 1 := by omega
  have j8 : ((m : Int) + 1).toNat = m + 1 := by omega
  have j12 : (0 : Int) ≤ (m : Int) + 1 := by omega
  go_enter Tryd.func61, Tryd.ntmps61
  go_upto_region 5 with (fail)
  refine wp_region_tailT 6 (by kernel_rfl) (by kernel_rfl) (by kernel_rfl) (by decide) ?_
  simp only [List.take_succ_cons, List.take_zero, List.drop_succ_cons, List.drop_zero]
  repeat (quiet_step (fail))
  refine wpQuiet_nil ?_
  rintro _ ⟨gp, rfl⟩
  have hBg := growD_below w gp
  have hpre2 : (growD w gp).ownsRow lo 103 4 (.slice (some ⟨g, 0, none⟩) m (m + 1)) m (flatP (P.take m)) := ownsRow_blocks HPRE.out (fun b hb => hBg.block b (HPRE.out.lt b hb).2)
  have hTg : Turns (fun k => k = g) w (growD w gp) := Turns.of_below hBg _
  generalize growD w gp = wg at *
  have HP2 : Hid _ := hpre2
  have HTG : Hid (Turns (fun k => k = g) w wg) := hTg
  clear hpre2 hTg hBg
  go_upto_region 6 with (first | (at_builtin; refine wpList_append_fits _ rfl _ _ 96 rfl lo 103 i3 4 Tryd.underlying96 hi3 hy1 g m (m + 1) (flatP (P.take m)) rfl HP2.out ⟨g, 0, none⟩ 0 0 [] rfl rfl (fun j u hj => by simp at hj) (fun u hu => by simp at hu) (by omega) ?_; intro w2 hr2 hg2) | fail)
  simp only [Nat.add_zero] at hr2
  rw [HER.out.1] at hr2
  obtain ⟨cur, b1, b2, b3, _⟩ := owns_block hr2
  have hsz : m * 4 + 3 < cur.size := by rw [b2]; omega
  have hclr := run_clear4 w2 0 g (m * 4) 1 (fun j hj => by
    have := box_cell b1 (i := m * 4 + j) (Array.getElem?_eq_getElem (by omega))
    rw [this]; rfl) (fun j _ => box_free b1 _)
  rw [setCells4] at hclr
  have hrf : PRow ((((w2.setCell ⟨g, m * 4, none⟩ (.int .u64 0)).setCell ⟨g, m * 4 + 1, none⟩ (.int .u64 0)).setCell ⟨g, m * 4 + 2, none⟩ (.int .u64 0)).setCell ⟨g, m * 4 + 3, none⟩ (.int .u64 0)) lo (.slice (some ⟨g, 0, none⟩) m (m + 1)) (P.eraseIdx m) := by
    have hbx := box_set (box_set (box_set (box_set b1 (m * 4) (.int .u64 0)) (m * 4 + 1) (.int .u64 0)) (m * 4 + 2) (.int .u64 0)) (m * 4 + 3) (.int .u64 0)
    refine ⟨hr2.1.trans (by rw [HER.out.2]), Or.inr ⟨g, m + 1, _, by rw [HER.out.2], (hr2.lt g rfl).1, hbx, by rw [HER.out.2]; omega, h5, by simp [b2], ?_⟩⟩
    rw [HER.out.2, ← b3]
    rw [Array.toList_setIfInBounds, Array.toList_setIfInBounds, Array.toList_setIfInBounds, Array.toList_setIfInBounds]
    rw [List.take_set_of_le (by omega), List.take_set_of_le (by omega), List.take_set_of_le (by omega), List.take_set_of_le (by omega)]
  have hTf := (((setCell_turns w2 g (m * 4) (.int .u64 0)).trans (setCell_turns _ g (m * 4 + 1) (.int .u64 0))).trans (setCell_turns _ g (m * 4 + 2) (.int .u64 0))).trans (setCell_turns _ g (m * 4 + 3) (.int .u64 0))
  have hTw : Turns (fun k => k = g) w w2 := HTG.out.trans ⟨hg2.os, hg2.tape, hg2.output, hg2.size, fun k hk hm => hg2.block k hk (fun e => hm (by simpa using e))⟩
  have HRF : Hid _ := hrf
  have HTF : Hid (Turns (fun k => k = g) w ((((w2.setCell ⟨g, m * 4, none⟩ (.int .u64 0)).setCell ⟨g, m * 4 + 1, none⟩ (.int .u64 0)).setCell ⟨g, m * 4 + 2, none⟩ (.int .u64 0)).setCell ⟨g, m * 4 + 3, none⟩ (.int .u64 0))) := hTw.trans hTf
  have k1 : (m : Int) ≤ (m : Int) + 1 := by omega
  have k2 : ¬ m + 1 = m := by omega
  have k4 : m + 1 - m = 1 := by omega
  have k5 : (0 : Int) ≤ (m : Int) := by omega
  clear hr2 b1 b2 b3 hsz hrf hTf hTw hg2
  go_wp2
  go_ret
  exact ⟨rfl, HRF.out, HTF.out⟩
theorem deleteP_call {w : World} {lo g c m at' : Nat} {P : List Piece} (h : PRow w lo (.slice (some ⟨g, 0, none⟩) (m + 1) c) P) (hm : P.length = m + 1) (hi : at' ≤ m) (hml : m ≤ 1000000) :
    Calls Tryd.prog 61 #[.slice (some ⟨g, 0, none⟩) (m + 1) c, .int .i64 (at' : Int), .int .i64 ((at' : Int) + 1)] w fun e w' => e = .returned (.slice (some ⟨g, 0, none⟩) m c) ∧ PRow w' lo (.slice (some ⟨g, 0, none⟩) m c) (P.eraseIdx at') ∧ Turns (fun k => k = g) w w' := by
  by_cases hc : c = at' + 1
  · have hcap : P.length ≤ c := own_cap h
    have hma : at' = m := by omega
    subst hma hc
    exact deleteP_last h hm hml
  · exact deleteP_mid h hm hi hml hc
end Go.Proofs.YtekokjechbibdaaDoor
