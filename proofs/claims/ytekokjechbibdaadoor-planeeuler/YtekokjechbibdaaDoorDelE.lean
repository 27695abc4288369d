/- slices.Delete of one edge, slices.Clone of edges. -/
import Derived.Lib.SliceRun
import Derived.Test.YtekokjechbibdaaDoorCrossN
import Derived.Test.YtekokjechbibdaaDoorDelP
namespace Go.Proofs.YtekokjechbibdaaDoor
set_option maxRecDepth 8000
open Go.RowKit Go.Maps
attribute [local go_sem ↓] Go.wp_at_zero Go.wp_at_succ
/-- The cells of edges. -/
def ecell (e : E2) : List Value := [.int .i64 (e.1 : Int), .int .i64 (e.2 : Int)]
def flatE (L : List E2) : List Value := L.flatMap ecell
theorem flatE_len (L : List E2) : (flatE L).length = L.length * 2 := by
  induction L with
  | nil => rfl
  | cons p l ih => simp only [flatE, List.flatMap_cons, List.length_append, List.length_cons] at ih ⊢; simp [ecell, ih]; omega
/-- A row of edges of one's own, from block base on. -/
abbrev ERow (w : World) (base : Nat) (x : Value) (L : List E2) : Prop := w.ownsRow base 49 2 x L.length (flatE L)
theorem Tryd.info49e : (Tryd.prog.info? 49).map (fun i => (i.zero, i.size, i.bytes)) = some (some (.agg #[.int .i64 0, .int .i64 0]), 2, 16) := by kernel_rfl
theorem run_clear2 (w : World) (ty : TypeId) (b o c : Nat) (hc : ∀ j, j < 2 → (w.cell? ⟨b, o + j, none⟩).isSome = true) (hf : ∀ j, j < 2 → w.frozen? ⟨b, o + j, none⟩ = false) :
    (Builtin.clear_ #[22] ty #[.slice (some ⟨b, o, none⟩) 1 c]).run Tryd.prog w = .ok (.tuple #[]) (w.setCells b o [.int .i64 0, .int .i64 0]) := by
  have hst := run_storeCells_cells (P := Tryd.prog) b o [.int .i64 0, .int .i64 0] 0 w (by simpa using hc) (by simpa using hf) (by intro v hv'; simp at hv'; subst hv'; rfl)
  simp only [Nat.add_zero] at hst
  have hzc : (Builtin.zeroCells (Value.agg #[.int .i64 0, .int .i64 0]).cells 1).toList = [.int .i64 0, .int .i64 0] := by
    kernel_rfl
  simp [Builtin.clear_, run_underlying Tryd.underlying22, Tryd.zeroValue49, hzc, hst]
theorem flatE_take : ∀ (P : List E2) (i : Nat), (flatE P).take (i * 2) = flatE (P.take i)
  | [], i => by simp [flatE]
  | p :: l, 0 => by simp [flatE]
  | p :: l, i + 1 => by
    have e : flatE (p :: l) = ecell p ++ flatE l := by simp [flatE]
    have e2 : flatE ((p :: l).take (i + 1)) = ecell p ++ flatE (l.take i) := by simp [flatE]
    rw [e, e2, ← flatE_take l i, List.take_append]
    have h4 : (ecell p).length = 2 := rfl
    rw [h4, List.take_of_length_le (by omega), show (i + 1) * 2 - 2 = i * 2 by omega]
theorem flatE_drop : ∀ (P : List E2) (i : Nat), (flatE P).drop (i * 2) = flatE (P.drop i)
  | [], i => by simp [flatE]
  | p :: l, 0 => by simp [flatE]
  | p :: l, i + 1 => by
    have e : flatE (p :: l) = ecell p ++ flatE l := by simp [flatE]
    rw [e, List.drop_succ_cons, ← flatE_drop l i, List.drop_append]
    have h4 : (ecell p).length = 2 := rfl
    rw [h4, List.drop_of_length_le (by omega), show (i + 1) * 2 - 2 = i * 2 by omega]
    simp
theorem flatE_one (L : List E2) : ∀ u ∈ flatE L, u.oneCell' = true := fun u hu => by
  unfold flatE at hu
  obtain ⟨p, _, h⟩ := List.mem_flatMap.1 hu
  simp [ecell] at h
  rcases h with rfl | rfl <;> rfl
theorem setCells2 (w : World) (b o : Nat) (a0 a1 : Value) : w.setCells b o [a0, a1] = (w.setCell ⟨b, o, none⟩ a0).setCell ⟨b, o + 1, none⟩ a1 := by
  simp [World.setCells]
set_option maxHeartbeats 4000000 in
theorem deleteE_mid {w : World} {lo g c m at' : Nat} {P : List E2} (h : ERow w lo (.slice (some ⟨g, 0, none⟩) (m + 1) c) P) (hm : P.length = m + 1) (hi : at' ≤ m) (hml : m ≤ 1000000) (hlast : c ≠ at' + 1) :
    Calls Tryd.prog 46 #[.slice (some ⟨g, 0, none⟩) (m + 1) c, .int .i64 (at' : Int), .int .i64 ((at' : Int) + 1)] w fun e w' => e = .returned (.slice (some ⟨g, 0, none⟩) m c) ∧ ERow w' lo (.slice (some ⟨g, 0, none⟩) m c) (P.eraseIdx at') ∧ Turns (fun k => k = g) w w' := by
  obtain ⟨i3, hi3, hy0, hy1, hy2⟩ := info_parts Tryd.info49e
  have hr : w.ownsRow lo 49 2 (.slice (some ⟨g, 0, none⟩) (m + 1) c) (m + 1) (flatE P) := by
    have h' : w.ownsRow lo 49 2 (.slice (some ⟨g, 0, none⟩) (m + 1) c) P.length (flatE P) := h
    rwa [hm] at h'
  obtain ⟨cur, h1, h2, h3, h4, h5, h6, h7⟩ := owns_block hr
  have hpre : w.ownsRow lo 49 2 (.slice (some ⟨g, 0, none⟩) at' c) at' (flatE (P.take at')) := by
    refine ⟨by rw [flatE_len, List.length_take]; congr 1; omega, Or.inr ⟨g, c, cur, rfl, h6, h1, by omega, h5, h2, ?_⟩⟩
    rw [← flatE_take, ← h3, List.take_take]
    congr 1
    omega
  have hsrc : ∀ j u, (flatE (P.drop (at' + 1)))[j]? = some u → w.cell? ((⟨g, (at' + 1) * 2, none⟩ : Addr).add j) = some u := fun j u hj => by
    rw [← flatE_drop, List.getElem?_drop] at hj
    have := hr.cells (g := g) rfl _ u hj
    rw [add_none] at this
    rw [show (⟨g, (at' + 1) * 2, none⟩ : Addr).add j = ⟨g, (at' + 1) * 2 + j, none⟩ by simp [Addr.add]]
    exact this
  have hdl : (P.drop (at' + 1)).length = m - at' := by rw [List.length_drop]; omega
  have her : P.eraseIdx at' = P.take at' ++ P.drop (at' + 1) := List.eraseIdx_eq_take_drop_succ ..
  have hel : (P.eraseIdx at').length = m := by rw [List.length_eraseIdx]; split <;> omega
  have HPRE : Hid (w.ownsRow lo 49 2 (.slice (some ⟨g, 0, none⟩) at' c) at' (flatE (P.take at')) ∧ (∀ j u, (flatE (P.drop (at' + 1)))[j]? = some u → w.cell? ((⟨g, (at' + 1) * 2, none⟩ : Addr).add j) = some u) ∧ (flatE (P.drop (at' + 1))).length = (m - at') * 2) := ⟨hpre, hsrc, by rw [flatE_len, hdl]⟩
  have HER : Hid (flatE (P.take at') ++ flatE (P.drop (at' + 1)) = flatE (P.eraseIdx at') ∧ (P.eraseIdx at').length = m) := ⟨by rw [her]; simp [flatE], hel⟩
  clear h hr h1 h2 h3 h6 h7 hpre hsrc hdl her hel hm
  have j1 : (0 : Int) ≤ (at' : Int) := by omega
  have j2 : (at' : Int) ≤ (at' : Int) + 1 := by omega
  have j3 : (at' : Int) + 1 ≤ (m : Int) + 1 := by omega
  have j4 : (m : Int) + 1 ≤ (c : Int) := by omega
  have j5 : ((at' : Int) == (at' : Int) + 1) = false := by simp; omega
  have j6 : ¬ (at' : Int) = (at' : Int) + 1 := by omega
  have j7 : ((at' : Int) + 1).toNat = at' + 1 := by omega
  have j8 : ((m : Int) + 1).toNat = m + 1 := by omega
  have j9 : (at' : Int) ≤ (c : Int) := by omega
  have j10 : ¬ c = 0 := by omega
  have j11 : ¬ (c : Int) = 0 := by omega
  have j12 : (0 : Int) ≤ (at' : Int) + 1 := by omega
  go_enter Tryd.func46, Tryd.ntmps46
  go_upto_region 5 with (fail)
  by_cases hcc : c = at' + 1
  · exact absurd hcc hlast
  · have hcc2 : ¬ (c : Int) = (at' : Int) + 1 := by omega
    have q1 : m + 1 - (at' + 1) = m - at' := by omega
    refine wp_region_tailT 6 (by kernel_rfl) (by kernel_rfl) (by kernel_rfl) (by decide) ?_
    simp only [List.take_succ_cons, List.take_zero, List.drop_succ_cons, List.drop_zero]
    repeat (quiet_step (fail))
    refine wpQuiet_nil ?_
    rintro _ ⟨gp, rfl⟩
    have hBg := growD_below w gp
    have hpre2 : (growD w gp).ownsRow lo 49 2 (.slice (some ⟨g, 0, none⟩) at' c) at' (flatE (P.take at')) := ownsRow_blocks HPRE.out.1 (fun b hb => hBg.block b (HPRE.out.1.lt b hb).2)
    have hTg : Turns (fun k => k = g) w (growD w gp) := Turns.of_below hBg _
    have hcl2 : ∀ j u, (flatE (P.drop (at' + 1)))[j]? = some u → (growD w gp).cell? ((⟨g, (at' + 1) * 2, none⟩ : Addr).add j) = some u := fun j u hj => by
      have := HPRE.out.2.1 j u hj
      exact (hBg.cell (World.block_lt_of_cell? _ _ this)).trans this
    generalize growD w gp = wg at *
    have HP2 : Hid _ := hpre2
    have HC2 : Hid (∀ j u, (flatE (P.drop (at' + 1)))[j]? = some u → wg.cell? ((⟨g, (at' + 1) * 2, none⟩ : Addr).add j) = some u) := hcl2
    have HTG : Hid (Turns (fun k => k = g) w wg) := hTg
    clear hpre2 hcl2 hTg hBg
    go_upto_region 6 with (first | (at_builtin; refine wpList_append_fits _ rfl _ _ 22 rfl lo 49 i3 2 Tryd.underlying22 hi3 hy1 g at' c (flatE (P.take at')) rfl HP2.out ⟨g, (at' + 1) * 2, none⟩ (m - at') (c - (at' + 1)) (flatE (P.drop (at' + 1))) ?hy HPRE.out.2.2 HC2.out (flatE_one _) (by omega) ?_; (case hy => first | rfl | (rw [← q1]; rfl)); intro w2 hr2 hg2) | fail)
    have hmm : at' + (m - at') = m := by omega
    rw [hmm] at hr2
    rw [HER.out.1] at hr2
    obtain ⟨cur, b1, b2, b3, _⟩ := owns_block hr2
    have hsz : m * 2 + 1 < cur.size := by rw [b2]; omega
    have hclr := run_clear2 w2 0 g (m * 2) (c - m) (fun j hj => by
      have := box_cell b1 (i := m * 2 + j) (Array.getElem?_eq_getElem (by omega))
      rw [this]; rfl) (fun j _ => box_free b1 _)
    rw [setCells2] at hclr
    have hrf : ERow ((w2.setCell ⟨g, m * 2, none⟩ (.int .i64 0)).setCell ⟨g, m * 2 + 1, none⟩ (.int .i64 0)) lo (.slice (some ⟨g, 0, none⟩) m c) (P.eraseIdx at') := by
      have hbx := box_set (box_set b1 (m * 2) (.int .i64 0)) (m * 2 + 1) (.int .i64 0)
      refine ⟨hr2.1.trans (by rw [HER.out.2]), Or.inr ⟨g, c, _, by rw [HER.out.2], (hr2.lt g rfl).1, hbx, by rw [HER.out.2]; omega, h5, by simp [b2], ?_⟩⟩
      rw [HER.out.2, ← b3]
      rw [Array.toList_setIfInBounds, Array.toList_setIfInBounds]
      rw [List.take_set_of_le (by omega), List.take_set_of_le (by omega)]
    have hTf := (setCell_turns w2 g (m * 2) (.int .i64 0)).trans (setCell_turns _ g (m * 2 + 1) (.int .i64 0))
    have hTw : Turns (fun k => k = g) w w2 := HTG.out.trans ⟨hg2.os, hg2.tape, hg2.output, hg2.size, fun k hk hm => hg2.block k hk (fun e => hm (by simpa using e))⟩
    have HRF : Hid _ := hrf
    have HTF : Hid (Turns (fun k => k = g) w ((w2.setCell ⟨g, m * 2, none⟩ (.int .i64 0)).setCell ⟨g, m * 2 + 1, none⟩ (.int .i64 0))) := hTw.trans hTf
    have k1 : (m : Int) ≤ (m : Int) + 1 := by omega
    have k2 : ¬ c = m := by omega
    have k3 : ¬ (c : Int) = (m : Int) := by omega
    have k4 : m + 1 - m = 1 := by omega
    have k5 : (0 : Int) ≤ (m : Int) := by omega
    clear hr2 b1 b2 b3 hsz hrf hTf hTw hg2
    go_wp2
    go_ret
    exact ⟨rfl, HRF.out, HTF.out⟩
set_option maxHeartbeats 4000000 in
/-- The last one, where the row is full. -/
theorem deleteE_last {w : World} {lo g m : Nat} {P : List E2} (h : ERow w lo (.slice (some ⟨g, 0, none⟩) (m + 1) (m + 1)) P) (hm : P.length = m + 1) (hml : m ≤ 1000000) :
    Calls Tryd.prog 46 #[.slice (some ⟨g, 0, none⟩) (m + 1) (m + 1), .int .i64 (m : Int), .int .i64 ((m : Int) + 1)] w fun e w' => e = .returned (.slice (some ⟨g, 0, none⟩) m (m + 1)) ∧ ERow w' lo (.slice (some ⟨g, 0, none⟩) m (m + 1)) (P.eraseIdx m) ∧ Turns (fun k => k = g) w w' := by
  obtain ⟨i3, hi3, hy0, hy1, hy2⟩ := info_parts Tryd.info49e
  have hr : w.ownsRow lo 49 2 (.slice (some ⟨g, 0, none⟩) (m + 1) (m + 1)) (m + 1) (flatE P) := by
    have h' : w.ownsRow lo 49 2 (.slice (some ⟨g, 0, none⟩) (m + 1) (m + 1)) P.length (flatE P) := h
    rwa [hm] at h'
  obtain ⟨cur, h1, h2, h3, h4, h5, h6, h7⟩ := owns_block hr
  have hpre : w.ownsRow lo 49 2 (.slice (some ⟨g, 0, none⟩) m (m + 1)) m (flatE (P.take m)) := by
    refine ⟨by rw [flatE_len, List.length_take]; congr 1; omega, Or.inr ⟨g, m + 1, cur, rfl, h6, h1, by omega, h5, h2, ?_⟩⟩
    rw [← flatE_take, ← h3, List.take_take]
    congr 1
    omega
  have her : P.eraseIdx m = P.take m := by rw [List.eraseIdx_eq_take_drop_succ, List.drop_of_length_le (by omega), List.append_nil]
  have hel : (P.eraseIdx m).length = m := by rw [List.length_eraseIdx]; split <;> omega
  have HPRE : Hid (w.ownsRow lo 49 2 (.slice (some ⟨g, 0, none⟩) m (m + 1)) m (flatE (P.take m))) := hpre
  have HER : Hid (flatE (P.take m) ++ [] = flatE (P.eraseIdx m) ∧ (P.eraseIdx m).length = m) := ⟨by rw [her]; simp, hel⟩
  clear h hr h1 h2 h3 h6 h7 hpre her hel hm
  have j1 : (0 : Int) ≤ (m : Int) := by omega
  have j2 : (m : Int) ≤ (m : Int) + 1 := by omega
  have j5 : ((m : Int) == (m : Int) + 1) = false := by simp; omega
  have j6 : ¬ (m : Int) = (m : Int) + 1 := by omega
  have j8 : ((m : Int) + 1).toNat = m + 1 := by omega
  have j12 : (0 : Int) ≤ (m : Int) + 1 := by omega
  go_enter Tryd.func46, Tryd.ntmps46
  go_upto_region 5 with (fail)
  refine wp_region_tailT 6 (by kernel_rfl) (by kernel_rfl) (by kernel_rfl) (by decide) ?_
  simp only [List.take_succ_cons, List.take_zero, List.drop_succ_cons, List.drop_zero]
  repeat (quiet_step (fail))
  refine wpQuiet_nil ?_
  rintro _ ⟨gp, rfl⟩
  have hBg := growD_below w gp
  have hpre2 : (growD w gp).ownsRow lo 49 2 (.slice (some ⟨g, 0, none⟩) m (m + 1)) m (flatE (P.take m)) := ownsRow_blocks HPRE.out (fun b hb => hBg.block b (HPRE.out.lt b hb).2)
  have hTg : Turns (fun k => k = g) w (growD w gp) := Turns.of_below hBg _
  generalize growD w gp = wg at *
  have HP2 : Hid _ := hpre2
  have HTG : Hid (Turns (fun k => k = g) w wg) := hTg
  clear hpre2 hTg hBg
  go_upto_region 6 with (first | (at_builtin; refine wpList_append_fits _ rfl _ _ 22 rfl lo 49 i3 2 Tryd.underlying22 hi3 hy1 g m (m + 1) (flatE (P.take m)) rfl HP2.out ⟨g, 0, none⟩ 0 0 [] rfl rfl (fun j u hj => by simp at hj) (fun u hu => by simp at hu) (by omega) ?_; intro w2 hr2 hg2) | fail)
  simp only [Nat.add_zero] at hr2
  rw [HER.out.1] at hr2
  obtain ⟨cur, b1, b2, b3, _⟩ := owns_block hr2
  have hsz : m * 2 + 1 < cur.size := by rw [b2]; omega
  have hclr := run_clear2 w2 0 g (m * 2) 1 (fun j hj => by
    have := box_cell b1 (i := m * 2 + j) (Array.getElem?_eq_getElem (by omega))
    rw [this]; rfl) (fun j _ => box_free b1 _)
  rw [setCells2] at hclr
  have hrf : ERow ((w2.setCell ⟨g, m * 2, none⟩ (.int .i64 0)).setCell ⟨g, m * 2 + 1, none⟩ (.int .i64 0)) lo (.slice (some ⟨g, 0, none⟩) m (m + 1)) (P.eraseIdx m) := by
    have hbx := box_set (box_set b1 (m * 2) (.int .i64 0)) (m * 2 + 1) (.int .i64 0)
    refine ⟨hr2.1.trans (by rw [HER.out.2]), Or.inr ⟨g, m + 1, _, by rw [HER.out.2], (hr2.lt g rfl).1, hbx, by rw [HER.out.2]; omega, h5, by simp [b2], ?_⟩⟩
    rw [HER.out.2, ← b3]
    rw [Array.toList_setIfInBounds, Array.toList_setIfInBounds]
    rw [List.take_set_of_le (by omega), List.take_set_of_le (by omega)]
  have hTf := (setCell_turns w2 g (m * 2) (.int .i64 0)).trans (setCell_turns _ g (m * 2 + 1) (.int .i64 0))
  have hTw : Turns (fun k => k = g) w w2 := HTG.out.trans ⟨hg2.os, hg2.tape, hg2.output, hg2.size, fun k hk hm => hg2.block k hk (fun e => hm (by simpa using e))⟩
  have HRF : Hid _ := hrf
  have HTF : Hid (Turns (fun k => k = g) w ((w2.setCell ⟨g, m * 2, none⟩ (.int .i64 0)).setCell ⟨g, m * 2 + 1, none⟩ (.int .i64 0))) := hTw.trans hTf
  have k1 : (m : Int) ≤ (m : Int) + 1 := by omega
  have k2 : ¬ m + 1 = m := by omega
  have k4 : m + 1 - m = 1 := by omega
  have k5 : (0 : Int) ≤ (m : Int) := by omega
  clear hr2 b1 b2 b3 hsz hrf hTf hTw hg2
  go_wp2
  go_ret
  exact ⟨rfl, HRF.out, HTF.out⟩
theorem deleteE_call {w : World} {lo g c m at' : Nat} {P : List E2} (h : ERow w lo (.slice (some ⟨g, 0, none⟩) (m + 1) c) P) (hm : P.length = m + 1) (hi : at' ≤ m) (hml : m ≤ 1000000) :
    Calls Tryd.prog 46 #[.slice (some ⟨g, 0, none⟩) (m + 1) c, .int .i64 (at' : Int), .int .i64 ((at' : Int) + 1)] w fun e w' => e = .returned (.slice (some ⟨g, 0, none⟩) m c) ∧ ERow w' lo (.slice (some ⟨g, 0, none⟩) m c) (P.eraseIdx at') ∧ Turns (fun k => k = g) w w' := by
  by_cases hc : c = at' + 1
  · have hcap : P.length ≤ c := own_cap h
    have hma : at' = m := by omega
    subst hma hc
    exact deleteE_last h hm hml
  · exact deleteE_mid h hm hi hml hc
theorem edges_cells {w : World} {g o : Nat} {L : List E2} : (∀ (k : Nat) (e : E2), L[k]? = some e → w.cell? ⟨g, o + k * 2, none⟩ = some (.int .i64 (e.1 : Int)) ∧ w.cell? ⟨g, o + k * 2 + 1, none⟩ = some (.int .i64 (e.2 : Int))) → ∀ j u, (flatE L)[j]? = some u → w.cell? ((⟨g, o, none⟩ : Addr).add j) = some u := fun h j u hj => by
  rw [show (⟨g, o, none⟩ : Addr).add j = ⟨g, o + j, none⟩ by simp [Addr.add]]
  have hjl : j < L.length * 2 := by
    have := (List.getElem?_eq_some_iff.1 hj).1
    rwa [flatE_len] at this
  have hk : j / 2 < L.length := by omega
  obtain ⟨h1, h2⟩ := h (j / 2) L[j / 2] (List.getElem?_eq_getElem hk)
  have hd : (flatE L).drop (j / 2 * 2) = ecell L[j / 2] ++ flatE (L.drop (j / 2 + 1)) := by
    rw [flatE_drop]
    unfold flatE
    rw [List.drop_eq_getElem_cons hk, List.flatMap_cons]
  have hj2 : (flatE L)[j]? = ((flatE L).drop (j / 2 * 2))[j % 2]? := by rw [List.getElem?_drop]; congr 1; omega
  rw [hj2, hd] at hj
  rcases Nat.mod_two_eq_zero_or_one j with h0 | h0
  · rw [h0] at hj
    simp [ecell] at hj
    rw [show o + j = o + j / 2 * 2 by omega, h1, hj]
  · rw [h0] at hj
    simp [ecell] at hj
    rw [show o + j = o + j / 2 * 2 + 1 by omega, h2, hj]
set_option maxHeartbeats 1000000 in
theorem cloneE_call {w : World} {g o pc : Nat} {l : List E2} (hl : 0 < l.length) (hl2 : l.length ≤ 1000000) (hc : ∀ (k : Nat) (e : E2), l[k]? = some e → w.cell? ⟨g, o + k * 2, none⟩ = some (.int .i64 (e.1 : Int)) ∧ w.cell? ⟨g, o + k * 2 + 1, none⟩ = some (.int .i64 (e.2 : Int))) :
    Calls Tryd.prog 45 #[.slice (some ⟨g, o, none⟩) l.length pc] w fun e w' => ∃ g' c', e = .returned (.slice (some ⟨g', 0, none⟩) l.length c') ∧ ERow w' w.heap.size (.slice (some ⟨g', 0, none⟩) l.length c') l ∧ Below w.heap.size w w' := by
  obtain ⟨i3, hi3, hy0, hy1, hy2⟩ := info_parts Tryd.info49e
  have hB := below_alloc (Below.refl _ w) (Obj.cells #[] 49)
  have HO : Hid ((w.alloc (Obj.cells #[] 49)).ownsRow w.heap.size 49 2 (.slice (some ⟨w.heap.size, 0, none⟩) 0 0) 0 []) := ⟨rfl, Or.inr ⟨w.heap.size, 0, #[], rfl, Nat.le_refl _, heap_alloc_new _ _, Nat.le_refl _, by unfold maxLen; omega, rfl, rfl⟩⟩
  have HQ : Hid (∀ j u, (flatE l)[j]? = some u → (w.alloc (Obj.cells #[] 49)).cell? ((⟨g, o, none⟩ : Addr).add j) = some u) := edges_cells (fun k e hk => by
    obtain ⟨h1, h2⟩ := hc k e hk
    exact ⟨(hB.cell (World.block_lt_of_cell? w _ h1)).trans h1, (hB.cell (World.block_lt_of_cell? w _ h2)).trans h2⟩)
  have hnil : ∀ w : World, (binOp .eql 22 (.slice (some ⟨g, o, none⟩) l.length pc) (.slice none 0 0)).run Tryd.prog w = .ok (.bool false) w := fun _ => by kernel_rfl
  have HB : Hid _ := hB
  clear hc hB
  go_enter Tryd.func45, Tryd.ntmps45
  go_wp2_with (first | (at_builtin; refine wpList_append_lies _ rfl _ _ 22 rfl w.heap.size 49 i3 (.agg #[.int .i64 0, .int .i64 0]) 2 16 Tryd.underlying22 hi3 hy0 hy1 hy2 rfl (by decide) _ _ _ rfl HO.out ⟨g, o, none⟩ l.length pc (flatE l) rfl (flatE_len l) HQ.out (flatE_one l) hl (by unfold maxLen; omega) (by omega) (by simp) (w.heap.size + 1) (by simp) ?_; intro g1 c1 w1 hown1 hgr1 hat1 _) | go_in)
  have hown2 : ERow w1 w.heap.size (.slice (some ⟨g1, 0, none⟩) l.length c1) l := by simpa using hown1
  have hB1 : Below w.heap.size w w1 := Turns.below HB.out (Turns.of_grown hgr1) HB.out.size (fun x hx => by
    have hx' : some x = some w.heap.size := hx
    have : x = w.heap.size := by simpa using hx'
    omega)
  clear hown1 hgr1 hat1
  go_ret
  exact ⟨g1, c1, rfl, hown2, hB1⟩
end Go.Proofs.YtekokjechbibdaaDoor
