/- The document's Blocks. -/
import Derived.Test.YtbaghbodjpehpabOneRing
namespace Go.Proofs.Ytbaghbodjpehpab
open Go.RowKit Go.Maps
attribute [local go_sem ↓] Go.wp_at_zero Go.wp_at_succ

theorem oneRing_as {m : Nat} {es : List Pair} (hg : Good m es) {ao : Option Addr} {cap : Nat} {w : World} (hG : GridAt w (.slice ao m cap) m (hasB es)) (hm : m ≤ 100) (hl : (allP m (hasB es)).length ≤ 1000) {RK : Nat → Nat → Bool} (hRK : ∀ i j, RK i j = true ↔ Star (LkF m (allP m (hasB es))) i j)
    {i j : Nat} (hi : i < (allP m (hasB es)).length) (hj : j < (allP m (hasB es)).length) (hij : i ≠ j) {a d a' d' : Int} (he : (allP m (hasB es))[i]? = some (a, d)) (he' : (allP m (hasB es))[j]? = some (a', d')) {r : Bool} (hr : RK i j = r) :
    Calls Try.prog 46 #[.slice ao m cap, .agg #[.int .i64 a, .int .i64 d], .agg #[.int .i64 a', .int .i64 d']] w fun e w' => e = .returned (.bool r) ∧ Below w.heap.size w w' := by
  have hF := formed_all m (hasB es)
  have gr := ef_gr hF
  have ed := ef_edges hF
  obtain ⟨s, t, h1, hst, htm⟩ := hF.at hi
  obtain ⟨s', t', h1', hst', htm'⟩ := hF.at hj
  rw [he] at h1
  rw [he'] at h1'
  simp at h1 h1'
  obtain ⟨rfl, rfl⟩ := h1
  obtain ⟨rfl, rfl⟩ := h1'
  have hel := elf_some he
  have hel' := elf_some he'
  have con : ∀ x, Star (St m (pn (hasB es)) (notB x)) (otherN (s, t) x) (otherN (s', t') x) ↔ Con (EF m es) x (otherN (elf (allP m (hasB es)) i) x) (otherN (elf (allP m (hasB es)) j) x) := fun x => by
    rw [hel, hel']; exact Star.iff (stx_iff hg x) _ _
  refine oneRing_call m ao cap (hasB es) w hG hm hl (by omega) htm (by omega) htm' r ?_
  cases r
  · refine Or.inr ⟨rfl, fun h => ?_⟩
    have := (hRK i j).2 (block_of_apart gr ed hi hj (fun x hx => (con x).1 (h x hx)))
    rw [hr] at this; cases this
  · have hs := (hRK i j).1 hr
    refine Or.inl ⟨rfl, fun x _ => (con x).2 (star_con gr ed hs x), ?_, ?_⟩
    · rw [Star.iff (ste_iff hg hst)]
      refine Classical.byContradiction fun hno => ?_
      exact hij ((alone_bridge gr ed hi hel).2 hno j hj hs).symm
    · rw [Star.iff (ste_iff hg hst')]
      refine Classical.byContradiction fun hno => ?_
      exact hij ((alone_bridge gr ed hj hel').2 hno i hi (hs.symm (link_symm gr ed)))

theorem classTo_first {RK : Nat → Nat → Bool} (hs : ∀ i j, RK i j = true → RK j i = true) {k : Nat} (hf : firstB allB RK k = true) : classTo RK k k = [] := by
  unfold classTo
  rw [List.filter_eq_nil_iff]
  intro j hj h
  have := first_all.1 hf j (by simpa using hj)
  rw [hs _ _ h] at this
  cases this

theorem keepF {W : World} {p0 p1 p2 p3 p4 : Addr} {v0 v1 v2 v3 v4 : Value} (c0 : W.cell? p0 = some v0) (c1 : W.cell? p1 = some v1) (c2 : W.cell? p2 = some v2) (c3 : W.cell? p3 = some v3) (c4 : W.cell? p4 = some v4) {w' : World} (hb : Below W.heap.size W w') :
    Below W.heap.size W w' ∧ w'.cell? p0 = some v0 ∧ w'.cell? p1 = some v1 ∧ w'.cell? p2 = some v2 ∧ w'.cell? p3 = some v3 ∧ w'.cell? p4 = some v4 :=
  ⟨hb, (hb.cell (World.block_lt_of_cell? W _ c0)).trans c0, (hb.cell (World.block_lt_of_cell? W _ c1)).trans c1, (hb.cell (World.block_lt_of_cell? W _ c2)).trans c2, (hb.cell (World.block_lt_of_cell? W _ c3)).trans c3, (hb.cell (World.block_lt_of_cell? W _ c4)).trans c4⟩

set_option maxRecDepth 20000 in
set_option maxHeartbeats 4000000 in
theorem refBlocks_call (m : Nat) (es : List Pair) (hg : Good m es) (ao : Option Addr) (cap : Nat) (w : World) (hG : GridAt w (.slice ao m cap) m (hasB es)) (hm : m ≤ 100) (hl : (allP m (hasB es)).length ≤ 1000) (RK : Nat → Nat → Bool) (hRK : ∀ i j, RK i j = true ↔ Star (LkF m (allP m (hasB es))) i j) :
    Calls Try.prog 23 #[.slice ao m cap] w fun r w' => ∃ v, r = .returned v ∧ BlocksAt w' w.heap.size v (blocksS (allP m (hasB es)) RK) ∧ Below w.heap.size w w' := by
  obtain ⟨i0, hi, hz0, hz1, hz2⟩ := info_parts Try.info4
  obtain ⟨iI, hiI, hx0, hx1, hx2⟩ := info_parts Try.info63
  obtain ⟨iL, hiL, hy0, hy1, hy2⟩ := info_parts Try.info22
  have hof := fun (w' : World) (hb : Below w.heap.size w w') => ofGrid_any m ao cap (hasB es) w' (hG.below hb) hm
  have hone := fun (w' : World) (hb : Below w.heap.size w w') (i j : Nat) (hi : i < (allP m (hasB es)).length) (hj : j < (allP m (hasB es)).length) (hij : i ≠ j) (a d a' d' : Int) (he : (allP m (hasB es))[i]? = some (a, d)) (he' : (allP m (hasB es))[j]? = some (a', d')) (r : Bool) (hr : RK i j = r) => oneRing_as hg (hG.below hb) hm hl hRK hi hj hij he he' hr
  have hsym : ∀ i j, RK i j = true → RK j i = true := fun i j => rk_symm hRK
  have htr : ∀ i j k, RK i j = true → RK j k = true → RK i k = true := fun i j k => rk_trans hRK
  have hrf := rk_refl hRK
  obtain ⟨fes, hfes⟩ : ∃ fes, fes = allP m (hasB es) := ⟨_, rfl⟩
  rw [← hfes] at hl ⊢
  simp only [← hfes] at hof hone
  have HOF : Hid _ := hof
  have HON : Hid _ := hone
  have HSY : Hid _ := hsym
  have HTR : Hid _ := htr
  have HRF : Hid _ := hrf
  have hfld := field24
  clear hof hone hsym htr hrf hG hRK hfes hg
  go_enter Try.func23, Try.ntmps23
  go_upto_region 2 with (go_at_call 31; refine (HOF.out _ (Below.refl _ _)).mono ?_; rintro e w1 ⟨hb, eo, ec, rfl, hE⟩)
  have HE : Hid _ := hE
  have HB1 : Hid _ := hb
  clear hE hfld hb
  go_wp2_with (first | (at_make; refine wpList_make_full _ rfl _ _ 61 rfl w1.heap.size 4 i0 (.bool false) 1 Try.underlying61 hi hz0 hz1 .i64 .i64 _ _ fes.length rfl rfl rfl rfl ?_ ?_ ?_ ?_; (rw [hz2]; omega); (unfold maxLen; omega); (omega); intro W1 hmade hg1) | go_in)
  have hrow0 := rowB_made hmade
  have hB0 : Below w1.heap.size w1 W1 := (Below.refl _ _).grown hg1 (Nat.le_refl _) (fun k hk => by cases hk)
  clear hmade hg1
  go_loopw [5, 6] (fun v i wr => ∃ k : Nat, k ≤ fes.length ∧ i = .int .i64 (k : Int) ∧ BlocksAt wr w1.heap.size v ((piecesTo fes.length allB RK k).map (edgesL fes)) ∧ RowB wr w1.heap.size fes.length (doneL allB RK k) ∧ Below w1.heap.size w1 wr) (fun _ i _ => fes.length - (numOf i).toNat)
  case atStart => exact ⟨0, Nat.zero_le _, rfl, blocksAt_nil _ _, hrow0.congr (fun j _ => by simp [doneL]), hB0⟩
  case round =>
    obtain ⟨k, hk, rfl, hls, hrow, hB⟩ := hrel
    clear hrow0 hB0
    obtain ⟨vo, vc, hbv⟩ := hls.form
    rw [List.length_map] at hbv
    subst hbv
    have hpl := piecesTo_le fes.length allB RK k
    by_cases hkN : k < fes.length
    · have ck := hrow.cell hkN
      have i1 : (0 : Int) ≤ (k : Int) := by omega
      have i2 : (k : Int) < (fes.length : Int) := by omega
      by_cases hf : firstB allB RK k = true
      · have h2 : doneL allB RK k k = false := by
          have := hf
          rw [first_done] at this
          simpa [allB] using this
        have HF : Hid _ := hf
        rw [h2] at ck
        clear h2 hf
        go_wp2
        rename World => wq
        clear ck
        go_loopw [7, 8] (fun lv i wr => ∃ t : Nat, k ≤ t ∧ t ≤ fes.length ∧ i = .int .i64 (t : Int) ∧ wr.ownsRow wq.heap.size 63 2 lv (classTo RK k t).length (flat (edgesL fes (classTo RK k t))) ∧ RowB wr w1.heap.size fes.length (fun x => doneL allB RK k x || (decide (x < t) && RK k x)) ∧ Turns (fun j => j = w1.heap.size) wq wr) (fun _ i _ => fes.length - (numOf i).toNat)
        case atStart =>
          refine ⟨k, Nat.le_refl _, by omega, rfl, ?_, hrow.congr (fun x hx => ?_), Turns.refl _ _⟩
          · rw [classTo_first HSY.out HF.out]; simpa [edgesL, flat] using World.ownsRow_nil _ _ _ _
          · by_cases hxk : x < k
            · have : RK k x = false := by
                cases h : RK k x
                · rfl
                · have := first_all.1 HF.out x hxk; rw [HSY.out _ _ h] at this; cases this
              simp [this]
            · simp [hxk]
        case round =>
          obtain ⟨t, htk, htM0, rfl, hlr, hrt, hTt⟩ := hrel
          obtain ⟨lo, lc, rfl⟩ := form_row hlr
          have hcl := classTo_le RK k t
          have hsz := hTt.size
          have hlq := hrow.lt
          have hBr := hTt.below hB hB.size (fun j hj => by omega)
          by_cases htM : t < fes.length
          · obtain ⟨eo', ec', ee, _, hEI, hcells⟩ := EdgesAt.below HE.out hBr
            cases ee
            obtain ⟨b, off, rfl, c0, c1⟩ := hcells k hkN
            obtain ⟨bt, offt, ebt, c2, c3⟩ := hcells t htM
            obtain ⟨a, d, had⟩ : ∃ a d, fes[k] = (a, d) := ⟨fes[k].1, fes[k].2, rfl⟩
            obtain ⟨a', d', had'⟩ : ∃ a d, fes[t] = (a, d) := ⟨fes[t].1, fes[t].2, rfl⟩
            rw [had] at c0 c1
            rw [had'] at c2 c3
            have hek : fes[k]? = some (a, d) := by rw [List.getElem?_eq_getElem hkN, had]
            have het : fes[t]? = some (a', d') := by rw [List.getElem?_eq_getElem htM, had']
            have HEK : Hid _ := hek
            have HET : Hid _ := het
            cases ebt
            clear hcells hEI had had' hek het
            have ct := hrt.cell htM
            have et : (doneL allB RK k t || (decide (t < t) && RK k t)) = doneL allB RK k t := by simp
            rw [et] at ct
            clear et
            have j1 : (0 : Int) ≤ (t : Int) := by omega
            have j2 : (t : Int) < (fes.length : Int) := by omega
            have hstay : RK k t = false → RowB wr w1.heap.size fes.length (fun x => doneL allB RK k x || (decide (x < t + 1) && RK k x)) ∧ classTo RK k (t + 1) = classTo RK k t := fun h => by
              refine ⟨hrt.congr (fun x hx => ?_), by rw [classTo_succ, if_neg (by rw [h]; decide), List.append_nil]⟩
              by_cases e : x = t
              · subst e; rw [h]; simp
              · have : decide (x < t + 1) = decide (x < t) := by rw [Bool.eq_iff_iff]; simp; omega
                rw [this]
            have HST : Hid _ := hstay
            clear hstay
            by_cases hd : doneL allB RK k t = true
            · have hRt : RK k t = false := by
                cases h : RK k t
                · rfl
                · obtain ⟨u, hu, _, h3⟩ := doneL_iff.1 hd
                  have := first_all.1 HF.out u hu
                  rw [HTR.out _ _ _ h3 (HSY.out _ _ h)] at this
                  cases this
              obtain ⟨hs1, hs2⟩ := HST.out hRt
              have HS1 : Hid _ := hs1
              have HS2 : Hid _ := hs2
              rw [hd] at ct
              clear hRt hs1 hs2 hd
              go_wp2
              go_quiet (fail)
              go_wp2
              go_roundw
              case rel => exact ⟨t + 1, by omega, by omega, by go_num, by rw [HS2.out]; exact ownsRow_drewN hlr _, RowB.block HS1.out ((drewN_below _ _).block _ (RowB.lt HS1.out)), hTt.trans (Turns.of_below (drewN_below _ _) _)⟩
              case measure => simp [numOf]; omega
            · have hd' : doneL allB RK k t = false := by simpa using hd
              rw [hd'] at ct
              clear hd hd'
              by_cases hkt : k = t
              · subst hkt
                have hRt : RK k k = true := HRF.out k
                have HRT : Hid _ := hRt
                have hkk : ((k : Int) == (k : Int)) = true := by simp
                clear hRt
                go_wp2
                go_quiet (fail)
                rename Nat => nd
                have hbX := drewN_below wr nd
                generalize wr.drewN nd = wX at hbX ⊢
                have hownX := row_on hlr hbX
                have hrtX := hrt.block (hbX.block _ hrt.lt)
                have f0 : wX.cell? ⟨b, off + k * 2, none⟩ = some (.int .i64 a') := (hbX.cell (by exact World.block_lt_of_cell? wr _ c2)).trans c2
                have f1 : wX.cell? ⟨b, off + k * 2 + 1, none⟩ = some (.int .i64 d') := (hbX.cell (by exact World.block_lt_of_cell? wr _ c3)).trans c3
                have hTX := hTt.trans (Turns.of_below hbX _)
                have hszX := hTX.size
                go_wp2_with (first | (at_builtin; refine wpList_append_own _ rfl _ _ 22 rfl wq.heap.size 63 iI (.agg #[.int .i64 0, .int .i64 0]) 2 16 Try.underlying22 hiI hx0 hx1 hx2 rfl (by decide) _ _ _ rfl (hownX.alloc _) ⟨wX.heap.size, 0, none⟩ 1 1 [.int .i64 a', .int .i64 d'] rfl rfl ?n1 ?n2 ?n3 ?n4 ?n5 ?_) | go_in)
                case n1 =>
                  intro j z hj
                  match j, hj with
                  | 0, hj => simp at hj; subst hj; simp [Addr.add]
                  | 1, hj => simp at hj; subst hj; simp [Addr.add]
                case n2 => first | exact ⟨rfl, rfl⟩ | (intro x hx; simp at hx; rcases hx with rfl | rfl <;> rfl)
                case n3 => unfold maxLen; omega
                case n4 => omega
                case n5 => simp; omega
                intro v' w3 hown' hgrow _
                have T3 := (alloc_turns wX (Obj.cells #[.int .i64 a', .int .i64 d'] 63) _).trans (Turns.of_grown hgrow)
                have hMl : ∀ j, some j = (Value.slice lo (classTo RK k k).length lc).ownBlock → wq.heap.size ≤ j := fun j hj => (hownX.lt j hj.symm).1
                have hrt3 := hrtX.turns T3 (fun h => by have := hMl _ h; omega)
                have ct3 := hrt3.cell hkN
                have ft3 := hrt3.free k
                have HT3 : Hid _ := hTX.after T3 (fun j hj => Or.inr (hMl j hj))
                clear hgrow T3 hMl
                go_wp2
                go_roundw
                case rel =>
                  refine ⟨k + 1, by omega, by omega, by go_num, ?_, ?_, HT3.out.trans (setCell_turns _ _ _ _)⟩
                  · have e1 : classTo RK k (k + 1) = classTo RK k k ++ [k] := by rw [classTo_succ, if_pos HRT.out]
                    have e2 : edgesL fes (classTo RK k k ++ [k]) = edgesL fes (classTo RK k k) ++ [(a', d')] := by simp [edgesL, List.getD, HET.out]
                    rw [e1, e2, flat_snoc, List.length_append]
                    exact ownsRow_setCell_below hown' (by simp; omega) _
                  · refine (hrt3.put k true).congr (fun x hx => ?_)
                    by_cases e : x = k
                    · subst e; rw [if_pos rfl, HRT.out]; simp
                    · rw [if_neg e]
                      have : decide (x < k + 1) = decide (x < k) := by rw [Bool.eq_iff_iff]; simp; omega
                      rw [this]
                case measure => simp [numOf]; omega
              · have hkt' : ((k : Int) == (t : Int)) = false := by simp; omega
                have hcalls := fun (w' : World) (hb : Below wr.heap.size wr w') => HON.out w' (below_next (below_next HB1.out hBr) hb) k t hkN htM hkt a d a' d' HEK.out HET.out (RK k t) rfl
                have HCA : Hid _ := hcalls
                clear hcalls
                by_cases hRt : RK k t = true
                · rw [hRt] at HCA
                  have HRT : Hid _ := hRt
                  clear hRt
                  go_wp2
                  go_region_held3 (fun wz => Below wr.heap.size wr wz ∧ wz.cell? ⟨w1.heap.size, t, none⟩ = some (.bool false) ∧ wz.cell? ⟨b, off + k * 2, none⟩ = some (.int .i64 a) ∧ wz.cell? ⟨b, off + k * 2 + 1, none⟩ = some (.int .i64 d) ∧ wz.cell? ⟨b, off + t * 2, none⟩ = some (.int .i64 a') ∧ wz.cell? ⟨b, off + t * 2 + 1, none⟩ = some (.int .i64 d'))
                    (first | assumption | exact keepF ct c0 c1 c2 c3 (Below.refl _ _).drew | (go_split_ands; exact keepF ct c0 c1 c2 c3 (below_next (by assumption) hbk)))
                    ((go_at_call 46; go_split_ands; refine (HCA.out _ (by assumption)).mono ?_; rintro e w7 ⟨rfl, hbk⟩))
                  go_split_ands
                  have hbX : Below wr.heap.size wr w7 := by assumption
                  clear hbk
                  have hownX := row_on hlr hbX
                  have hrtX := hrt.block (hbX.block _ hrt.lt)
                  have f0 : w7.cell? ⟨b, off + t * 2, none⟩ = some (.int .i64 a') := (hbX.cell (by exact World.block_lt_of_cell? wr _ c2)).trans c2
                  have f1 : w7.cell? ⟨b, off + t * 2 + 1, none⟩ = some (.int .i64 d') := (hbX.cell (by exact World.block_lt_of_cell? wr _ c3)).trans c3
                  have hTX := hTt.trans (Turns.of_below hbX _)
                  have hszX := hTX.size
                  go_wp2_with (first | (at_builtin; refine wpList_append_own _ rfl _ _ 22 rfl wq.heap.size 63 iI (.agg #[.int .i64 0, .int .i64 0]) 2 16 Try.underlying22 hiI hx0 hx1 hx2 rfl (by decide) _ _ _ rfl (hownX.alloc _) ⟨w7.heap.size, 0, none⟩ 1 1 [.int .i64 a', .int .i64 d'] rfl rfl ?n1 ?n2 ?n3 ?n4 ?n5 ?_) | go_in)
                  case n1 =>
                    intro j z hj
                    match j, hj with
                    | 0, hj => simp at hj; subst hj; simp [Addr.add]
                    | 1, hj => simp at hj; subst hj; simp [Addr.add]
                  case n2 => first | exact ⟨rfl, rfl⟩ | (intro x hx; simp at hx; rcases hx with rfl | rfl <;> rfl)
                  case n3 => unfold maxLen; omega
                  case n4 => omega
                  case n5 => simp; omega
                  intro v' w3 hown' hgrow _
                  have T3 := (alloc_turns w7 (Obj.cells #[.int .i64 a', .int .i64 d'] 63) _).trans (Turns.of_grown hgrow)
                  have hMl : ∀ j, some j = (Value.slice lo (classTo RK k t).length lc).ownBlock → wq.heap.size ≤ j := fun j hj => (hownX.lt j hj.symm).1
                  have hrt3 := hrtX.turns T3 (fun h => by have := hMl _ h; omega)
                  have ct3 := hrt3.cell htM
                  have ft3 := hrt3.free t
                  have HT3 : Hid _ := hTX.after T3 (fun j hj => Or.inr (hMl j hj))
                  clear hgrow T3 hMl
                  go_wp2
                  go_roundw
                  case rel =>
                    refine ⟨t + 1, by omega, by omega, by go_num, ?_, ?_, HT3.out.trans (setCell_turns _ _ _ _)⟩
                    · have e1 : classTo RK k (t + 1) = classTo RK k t ++ [t] := by rw [classTo_succ, if_pos HRT.out]
                      have e2 : edgesL fes (classTo RK k t ++ [t]) = edgesL fes (classTo RK k t) ++ [(a', d')] := by simp [edgesL, List.getD, HET.out]
                      rw [e1, e2, flat_snoc, List.length_append]
                      exact ownsRow_setCell_below hown' (by simp; omega) _
                    · refine (hrt3.put t true).congr (fun x hx => ?_)
                      by_cases e : x = t
                      · subst e; rw [if_pos rfl, HRT.out]; simp
                      · rw [if_neg e]
                        have : decide (x < t + 1) = decide (x < t) := by rw [Bool.eq_iff_iff]; simp; omega
                        rw [this]
                  case measure => simp [numOf]; omega
                · have hRt' : RK k t = false := by simpa using hRt
                  obtain ⟨hs1, hs2⟩ := HST.out hRt'
                  have HS1 : Hid _ := hs1
                  have HS2 : Hid _ := hs2
                  rw [hRt'] at HCA
                  clear hRt hRt' hs1 hs2
                  go_wp2
                  go_region_held3 (fun wz => Below wr.heap.size wr wz ∧ wz.cell? ⟨w1.heap.size, t, none⟩ = some (.bool false) ∧ wz.cell? ⟨b, off + k * 2, none⟩ = some (.int .i64 a) ∧ wz.cell? ⟨b, off + k * 2 + 1, none⟩ = some (.int .i64 d) ∧ wz.cell? ⟨b, off + t * 2, none⟩ = some (.int .i64 a') ∧ wz.cell? ⟨b, off + t * 2 + 1, none⟩ = some (.int .i64 d'))
                    (first | assumption | exact keepF ct c0 c1 c2 c3 (Below.refl _ _).drew | (go_split_ands; exact keepF ct c0 c1 c2 c3 (below_next (by assumption) hbk)))
                    ((go_at_call 46; go_split_ands; refine (HCA.out _ (by assumption)).mono ?_; rintro e w7 ⟨rfl, hbk⟩))
                  go_split_ands
                  have hbX : Below wr.heap.size wr w7 := by assumption
                  go_wp2
                  go_roundw
                  case rel => exact ⟨t + 1, by omega, by omega, by go_num, by rw [HS2.out]; exact row_on hlr hbX, RowB.block HS1.out (hbX.block _ (RowB.lt HS1.out)), hTt.trans (Turns.of_below hbX _)⟩
                  case measure => simp [numOf]; omega
          · have htE : t = fes.length := by omega
            subst htE
            have hlsr := hls.turns hTt (fun j hj => Or.inr (Or.inr (by
              obtain ⟨cur, hc⟩ := hrow.cells
              exact ⟨cur, 4, by decide, by decide, by rw [hj]; exact hc⟩)))
            obtain ⟨vs, hvs, hrow2, hel⟩ := hlsr
            rw [List.length_map] at hrow2
            have hlen : ((piecesTo fes.length allB RK k).map (edgesL fes)).length = (piecesTo fes.length allB RK k).length := List.length_map _
            go_wp2_with (first | (at_builtin; refine wpList_append_own _ rfl _ _ 49 rfl w1.heap.size 22 iL (.slice none 0 0) 1 24 Try.underlying49 hiL hy0 hy1 hy2 rfl (by decide) _ _ _ rfl (hrow2.alloc _) ⟨wr.heap.size, 0, none⟩ 1 1 [.slice lo (classTo RK k fes.length).length lc] rfl rfl ?d1 ?d2 ?d3 ?d4 ?d5 ?_) | go_in)
            case d1 => exact cell_one_new _ _ _
            case d2 => first | rfl | (intro y hy; simp at hy; subst hy; rfl)
            case d3 => unfold maxLen; omega
            case d4 => omega
            case d5 => have := hBr.size; simp; omega
            intro v' w3 hown' hgrow _
            have hx : wr.ownsRow w1.heap.size 63 2 (.slice lo (classTo RK k fes.length).length lc) (edgesL fes (classTo RK k fes.length)).length (flat (edgesL fes (classTo RK k fes.length))) := by rw [edgesL_len]; exact ownsRow_mono hlr hB.size
            have hls4 := blocksAt_push (bs := (piecesTo fes.length allB RK k).map (edgesL fes)) hx hvs (by rw [hlen]; exact hrow2) hel (by rw [hlen]; exact hown') hgrow
            have T3 := (alloc_turns wr (Obj.cells #[.slice lo (classTo RK k fes.length).length lc] 22) _).trans (Turns.of_grown hgrow)
            have hne3 : ¬ some w1.heap.size = (Value.slice vo (piecesTo fes.length allB RK k).length vc).ownBlock := fun h => by
              obtain ⟨c1, h1⟩ := own_cells hrow2 h.symm
              obtain ⟨c2, h2⟩ := hrt.cells
              rw [h1] at h2; simp at h2
            have hrt3 := hrt.turns T3 hne3
            have hB4 := T3.below hBr hBr.size (fun j hj => (hrow2.lt j hj.symm).1)
            have HLS : Hid _ := hls4
            clear hown' hgrow hls4 hx hvs hrow2 hel T3 hlen
            go_wp2
            go_roundw
            case rel =>
              refine ⟨k + 1, by omega, by go_num, ?_, hrt3.congr (fun x hx => ?_), hB4⟩
              · rw [piecesTo_succ, if_pos HF.out, List.map_append]; exact HLS.out
              · rw [doneL_succ]
                have : x < fes.length := by omega
                simp [this, allB]
            case measure => simp [numOf]; omega
      · have hf' : firstB allB RK k = false := by simpa using hf
        have hd : doneL allB RK k k = true := by
          have := hf'
          rw [first_done] at this
          simpa [allB] using this
        have hskip : ∀ x, doneL allB RK (k + 1) x = doneL allB RK k x := fun x => by
          rw [doneL_succ]
          cases hx : RK k x
          · simp
          · obtain ⟨u, hu, h1, h3⟩ := doneL_iff.1 hd
            have : doneL allB RK k x = true := doneL_iff.2 ⟨u, hu, h1, HTR.out _ _ _ h3 hx⟩
            simp [this]
        have hrow' := hrow.congr (fun j _ => (hskip j).symm)
        have HRW : Hid _ := hrow'
        have HF : Hid _ := hf'
        rw [hd] at ck
        clear hrow' hf hf' hd hskip
        go_wp2
        go_roundw
        case rel => exact ⟨k + 1, by omega, by go_num, by rw [piecesTo_succ, if_neg (by rw [HF.out]; decide), List.append_nil]; exact hls, HRW.out, hB⟩
        case measure => simp [numOf]; omega
    · have : k = fes.length := by omega
      subst this
      go_wp2
      go_ret
      exact ⟨_, rfl, hls.mono HB1.out.size, below_next HB1.out hB⟩
end Go.Proofs.Ytbaghbodjpehpab
