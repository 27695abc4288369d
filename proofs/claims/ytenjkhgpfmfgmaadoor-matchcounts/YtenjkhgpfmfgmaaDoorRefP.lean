/- The document's Components, Parts and Shut. The document's Components, Shut and Cuts. The document's Shut and Cuts. -/
import Derived.Test.YtenjkhgpfmfgmaaDoorReach
import Derived.Test.YtenjkhgpfmfgmaaDoorCompF
namespace Go.Proofs.YtenjkhgpfmfgmaaDoor
open Go.RowKit Go.Maps
attribute [local go_sem ↓] Go.wp_at_zero Go.wp_at_succ

def doneL (L : Nat → Bool) (R : Nat → Nat → Bool) (k x : Nat) : Bool := (List.range k).any fun u => L u && R u x
theorem doneL_iff {L : Nat → Bool} {R : Nat → Nat → Bool} {k x : Nat} : doneL L R k x = true ↔ ∃ u, u < k ∧ L u = true ∧ R u x = true := by
  simp [doneL]
theorem doneL_succ (L : Nat → Bool) (R : Nat → Nat → Bool) (k x : Nat) : doneL L R (k + 1) x = (doneL L R k x || (L k && R k x)) := by
  unfold doneL; rw [List.range_succ, List.any_append]; simp
theorem first_done (L : Nat → Bool) (R : Nat → Nat → Bool) (k : Nat) : firstB L R k = (L k && !doneL L R k k) := by
  rw [Bool.eq_iff_iff, firstB_iff]
  simp [doneL]
theorem doneL_skip {N : Nat} {e : Nat → Nat → Bool} {L : Nat → Bool} {R : Nat → Nat → Bool} {k : Nat} (hR : ∀ v x, R v x = true ↔ Star (St N e L) v x) (hf : firstB L R k = false) (x : Nat) : doneL L R (k + 1) x = doneL L R k x := by
  rw [doneL_succ]
  cases hL : L k
  · simp
  · cases hx : R k x
    · simp
    · rw [first_done, hL] at hf
      have hd : doneL L R k k = true := by simpa using hf
      obtain ⟨u, hu, h1, h2⟩ := doneL_iff.1 hd
      have : doneL L R k x = true := doneL_iff.2 ⟨u, hu, h1, (hR u x).2 (((hR u k).1 h2).trans ((hR k x).1 hx))⟩
      simp [this]

theorem ListsAt.rows {M : Nat → Prop} {w w' : World} {base : Nat} {v : Value} {ls : List (List Nat)} (h : ListsAt w base v ls) (ht : Turns M w w') (hm : ∀ k, M k → k < base ∨ w.heap.size ≤ k ∨ ∃ cur t, t ≠ 29 ∧ t ≠ 3 ∧ w.heap[k]? = some (.cells cur t (0, 0))) : ListsAt w' base v ls := by
  obtain ⟨vs, h1, h2, h3⟩ := h
  have key : ∀ {t : TypeId} {sz : Nat} {x : Value} {n : Nat} {xs : List Value}, (t = 29 ∨ t = 3) → w.ownsRow base t sz x n xs → w'.ownsRow base t sz x n xs := by
    intro t sz x n xs ht' ho
    refine ownsRow_blocks ho fun b hb => ht.block b (ho.lt b hb).2 fun hmb => ?_
    rcases hm b hmb with h' | h' | ⟨cur, t', n1, n2, h'⟩
    · have := (ho.lt b hb).1; omega
    · have := (ho.lt b hb).2; omega
    · obtain ⟨cur', hc⟩ := own_cells ho hb
      rw [hc] at h'
      simp at h'
      rcases ht' with e | e
      · exact n1 (h'.2.symm.trans e)
      · exact n2 (h'.2.symm.trans e)
  exact ⟨vs, h1, key (Or.inl rfl) h2, fun i x l hx hl => key (Or.inr rfl) (h3 i x l hx hl)⟩
theorem RowB.cells {w : World} {b m : Nat} {q : Nat → Bool} (h : RowB w b m q) : ∃ cur, w.heap[b]? = some (.cells cur 4 (0, 0)) := by
  obtain ⟨cur, h1, _⟩ := h; exact ⟨cur, h1⟩
def partsTo (L : Nat → Bool) (R : Nat → Nat → Bool) (k : Nat) : Nat := ((List.range k).filter (firstB L R)).length
theorem partsTo_succ (L : Nat → Bool) (R : Nat → Nat → Bool) (k : Nat) : partsTo L R (k + 1) = partsTo L R k + if firstB L R k = true then 1 else 0 := by
  unfold partsTo
  rw [List.range_succ, List.filter_append, List.length_append]
  congr 1
  by_cases h : firstB L R k = true <;> simp [h]
theorem partsTo_le (L : Nat → Bool) (R : Nat → Nat → Bool) (k : Nat) : partsTo L R k ≤ k := Nat.le_trans (List.length_filter_le _ _) (by simp)

end Go.Proofs.YtenjkhgpfmfgmaaDoor

namespace Go.Proofs.YtenjkhgpfmfgmaaDoor
open Go.RowKit Go.Maps
attribute [local go_sem ↓] Go.wp_at_zero Go.wp_at_succ

theorem open_none : openB (fun _ => false) = allB := by funext x; rfl

def classTo (R : Nat → Nat → Bool) (k t : Nat) : List Nat := (List.range t).filter (R k)
theorem classTo_succ (R : Nat → Nat → Bool) (k t : Nat) : classTo R k (t + 1) = classTo R k t ++ (if R k t = true then [t] else []) := by
  unfold classTo
  rw [List.range_succ, List.filter_append]
  congr 1
  by_cases h : R k t = true <;> simp [h]
theorem classTo_le (R : Nat → Nat → Bool) (k t : Nat) : (classTo R k t).length ≤ t := Nat.le_trans (List.length_filter_le _ _) (by simp)

set_option maxHeartbeats 2000000 in
theorem refComps_call (N : Nat) (ao : Option Addr) (cap : Nat) (p : Int → Int → Bool) (w : World) (hG : GridAt w (.slice ao N cap) N p) (hN : N ≤ 100) (R : Nat → Nat → Bool) (hR : ∀ v x, R v x = true ↔ Star (St N (pn p) allB) v x) :
    Calls Tryd.prog 34 #[.slice ao N cap] w fun r w' => ∃ v, r = .returned v ∧ ListsAt w' w.heap.size v (piecesS N allB R) ∧ Below w.heap.size w w' := by
  obtain ⟨i0, hi, hz0, hz1, hz2⟩ := info_parts Tryd.info4
  obtain ⟨iI, hiI, hx0, hx1, hx2⟩ := info_parts Tryd.info3
  obtain ⟨iL, hiL, hy0, hy1, hy2⟩ := info_parts Tryd.info29
  have HG : Hid _ := hG
  have HR : Hid _ := hR
  clear hG hR
  go_enter Tryd.func34, Tryd.ntmps34
  go_wp2_with (first | (at_make; refine wpList_make_full _ rfl _ _ 44 rfl w.heap.size 4 i0 (.bool false) 1 Tryd.underlying44 hi hz0 hz1 .i64 .i64 _ _ N rfl rfl rfl rfl ?_ ?_ ?_ ?_; (rw [hz2]; omega); (unfold maxLen; omega); (omega); intro W1 hmade hg1) | go_in)
  have hrow0 := rowB_made hmade
  have hB0 : Below w.heap.size w W1 := (Below.refl _ _).grown hg1 (Nat.le_refl _) (fun k hk => by cases hk)
  clear hmade hg1
  go_loopw [3, 5] (fun v i wr => ∃ k : Nat, k ≤ N ∧ i = .int .i64 (k : Int) ∧ ListsAt wr w.heap.size v (piecesTo N allB R k) ∧ RowB wr w.heap.size N (doneL allB R k) ∧ Below w.heap.size w wr) (fun _ i _ => N - (numOf i).toNat)
  case atStart => exact ⟨0, Nat.zero_le _, rfl, listsAt_nil _ _, hrow0.congr (fun j _ => by simp [doneL]), hB0⟩
  case round =>
    obtain ⟨k, hk, rfl, hls, hrow, hB⟩ := hrel
    clear hrow0 hB0
    obtain ⟨vo, vc, rfl⟩ := hls.form
    have hpl := piecesTo_le N allB R k
    by_cases hkN : k < N
    · have ck := hrow.cell hkN
      have i1 : (0 : Int) ≤ (k : Int) := by omega
      have i2 : (k : Int) < (N : Int) := by omega
      by_cases hf : firstB allB R k = true
      · have h2 : doneL allB R k k = false := by
          have := hf
          rw [first_done] at this
          simpa [allB] using this
        have HF : Hid _ := hf
        clear hf
        rw [h2] at ck
        clear h2
        go_wp2_with (first | (go_at_call 31; refine (reach_call N _ cap p _ (GridAt.below HG.out hB) hN hkN (shutAt_nil _ N)).mono ?_; rintro r wa ⟨bI, rfl, hbI, I, hrI, hI, hbA⟩) | go_in)
        have hrowA := hrow.block (hbA.block _ hrow.lt)
        have hlsA := hls.turns (Turns.of_below hbA (fun _ => False)) (fun _ h => h.elim)
        have hBA := below_next hB hbA
        have hne : bI ≠ w.heap.size := by have := hrow.lt; omega
        have hIR : ∀ x, x < N → I x = R k x := fun x hx => by rw [Bool.eq_iff_iff, hI x hx, HR.out, open_none]
        have HIR : Hid _ := hIR
        have HRI : Hid _ := hrI
        clear hI hIR hrow hB hbA hls hrI
        go_loopw [7, 8] (fun lv i wr => ∃ t : Nat, t ≤ N ∧ i = .int .i64 (t : Int) ∧ wr.ownsRow wa.heap.size 3 1 lv (classTo R k t).length (qv (classTo R k t)) ∧ RowB wr w.heap.size N (fun x => doneL allB R k x || (decide (x < t) && R k x)) ∧ Turns (fun j => j = w.heap.size) wa wr) (fun _ i _ => N - (numOf i).toNat)
        case atStart => exact ⟨0, Nat.zero_le _, rfl, by simpa [classTo, qv] using World.ownsRow_nil _ _ _ _, hrowA.congr (fun x _ => by simp), Turns.refl _ _⟩
        case round =>
          obtain ⟨t, ht, rfl, hlr, hrt, hTt⟩ := hrel
          obtain ⟨lo, lc, rfl⟩ := form_row hlr
          have hcl := classTo_le R k t
          have hrit := RowB.turns HRI.out hTt hne
          have hsz := hTt.size
          have hla := HRI.out
          by_cases htN : t < N
          · have ct := hrt.cell htN
            have cI := hrit.cell htN
            have ft := hrt.free t
            have j1 : (0 : Int) ≤ (t : Int) := by omega
            have j2 : (t : Int) < (N : Int) := by omega
            rw [HIR.out t htN] at cI
            by_cases hRt : R k t = true
            · rw [hRt] at cI
              have HRT : Hid _ := hRt
              clear hRt hla
              go_wp2_with (first | (at_builtin; refine wpList_append_own _ rfl _ _ 29 rfl wa.heap.size 3 iI (.int .i64 0) 1 8 Tryd.underlying29 hiI hx0 hx1 hx2 rfl (by decide) _ _ _ rfl (hlr.alloc _) ⟨wr.heap.size, 0, none⟩ 1 1 [.int .i64 (t : Int)] rfl rfl ?n1 ?n2 ?n3 ?n4 ?n5 ?_) | go_in)
              case n1 => exact cell_one_new _ _ _
              case n2 => first | rfl | (intro y hy; simp at hy; subst hy; rfl)
              case n3 => unfold maxLen; omega
              case n4 => omega
              case n5 => simp; omega
              intro v' w3 hown' hgrow _
              have T3 := (alloc_turns wr (Obj.cells #[.int .i64 (t : Int)] 3) _).trans (Turns.of_grown hgrow)
              have hMl : ∀ j, some j = (Value.slice lo (classTo R k t).length lc).ownBlock → wa.heap.size ≤ j := fun j hj => (hlr.lt j hj.symm).1
              have hlw0 := hrowA.lt
              have hrt3 := hrt.turns T3 (fun h => by have := hMl _ h; omega)
              have ct3 := hrt3.cell htN
              have ft3 := hrt3.free t
              have HT3 : Hid _ := T3
              have HM3 : Hid _ := hMl
              clear hgrow T3 hMl
              go_wp2
              go_roundw
              case rel =>
                have hlw := hrowA.lt
                refine ⟨t + 1, by omega, by go_num, ?_, ?_, (hTt.after HT3.out (fun j hj => Or.inr (HM3.out j hj))).trans (setCell_turns _ _ _ _)⟩
                · rw [classTo_succ, if_pos HRT.out]
                  have : w3.ownsRow wa.heap.size 3 1 v' (classTo R k t ++ [t]).length (qv (classTo R k t ++ [t])) := by simpa [qv] using hown'
                  exact ownsRow_setCell_below this (by simp; omega) _
                · refine (hrt3.put t true).congr (fun x hx => ?_)
                  by_cases e : x = t
                  · subst e; rw [if_pos rfl, HRT.out]; simp
                  · rw [if_neg e]
                    have : decide (x < t + 1) = decide (x < t) := by rw [Bool.eq_iff_iff]; simp; omega
                    rw [this]
              case measure => simp [numOf]; omega
            · have hRt' : R k t = false := by simpa using hRt
              rw [hRt'] at cI
              have HRT : Hid _ := hRt'
              clear hRt hRt' hla
              go_wp2
              go_roundw
              case rel =>
                refine ⟨t + 1, by omega, by go_num, by rw [classTo_succ, if_neg (by rw [HRT.out]; decide), List.append_nil]; exact hlr, hrt.congr (fun x hx => ?_), hTt⟩
                by_cases e : x = t
                · subst e; rw [HRT.out]; simp
                · have : decide (x < t + 1) = decide (x < t) := by rw [Bool.eq_iff_iff]; simp; omega
                  rw [this]
              case measure => simp [numOf]; omega
          · have htE : t = N := by omega
            subst htE
            have hlsr := hlsA.rows hTt (fun j hj => Or.inr (Or.inr (by
              obtain ⟨cur, hc⟩ := hrowA.cells
              exact ⟨cur, 4, by decide, by decide, by rw [hj]; exact hc⟩)))
            obtain ⟨vs, hvs, hrow2, hel⟩ := hlsr
            have hBr := hTt.below hBA hBA.size (fun j hj => by omega)
            clear hla
            go_wp2_with (first | (at_builtin; refine wpList_append_own _ rfl _ _ 65 rfl w.heap.size 29 iL (.slice none 0 0) 1 24 Tryd.underlying65 hiL hy0 hy1 hy2 rfl (by decide) _ _ _ rfl (hrow2.alloc _) ⟨wr.heap.size, 0, none⟩ 1 1 [.slice lo (classTo R k t).length lc] rfl rfl ?d1 ?d2 ?d3 ?d4 ?d5 ?_) | go_in)
            case d1 => exact cell_one_new _ _ _
            case d2 => first | rfl | (intro y hy; simp at hy; subst hy; rfl)
            case d3 => unfold maxLen; omega
            case d4 => omega
            case d5 => have := hBr.size; simp; omega
            intro v' w3 hown' hgrow _
            have hx := ownsRow_mono hlr (b' := w.heap.size) hBA.size
            have hls4 := ListsAt.push (l := classTo R k t) hx hvs hrow2 hel hown' hgrow
            have T3 := (alloc_turns wr (Obj.cells #[.slice lo (classTo R k t).length lc] 29) _).trans (Turns.of_grown hgrow)
            have hne3 : ¬ some w.heap.size = (Value.slice vo (piecesTo t allB R k).length vc).ownBlock := fun h => by
              obtain ⟨c1, h1⟩ := own_cells hrow2 h.symm
              obtain ⟨c2, h2⟩ := hrt.cells
              rw [h1] at h2; simp at h2
            have hrt3 := hrt.turns T3 hne3
            have hB4 := T3.below hBr hBr.size (fun j hj => (hrow2.lt j hj.symm).1)
            have HLS : Hid _ := hls4
            clear hown' hgrow hls4 hx hvs hrow2 hel T3
            go_wp2
            go_roundw
            case rel =>
              refine ⟨k + 1, by omega, by go_num, by rw [piecesTo_succ, if_pos HF.out]; exact HLS.out, hrt3.congr (fun x hx => ?_), hB4⟩
              rw [doneL_succ]
              simp [hx, allB]
            case measure => simp [numOf]; omega
      · have hf' : firstB allB R k = false := by simpa using hf
        have hd : doneL allB R k k = true := by
          have := hf'
          rw [first_done] at this
          simpa [allB] using this
        have hrow' := hrow.congr (fun j _ => (doneL_skip HR.out hf' j).symm)
        have HRW : Hid _ := hrow'
        have HF : Hid _ := hf'
        rw [hd] at ck
        clear hrow' hf hf' hd
        go_wp2
        go_roundw
        case rel => exact ⟨k + 1, by omega, by go_num, by rw [piecesTo_succ, if_neg (by rw [HF.out]; decide), List.append_nil]; exact hls, HRW.out, hB⟩
        case measure => simp [numOf]; omega
    · have : k = N := by omega
      subst this
      go_wp2
      go_ret
      exact ⟨_, rfl, hls, hB⟩
end Go.Proofs.YtenjkhgpfmfgmaaDoor

namespace Go.Proofs.YtenjkhgpfmfgmaaDoor
open Go.RowKit Go.Maps
attribute [local go_sem ↓] Go.wp_at_zero Go.wp_at_succ

theorem open_one (x : Nat) : openB (fun j => j == x) = notB x := by funext y; rfl

def refCutsTo (N : Nat) (R : Nat → Nat → Bool) (Rx : Nat → Nat → Nat → Bool) (k : Nat) : List Nat := (List.range k).filter fun x => decide (partsN N allB R < partsN N (notB x) (Rx x))
theorem refCutsTo_succ (N : Nat) (R : Nat → Nat → Bool) (Rx : Nat → Nat → Nat → Bool) (k : Nat) : refCutsTo N R Rx (k + 1) = refCutsTo N R Rx k ++ (if partsN N allB R < partsN N (notB k) (Rx k) then [k] else []) := by
  unfold refCutsTo
  rw [List.range_succ, List.filter_append]
  congr 1
  by_cases h : partsN N allB R < partsN N (notB k) (Rx k) <;> simp [h]
theorem refCutsTo_le (N : Nat) (R : Nat → Nat → Bool) (Rx : Nat → Nat → Nat → Bool) (k : Nat) : (refCutsTo N R Rx k).length ≤ k := Nat.le_trans (List.length_filter_le _ _) (by simp)
theorem partsN_le (N : Nat) (L : Nat → Bool) (R : Nat → Nat → Bool) : partsN N L R ≤ N := partsTo_le L R N

end Go.Proofs.YtenjkhgpfmfgmaaDoor
