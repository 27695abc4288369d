/- The document's Components, Parts and Shut. -/
import Derived.Test.YtmeodnkmhakidaaReach
import Derived.Test.YtmeodnkmhakidaaComps
namespace Go.Proofs.Ytmeodnkmhakidaa
set_option maxRecDepth 4000
open Go.RowKit Go.Maps
attribute [local go_sem ↓] Go.wp_at_zero Go.wp_at_succ

def doneL (L : Nat → Bool) (R : Nat → Nat → Bool) (k x : Nat) : Bool := (List.range k).any fun u => L u && R u x
theorem doneL_iff {L : Nat → Bool} {R : Nat → Nat → Bool} {k x : Nat} : doneL L R k x = true ↔ ∃ u, u < k ∧ L u = true ∧ R u x = true := by
  simp [doneL]
theorem doneL_succ (L : Nat → Bool) (R : Nat → Nat → Bool) (k x : Nat) : doneL L R (k + 1) x = (doneL L R k x || (L k && R k x)) := by
  unfold doneL; rw [List.range_succ, List.any_append]; simp
theorem first_done (L : Nat → Bool) (R : Nat → Nat → Bool) (k : Nat) : firstB L R k = (L k && !doneL L R k k) := by
  rw [Bool.eq_iff_iff, firstB_iff]
  simp [doneL]
theorem doneL_skip {N : Nat} {e : Nat → Nat → Bool} {L : Nat → Bool} {R : Nat → Nat → Bool} {k : Nat} (hR : ∀ v x, R v x = true ↔ Star (St N e L) v x) (hf : firstB L R k = false) (x : Nat) : doneL L R (k + 1) x = doneL L R k x := by
  rw [doneL_succ]
  cases hL : L k
  · simp
  · cases hx : R k x
    · simp
    · rw [first_done, hL] at hf
      have hd : doneL L R k k = true := by simpa using hf
      obtain ⟨u, hu, h1, h2⟩ := doneL_iff.1 hd
      have : doneL L R k x = true := doneL_iff.2 ⟨u, hu, h1, (hR u x).2 (((hR u k).1 h2).trans ((hR k x).1 hx))⟩
      simp [this]

theorem ListsAt.rows {M : Nat → Prop} {w w' : World} {base : Nat} {v : Value} {ls : List (List Nat)} (h : ListsAt w base v ls) (ht : Turns M w w') (hm : ∀ k, M k → k < base ∨ w.heap.size ≤ k ∨ ∃ cur t, t ≠ 45 ∧ t ≠ 3 ∧ w.heap[k]? = some (.cells cur t (0, 0))) : ListsAt w' base v ls := by
  obtain ⟨vs, h1, h2, h3⟩ := h
  have key : ∀ {t : TypeId} {sz : Nat} {x : Value} {n : Nat} {xs : List Value}, (t = 45 ∨ t = 3) → w.ownsRow base t sz x n xs → w'.ownsRow base t sz x n xs := by
    intro t sz x n xs ht' ho
    refine ownsRow_blocks ho fun b hb => ht.block b (ho.lt b hb).2 fun hmb => ?_
    rcases hm b hmb with h' | h' | ⟨cur, t', n1, n2, h'⟩
    · have := (ho.lt b hb).1; omega
    · have := (ho.lt b hb).2; omega
    · obtain ⟨cur', hc⟩ := own_cells ho hb
      rw [hc] at h'
      simp at h'
      rcases ht' with e | e
      · exact n1 (h'.2.symm.trans e)
      · exact n2 (h'.2.symm.trans e)
  exact ⟨vs, h1, key (Or.inl rfl) h2, fun i x l hx hl => key (Or.inr rfl) (h3 i x l hx hl)⟩
theorem RowB.cells {w : World} {b m : Nat} {q : Nat → Bool} (h : RowB w b m q) : ∃ cur, w.heap[b]? = some (.cells cur 4 (0, 0)) := by
  obtain ⟨cur, h1, _⟩ := h; exact ⟨cur, h1⟩
def partsTo (L : Nat → Bool) (R : Nat → Nat → Bool) (k : Nat) : Nat := ((List.range k).filter (firstB L R)).length
theorem partsTo_succ (L : Nat → Bool) (R : Nat → Nat → Bool) (k : Nat) : partsTo L R (k + 1) = partsTo L R k + if firstB L R k = true then 1 else 0 := by
  unfold partsTo
  rw [List.range_succ, List.filter_append, List.length_append]
  congr 1
  by_cases h : firstB L R k = true <;> simp [h]
theorem partsTo_le (L : Nat → Bool) (R : Nat → Nat → Bool) (k : Nat) : partsTo L R k ≤ k := Nat.le_trans (List.length_filter_le _ _) (by simp)

set_option maxHeartbeats 2000000 in
theorem parts_call (N : Nat) (ao : Option Addr) (cap : Nat) (p : Int → Int → Bool) (w : World) (hG : GridAt w (.slice ao N cap) N p) (hN : N ≤ 100) {sv : Value} {sh : Nat → Bool} (hsh : ShutAt w sv N sh) (R : Nat → Nat → Bool) (hR : ∀ v x, R v x = true ↔ Star (St N (pn p) (openB sh)) v x) :
    Calls Try.prog 20 #[.slice ao N cap, sv] w fun r w' => r = .returned (.int .i64 (partsN N (openB sh) R : Int)) ∧ Below w.heap.size w w' := by
  obtain ⟨i0, hi, hz0, hz1, hz2⟩ := info_parts Try.info4
  have HG : Hid _ := hG
  have HS0 : Hid _ := hsh
  have HR : Hid _ := hR
  obtain ⟨so, sn, sc, rfl, hsn, hsh⟩ := hsh
  have HSH : Hid _ := hsh
  clear hG hsh hR
  go_enter Try.func20, Try.ntmps20
  go_wp2_with (first | (at_make; refine wpList_make_full _ rfl _ _ 64 rfl w.heap.size 4 i0 (.bool false) 1 Try.underlying64 hi hz0 hz1 .i64 .i64 _ _ N rfl rfl rfl rfl ?_ ?_ ?_ ?_; (rw [hz2]; omega); (unfold maxLen; omega); (omega); intro W1 hmade hg1) | go_in)
  have hrow0 := rowB_made hmade
  have hB0 : Below w.heap.size w W1 := (Below.refl _ _).grown hg1 (Nat.le_refl _) (fun k hk => by cases hk)
  clear hmade hg1
  go_loopw [6, 7] (fun c i wr => ∃ k : Nat, k ≤ N ∧ c = .int .i64 (partsTo (openB sh) R k : Int) ∧ i = .int .i64 (k : Int) ∧ RowB wr w.heap.size N (doneL (openB sh) R k) ∧ Below w.heap.size w wr) (fun _ i _ => N - (numOf i).toNat)
  case atStart => exact ⟨0, Nat.zero_le _, rfl, rfl, hrow0.congr (fun j _ => by simp [doneL]), hB0⟩
  case round =>
    obtain ⟨k, hk, rfl, rfl, hrow, hB⟩ := hrel
    clear hrow0 hB0
    have hpl := partsTo_le (openB sh) R k
    by_cases hkN : k < N
    · have ck := hrow.cell hkN
      have i1 : (0 : Int) ≤ (k : Int) := by omega
      have i2 : (k : Int) < (N : Int) := by omega
      by_cases hf : firstB (openB sh) R k = true
      · have hf' := hf
        rw [first_done] at hf'
        simp at hf'
        obtain ⟨h1, h2⟩ := hf'
        have h3 : sh k = false := by simpa [openB] using h1
        have HF : Hid _ := hf
        clear hf h1
        rw [h2] at ck
        rcases HSH.out k hkN with ⟨hts, b', rfl, c'⟩ | ⟨hts, _⟩
        · have l' := World.block_lt_of_cell? w _ c'
          rw [← hB.cell (by exact l'), h3] at c'
          have k1 : (k : Int) < (sn : Int) := by omega
          clear h2 h3
          go_wp2_with (first | (go_at_call 32; refine (reach_call N _ cap p _ (GridAt.below HG.out hB) hN hkN (ShutAt.below HS0.out hB)).mono ?_; rintro r wa ⟨bI, rfl, hbI, I, hrI, hI, hbA⟩) | go_in)
          have hrowA := hrow.block (hbA.block _ hrow.lt)
          have hBA := below_next hB hbA
          have hne : bI ≠ w.heap.size := by have := hrow.lt; omega
          have hIR : ∀ x, x < N → I x = R k x := fun x hx => by rw [Bool.eq_iff_iff, hI x hx, HR.out]
          have HIR : Hid _ := hIR
          clear hI hIR hrow hB hbA
          go_loopw [9] (fun i wr => ∃ t : Nat, t ≤ N ∧ i = .int .i64 (t : Int) ∧ RowB wr w.heap.size N (fun x => doneL (openB sh) R k x || (decide (x < t) && R k x)) ∧ RowB wr bI N I ∧ Below w.heap.size w wr) (fun i _ => N - (numOf i).toNat)
          case atStart => exact ⟨0, Nat.zero_le _, rfl, hrowA.congr (fun x _ => by simp), hrI, hBA⟩
          case round =>
            obtain ⟨t, ht, rfl, hrt, hrit, hBt⟩ := hrel
            clear hrowA hrI hBA
            by_cases htN : t < N
            · have ct := hrt.cell htN
              have cI := hrit.cell htN
              have ft := hrt.free t
              have et : (doneL (openB sh) R k t || (decide (t < t) && R k t)) = doneL (openB sh) R k t := by simp
              rw [et] at ct
              have j1 : (0 : Int) ≤ (t : Int) := by omega
              have j2 : (t : Int) < (N : Int) := by omega
              have hnx : ∀ b : Bool, b = (doneL (openB sh) R k t || I t) → RowB (wr.setCell ⟨w.heap.size, t, none⟩ (.bool b)) w.heap.size N (fun x => doneL (openB sh) R k x || (decide (x < t + 1) && R k x)) := fun b hb => (hrt.put t b).congr (fun x hx => by
                by_cases e : x = t
                · subst e; rw [if_pos rfl, hb, HIR.out x hx]; simp
                · rw [if_neg e]
                  have : decide (x < t + 1) = decide (x < t) := by rw [Bool.eq_iff_iff]; simp; omega
                  rw [this])
              have HNX : Hid _ := hnx
              clear hnx et
              by_cases hd : doneL (openB sh) R k t = true
              · rw [hd] at ct
                have HD : Hid _ := hd
                clear hd
                go_wp2
                go_roundw
                case rel => exact ⟨t + 1, by omega, by go_num, HNX.out true (by rw [HD.out]; rfl), hrit.turns (setCell_turns _ _ _ _) hne, hBt.setCell (Nat.le_refl _) _⟩
                case measure => simp [numOf]; omega
              · have hd' : doneL (openB sh) R k t = false := by simpa using hd
                rw [hd'] at ct
                have HD : Hid _ := hd'
                clear hd hd'
                go_wp2
                go_roundw
                case rel => exact ⟨t + 1, by omega, by go_num, HNX.out (I t) (by rw [HD.out]; rfl), hrit.turns (setCell_turns _ _ _ _) hne, hBt.setCell (Nat.le_refl _) _⟩
                case measure => simp [numOf]; omega
            · go_wp2
              go_roundw
              case rel =>
                have htE : t = N := by omega
                subst htE
                refine ⟨k + 1, by omega, by rw [partsTo_succ, if_pos HF.out]; go_num, by go_num, hrt.congr (fun x hx => ?_), hBt⟩
                have hL : openB sh k = true := (firstB_iff.1 HF.out).1
                rw [doneL_succ, hL]
                simp [hx]
              case measure => simp [numOf]; omega
        · have k1 : ¬ (k : Int) < (sn : Int) := by omega
          clear h2 h3
          go_wp2_with (first | (go_at_call 32; refine (reach_call N _ cap p _ (GridAt.below HG.out hB) hN hkN (ShutAt.below HS0.out hB)).mono ?_; rintro r wa ⟨bI, rfl, hbI, I, hrI, hI, hbA⟩) | go_in)
          have hrowA := hrow.block (hbA.block _ hrow.lt)
          have hBA := below_next hB hbA
          have hne : bI ≠ w.heap.size := by have := hrow.lt; omega
          have hIR : ∀ x, x < N → I x = R k x := fun x hx => by rw [Bool.eq_iff_iff, hI x hx, HR.out]
          have HIR : Hid _ := hIR
          clear hI hIR hrow hB hbA
          go_loopw [9] (fun i wr => ∃ t : Nat, t ≤ N ∧ i = .int .i64 (t : Int) ∧ RowB wr w.heap.size N (fun x => doneL (openB sh) R k x || (decide (x < t) && R k x)) ∧ RowB wr bI N I ∧ Below w.heap.size w wr) (fun i _ => N - (numOf i).toNat)
          case atStart => exact ⟨0, Nat.zero_le _, rfl, hrowA.congr (fun x _ => by simp), hrI, hBA⟩
          case round =>
            obtain ⟨t, ht, rfl, hrt, hrit, hBt⟩ := hrel
            clear hrowA hrI hBA
            by_cases htN : t < N
            · have ct := hrt.cell htN
              have cI := hrit.cell htN
              have ft := hrt.free t
              have et : (doneL (openB sh) R k t || (decide (t < t) && R k t)) = doneL (openB sh) R k t := by simp
              rw [et] at ct
              have j1 : (0 : Int) ≤ (t : Int) := by omega
              have j2 : (t : Int) < (N : Int) := by omega
              have hnx : ∀ b : Bool, b = (doneL (openB sh) R k t || I t) → RowB (wr.setCell ⟨w.heap.size, t, none⟩ (.bool b)) w.heap.size N (fun x => doneL (openB sh) R k x || (decide (x < t + 1) && R k x)) := fun b hb => (hrt.put t b).congr (fun x hx => by
                by_cases e : x = t
                · subst e; rw [if_pos rfl, hb, HIR.out x hx]; simp
                · rw [if_neg e]
                  have : decide (x < t + 1) = decide (x < t) := by rw [Bool.eq_iff_iff]; simp; omega
                  rw [this])
              have HNX : Hid _ := hnx
              clear hnx et
              by_cases hd : doneL (openB sh) R k t = true
              · rw [hd] at ct
                have HD : Hid _ := hd
                clear hd
                go_wp2
                go_roundw
                case rel => exact ⟨t + 1, by omega, by go_num, HNX.out true (by rw [HD.out]; rfl), hrit.turns (setCell_turns _ _ _ _) hne, hBt.setCell (Nat.le_refl _) _⟩
                case measure => simp [numOf]; omega
              · have hd' : doneL (openB sh) R k t = false := by simpa using hd
                rw [hd'] at ct
                have HD : Hid _ := hd'
                clear hd hd'
                go_wp2
                go_roundw
                case rel => exact ⟨t + 1, by omega, by go_num, HNX.out (I t) (by rw [HD.out]; rfl), hrit.turns (setCell_turns _ _ _ _) hne, hBt.setCell (Nat.le_refl _) _⟩
                case measure => simp [numOf]; omega
            · go_wp2
              go_roundw
              case rel =>
                have htE : t = N := by omega
                subst htE
                refine ⟨k + 1, by omega, by rw [partsTo_succ, if_pos HF.out]; go_num, by go_num, hrt.congr (fun x hx => ?_), hBt⟩
                have hL : openB sh k = true := (firstB_iff.1 HF.out).1
                rw [doneL_succ, hL]
                simp [hx]
              case measure => simp [numOf]; omega
      · have hf' : firstB (openB sh) R k = false := by simpa using hf
        have hrow' := hrow.congr (fun j _ => (doneL_skip HR.out hf' j).symm)
        have hp' : partsTo (openB sh) R (k + 1) = partsTo (openB sh) R k := by rw [partsTo_succ, if_neg hf]; rfl
        have HRW : Hid _ := hrow'
        have HPP : Hid _ := hp'
        clear hrow' hp'
        by_cases hd : doneL (openB sh) R k k = true
        · rw [hd] at ck
          clear hf hf' hd
          go_wp2
          go_roundw
          case rel => exact ⟨k + 1, by omega, by rw [HPP.out], by go_num, HRW.out, hB⟩
          case measure => simp [numOf]; omega
        · have hd' : doneL (openB sh) R k k = false := by simpa using hd
          have h4 : sh k = true := by
            rw [first_done, hd'] at hf'
            simpa [openB] using hf'
          rw [hd'] at ck
          rcases HSH.out k hkN with ⟨hts, b', rfl, c'⟩ | ⟨hts, h5⟩
          · have l' := World.block_lt_of_cell? w _ c'
            rw [← hB.cell (by exact l'), h4] at c'
            have k1 : (k : Int) < (sn : Int) := by omega
            clear hf hf' hd hd' h4
            go_wp2
            go_roundw
            case rel => exact ⟨k + 1, by omega, by rw [HPP.out], by go_num, HRW.out, hB⟩
            case measure => simp [numOf]; omega
          · rw [h4] at h5; cases h5
    · have : k = N := by omega
      subst this
      go_wp2
      go_ret
      exact ⟨rfl, hB⟩
end Go.Proofs.Ytmeodnkmhakidaa
