/- The document's Shut and Cuts. -/
import Derived.Test.YtgepibidhebbiabRefComps
namespace Go.Proofs.Ytgepibidhebbiab
open Go.RowKit Go.Maps
attribute [local go_sem ↓] Go.wp_at_zero Go.wp_at_succ

theorem open_one (x : Nat) : openB (fun j => j == x) = notB x := by funext y; rfl

set_option maxHeartbeats 400000 in
theorem shut_call (N : Nat) {v : Nat} (w : World) (hN : N ≤ 100) (hv : v < N) :
    Calls Try.prog 43 #[.int .i64 (N : Int), .int .i64 (v : Int)] w fun r w' => ∃ b, r = .returned (.slice (some ⟨b, 0, none⟩) N N) ∧ RowB w' b N (fun j => j == v) ∧ Below w.heap.size w w' := by
  obtain ⟨i0, hi, hz0, hz1, hz2⟩ := info_parts Try.info4
  go_enter Try.func43, Try.ntmps43
  go_upto_region 2 with (first | (at_make; refine wpList_make_full _ rfl _ _ 61 rfl w.heap.size 4 i0 (.bool false) 1 Try.underlying61 hi hz0 hz1 .i64 .i64 _ _ N rfl rfl rfl rfl ?_ ?_ ?_ ?_; (rw [hz2]; omega); (unfold maxLen; omega); (omega); intro W1 hmade hg1) | go_in)
  have hrow0 := rowB_made hmade
  have hB1 : Below w.heap.size w W1 := (Below.refl _ _).grown hg1 (Nat.le_refl _) (fun k hk => by cases hk)
  have c0 := hrow0.cell hv
  have f0 := hrow0.free v
  have i1 : (0 : Int) ≤ (v : Int) := by omega
  have i2 : (v : Int) < (N : Int) := by omega
  clear hmade hg1
  go_wp2
  go_ret
  exact ⟨_, rfl, (hrow0.set v).congr (fun j _ => by simp), hB1.setCell (Nat.le_refl _) _⟩

def refCutsTo (N : Nat) (R : Nat → Nat → Bool) (Rx : Nat → Nat → Nat → Bool) (k : Nat) : List Nat := (List.range k).filter fun x => decide (partsN N allB R < partsN N (notB x) (Rx x))
theorem refCutsTo_succ (N : Nat) (R : Nat → Nat → Bool) (Rx : Nat → Nat → Nat → Bool) (k : Nat) : refCutsTo N R Rx (k + 1) = refCutsTo N R Rx k ++ (if partsN N allB R < partsN N (notB k) (Rx k) then [k] else []) := by
  unfold refCutsTo
  rw [List.range_succ, List.filter_append]
  congr 1
  by_cases h : partsN N allB R < partsN N (notB k) (Rx k) <;> simp [h]
theorem refCutsTo_le (N : Nat) (R : Nat → Nat → Bool) (Rx : Nat → Nat → Nat → Bool) (k : Nat) : (refCutsTo N R Rx k).length ≤ k := Nat.le_trans (List.length_filter_le _ _) (by simp)
theorem partsN_le (N : Nat) (L : Nat → Bool) (R : Nat → Nat → Bool) : partsN N L R ≤ N := partsTo_le L R N

set_option maxHeartbeats 2000000 in
theorem refCuts_call (N : Nat) (ao : Option Addr) (cap : Nat) (p : Int → Int → Bool) (w : World) (hG : GridAt w (.slice ao N cap) N p) (hN : N ≤ 100) (R : Nat → Nat → Bool) (hR : ∀ v x, R v x = true ↔ Star (St N (pn p) allB) v x) (Rx : Nat → Nat → Nat → Bool) (hRx : ∀ y v x, Rx y v x = true ↔ Star (St N (pn p) (notB y)) v x) :
    Calls Try.prog 21 #[.slice ao N cap] w fun r w' => ∃ v, r = .returned v ∧ w'.ownsRow w.heap.size 3 1 v (refCutsTo N R Rx N).length (qv (refCutsTo N R Rx N)) ∧ Below w.heap.size w w' := by
  obtain ⟨iI, hiI, hx0, hx1, hx2⟩ := info_parts Try.info3
  have HG : Hid _ := hG
  have HR : Hid _ := hR
  have HX : Hid _ := hRx
  clear hG hR hRx
  go_enter Try.func21, Try.ntmps21
  go_wp2
  go_loopw [3, 4] (fun v i wr => ∃ k : Nat, k ≤ N ∧ i = .int .i64 (k : Int) ∧ wr.ownsRow w.heap.size 3 1 v (refCutsTo N R Rx k).length (qv (refCutsTo N R Rx k)) ∧ Below w.heap.size w wr) (fun _ i _ => N - (numOf i).toNat)
  case atStart => exact ⟨0, Nat.zero_le _, rfl, by simpa [refCutsTo, qv] using World.ownsRow_nil _ _ _ _, Below.refl _ _⟩
  case round =>
    obtain ⟨k, hk, rfl, hown, hB⟩ := hrel
    obtain ⟨vo, vc, rfl⟩ := form_row hown
    have hle := refCutsTo_le N R Rx k
    by_cases hkN : k < N
    · have e1 := partsN_le N allB R
      have e2 := partsN_le N (notB k) (Rx k)
      obtain ⟨pa, hpa⟩ : ∃ pa, pa = partsN N allB R := ⟨_, rfl⟩
      obtain ⟨pb, hpb⟩ : ∃ pb, pb = partsN N (notB k) (Rx k) := ⟨_, rfl⟩
      rw [← hpa] at e1
      rw [← hpb] at e2
      have HPA : Hid _ := hpa
      have HPB : Hid _ := hpb
      clear hpa hpb
      by_cases hcut : pa < pb
      · have hc' : (pa : Int) < (pb : Int) := by omega
        go_wp2_with (first
          | (go_at_call 43; refine (shut_call N _ hN hkN).mono ?_; rintro r wa ⟨bs, rfl, hrs, hbA⟩; have hBA := below_next hB hbA)
          | (go_at_call 42; (fail_if_success (have hh := hbBB)); refine (parts_call N _ cap p _ (GridAt.below HG.out hBA) hN (shutAt_row hrs (by omega)) (Rx k) (by rw [open_one]; exact HX.out k)).mono ?_; rintro r wb ⟨rfl, hbBB⟩; rw [open_one, ← HPB.out]; have hBB := below_next hBA hbBB)
          | (go_at_call 42; refine (parts_call N _ cap p _ (GridAt.below HG.out hBB) hN (shutAt_nil _ N) R (by rw [open_none]; exact HR.out)).mono ?_; rintro r wc ⟨rfl, hbC⟩; rw [open_none, ← HPA.out]; have hBC := below_next hBB hbC; have hownC := ownsRow_blocks hown (w' := wc) (fun b hb => (hbC.block b (by have := (hown.lt b hb).2; have := hbA.size; have := hbBB.size; omega)).trans ((hbBB.block b (by have := (hown.lt b hb).2; have := hbA.size; omega)).trans (hbA.block b (hown.lt b hb).2))))
          | (at_builtin; refine wpList_append_own _ rfl _ _ 34 rfl w.heap.size 3 iI (.int .i64 0) 1 8 Try.underlying34 hiI hx0 hx1 hx2 rfl (by decide) _ _ _ rfl (hownC.alloc _) ⟨wc.heap.size, 0, none⟩ 1 1 [.int .i64 (k : Int)] rfl rfl ?n1 ?n2 ?n3 ?n4 ?n5 ?_)
          | go_in)
        case n1 => exact cell_one_new _ _ _
        case n2 => first | rfl | (intro y hy; simp at hy; subst hy; rfl)
        case n3 => unfold maxLen; omega
        case n4 => omega
        case n5 => have := hBC.size; simp; omega
        intro v' w3 hown' hgrow _
        have hB5 := (hBC.alloc hBC.size _).grown hgrow (by have := hBC.size; simp; omega) (fun k hk => (hown.lt k hk).1)
        clear hgrow
        go_wp2
        go_roundw
        case rel => exact ⟨k + 1, by omega, by go_num, by rw [refCutsTo_succ, ← HPA.out, ← HPB.out, if_pos hcut]; simpa [qv] using hown', hB5⟩
        case measure => simp [numOf]; omega
      · have hc' : ¬ (pa : Int) < (pb : Int) := by omega
        go_wp2_with (first
          | (go_at_call 43; refine (shut_call N _ hN hkN).mono ?_; rintro r wa ⟨bs, rfl, hrs, hbA⟩; have hBA := below_next hB hbA)
          | (go_at_call 42; (fail_if_success (have hh := hbBB)); refine (parts_call N _ cap p _ (GridAt.below HG.out hBA) hN (shutAt_row hrs (by omega)) (Rx k) (by rw [open_one]; exact HX.out k)).mono ?_; rintro r wb ⟨rfl, hbBB⟩; rw [open_one, ← HPB.out]; have hBB := below_next hBA hbBB)
          | (go_at_call 42; refine (parts_call N _ cap p _ (GridAt.below HG.out hBB) hN (shutAt_nil _ N) R (by rw [open_none]; exact HR.out)).mono ?_; rintro r wc ⟨rfl, hbC⟩; rw [open_none, ← HPA.out]; have hBC := below_next hBB hbC; have hownC := ownsRow_blocks hown (w' := wc) (fun b hb => (hbC.block b (by have := (hown.lt b hb).2; have := hbA.size; have := hbBB.size; omega)).trans ((hbBB.block b (by have := (hown.lt b hb).2; have := hbA.size; omega)).trans (hbA.block b (hown.lt b hb).2))))
          | go_in)
        go_roundw
        case rel => exact ⟨k + 1, by omega, by go_num, by rw [refCutsTo_succ, ← HPA.out, ← HPB.out, if_neg hcut, List.append_nil]; exact hownC, hBC⟩
        case measure => simp [numOf]; omega
    · have : k = N := by omega
      subst this
      go_wp2
      go_ret
      exact ⟨_, rfl, hown, hB⟩
end Go.Proofs.Ytgepibidhebbiab
