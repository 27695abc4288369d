/- oneMeets and twoCross. oneMeets. -/
import Derived.Test.YtnboonhlffkimaaGreatDoorPtW
import Derived.Test.YtnboonhlffkimaaGreatDoorTailM
namespace Go.Proofs.YtnboonhlffkimaaGreatDoor
set_option maxRecDepth 8000
open Go.RowKit Go.Maps
attribute [local go_sem ↓] Go.wp_at_zero Go.wp_at_succ
/-- An edge as a pair of numbers. -/
def eZ (e : Nat × Nat) : Pt := ((e.1 : Int), (e.2 : Int))
def mt1 (P : Nat → Pt) (v : Nat) (e : Nat × Nat) : Bool := !(decide (e.1 = v ∨ e.2 = v)) && onB (P e.1) (P e.2) (P v)
set_option maxHeartbeats 8000000 in
theorem meets1_call {w : World} {bv bp ba N cap v : Nat} {ao : Option Addr} {P : Nat → Pt} {e : Nat × Nat} (h1 : One w bv (.int .i64 (v : Int)) 3) (h2 : Two w bp (.int .i64 (P v).1) (.int .i64 (P v).2) 32) (h3 : One w ba (.slice ao N cap) 25) (hP : PF w ao N P) (hB : ∀ j, j < N → BdP (P j)) (hv : v < N) (he : e.1 < N ∧ e.2 < N) :
    Calls Tryz.prog 23 #[ptv (eZ e), ptr bv, ptr bp, ptr ba] w fun r w' => r = .returned (.bool (mt1 P v e)) ∧ Below w.heap.size w w' := by
  obtain ⟨x, y⟩ := e
  obtain ⟨hx, hy⟩ := he
  simp only at hx hy
  have C24 : Hid (∀ A : World, Calls Tryz.prog 24 #[.agg #[.int .i64 (x : Int), .int .i64 (y : Int)], .int .i64 (v : Int)] A fun e w' => e = .returned (.bool (decide ((x : Int) = v ∨ (y : Int) = v))) ∧ Below A.heap.size A w') := fun A => end_call _ _ _
  have C25 : Hid (∀ A : World, Calls Tryz.prog 25 #[ptv (P v), ptv (P x), ptv (P y)] A fun e w' => e = .returned (.bool (onB (P x) (P y) (P v))) ∧ Below A.heap.size A w') := fun A => on_call (hB v hv) (hB x hx) (hB y hy)
  obtain ⟨R, hR⟩ : ∃ R, R = mt1 P v (x, y) := ⟨_, rfl⟩
  have hdx : (decide ((x : Int) = v ∨ (y : Int) = v)) = decide (x = v ∨ y = v) := by
    rw [decide_eq_decide]; omega
  rw [hdx] at C24
  have HR : Hid (R = (!(decide (x = v ∨ y = v)) && onB (P x) (P y) (P v))) := hR
  rw [← hR]
  generalize onB (P x) (P y) (P v) = O at *
  generalize hD : decide (x = v ∨ y = v) = D at *
  obtain ⟨b, off, rfl, p0, p1⟩ := hP x hx
  obtain ⟨b', off', e', p2, p3⟩ := hP y hy
  cases e'
  have hB0 := below_alloc (Below.refl _ w) (Obj.cells #[.int .i64 (x : Int), .int .i64 (y : Int)] 38)
  have t4 := two_new w (.int .i64 (x : Int)) (.int .i64 (y : Int)) 38
  have u1 : One (w.alloc (Obj.cells #[.int .i64 (x : Int), .int .i64 (y : Int)] 38)) bv (.int .i64 (v : Int)) 3 := (hB0.block _ (lt_of_block h1)).trans h1
  have u2 := two_next h2 hB0
  have u3 : One (w.alloc (Obj.cells #[.int .i64 (x : Int), .int .i64 (y : Int)] 38)) ba (.slice (some ⟨b, off, none⟩) N cap) 25 := (hB0.block _ (lt_of_block h3)).trans h3
  have k : ∀ {a : Addr} {z : Value}, w.cell? a = some z → (w.alloc (Obj.cells #[.int .i64 (x : Int), .int .i64 (y : Int)] 38)).cell? a = some z := fun h => (hB0.cell (World.block_lt_of_cell? w _ h)).trans h
  replace p0 := k p0
  replace p1 := k p1
  replace p2 := k p2
  replace p3 := k p3
  clear k
  unfold ptv eZ at *
  simp only at *
  generalize (P x).1 = x1 at *
  generalize (P x).2 = x2 at *
  generalize (P y).1 = y1 at *
  generalize (P y).2 = y2 at *
  generalize (P v).1 = v1 at *
  generalize (P v).2 = v2 at *
  go_enter Tryz.func23, Tryz.ntmps23
  go_upto_region 1 with (fail)
  obtain ⟨b4, hb4⟩ : ∃ q, q = w.heap.size := ⟨_, rfl⟩
  rw [← hb4] at t4 ⊢
  generalize w.alloc (Obj.cells #[.int .i64 (x : Int), .int .i64 (y : Int)] 38) = W1 at *
  have HB0 : Hid (Below w.heap.size w W1) := hB0
  obtain ⟨c0, c1⟩ := cell_two t4
  have c2 := box_cell u1 (i := 0) rfl
  obtain ⟨c3, c4⟩ := cell_two u2
  have c5 := box_cell u3 (i := 0) rfl
  have i1 : (0 : Int) ≤ (x : Int) := by omega
  have i2 : (x : Int) < (N : Int) := by omega
  have i3 : (0 : Int) ≤ (y : Int) := by omega
  have i4 : (y : Int) < (N : Int) := by omega
  clear hB0 hb4 t4 u1 u2 u3 h1 h2 h3 hP hB hD hdx hR hv
  have g0 := cell_growD c0
  have g1 := cell_growD c1
  have g2 := cell_growD c2
  have g3 := cell_growD c3
  have g4 := cell_growD c4
  have g5 := cell_growD c5
  have g6 := cell_growD p0
  have g7 := cell_growD p1
  have g8 := cell_growD p2
  have g9 := cell_growD p3
  clear c0 c1 c2 c3 c4 c5 p0 p1 p2 p3
  cases D with
  | true =>
    have HR2 : Hid (R = false) := by show R = false; rw [HR.out]; rfl
    clear HR
    refine wp_region_below (by kernel_rfl) (by kernel_rfl) ?_
    repeat (go_big_quiet_step (first | (go_at_call 24; exact Calls.belowQ (fun W hW => C24.out W)) | (go_at_call 25; exact Calls.belowQ (fun W hW => C25.out W))))
    refine wpQuiet_nil ?_
    rintro _ ⟨gp, rfl⟩
    have HB8 : Hid (Below w.heap.size w (growD W1 gp)) := below_next HB0.out (growD_below W1 gp)
    clear g0 g1 g2 g3 g4 g5 g6 g7 g8 g9
    generalize growD W1 gp = w8 at *
    go_wp2
    go_ret
    exact ⟨by rw [HR2.out]; rfl, HB8.out⟩
  | false =>
    have HR2 : Hid (R = O) := by show R = O; rw [HR.out]; rfl
    clear HR
    refine wp_region_below (by kernel_rfl) (by kernel_rfl) ?_
    repeat (go_big_quiet_step (first | (go_at_call 24; exact Calls.belowQ (fun W hW => C24.out W)) | (go_at_call 25; exact Calls.belowQ (fun W hW => C25.out W))))
    refine wpQuiet_nil ?_
    rintro _ ⟨gp, rfl⟩
    have HB8 : Hid (Below w.heap.size w (growD W1 gp)) := below_next HB0.out (growD_below W1 gp)
    clear g0 g1 g2 g3 g4 g5 g6 g7 g8 g9
    generalize growD W1 gp = w8 at *
    go_wp2
    go_ret
    exact ⟨by rw [HR2.out]; rfl, HB8.out⟩
end Go.Proofs.YtnboonhlffkimaaGreatDoor

namespace Go.Proofs.YtnboonhlffkimaaGreatDoor
set_option maxRecDepth 8000
open Go.RowKit Go.Maps
attribute [local go_sem ↓] Go.wp_at_zero Go.wp_at_succ
/-- Node v meets one ahead of it, or an edge that is not its own. -/
def rowB (m : Nat) (G : Nat → Nat × Nat) (P : Nat → Pt) (v : Nat) : Bool := anyB v (fun k => samP (P v) (P k)) || anyB m (fun k => mt1 P v (G k))
set_option maxHeartbeats 16000000 in
theorem oneMeets_call {w : World} {eo ao : Option Addr} {m ec N ac : Nat} {P : Nat → Pt} {G : Nat → Nat × Nat} (hE : PF w eo m (fun k => eZ (G k))) (hP : PF w ao N P) (hB : ∀ j, j < N → BdP (P j)) (hG : ∀ k, k < m → (G k).1 < N ∧ (G k).2 < N) (hN : N ≤ 100) (hm : m ≤ 1000) (hac : N ≤ ac) :
    Calls Tryz.prog 14 #[.slice eo m ec, .slice ao N ac] w fun e w' => e = .returned (.bool (anyB N (rowB m G P))) ∧ Below w.heap.size w w' := by
  have HH : Hid (PF w eo m (fun k => eZ (G k)) ∧ PF w ao N P ∧ (∀ j, j < N → BdP (P j)) ∧ (∀ k, k < m → (G k).1 < N ∧ (G k).2 < N)) := ⟨hE, hP, hB, hG⟩
  obtain ⟨R, hR⟩ : ∃ R, R = anyB N (rowB m G P) := ⟨_, rfl⟩
  have HR : Hid (R = anyB N (rowB m G P)) := hR
  rw [← hR]
  clear hE hP hB hG hR
  go_enter Tryz.func14, Tryz.ntmps14
  go_upto_region 2 with (fail)
  have t1 : One (w.alloc (Obj.cells #[.slice ao N ac] 25)) w.heap.size (.slice ao N ac) 25 := heap_alloc_new _ _
  have hB0 := below_alloc (Below.refl _ w) (Obj.cells #[.slice ao N ac] 25)
  obtain ⟨b3, hb3⟩ : ∃ b, b = w.heap.size := ⟨_, rfl⟩
  rw [← hb3] at t1 ⊢
  generalize w.alloc (Obj.cells #[.slice ao N ac] 25) = W1 at *
  have HW : Hid (One W1 b3 (.slice ao N ac) 25 ∧ Below w.heap.size w W1) := ⟨t1, hB0⟩
  clear t1 hB0 hb3
  go_loopw [5, 6, 7, 10] (fun _ _ _ s10 wz => ∃ k : Nat, k ≤ N ∧ s10 = .int .i64 (k : Int) ∧ Hid ((∀ j, j < k → rowB m G P j = false) ∧ Below W1.heap.size W1 wz)) (fun _ _ _ s10 _ => N - (numOf s10).toNat)
  case atStart => exact ⟨0, Nat.zero_le _, rfl, fun j hj => by omega, Below.refl _ _⟩
  case round =>
    obtain ⟨v, hv, rfl, hJ⟩ := hrel
    by_cases hlt : v < N
    · have hBw : Below w.heap.size w wr := below_next HW.out.2 hJ.out.2
      obtain ⟨b, off, hao, c0, c1⟩ := HH.out.2.1.below hBw v hlt
      subst hao
      have i1 : (0 : Int) ≤ (v : Int) := by omega
      have i2 : (v : Int) < (N : Int) := by omega
      obtain ⟨v1, hv1⟩ : ∃ x, x = (P v).1 := ⟨_, rfl⟩
      obtain ⟨v2, hv2⟩ : ∃ x, x = (P v).2 := ⟨_, rfl⟩
      rw [← hv1] at c0
      rw [← hv2] at c1
      have HV : Hid (v1 = (P v).1 ∧ v2 = (P v).2) := ⟨hv1, hv2⟩
      clear hv1 hv2 hBw
      go_upto_region 4 with (fail)
      have hB4 : Below wr.heap.size wr ((wr.alloc (Obj.cells #[.int .i64 (v : Int)] 3)).alloc (Obj.cells #[.int .i64 v1, .int .i64 v2] 32)) := below_alloc (below_alloc (Below.refl _ wr) _) _
      have o5 : One ((wr.alloc (Obj.cells #[.int .i64 (v : Int)] 3)).alloc (Obj.cells #[.int .i64 v1, .int .i64 v2] 32)) wr.heap.size (.int .i64 (v : Int)) 3 := (Below.heap_alloc _ _ _ (lt_of_block (heap_alloc_new _ _))).trans (heap_alloc_new _ _)
      have o6 : Two ((wr.alloc (Obj.cells #[.int .i64 (v : Int)] 3)).alloc (Obj.cells #[.int .i64 v1, .int .i64 v2] 32)) (wr.heap.size + 1) (.int .i64 v1) (.int .i64 v2) 32 := two_nxt _ _ _ _ _
      obtain ⟨b5, hb5⟩ : ∃ q, q = wr.heap.size := ⟨_, rfl⟩
      obtain ⟨b6, hb6⟩ : ∃ q, q = wr.heap.size + 1 := ⟨_, rfl⟩
      rw [← hb6] at o6 ⊢
      rw [← hb5] at o5 ⊢
      generalize (wr.alloc (Obj.cells #[.int .i64 (v : Int)] 3)).alloc (Obj.cells #[.int .i64 v1, .int .i64 v2] 32) = W4 at *
      have HW4 : Hid (∀ A, Below W4.heap.size W4 A → One A b5 (.int .i64 (v : Int)) 3 ∧ Two A b6 (.int .i64 v1) (.int .i64 v2) 32 ∧ One A b3 (.slice (some ⟨b, off, none⟩) N ac) 25 ∧ Below w.heap.size w A ∧ Below W1.heap.size W1 A) := fun A hA => by
        have q := below_next hJ.out.2 (below_next hB4 hA)
        exact ⟨(hA.block _ (lt_of_block o5)).trans o5, two_next o6 hA, (q.block _ (lt_of_block HW.out.1)).trans HW.out.1, below_next HW.out.2 q, q⟩
      clear hb5 hb6 hB4 o5 o6 c0 c1
      obtain ⟨o5, o6, o3, _, _⟩ := HW4.out _ (Below.refl _ _)
      have g0 := cell_growD (box_cell o5 (i := 0) rfl)
      have g1 := cell_growD (cell_two o6).1
      have g2 := cell_growD (cell_two o6).2
      have g3 := cell_growD (box_cell o3 (i := 0) rfl)
      clear o5 o6 o3
      obtain ⟨r1, hr1⟩ : ∃ r, r = anyB v (fun k => samP (P v) (P k)) := ⟨_, rfl⟩
      obtain ⟨r2, hr2⟩ : ∃ r, r = anyB m (fun k => mt1 P v (G k)) := ⟨_, rfl⟩
      have HRO : Hid (rowB m G P v = (r1 || r2)) := by show rowB m G P v = _; rw [hr1, hr2]; rfl
      have C22 : Hid (∀ A, Below W4.heap.size W4 A → Calls Tryz.prog 22 #[.slice (some ⟨b, off, none⟩) v ac, .agg #[.int .i64 v1, .int .i64 v2]] A fun e w' => e = .returned (.bool r1) ∧ Below A.heap.size A w') := fun A hA => by
        have h := containsP_call (vc := ac) (p := P v) ((HH.out.2.1.below (HW4.out A hA).2.2.2.1).less (by omega : v ≤ N)) (by omega)
        rw [← hr1] at h
        unfold ptv at h
        rw [← HV.out.1, ← HV.out.2] at h
        exact h
      have C26 : Hid (∀ A, Below W4.heap.size W4 A → Calls Tryz.prog 26 #[.slice eo m ec, .func (.func 23) #[] #[ptr b5, ptr b6, ptr b3]] A fun e w' => e = .returned (.bool r2) ∧ Below A.heap.size A w') := fun A hA => by
        rw [hr2]
        refine containsE23_call (HH.out.1.below (HW4.out A hA).2.2.2.1) (by omega) (fun A' k hA' hk => ?_)
        obtain ⟨q1, q2, q3, q4, _⟩ := HW4.out A' (below_next hA hA')
        exact meets1_call q1 (by rw [← HV.out.1, ← HV.out.2]; exact q2) q3 (HH.out.2.1.below q4) HH.out.2.2.1 hlt (HH.out.2.2.2 k hk)
      have i3 : (v : Int) ≤ (ac : Int) := by omega
      clear hr1 hr2
      refine wp_region_below (by kernel_rfl) (by kernel_rfl) ?_
      repeat (go_big_quiet_step (first | (go_at_call 22; exact Calls.belowQ (fun W hW => C22.out W hW))))
      refine wpQuiet_nil ?_
      rintro _ ⟨gp, rfl⟩
      have HB8 : Hid (Below W4.heap.size W4 (growD W4 gp)) := growD_below W4 gp
      clear g0 g1 g2 g3 C22
      generalize growD W4 gp = w8 at *
      cases r1 with
      | true =>
        go_wp2
        go_ret
        refine ⟨?_, (HW4.out _ HB8.out).2.2.2.1⟩
        have : R = true := by rw [HR.out]; exact anyB_iff.2 ⟨v, hlt, by rw [HRO.out]; rfl⟩
        rw [this]; rfl
      | false =>
        have C26' : Hid _ := C26.out w8 HB8.out
        cases r2 with
        | true =>
          go_wp2_with (first | (go_at_call 26; refine Calls.mono C26'.out ?_; rintro e w9 ⟨rfl, h9⟩) | fail)
          go_ret
          refine ⟨?_, (HW4.out _ (below_next HB8.out h9)).2.2.2.1⟩
          have : R = true := by rw [HR.out]; exact anyB_iff.2 ⟨v, hlt, by rw [HRO.out]; rfl⟩
          rw [this]; rfl
        | false =>
          go_wp2_with (first | (go_at_call 26; refine Calls.mono C26'.out ?_; rintro e w9 ⟨rfl, h9⟩) | fail)
          go_roundw
          case rel => exact ⟨v + 1, by omega, by go_num, fun j hj => by
            by_cases e : j = v
            · subst e; exact HRO.out
            · exact hJ.out.1 j (by omega), (HW4.out _ (below_next HB8.out h9)).2.2.2.2⟩
          case measure => simp [numOf]; omega
    · obtain rfl : v = N := by omega
      go_wp2
      go_ret
      refine ⟨?_, below_next HW.out.2 hJ.out.2⟩
      have : R = false := by
        rw [HR.out, Bool.eq_false_iff]
        intro h
        obtain ⟨j, hj, hq⟩ := anyB_iff.1 h
        rw [hJ.out.1 j hj] at hq
        cases hq
      rw [this]
      rfl
end Go.Proofs.YtnboonhlffkimaaGreatDoor
