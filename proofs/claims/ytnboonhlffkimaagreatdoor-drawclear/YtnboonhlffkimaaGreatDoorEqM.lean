/- The document's own clear drawings: R.ClearDrawing. What the program asks of a drawing is what the document asks. -/
import Derived.Test.YtnboonhlffkimaaGreatDoorClrW
import Derived.Test.YtnboonhlffkimaaGreatDoorMeetW
namespace Go.Proofs.YtnboonhlffkimaaGreatDoor
set_option maxRecDepth 8000
open Go.RowKit Go.Maps
attribute [local go_sem ↓] Go.wp_at_zero Go.wp_at_succ
/-- Two edges apart that meet. -/
def mtE (P : Nat → Pt) (e d : Nat × Nat) : Bool := decide (e.1 ≠ d.1) && (decide (e.1 ≠ d.2) && (decide (e.2 ≠ d.1) && (decide (e.2 ≠ d.2) && meetB (P e.1) (P e.2) (P d.1) (P d.2))))
def mtX (G : Nat → Nat × Nat) (P : Nat → Pt) (i : Nat) : Bool := anyB i (fun j => mtE P (G i) (G j))
def refB (N : Nat) (es : List Pair) (P : Nat → Pt) : Bool := !(anyB N (rowB es.length (gE es) P)) && !(anyB es.length (mtX (gE es) P))
theorem anyB_false {n : Nat} {q : Nat → Bool} (h : ∀ j, j < n → q j = false) : anyB n q = false := by
  rw [Bool.eq_false_iff]
  intro hh
  obtain ⟨j, hj, hq⟩ := anyB_iff.1 hh
  rw [h j hj] at hq
  cases hq
theorem anyB_none {n : Nat} {q : Nat → Bool} (h : anyB n q = false) : ∀ j, j < n → q j = false := fun j hj => by
  rw [Bool.eq_false_iff]
  intro hq
  rw [anyB_iff.2 ⟨j, hj, hq⟩] at h
  cases h
set_option maxHeartbeats 32000000 in
theorem refClear_call {w : World} {N : Nat} {eo ao : Option Addr} {ec ac : Nat} {es : List Pair} {P : Nat → Pt} (hE : EdgesAt w (.slice eo es.length ec) es) (hg : ∀ e ∈ es, (0 ≤ e.1 ∧ e.1 < (N : Int) ∧ 0 ≤ e.2 ∧ e.2 < (N : Int)) ∧ e.1 ≠ e.2) (hP : PF w ao N P) (hB : ∀ j, j < N → BdP (P j)) (hN : N ≤ 100) (hm : es.length ≤ 1000) :
    Calls Tryz.prog 10 #[.agg #[.int .i64 (N : Int), .slice eo es.length ec], .slice ao N ac] w fun e w' => e = .returned (.bool (refB N es P)) ∧ Below w.heap.size w w' := by
  obtain ⟨G, hG⟩ : ∃ G, G = gE es := ⟨_, rfl⟩
  obtain ⟨m, hmm⟩ : ∃ m, m = es.length := ⟨_, rfl⟩
  obtain ⟨R, hR⟩ : ∃ R, R = refB N es P := ⟨_, rfl⟩
  have hPF := PF.gE rfl hE hg
  have hgl := gE_lt hg
  rw [← hG, ← hmm] at hPF hgl
  rw [← hmm] at hm
  have HR : Hid (R = (!(anyB N (rowB m G P)) && !(anyB m (mtX G P)))) := by show R = _; rw [hR, hG, hmm]; rfl
  have HH : Hid (PF w eo m (fun k => eZ (G k)) ∧ PF w ao N P ∧ (∀ j, j < N → BdP (P j)) ∧ (∀ k, k < m → (G k).1 < N ∧ (G k).2 < N)) := ⟨hPF, hP, hB, fun k hk => ⟨(hgl k hk).1, (hgl k hk).2.1⟩⟩
  have HEQ : Hid (∀ a b c d w, (binOp .eql 32 (.agg #[.int .i64 a, .int .i64 b]) (.agg #[.int .i64 c, .int .i64 d])).run Tryz.prog w = .ok (.bool (samP (a, b) (c, d))) w) := fun a b c d w => eql32 a b c d w
  rw [← hR, ← hmm]
  clear hE hg hP hB hPF hgl hG hmm hR
  go_enter Tryz.func10, Tryz.ntmps10
  go_upto_region 2 with (fail)
  have t2 := two_new w (.int .i64 (N : Int)) (.slice eo m ec) 24
  have hB0 := below_alloc (Below.refl _ w) (Obj.cells #[.int .i64 (N : Int), .slice eo m ec] 24)
  obtain ⟨b2, hb2⟩ : ∃ b, b = w.heap.size := ⟨_, rfl⟩
  rw [← hb2] at t2 ⊢
  generalize w.alloc (Obj.cells #[.int .i64 (N : Int), .slice eo m ec] 24) = W1 at *
  have HW : Hid (∀ A, Below W1.heap.size W1 A → Two A b2 (.int .i64 (N : Int)) (.slice eo m ec) 24 ∧ Below w.heap.size w A) := fun A hA => ⟨two_next t2 hA, below_next hB0 hA⟩
  clear t2 hB0 hb2
  go_loopw [5, 6, 7, 8] (fun s5 _ _ _ wz => ∃ i : Nat, i ≤ N ∧ s5 = .int .i64 (i : Int) ∧ Hid ((∀ v, v < i → rowB m G P v = false) ∧ Below W1.heap.size W1 wz)) (fun s5 _ _ _ _ => N - (numOf s5).toNat)
  case atStart => exact ⟨0, Nat.zero_le _, rfl, fun j hj => by omega, Below.refl _ _⟩
  case round =>
    obtain ⟨i, hi, rfl, hJ⟩ := hrel
    obtain ⟨c0, c1⟩ := cell_two (HW.out _ hJ.out.2).1
    by_cases hlt : i < N
    · have ii1 : (0 : Int) ≤ (i : Int) := by omega
      have ii2 : (i : Int) < (N : Int) := by omega
      obtain ⟨bp, offp, hao, _, _⟩ := HH.out.2.1 i hlt
      subst hao
      obtain ⟨i1, hi1⟩ : ∃ x, x = (P i).1 := ⟨_, rfl⟩
      obtain ⟨i2, hi2⟩ : ∃ x, x = (P i).2 := ⟨_, rfl⟩
      have HPI : Hid (i1 = (P i).1 ∧ i2 = (P i).2) := ⟨hi1, hi2⟩
      have HCI : Hid (∀ A, Below W1.heap.size W1 A → A.cell? ⟨bp, offp + i * 2, none⟩ = some (.int .i64 i1) ∧ A.cell? ⟨bp, offp + i * 2 + 1, none⟩ = some (.int .i64 i2)) := fun A hA => by
        obtain ⟨b, off, e, q0, q1⟩ := HH.out.2.1.below (HW.out A hA).2 i hlt
        cases e
        rw [hi1, hi2]
        exact ⟨q0, q1⟩
      clear hi1 hi2
      go_upto_region 5 with (fail)
      clear c0 c1
      go_loopw [6] (fun s6 wz => ∃ j : Nat, j ≤ i ∧ s6 = .int .i64 (j : Int) ∧ Hid ((∀ v, v < j → samP (P i) (P v) = false) ∧ Below W1.heap.size W1 wz)) (fun s6 _ => i - (numOf s6).toNat)
      case atStart => exact ⟨0, Nat.zero_le _, rfl, fun j hj => by omega, hJ.out.2⟩
      case round =>
        obtain ⟨j, hj, rfl, hK⟩ := hrel
        by_cases hji : j < i
        · have jj1 : (0 : Int) ≤ (j : Int) := by omega
          have jj2 : (j : Int) < (i : Int) := by omega
          have jj3 : (j : Int) < (N : Int) := by omega
          obtain ⟨b, off, e, q2, q3⟩ := HH.out.2.1.below (HW.out _ hK.out.2).2 j (by omega)
          cases e
          obtain ⟨q0, q1⟩ := HCI.out _ hK.out.2
          obtain ⟨j1, hj1⟩ : ∃ x, x = (P j).1 := ⟨_, rfl⟩
          obtain ⟨j2, hj2⟩ : ∃ x, x = (P j).2 := ⟨_, rfl⟩
          rw [← hj1] at q2
          rw [← hj2] at q3
          have hq := HEQ.out i1 i2 j1 j2
          obtain ⟨t, ht⟩ : ∃ t, t = samP (i1, i2) (j1, j2) := ⟨_, rfl⟩
          rw [← ht] at hq
          have HT : Hid (samP (P i) (P j) = t) := by show samP (P i) (P j) = t; rw [ht, HPI.out.1, HPI.out.2, hj1, hj2]
          clear ht hj1 hj2
          go_upto_region 7 with (fail)
          have g0 := cell_growD q0
          have g1 := cell_growD q1
          have g2 := cell_growD q2
          have g3 := cell_growD q3
          clear q0 q1 q2 q3
          refine wp_region_below (by kernel_rfl) (by kernel_rfl) ?_
          repeat (go_big_quiet_step (fail))
          refine wpQuiet_nil ?_
          rintro _ ⟨gp, rfl⟩
          have HB8 : Hid (Below W1.heap.size W1 (growD wr gp)) := below_next hK.out.2 (growD_below wr gp)
          clear g0 g1 g2 g3 hq
          generalize growD wr gp = w8 at *
          cases t with
          | true =>
            have HR2 : Hid (R = false) := by
              show R = false
              rw [HR.out, anyB_iff.2 ⟨i, hlt, by unfold rowB; rw [anyB_iff.2 ⟨j, hji, HT.out⟩]; rfl⟩]; rfl
            go_wp2
            go_ret
            exact ⟨by rw [HR2.out]; rfl, (HW.out _ HB8.out).2⟩
          | false =>
            go_wp2
            go_roundw
            case rel => exact ⟨j + 1, by omega, by go_num, fun v hv => by
              by_cases e : v = j
              · subst e; exact HT.out
              · exact hK.out.1 v (by omega), HB8.out⟩
            case measure => simp [numOf]; omega
        · obtain rfl : j = i := by omega
          have jn : ¬ (j : Int) < (j : Int) := by omega
          have HS : Hid (anyB j (fun k => samP (P j) (P k)) = false) := anyB_false hK.out.1
          go_upto_region 10 with (fail)
          go_loopw [7, 8] (fun s7 _ wz => ∃ k : Nat, k ≤ m ∧ s7 = .int .i64 (k : Int) ∧ Hid ((∀ v, v < k → mt1 P j (G v) = false) ∧ Below W1.heap.size W1 wz)) (fun s7 _ _ => m - (numOf s7).toNat)
          case atStart => exact ⟨0, Nat.zero_le _, rfl, fun j hj => by omega, hK.out.2⟩
          case round =>
            obtain ⟨k, hk, rfl, hL⟩ := hrel
            obtain ⟨c0, c1⟩ := cell_two (HW.out _ hL.out.2).1
            by_cases hkm : k < m
            · have kk1 : (0 : Int) ≤ (k : Int) := by omega
              have kk2 : (k : Int) < (m : Int) := by omega
              obtain ⟨b9, off9, hao, q2, q3⟩ := HH.out.1.below (HW.out _ hL.out.2).2 k hkm
              subst hao
              obtain ⟨hx, hy⟩ := HH.out.2.2.2 k hkm
              obtain ⟨x, hxe⟩ : ∃ x, x = (G k).1 := ⟨_, rfl⟩
              obtain ⟨y, hye⟩ : ∃ y, y = (G k).2 := ⟨_, rfl⟩
              rw [← hxe] at hx
              rw [← hye] at hy
              have q2' : wr.cell? ⟨b9, off9 + k * 2, none⟩ = some (.int .i64 (x : Int)) := by rw [hxe]; exact q2
              have q3' : wr.cell? ⟨b9, off9 + k * 2 + 1, none⟩ = some (.int .i64 (y : Int)) := by rw [hye]; exact q3
              have HG : Hid (G k = (x, y)) := by show G k = _; rw [hxe, hye]
              clear q2 q3 hxe hye
              go_upto_region 13 with (fail)
              have t8 := two_new wr (.int .i64 (x : Int)) (.int .i64 (y : Int)) 38
              have hB8 := below_next hL.out.2 (below_alloc (Below.refl _ wr) (Obj.cells #[.int .i64 (x : Int), .int .i64 (y : Int)] 38))
              generalize wr.heap.size = b8 at t8 ⊢
              generalize wr.alloc (Obj.cells #[.int .i64 (x : Int), .int .i64 (y : Int)] 38) = W8 at *
              have HW8 : Hid (Below W1.heap.size W1 W8) := hB8
              obtain ⟨z0, z1⟩ := cell_two t8
              obtain ⟨bx, ox, e, z2, z3⟩ := HH.out.2.1.below (HW.out _ hB8).2 x hx
              cases e
              obtain ⟨by_, oy, e, z4, z5⟩ := HH.out.2.1.below (HW.out _ hB8).2 y hy
              cases e
              obtain ⟨z6, z7⟩ := HCI.out _ hB8
              have C19 : Hid (∀ A : World, Calls Tryz.prog 19 #[ptv (P x), ptv (P y), ptv (P j)] A fun e w' => e = .returned (.bool (onB (P x) (P y) (P j))) ∧ Below A.heap.size A w') := fun A => line_call (HH.out.2.2.1 x hx) (HH.out.2.2.1 y hy) (HH.out.2.2.1 j hlt)
              obtain ⟨O, hO⟩ : ∃ O, O = onB (P x) (P y) (P j) := ⟨_, rfl⟩
              have HMT : Hid (mt1 P j (G k) = (!(decide (x = j ∨ y = j)) && O)) := by show mt1 P j (G k) = _; rw [HG.out, hO]; rfl
              rw [← hO] at C19
              unfold ptv at C19
              rw [← HPI.out.1, ← HPI.out.2] at C19
              generalize (P x).1 = x1 at *
              generalize (P x).2 = x2 at *
              generalize (P y).1 = y1 at *
              generalize (P y).2 = y2 at *
              have n1 : (0 : Int) ≤ (x : Int) := by omega
              have n2 : (x : Int) < (N : Int) := by omega
              have n3 : (0 : Int) ≤ (y : Int) := by omega
              have n4 : (y : Int) < (N : Int) := by omega
              clear hO t8 hB8 q2' q3' c0 c1
              have g0 := cell_growD z0
              have g1 := cell_growD z1
              have g2 := cell_growD z2
              have g3 := cell_growD z3
              have g4 := cell_growD z4
              have g5 := cell_growD z5
              have g6 := cell_growD z6
              have g7 := cell_growD z7
              clear z0 z1 z2 z3 z4 z5 z6 z7
              by_cases hxj : x = j
              · have e1 : ((x : Int) != (j : Int)) = false := by simp; omega
                have HM2 : Hid (mt1 P j (G k) = false) := by show mt1 P j (G k) = false; rw [HMT.out]; simp [hxj]
                clear HMT hxj
                refine wp_region_below (by kernel_rfl) (by kernel_rfl) ?_
                repeat (go_big_quiet_step (fail))
                refine wpQuiet_nil ?_
                rintro _ ⟨gp, rfl⟩
                have HB9 : Hid (Below W1.heap.size W1 (growD W8 gp)) := below_next HW8.out (growD_below W8 gp)
                clear g0 g1 g2 g3 g4 g5 g6 g7 C19
                generalize growD W8 gp = w9 at *
                go_wp2
                go_roundw
                case rel => exact ⟨k + 1, by omega, by go_num, fun v hv => by
                  by_cases e : v = k
                  · subst e; exact HM2.out
                  · exact hL.out.1 v (by omega), HB9.out⟩
                case measure => simp [numOf]; omega
              · have e1 : ((x : Int) != (j : Int)) = true := by simp; omega
                by_cases hyj : y = j
                · have e2 : ((y : Int) != (j : Int)) = false := by simp; omega
                  have HM2 : Hid (mt1 P j (G k) = false) := by show mt1 P j (G k) = false; rw [HMT.out]; simp [hyj]
                  clear HMT hxj hyj
                  refine wp_region_below (by kernel_rfl) (by kernel_rfl) ?_
                  repeat (go_big_quiet_step (fail))
                  refine wpQuiet_nil ?_
                  rintro _ ⟨gp, rfl⟩
                  have HB9 : Hid (Below W1.heap.size W1 (growD W8 gp)) := below_next HW8.out (growD_below W8 gp)
                  clear g0 g1 g2 g3 g4 g5 g6 g7 C19
                  generalize growD W8 gp = w9 at *
                  go_wp2
                  go_roundw
                  case rel => exact ⟨k + 1, by omega, by go_num, fun v hv => by
                    by_cases e : v = k
                    · subst e; exact HM2.out
                    · exact hL.out.1 v (by omega), HB9.out⟩
                  case measure => simp [numOf]; omega
                · have e2 : ((y : Int) != (j : Int)) = true := by simp; omega
                  have HM3 : Hid (mt1 P j (G k) = O) := by show mt1 P j (G k) = O; rw [HMT.out]; simp [hxj, hyj]
                  clear HMT hxj hyj
                  refine wp_region_below (by kernel_rfl) (by kernel_rfl) ?_
                  repeat (go_big_quiet_step (first | (go_at_call 19; exact Calls.belowQ (fun W hW => C19.out W))))
                  refine wpQuiet_nil ?_
                  rintro _ ⟨gp, rfl⟩
                  have HB9 : Hid (Below W1.heap.size W1 (growD W8 gp)) := below_next HW8.out (growD_below W8 gp)
                  clear g0 g1 g2 g3 g4 g5 g6 g7 C19
                  generalize growD W8 gp = w9 at *
                  cases O with
                  | true =>
                    have HR2 : Hid (R = false) := by
                      show R = false
                      rw [HR.out, anyB_iff.2 ⟨j, hlt, by unfold rowB; rw [anyB_iff.2 ⟨k, hkm, HM3.out⟩, Bool.or_true]⟩]; rfl
                    go_wp2
                    go_ret
                    exact ⟨by rw [HR2.out]; rfl, (HW.out _ HB9.out).2⟩
                  | false =>
                    have HM2 : Hid (mt1 P j (G k) = false) := HM3.out
                    go_wp2
                    go_roundw
                    case rel => exact ⟨k + 1, by omega, by go_num, fun v hv => by
                      by_cases e : v = k
                      · subst e; exact HM2.out
                      · exact hL.out.1 v (by omega), HB9.out⟩
                    case measure => simp [numOf]; omega
            · obtain rfl : k = m := by omega
              have HRW : Hid (rowB k G P j = false) := by
                show rowB k G P j = false
                unfold rowB
                rw [HS.out, anyB_false hL.out.1]; rfl
              go_wp2
              go_roundw
              case rel => exact ⟨j + 1, by omega, by go_num, fun v hv => by
                by_cases e : v = j
                · subst e; exact HRW.out
                · exact hJ.out.1 v (by omega), hL.out.2⟩
              case measure => simp [numOf]; omega
    · obtain rfl : i = N := by omega
      have HA : Hid (anyB i (rowB m G P) = false) := anyB_false hJ.out.1
      go_upto_region 16 with (fail)
      clear c0 c1
      go_loopw [9, 10, 11, 12, 13, 14] (fun s9 _ _ _ _ _ wz => ∃ u : Nat, u ≤ m ∧ s9 = .int .i64 (u : Int) ∧ Hid ((∀ v, v < u → mtX G P v = false) ∧ Below W1.heap.size W1 wz)) (fun s9 _ _ _ _ _ _ => m - (numOf s9).toNat)
      case atStart => exact ⟨0, Nat.zero_le _, rfl, fun j hj => by omega, hJ.out.2⟩
      case round =>
        obtain ⟨u, hu, rfl, hK⟩ := hrel
        obtain ⟨c0, c1⟩ := cell_two (HW.out _ hK.out.2).1
        by_cases hum : u < m
        · have uu1 : (0 : Int) ≤ (u : Int) := by omega
          have uu2 : (u : Int) < (m : Int) := by omega
          obtain ⟨b9, off9, heo, _, _⟩ := HH.out.1 u hum
          subst heo
          obtain ⟨hx, hy⟩ := HH.out.2.2.2 u hum
          obtain ⟨x, hxe⟩ : ∃ x, x = (G u).1 := ⟨_, rfl⟩
          obtain ⟨y, hye⟩ : ∃ y, y = (G u).2 := ⟨_, rfl⟩
          rw [← hxe] at hx
          rw [← hye] at hy
          have HG : Hid (G u = (x, y)) := by show G u = _; rw [hxe, hye]
          have HCU : Hid (∀ A, Below W1.heap.size W1 A → A.cell? ⟨b9, off9 + u * 2, none⟩ = some (.int .i64 (x : Int)) ∧ A.cell? ⟨b9, off9 + u * 2 + 1, none⟩ = some (.int .i64 (y : Int))) := fun A hA => by
            obtain ⟨b, off, e, q0, q1⟩ := HH.out.1.below (HW.out A hA).2 u hum
            cases e
            rw [hxe, hye]
            exact ⟨q0, q1⟩
          obtain ⟨bp, offp, hao, _, _⟩ := HH.out.2.1 x hx
          subst hao
          clear hxe hye
          go_upto_region 19 with (fail)
          clear c0 c1
          go_loopw [10, 11, 12, 13, 14] (fun s10 _ _ _ _ wz => ∃ v : Nat, v ≤ u ∧ s10 = .int .i64 (v : Int) ∧ Hid ((∀ q, q < v → mtE P (G u) (G q) = false) ∧ Below W1.heap.size W1 wz)) (fun s10 _ _ _ _ _ => u - (numOf s10).toNat)
          case atStart => exact ⟨0, Nat.zero_le _, rfl, fun j hj => by omega, hK.out.2⟩
          case round =>
            obtain ⟨v, hv, rfl, hL⟩ := hrel
            by_cases hvu : v < u
            · have vv1 : (0 : Int) ≤ (v : Int) := by omega
              have vv2 : (v : Int) < (u : Int) := by omega
              have vv3 : (v : Int) < (m : Int) := by omega
              obtain ⟨b, off, e, q2, q3⟩ := HH.out.1.below (HW.out _ hL.out.2).2 v (by omega)
              cases e
              obtain ⟨hc, hd⟩ := HH.out.2.2.2 v (by omega)
              obtain ⟨c, hce⟩ : ∃ x, x = (G v).1 := ⟨_, rfl⟩
              obtain ⟨d, hde⟩ : ∃ y, y = (G v).2 := ⟨_, rfl⟩
              rw [← hce] at hc
              rw [← hde] at hd
              have q2' : wr.cell? ⟨b9, off9 + v * 2, none⟩ = some (.int .i64 (c : Int)) := by rw [hce]; exact q2
              have q3' : wr.cell? ⟨b9, off9 + v * 2 + 1, none⟩ = some (.int .i64 (d : Int)) := by rw [hde]; exact q3
              obtain ⟨q0, q1⟩ := HCU.out _ hL.out.2
              obtain ⟨c0, c1⟩ := cell_two (HW.out _ hL.out.2).1
              have HGV : Hid (G v = (c, d)) := by show G v = _; rw [hce, hde]
              clear q2 q3 hce hde
              go_upto_region 21 with (fail)
              have g0 := cell_growD q0
              have g1 := cell_growD q1
              have g2 := cell_growD q2'
              have g3 := cell_growD q3'
              have g4 := cell_growD c0
              have g5 := cell_growD c1
              clear q0 q1 q2' q3' c0 c1
              refine wp_region_below (by kernel_rfl) (by kernel_rfl) ?_
              repeat (go_big_quiet_step (fail))
              refine wpQuiet_nil ?_
              rintro _ ⟨gp, rfl⟩
              have HB8 : Hid (Below W1.heap.size W1 (growD wr gp)) := below_next hL.out.2 (growD_below wr gp)
              clear g0 g1 g2 g3 g4 g5
              generalize growD wr gp = W8 at *
              obtain ⟨_, _, e, z0, z1⟩ := HH.out.2.1.below (HW.out _ HB8.out).2 x hx
              cases e
              obtain ⟨_, _, e, z2, z3⟩ := HH.out.2.1.below (HW.out _ HB8.out).2 y hy
              cases e
              obtain ⟨_, _, e, z4, z5⟩ := HH.out.2.1.below (HW.out _ HB8.out).2 c hc
              cases e
              obtain ⟨_, _, e, z6, z7⟩ := HH.out.2.1.below (HW.out _ HB8.out).2 d hd
              cases e
              have C20 : Hid (∀ A : World, Calls Tryz.prog 20 #[ptv (P x), ptv (P y), ptv (P c), ptv (P d)] A fun e w' => e = .returned (.bool (meetB (P x) (P y) (P c) (P d))) ∧ Below A.heap.size A w') := fun A => meet_call (HH.out.2.2.1 x hx) (HH.out.2.2.1 y hy) (HH.out.2.2.1 c hc) (HH.out.2.2.1 d hd)
              obtain ⟨O, hO⟩ : ∃ O, O = meetB (P x) (P y) (P c) (P d) := ⟨_, rfl⟩
              have HMT : Hid (mtE P (G u) (G v) = (decide (x ≠ c) && (decide (x ≠ d) && (decide (y ≠ c) && (decide (y ≠ d) && O))))) := by show mtE P (G u) (G v) = _; rw [HG.out, HGV.out, hO]; rfl
              rw [← hO] at C20
              unfold ptv at C20
              generalize (P x).1 = x1 at *
              generalize (P x).2 = x2 at *
              generalize (P y).1 = y1 at *
              generalize (P y).2 = y2 at *
              generalize (P c).1 = c1 at *
              generalize (P c).2 = c2 at *
              generalize (P d).1 = d1 at *
              generalize (P d).2 = d2 at *
              have n1 : (0 : Int) ≤ (x : Int) := by omega
              have n2 : (x : Int) < (i : Int) := by omega
              have n3 : (0 : Int) ≤ (y : Int) := by omega
              have n4 : (y : Int) < (i : Int) := by omega
              have n5 : (0 : Int) ≤ (c : Int) := by omega
              have n6 : (c : Int) < (i : Int) := by omega
              have n7 : (0 : Int) ≤ (d : Int) := by omega
              have n8 : (d : Int) < (i : Int) := by omega
              clear hO
              go_upto_region 22 with (fail)
              have g0 := cell_growD z0
              have g1 := cell_growD z1
              have g2 := cell_growD z2
              have g3 := cell_growD z3
              have g4 := cell_growD z4
              have g5 := cell_growD z5
              have g6 := cell_growD z6
              have g7 := cell_growD z7
              clear z0 z1 z2 z3 z4 z5 z6 z7
              by_cases h0 : x = c
              · have e0 : ((x : Int) != (c : Int)) = false := by simp; omega
                have HM2 : Hid (mtE P (G u) (G v) = false) := by show mtE P (G u) (G v) = false; rw [HMT.out]; simp [h0]
                clear HMT h0
                refine wp_region_below (by kernel_rfl) (by kernel_rfl) ?_
                repeat (go_big_quiet_step (fail))
                refine wpQuiet_nil ?_
                rintro _ ⟨gp, rfl⟩
                have HB9 : Hid (Below W1.heap.size W1 (growD W8 gp)) := below_next HB8.out (growD_below W8 gp)
                clear g0 g1 g2 g3 g4 g5 g6 g7 C20
                generalize growD W8 gp = w9 at *
                go_wp2
                go_roundw
                case rel => exact ⟨v + 1, by omega, by go_num, fun q hq => by
                  by_cases e : q = v
                  · subst e; exact HM2.out
                  · exact hL.out.1 q (by omega), HB9.out⟩
                case measure => simp [numOf]; omega
              · have e0 : ((x : Int) != (c : Int)) = true := by simp; omega
                by_cases h1 : x = d
                · have e1 : ((x : Int) != (d : Int)) = false := by simp; omega
                  have HM2 : Hid (mtE P (G u) (G v) = false) := by show mtE P (G u) (G v) = false; rw [HMT.out]; simp [h1]
                  clear HMT h0 h1
                  refine wp_region_below (by kernel_rfl) (by kernel_rfl) ?_
                  repeat (go_big_quiet_step (fail))
                  refine wpQuiet_nil ?_
                  rintro _ ⟨gp, rfl⟩
                  have HB9 : Hid (Below W1.heap.size W1 (growD W8 gp)) := below_next HB8.out (growD_below W8 gp)
                  clear g0 g1 g2 g3 g4 g5 g6 g7 C20
                  generalize growD W8 gp = w9 at *
                  go_wp2
                  go_roundw
                  case rel => exact ⟨v + 1, by omega, by go_num, fun q hq => by
                    by_cases e : q = v
                    · subst e; exact HM2.out
                    · exact hL.out.1 q (by omega), HB9.out⟩
                  case measure => simp [numOf]; omega
                · have e1 : ((x : Int) != (d : Int)) = true := by simp; omega
                  by_cases h2 : y = c
                  · have e2 : ((y : Int) != (c : Int)) = false := by simp; omega
                    have HM2 : Hid (mtE P (G u) (G v) = false) := by show mtE P (G u) (G v) = false; rw [HMT.out]; simp [h2]
                    clear HMT h0 h1 h2
                    refine wp_region_below (by kernel_rfl) (by kernel_rfl) ?_
                    repeat (go_big_quiet_step (fail))
                    refine wpQuiet_nil ?_
                    rintro _ ⟨gp, rfl⟩
                    have HB9 : Hid (Below W1.heap.size W1 (growD W8 gp)) := below_next HB8.out (growD_below W8 gp)
                    clear g0 g1 g2 g3 g4 g5 g6 g7 C20
                    generalize growD W8 gp = w9 at *
                    go_wp2
                    go_roundw
                    case rel => exact ⟨v + 1, by omega, by go_num, fun q hq => by
                      by_cases e : q = v
                      · subst e; exact HM2.out
                      · exact hL.out.1 q (by omega), HB9.out⟩
                    case measure => simp [numOf]; omega
                  · have e2 : ((y : Int) != (c : Int)) = true := by simp; omega
                    by_cases h3 : y = d
                    · have e3 : ((y : Int) != (d : Int)) = false := by simp; omega
                      have HM2 : Hid (mtE P (G u) (G v) = false) := by show mtE P (G u) (G v) = false; rw [HMT.out]; simp [h3]
                      clear HMT h0 h1 h2 h3
                      refine wp_region_below (by kernel_rfl) (by kernel_rfl) ?_
                      repeat (go_big_quiet_step (fail))
                      refine wpQuiet_nil ?_
                      rintro _ ⟨gp, rfl⟩
                      have HB9 : Hid (Below W1.heap.size W1 (growD W8 gp)) := below_next HB8.out (growD_below W8 gp)
                      clear g0 g1 g2 g3 g4 g5 g6 g7 C20
                      generalize growD W8 gp = w9 at *
                      go_wp2
                      go_roundw
                      case rel => exact ⟨v + 1, by omega, by go_num, fun q hq => by
                        by_cases e : q = v
                        · subst e; exact HM2.out
                        · exact hL.out.1 q (by omega), HB9.out⟩
                      case measure => simp [numOf]; omega
                    · have e3 : ((y : Int) != (d : Int)) = true := by simp; omega
                      have HM3 : Hid (mtE P (G u) (G v) = O) := by show mtE P (G u) (G v) = O; rw [HMT.out]; simp [h0, h1, h2, h3]
                      clear HMT h0 h1 h2 h3
                      refine wp_region_below (by kernel_rfl) (by kernel_rfl) ?_
                      repeat (go_big_quiet_step (first | (go_at_call 20; exact Calls.belowQ (fun W hW => C20.out W))))
                      refine wpQuiet_nil ?_
                      rintro _ ⟨gp, rfl⟩
                      have HB9 : Hid (Below W1.heap.size W1 (growD W8 gp)) := below_next HB8.out (growD_below W8 gp)
                      clear g0 g1 g2 g3 g4 g5 g6 g7 C20
                      generalize growD W8 gp = w9 at *
                      cases O with
                      | true =>
                        have HR2 : Hid (R = false) := by
                          show R = false
                          rw [HR.out, anyB_iff.2 ⟨u, hum, anyB_iff.2 ⟨v, hvu, HM3.out⟩⟩]; simp
                        go_wp2
                        go_ret
                        exact ⟨by rw [HR2.out]; rfl, (HW.out _ HB9.out).2⟩
                      | false =>
                        have HM2 : Hid (mtE P (G u) (G v) = false) := HM3.out
                        go_wp2
                        go_roundw
                        case rel => exact ⟨v + 1, by omega, by go_num, fun q hq => by
                          by_cases e : q = v
                          · subst e; exact HM2.out
                          · exact hL.out.1 q (by omega), HB9.out⟩
                        case measure => simp [numOf]; omega
            · obtain rfl : v = u := by omega
              have vn : ¬ (v : Int) < (v : Int) := by omega
              have HX : Hid (mtX G P v = false) := anyB_false hL.out.1
              go_wp2
              go_roundw
              case rel => exact ⟨v + 1, by omega, by go_num, fun q hq => by
                by_cases e : q = v
                · subst e; exact HX.out
                · exact hK.out.1 q (by omega), hL.out.2⟩
              case measure => simp [numOf]; omega
        · obtain rfl : u = m := by omega
          have HR2 : Hid (R = true) := by
            show R = true
            rw [HR.out, HA.out, anyB_false hK.out.1]; rfl
          go_wp2
          go_ret
          exact ⟨by rw [HR2.out]; rfl, (HW.out _ hK.out.2).2⟩
end Go.Proofs.YtnboonhlffkimaaGreatDoor

namespace Go.Proofs.YtnboonhlffkimaaGreatDoor
open Go
theorem bool_eq {a b : Bool} (h : a = true ↔ b = true) : a = b := by
  cases a <;> cases b <;> simp_all
theorem crB_iff {P : Nat → Pt} {a b : Pt} {e : Nat × Nat} : crB P a b e = true ↔ Crosses a b (P e.1) (P e.2) := by
  unfold crB Crosses
  simp
theorem mt1_iff {P : Nat → Pt} {v : Nat} {e : Nat × Nat} : mt1 P v e = true ↔ (e.1 ≠ v ∧ e.2 ≠ v ∧ OnL (P e.1) (P e.2) (P v)) := by
  unfold mt1
  rw [Bool.and_eq_true, onB_iff]
  simp [and_assoc]
theorem mtE_iff {P : Nat → Pt} {e d : Nat × Nat} : mtE P e d = true ↔ (e.1 ≠ d.1 ∧ e.1 ≠ d.2 ∧ e.2 ≠ d.1 ∧ e.2 ≠ d.2 ∧ Meets (P e.1) (P e.2) (P d.1) (P d.2)) := by
  unfold mtE
  simp only [Bool.and_eq_true, decide_eq_true_eq, meetB_iff]
theorem clear_ref {N : Nat} {es : List Pair} {P : Nat → Pt} (hg : ∀ e ∈ es, (0 ≤ e.1 ∧ e.1 < (N : Int) ∧ 0 ≤ e.2 ∧ e.2 < (N : Int)) ∧ e.1 ≠ e.2) : clearB N es P = refB N es P := by
  unfold clearB refB
  cases hr : anyB N (rowB es.length (gE es) P) with
  | true => rfl
  | false =>
    congr 2
    have hgl := gE_lt hg
    obtain ⟨E, hE⟩ : ∃ E, E = (List.range es.length).map (gE es) := ⟨_, rfl⟩
    have hEl : E.length = es.length := by rw [hE]; simp
    have hEk : ∀ k (h : k < E.length), E[k] = gE es k := fun k h => by simp [hE]
    have hEN : ∀ e ∈ E, e.1 < N ∧ e.2 < N := fun e he => by
      obtain ⟨k, hk, rfl⟩ := List.getElem_of_mem he
      rw [hEk]
      exact ⟨(hgl k (by omega)).1, (hgl k (by omega)).2.1⟩
    have hL : Lone N E P := fun i hi => by
      have h1 := anyB_none hr i hi
      unfold rowB at h1
      rw [Bool.or_eq_false_iff] at h1
      refine ⟨fun j hj e => ?_, fun e he h2 h3 h4 => ?_⟩
      · have := anyB_none h1.1 j hj
        rw [samP_iff.2 e] at this
        cases this
      · obtain ⟨k, hk, rfl⟩ := List.getElem_of_mem he
        rw [hEk] at h2 h3 h4
        have := anyB_none h1.2 k (by omega)
        rw [mt1_iff.2 ⟨h2, h3, h4⟩] at this
        cases this
    have key := clear_iff hEN hL
    refine bool_eq ⟨fun h => ?_, fun h => ?_⟩
    · obtain ⟨i, hi, h2⟩ := anyB_iff.1 h
      obtain ⟨j, hj, h3⟩ := anyB_iff.1 h2
      refine Classical.byContradiction fun hn => ?_
      have hno : NoMeet E P := fun i' j' hi' hj' e1 e2 e3 e4 hm => hn (anyB_iff.2 ⟨i', by omega, anyB_iff.2 ⟨j', hj', by
        rw [hEk, hEk] at e1 e2 e3 e4 hm
        exact mtE_iff.2 ⟨e1, e2, e3, e4, hm⟩⟩⟩)
      have h4 := key.1 hno i j (by omega) hj
      rw [hEk, hEk] at h4
      exact h4 (crB_iff.1 h3)
    · obtain ⟨i, hi, h2⟩ := anyB_iff.1 h
      obtain ⟨j, hj, h3⟩ := anyB_iff.1 h2
      refine Classical.byContradiction fun hn => ?_
      have hno : NoCross E P := fun i' j' hi' hj' hm => hn (anyB_iff.2 ⟨i', by omega, anyB_iff.2 ⟨j', hj', by
        rw [hEk, hEk] at hm
        exact crB_iff.2 hm⟩⟩)
      have h4 := mtE_iff.1 h3
      have h5 := key.2 hno i j (by omega) hj
      rw [hEk, hEk] at h5
      exact h5 h4.1 h4.2.1 h4.2.2.1 h4.2.2.2.1 h4.2.2.2.2
end Go.Proofs.YtnboonhlffkimaaGreatDoor
