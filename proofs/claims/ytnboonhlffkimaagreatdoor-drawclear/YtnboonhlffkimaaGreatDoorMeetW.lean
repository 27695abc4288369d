/- R.Meet. -/
import Derived.Test.YtnboonhlffkimaaGreatDoorSideM
namespace Go.Proofs.YtnboonhlffkimaaGreatDoor
set_option maxRecDepth 8000
open Go.RowKit Go.Maps
attribute [local go_sem ↓] Go.wp_at_zero Go.wp_at_succ
def oppB (x y : Int) : Bool := (decide (0 < x) && decide (y < 0)) || (decide (x < 0) && decide (0 < y))
theorem oppB_iff {x y : Int} : oppB x y = true ↔ (0 < x ∧ y < 0 ∨ x < 0 ∧ 0 < y) := by unfold oppB; simp
def meetB (a b c d : Pt) : Bool := onB a b c || (onB a b d || (onB c d a || (onB c d b || (oppB (crs a b c) (crs a b d) && oppB (crs c d a) (crs c d b)))))
theorem meetB_iff {a b c d : Pt} : meetB a b c d = true ↔ Meets a b c d := by
  unfold meetB Meets
  simp only [Bool.or_eq_true, Bool.and_eq_true, onB_iff, oppB_iff]
theorem four_new (w : World) (a b c d a' b' c' d' : Value) (t : TypeId) :
    ∃ W, W = ((((w.alloc (Obj.cells #[a, a'] t)).alloc (Obj.cells #[b, b'] t)).alloc (Obj.cells #[c, c'] t)).alloc (Obj.cells #[d, d'] t)) ∧ Below w.heap.size w W ∧ Two W w.heap.size a a' t ∧ Two W (w.heap.size + 1) b b' t ∧ Two W (w.heap.size + 1 + 1) c c' t ∧ Two W (w.heap.size + 1 + 1 + 1) d d' t := by
  obtain ⟨h1, h2, h3⟩ := three_new w a b c a' b' c' t
  refine ⟨_, rfl, below_alloc (below_alloc (below_alloc (below_alloc (Below.refl _ w) _) _) _) _, two_alloc h1 _, two_alloc h2 _, two_alloc h3 _, ?_⟩
  have h := two_new (((w.alloc (Obj.cells #[a, a'] t)).alloc (Obj.cells #[b, b'] t)).alloc (Obj.cells #[c, c'] t)) d d' t
  rw [show (((w.alloc (Obj.cells #[a, a'] t)).alloc (Obj.cells #[b, b'] t)).alloc (Obj.cells #[c, c'] t)).heap.size = w.heap.size + 1 + 1 + 1 by simp] at h
  exact h
set_option maxHeartbeats 16000000 in
theorem meet_call {w : World} {a b c d : Pt} (ha : BdP a) (hb : BdP b) (hc : BdP c) (hd : BdP d) : Calls Tryz.prog 20 #[ptv a, ptv b, ptv c, ptv d] w fun e w' => e = .returned (.bool (meetB a b c d)) ∧ Below w.heap.size w w' := by
  have HR : Hid (meetB a b c d = (onB a b c || (onB a b d || (onB c d a || (onB c d b || (oppB (crs a b c) (crs a b d) && oppB (crs c d a) (crs c d b))))))) := rfl
  have C1 : Hid (∀ A : World, Calls Tryz.prog 19 #[ptv a, ptv b, ptv c] A fun e w' => e = .returned (.bool (onB a b c)) ∧ Below A.heap.size A w') := fun A => line_call ha hb hc
  have C2 : Hid (∀ A : World, Calls Tryz.prog 19 #[ptv a, ptv b, ptv d] A fun e w' => e = .returned (.bool (onB a b d)) ∧ Below A.heap.size A w') := fun A => line_call ha hb hd
  have C3 : Hid (∀ A : World, Calls Tryz.prog 19 #[ptv c, ptv d, ptv a] A fun e w' => e = .returned (.bool (onB c d a)) ∧ Below A.heap.size A w') := fun A => line_call hc hd ha
  have C4 : Hid (∀ A : World, Calls Tryz.prog 19 #[ptv c, ptv d, ptv b] A fun e w' => e = .returned (.bool (onB c d b)) ∧ Below A.heap.size A w') := fun A => line_call hc hd hb
  have X1 : Hid (∀ A : World, Calls Tryz.prog 36 #[ptv a, ptv b, ptv c] A fun e w' => e = .returned (.int .i64 (crs a b c)) ∧ Below A.heap.size A w') := fun A => cross_call' ha hb hc
  have X2 : Hid (∀ A : World, Calls Tryz.prog 36 #[ptv a, ptv b, ptv d] A fun e w' => e = .returned (.int .i64 (crs a b d)) ∧ Below A.heap.size A w') := fun A => cross_call' ha hb hd
  have X3 : Hid (∀ A : World, Calls Tryz.prog 36 #[ptv c, ptv d, ptv a] A fun e w' => e = .returned (.int .i64 (crs c d a)) ∧ Below A.heap.size A w') := fun A => cross_call' hc hd ha
  have X4 : Hid (∀ A : World, Calls Tryz.prog 36 #[ptv c, ptv d, ptv b] A fun e w' => e = .returned (.int .i64 (crs c d b)) ∧ Below A.heap.size A w') := fun A => cross_call' hc hd hb
  clear ha hb hc hd
  generalize meetB a b c d = R at *
  generalize onB a b c = O1 at *
  generalize onB a b d = O2 at *
  generalize onB c d a = O3 at *
  generalize onB c d b = O4 at *
  generalize crs a b c = p at *
  generalize crs a b d = q at *
  generalize crs c d a = r at *
  generalize crs c d b = s at *
  obtain ⟨ax, ay⟩ := a
  obtain ⟨bx, b_y⟩ := b
  obtain ⟨cx, cy⟩ := c
  obtain ⟨dx, dy⟩ := d
  unfold ptv at C1 C2 C3 C4 X1 X2 X3 X4 ⊢
  simp only at C1 C2 C3 C4 X1 X2 X3 X4 ⊢
  go_enter Tryz.func20, Tryz.ntmps20
  go_upto_region 1 with (fail)
  obtain ⟨W1, hW1, hB, t1, t2, t3, t4⟩ := four_new w (.int .i64 ax) (.int .i64 bx) (.int .i64 cx) (.int .i64 dx) (.int .i64 ay) (.int .i64 b_y) (.int .i64 cy) (.int .i64 dy) 32
  rw [← hW1]
  have HT : Hid (∀ A, Below W1.heap.size W1 A → Below w.heap.size w A ∧ Two A w.heap.size (.int .i64 ax) (.int .i64 ay) 32 ∧ Two A (w.heap.size + 1) (.int .i64 bx) (.int .i64 b_y) 32 ∧ Two A (w.heap.size + 1 + 1) (.int .i64 cx) (.int .i64 cy) 32 ∧ Two A (w.heap.size + 1 + 1 + 1) (.int .i64 dx) (.int .i64 dy) 32) := fun A hA => ⟨below_next hB hA, two_next t1 hA, two_next t2 hA, two_next t3 hA, two_next t4 hA⟩
  obtain ⟨c0, c1⟩ := cell_two t1
  obtain ⟨c2, c3⟩ := cell_two t2
  obtain ⟨c4, c5⟩ := cell_two t3
  obtain ⟨c6, c7⟩ := cell_two t4
  clear t1 t2 t3 t4 hB hW1
  cases O1 with
  | true =>
    have HR2 : Hid (R = true) := by show R = true; rw [HR.out]; simp
    clear HR
    go_wp2_with (first | (go_at_call 19; refine Calls.mono (C1.out _) ?_; rintro e V1 ⟨rfl, g1⟩; have HQ1 : Hid (Below W1.heap.size W1 V1) := g1; clear g1; obtain ⟨_, t1, t2, t3, t4⟩ := HT.out _ HQ1.out; obtain ⟨d01, d11⟩ := cell_two t1; obtain ⟨d21, d31⟩ := cell_two t2; obtain ⟨d41, d51⟩ := cell_two t3; obtain ⟨d61, d71⟩ := cell_two t4; clear t1 t2 t3 t4) | fail)
    go_ret
    exact ⟨by rw [HR2.out]; rfl, (HT.out _ HQ1.out).1⟩
  | false =>
    cases O2 with
    | true =>
      have HR2 : Hid (R = true) := by show R = true; rw [HR.out]; simp
      clear HR
      go_wp2_with (first | (go_at_call 19; (have hh := HQ1; clear hh); refine Calls.mono (C2.out _) ?_; rintro e V2 ⟨rfl, g2⟩; have HQ2 : Hid (Below W1.heap.size W1 V2) := below_next HQ1.out g2; clear g2; obtain ⟨_, t1, t2, t3, t4⟩ := HT.out _ HQ2.out; obtain ⟨d02, d12⟩ := cell_two t1; obtain ⟨d22, d32⟩ := cell_two t2; obtain ⟨d42, d52⟩ := cell_two t3; obtain ⟨d62, d72⟩ := cell_two t4; clear t1 t2 t3 t4) | (go_at_call 19; refine Calls.mono (C1.out _) ?_; rintro e V1 ⟨rfl, g1⟩; have HQ1 : Hid (Below W1.heap.size W1 V1) := g1; clear g1; obtain ⟨_, t1, t2, t3, t4⟩ := HT.out _ HQ1.out; obtain ⟨d01, d11⟩ := cell_two t1; obtain ⟨d21, d31⟩ := cell_two t2; obtain ⟨d41, d51⟩ := cell_two t3; obtain ⟨d61, d71⟩ := cell_two t4; clear t1 t2 t3 t4) | fail)
      go_ret
      exact ⟨by rw [HR2.out]; rfl, (HT.out _ HQ2.out).1⟩
    | false =>
      cases O3 with
      | true =>
        have HR2 : Hid (R = true) := by show R = true; rw [HR.out]; simp
        clear HR
        go_wp2_with (first | (go_at_call 19; (have hh := HQ2; clear hh); refine Calls.mono (C3.out _) ?_; rintro e V3 ⟨rfl, g3⟩; have HQ3 : Hid (Below W1.heap.size W1 V3) := below_next HQ2.out g3; clear g3; obtain ⟨_, t1, t2, t3, t4⟩ := HT.out _ HQ3.out; obtain ⟨d03, d13⟩ := cell_two t1; obtain ⟨d23, d33⟩ := cell_two t2; obtain ⟨d43, d53⟩ := cell_two t3; obtain ⟨d63, d73⟩ := cell_two t4; clear t1 t2 t3 t4) | (go_at_call 19; (have hh := HQ1; clear hh); refine Calls.mono (C2.out _) ?_; rintro e V2 ⟨rfl, g2⟩; have HQ2 : Hid (Below W1.heap.size W1 V2) := below_next HQ1.out g2; clear g2; obtain ⟨_, t1, t2, t3, t4⟩ := HT.out _ HQ2.out; obtain ⟨d02, d12⟩ := cell_two t1; obtain ⟨d22, d32⟩ := cell_two t2; obtain ⟨d42, d52⟩ := cell_two t3; obtain ⟨d62, d72⟩ := cell_two t4; clear t1 t2 t3 t4) | (go_at_call 19; refine Calls.mono (C1.out _) ?_; rintro e V1 ⟨rfl, g1⟩; have HQ1 : Hid (Below W1.heap.size W1 V1) := g1; clear g1; obtain ⟨_, t1, t2, t3, t4⟩ := HT.out _ HQ1.out; obtain ⟨d01, d11⟩ := cell_two t1; obtain ⟨d21, d31⟩ := cell_two t2; obtain ⟨d41, d51⟩ := cell_two t3; obtain ⟨d61, d71⟩ := cell_two t4; clear t1 t2 t3 t4) | fail)
        go_ret
        exact ⟨by rw [HR2.out]; rfl, (HT.out _ HQ3.out).1⟩
      | false =>
        cases O4 with
        | true =>
          have HR2 : Hid (R = true) := by show R = true; rw [HR.out]; simp
          clear HR
          go_wp2_with (first | (go_at_call 19; (have hh := HQ3; clear hh); refine Calls.mono (C4.out _) ?_; rintro e V4 ⟨rfl, g4⟩; have HQ4 : Hid (Below W1.heap.size W1 V4) := below_next HQ3.out g4; clear g4; obtain ⟨_, t1, t2, t3, t4⟩ := HT.out _ HQ4.out; obtain ⟨d04, d14⟩ := cell_two t1; obtain ⟨d24, d34⟩ := cell_two t2; obtain ⟨d44, d54⟩ := cell_two t3; obtain ⟨d64, d74⟩ := cell_two t4; clear t1 t2 t3 t4) | (go_at_call 19; (have hh := HQ2; clear hh); refine Calls.mono (C3.out _) ?_; rintro e V3 ⟨rfl, g3⟩; have HQ3 : Hid (Below W1.heap.size W1 V3) := below_next HQ2.out g3; clear g3; obtain ⟨_, t1, t2, t3, t4⟩ := HT.out _ HQ3.out; obtain ⟨d03, d13⟩ := cell_two t1; obtain ⟨d23, d33⟩ := cell_two t2; obtain ⟨d43, d53⟩ := cell_two t3; obtain ⟨d63, d73⟩ := cell_two t4; clear t1 t2 t3 t4) | (go_at_call 19; (have hh := HQ1; clear hh); refine Calls.mono (C2.out _) ?_; rintro e V2 ⟨rfl, g2⟩; have HQ2 : Hid (Below W1.heap.size W1 V2) := below_next HQ1.out g2; clear g2; obtain ⟨_, t1, t2, t3, t4⟩ := HT.out _ HQ2.out; obtain ⟨d02, d12⟩ := cell_two t1; obtain ⟨d22, d32⟩ := cell_two t2; obtain ⟨d42, d52⟩ := cell_two t3; obtain ⟨d62, d72⟩ := cell_two t4; clear t1 t2 t3 t4) | (go_at_call 19; refine Calls.mono (C1.out _) ?_; rintro e V1 ⟨rfl, g1⟩; have HQ1 : Hid (Below W1.heap.size W1 V1) := g1; clear g1; obtain ⟨_, t1, t2, t3, t4⟩ := HT.out _ HQ1.out; obtain ⟨d01, d11⟩ := cell_two t1; obtain ⟨d21, d31⟩ := cell_two t2; obtain ⟨d41, d51⟩ := cell_two t3; obtain ⟨d61, d71⟩ := cell_two t4; clear t1 t2 t3 t4) | fail)
          go_ret
          exact ⟨by rw [HR2.out]; rfl, (HT.out _ HQ4.out).1⟩
        | false =>
          have HR1 : Hid (R = (oppB p q && oppB r s)) := by show R = _; rw [HR.out]; simp
          clear HR
          go_upto_region 3 with (first | (go_at_call 19; (have hh := HQ3; clear hh); refine Calls.mono (C4.out _) ?_; rintro e V4 ⟨rfl, g4⟩; have HQ4 : Hid (Below W1.heap.size W1 V4) := below_next HQ3.out g4; clear g4; obtain ⟨_, t1, t2, t3, t4⟩ := HT.out _ HQ4.out; obtain ⟨d04, d14⟩ := cell_two t1; obtain ⟨d24, d34⟩ := cell_two t2; obtain ⟨d44, d54⟩ := cell_two t3; obtain ⟨d64, d74⟩ := cell_two t4; clear t1 t2 t3 t4) | (go_at_call 19; (have hh := HQ2; clear hh); refine Calls.mono (C3.out _) ?_; rintro e V3 ⟨rfl, g3⟩; have HQ3 : Hid (Below W1.heap.size W1 V3) := below_next HQ2.out g3; clear g3; obtain ⟨_, t1, t2, t3, t4⟩ := HT.out _ HQ3.out; obtain ⟨d03, d13⟩ := cell_two t1; obtain ⟨d23, d33⟩ := cell_two t2; obtain ⟨d43, d53⟩ := cell_two t3; obtain ⟨d63, d73⟩ := cell_two t4; clear t1 t2 t3 t4) | (go_at_call 19; (have hh := HQ1; clear hh); refine Calls.mono (C2.out _) ?_; rintro e V2 ⟨rfl, g2⟩; have HQ2 : Hid (Below W1.heap.size W1 V2) := below_next HQ1.out g2; clear g2; obtain ⟨_, t1, t2, t3, t4⟩ := HT.out _ HQ2.out; obtain ⟨d02, d12⟩ := cell_two t1; obtain ⟨d22, d32⟩ := cell_two t2; obtain ⟨d42, d52⟩ := cell_two t3; obtain ⟨d62, d72⟩ := cell_two t4; clear t1 t2 t3 t4) | (go_at_call 19; refine Calls.mono (C1.out _) ?_; rintro e V1 ⟨rfl, g1⟩; have HQ1 : Hid (Below W1.heap.size W1 V1) := g1; clear g1; obtain ⟨_, t1, t2, t3, t4⟩ := HT.out _ HQ1.out; obtain ⟨d01, d11⟩ := cell_two t1; obtain ⟨d21, d31⟩ := cell_two t2; obtain ⟨d41, d51⟩ := cell_two t3; obtain ⟨d61, d71⟩ := cell_two t4; clear t1 t2 t3 t4) | fail)
          clear c0 c1 c2 c3 c4 c5 c6 c7 d01 d11 d21 d31 d41 d51 d61 d71 d02 d12 d22 d32 d42 d52 d62 d72 d03 d13 d23 d33 d43 d53 d63 d73
          have g0 := cell_growD d04
          have g1 := cell_growD d14
          have g2 := cell_growD d24
          have g3 := cell_growD d34
          have g4 := cell_growD d44
          have g5 := cell_growD d54
          have g6 := cell_growD d64
          have g7 := cell_growD d74
          refine wp_region_below (by kernel_rfl) (by kernel_rfl) ?_
          repeat (go_big_quiet_step (first | (go_at_call 36; with_reducible exact Calls.belowQ (fun W hW => X1.out W)) | (go_at_call 36; with_reducible exact Calls.belowQ (fun W hW => X2.out W))))
          refine wpQuiet_nil ?_
          rintro _ ⟨gp, rfl⟩
          have HQ5 : Hid (Below W1.heap.size W1 (growD V4 gp)) := below_next HQ4.out (growD_below V4 gp)
          clear g0 g1 g2 g3 g4 g5 g6 g7 d04 d14 d24 d34 d44 d54 d64 d74
          generalize growD V4 gp = V5 at *
          obtain ⟨_, t1, t2, t3, t4⟩ := HT.out _ HQ5.out
          obtain ⟨d05, d15⟩ := cell_two t1
          obtain ⟨d25, d35⟩ := cell_two t2
          obtain ⟨d45, d55⟩ := cell_two t3
          obtain ⟨d65, d75⟩ := cell_two t4
          clear t1 t2 t3 t4
          go_upto_region 4 with (fail)
          have g0 := cell_growD d05
          have g1 := cell_growD d15
          have g2 := cell_growD d25
          have g3 := cell_growD d35
          have g4 := cell_growD d45
          have g5 := cell_growD d55
          have g6 := cell_growD d65
          have g7 := cell_growD d75
          refine wp_region_below (by kernel_rfl) (by kernel_rfl) ?_
          repeat (go_big_quiet_step (first | (go_at_call 36; with_reducible exact Calls.belowQ (fun W hW => X3.out W)) | (go_at_call 36; with_reducible exact Calls.belowQ (fun W hW => X4.out W))))
          refine wpQuiet_nil ?_
          rintro _ ⟨gp, rfl⟩
          have HQ6 : Hid (Below W1.heap.size W1 (growD V5 gp)) := below_next HQ5.out (growD_below V5 gp)
          clear g0 g1 g2 g3 g4 g5 g6 g7 d05 d15 d25 d35 d45 d55 d65 d75
          generalize growD V5 gp = V6 at *
          have HB : Hid (Below w.heap.size w V6) := (HT.out _ HQ6.out).1
          clear HQ1 HQ2 HQ3 HQ4 HQ5 HQ6 HT C1 C2 C3 C4 X1 X2 X3 X4
          by_cases k1 : 0 < p
          · have ka : decide (0 < p) = true := by simpa using k1
            by_cases k2 : q < 0
            · have kb : decide (q < 0) = true := by simpa using k2
              have kh : oppB p q = true := oppB_iff.2 (by omega)
              by_cases l1 : 0 < r
              · have la : decide (0 < r) = true := by simpa using l1
                by_cases l2 : s < 0
                · have lb : decide (s < 0) = true := by simpa using l2
                  have lh : oppB r s = true := oppB_iff.2 (by omega)
                  have HR2 : Hid (R = true) := by show R = true; rw [HR1.out, kh, lh]; rfl
                  clear HR1 kh lh
                  go_wp2
                  go_ret
                  exact ⟨by rw [HR2.out]; rfl, HB.out⟩
                · have lb : decide (s < 0) = false := by simpa using l2
                  have lc : decide (r < 0) = false := by simp; omega
                  have lh : oppB r s = false := by rw [Bool.eq_false_iff]; exact fun h => by have := oppB_iff.1 h; omega
                  have HR2 : Hid (R = false) := by show R = false; rw [HR1.out, kh, lh]; rfl
                  clear HR1 kh lh
                  go_wp2
                  go_ret
                  exact ⟨by rw [HR2.out]; rfl, HB.out⟩
              · have la : decide (0 < r) = false := by simpa using l1
                by_cases l3 : r < 0
                · have lc : decide (r < 0) = true := by simpa using l3
                  by_cases l4 : 0 < s
                  · have ld : decide (0 < s) = true := by simpa using l4
                    have lh : oppB r s = true := oppB_iff.2 (by omega)
                    have HR2 : Hid (R = true) := by show R = true; rw [HR1.out, kh, lh]; rfl
                    clear HR1 kh lh
                    go_wp2
                    go_ret
                    exact ⟨by rw [HR2.out]; rfl, HB.out⟩
                  · have ld : decide (0 < s) = false := by simpa using l4
                    have lh : oppB r s = false := by rw [Bool.eq_false_iff]; exact fun h => by have := oppB_iff.1 h; omega
                    have HR2 : Hid (R = false) := by show R = false; rw [HR1.out, kh, lh]; rfl
                    clear HR1 kh lh
                    go_wp2
                    go_ret
                    exact ⟨by rw [HR2.out]; rfl, HB.out⟩
                · have lc : decide (r < 0) = false := by simpa using l3
                  have lh : oppB r s = false := by rw [Bool.eq_false_iff]; exact fun h => by have := oppB_iff.1 h; omega
                  have HR2 : Hid (R = false) := by show R = false; rw [HR1.out, kh, lh]; rfl
                  clear HR1 kh lh
                  go_wp2
                  go_ret
                  exact ⟨by rw [HR2.out]; rfl, HB.out⟩
            · have kb : decide (q < 0) = false := by simpa using k2
              have kc : decide (p < 0) = false := by simp; omega
              have kh : oppB p q = false := by rw [Bool.eq_false_iff]; exact fun h => by have := oppB_iff.1 h; omega
              have HR2 : Hid (R = false) := by show R = false; rw [HR1.out, kh]; rfl
              clear HR1 kh
              go_wp2
              go_ret
              exact ⟨by rw [HR2.out]; rfl, HB.out⟩
          · have ka : decide (0 < p) = false := by simpa using k1
            by_cases k3 : p < 0
            · have kc : decide (p < 0) = true := by simpa using k3
              by_cases k4 : 0 < q
              · have kd : decide (0 < q) = true := by simpa using k4
                have kh : oppB p q = true := oppB_iff.2 (by omega)
                by_cases l1 : 0 < r
                · have la : decide (0 < r) = true := by simpa using l1
                  by_cases l2 : s < 0
                  · have lb : decide (s < 0) = true := by simpa using l2
                    have lh : oppB r s = true := oppB_iff.2 (by omega)
                    have HR2 : Hid (R = true) := by show R = true; rw [HR1.out, kh, lh]; rfl
                    clear HR1 kh lh
                    go_wp2
                    go_ret
                    exact ⟨by rw [HR2.out]; rfl, HB.out⟩
                  · have lb : decide (s < 0) = false := by simpa using l2
                    have lc : decide (r < 0) = false := by simp; omega
                    have lh : oppB r s = false := by rw [Bool.eq_false_iff]; exact fun h => by have := oppB_iff.1 h; omega
                    have HR2 : Hid (R = false) := by show R = false; rw [HR1.out, kh, lh]; rfl
                    clear HR1 kh lh
                    go_wp2
                    go_ret
                    exact ⟨by rw [HR2.out]; rfl, HB.out⟩
                · have la : decide (0 < r) = false := by simpa using l1
                  by_cases l3 : r < 0
                  · have lc : decide (r < 0) = true := by simpa using l3
                    by_cases l4 : 0 < s
                    · have ld : decide (0 < s) = true := by simpa using l4
                      have lh : oppB r s = true := oppB_iff.2 (by omega)
                      have HR2 : Hid (R = true) := by show R = true; rw [HR1.out, kh, lh]; rfl
                      clear HR1 kh lh
                      go_wp2
                      go_ret
                      exact ⟨by rw [HR2.out]; rfl, HB.out⟩
                    · have ld : decide (0 < s) = false := by simpa using l4
                      have lh : oppB r s = false := by rw [Bool.eq_false_iff]; exact fun h => by have := oppB_iff.1 h; omega
                      have HR2 : Hid (R = false) := by show R = false; rw [HR1.out, kh, lh]; rfl
                      clear HR1 kh lh
                      go_wp2
                      go_ret
                      exact ⟨by rw [HR2.out]; rfl, HB.out⟩
                  · have lc : decide (r < 0) = false := by simpa using l3
                    have lh : oppB r s = false := by rw [Bool.eq_false_iff]; exact fun h => by have := oppB_iff.1 h; omega
                    have HR2 : Hid (R = false) := by show R = false; rw [HR1.out, kh, lh]; rfl
                    clear HR1 kh lh
                    go_wp2
                    go_ret
                    exact ⟨by rw [HR2.out]; rfl, HB.out⟩
              · have kd : decide (0 < q) = false := by simpa using k4
                have kh : oppB p q = false := by rw [Bool.eq_false_iff]; exact fun h => by have := oppB_iff.1 h; omega
                have HR2 : Hid (R = false) := by show R = false; rw [HR1.out, kh]; rfl
                clear HR1 kh
                go_wp2
                go_ret
                exact ⟨by rw [HR2.out]; rfl, HB.out⟩
            · have kc : decide (p < 0) = false := by simpa using k3
              have kh : oppB p q = false := by rw [Bool.eq_false_iff]; exact fun h => by have := oppB_iff.1 h; omega
              have HR2 : Hid (R = false) := by show R = false; rw [HR1.out, kh]; rfl
              clear HR1 kh
              go_wp2
              go_ret
              exact ⟨by rw [HR2.out]; rfl, HB.out⟩
end Go.Proofs.YtnboonhlffkimaaGreatDoor
