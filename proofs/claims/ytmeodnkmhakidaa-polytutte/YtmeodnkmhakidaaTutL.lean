/- PolyTutte's walk. -/
import Derived.Test.YtmeodnkmhakidaaRefT
import Derived.Test.YtmeodnkmhakidaaRowsP
import Derived.Deep.CutBlock
namespace Go.Proofs.Ytmeodnkmhakidaa
set_option maxRecDepth 8000
open Go.RowKit Go.Maps
attribute [local go_sem ↓] Go.wp_at_zero Go.wp_at_succ
theorem refF_call {w : World} (c d : Int) : Calls Try.prog 6 #[.int .i64 c, .int .i64 d] w fun e w' => e = .returned (.agg #[.int .i64 c, .int .i64 d]) ∧ Below w.heap.size w w' := by
  go_enter Try.func6, Try.ntmps6
  go_upto_region 1 with (fail)
  have x4 := two_new w (.int .i64 0) (.int .i64 0) 27
  have hB := below_alloc (Below.refl _ w) (Obj.cells #[.int .i64 0, .int .i64 0] 27)
  obtain ⟨b4, hb4⟩ : ∃ b, b = w.heap.size := ⟨_, rfl⟩
  rw [← hb4] at x4 ⊢
  generalize w.alloc (Obj.cells #[.int .i64 0, .int .i64 0] 27) = W0 at *
  obtain ⟨q1, q2, q3, q4, q5, q6⟩ := store_two' x4 (.int .i64 c) (.int .i64 d)
  have HB : Hid (Below w.heap.size w W0 ∧ w.heap.size ≤ b4) := ⟨hB, by omega⟩
  clear x4 hB hb4
  go_wp2
  refine bodyPost_ret (v := .agg #[.int .i64 c, .int .i64 d]) ?_ rfl ⟨rfl, (HB.out.1.setCell HB.out.2 _).setCell HB.out.2 _⟩
  simp [results, Try.results6, go_sem, q5, q6]
/-- The table as rows of numbers. -/
def tabL (N : Nat) (es : List E2) : List (List Int) := (List.range (N - kf N es + 1)).map fun i => (List.range (kf N es + es.length - N + 1)).map fun j => tT N (kf N es) es i j
/-- What Tutte answers, its first part. -/
def TutB (w' : World) (n : Int) (es : List Pair) (P : Int × Int) (t : Value) : Prop :=
  (P.1 ≠ 0 ∧ t = .slice none 0 0) ∨ (P = (0, 0) ∧ ∃ (N : Nat) (es2 : List E2), n = N ∧ es = pzT es2 ∧ (∀ e ∈ es2, e.1 < N ∧ e.2 < N) ∧ RowsAt w' t (tabL N es2))
set_option maxHeartbeats 16000000 in
theorem tutte_law {w : World} {n : Int} {ao : Option Addr} {cap : Nat} {es : List Pair} (hE : EdgesAt w (.slice ao es.length cap) es) (hcap : es.length ≤ cap) (hTut : ∀ A v c, Below w.heap.size w A → EdgesAt A (.slice v es.length c) es → Calls Try.prog 7 #[.agg #[.int .i64 n, .slice v es.length c]] A fun e w' => (∃ t, e = .returned (.tuple #[t, .agg #[.int .i64 (chkP n es es.length).1, .int .i64 (chkP n es es.length).2]]) ∧ TutB w' n es (chkP n es es.length) t) ∧ Below A.heap.size A w') (hBeg : ∀ A, Calls Try.prog 8 #[] A fun e w' => e = .returned (.bool true) ∧ Below A.heap.size A w') :
    Calls Try.prog 3 #[.agg #[.int .i64 n, .slice ao es.length cap]] w fun e w' => e = .returned (.bool true) ∧ Below w.heap.size w w' := by
  obtain ⟨el, hel⟩ : ∃ el, el = es.length := ⟨_, rfl⟩
  have hel13 : es.length ≤ 8796093022208 := by obtain ⟨_, _, _, h, _⟩ := hE; exact h
  have C4 : Hid (∀ A, Below w.heap.size w A → Calls Try.prog 4 #[.agg #[.int .i64 n, .slice ao el cap]] A fun e w' => Below A.heap.size A w' ∧ ∃ ao c, e = .returned (.agg #[.int .i64 n, .slice ao el c]) ∧ EdgesAt w' (.slice ao el c) es ∧ el ≤ c) := fun A hA => by rw [hel]; exact own_any n ao cap es A (hE.below hA)
  have C5 : Hid (∀ A, Below w.heap.size w A → Calls Try.prog 5 #[.agg #[.int .i64 n, .slice ao el cap]] A fun e w' => e = .returned (.agg #[.int .i64 (chk n es).1, .int .i64 (chk n es).2]) ∧ Below A.heap.size A w') := fun A hA => by rw [hel]; exact refCheck_any n ao cap es A (hE.below hA) hcap
  obtain ⟨P, hP⟩ : ∃ P, P = chkP n es es.length := ⟨_, rfl⟩
  have C7 : Hid (∀ A v c, Below w.heap.size w A → EdgesAt A (.slice v el c) es → Calls Try.prog 7 #[.agg #[.int .i64 n, .slice v el c]] A fun e w' => (∃ t, e = .returned (.tuple #[t, .agg #[.int .i64 P.1, .int .i64 P.2]]) ∧ TutB w' n es P t) ∧ Below A.heap.size A w') := by rw [hel, hP]; exact hTut
  have C8 : Hid (∀ A, Calls Try.prog 8 #[] A fun e w' => e = .returned (.bool true) ∧ Below A.heap.size A w') := hBeg
  have HE : Hid (EdgesAt w (.slice ao el cap) es) := by rw [hel]; exact hE
  obtain ⟨Q, hQ⟩ : ∃ Q, Q = chk n es := ⟨_, rfl⟩
  have HP : Hid (P = (if Q.1 ≠ 0 then Q else if 12 < el then (2, 0) else (0, 0)) ∧ Q = chk n es ∧ el = es.length) := ⟨by rw [hP, hel, hQ]; rfl, hQ, hel⟩
  rw [← hQ] at C5
  rw [← hel]
  rw [← hel] at hel13
  clear hE hcap hTut hBeg hP hQ hel
  obtain ⟨q1, q2⟩ := Q
  obtain ⟨p1, p2⟩ := P
  simp only at C5 C7 HP
  have hneq := neq27 p1 p2
  go_enter Try.func3, Try.ntmps3
  go_upto_region 1 with (fail)
  have t1 := two_new w (.int .i64 n) (.slice ao el cap) 24
  have hB0 := below_alloc (Below.refl _ w) (Obj.cells #[.int .i64 n, .slice ao el cap] 24)
  generalize w.heap.size = b1 at t1 ⊢
  generalize w.alloc (Obj.cells #[.int .i64 n, .slice ao el cap] 24) = W0 at *
  have HW0 : Hid (Two W0 b1 (.int .i64 n) (.slice ao el cap) 24 ∧ Below w.heap.size w W0) := ⟨t1, hB0⟩
  obtain ⟨c0, c1⟩ := cell_two t1
  clear t1 hB0
  go_upto_region 2 with (first | (go_at_call 4; refine Calls.mono (C4.out _ HW0.out.2) ?_; rintro e W1 ⟨h1, oo, oc, rfl, hEo, _⟩) | fail)
  have t3 := two_new W1 (.int .i64 n) (.slice oo el oc) 24
  have hB2 := below_alloc (Below.refl _ W1) (Obj.cells #[.int .i64 n, .slice oo el oc] 24)
  generalize W1.heap.size = b3 at t3 ⊢
  generalize W1.alloc (Obj.cells #[.int .i64 n, .slice oo el oc] 24) = W2 at *
  have HW2 : Hid (Two W2 b1 (.int .i64 n) (.slice ao el cap) 24 ∧ Two W2 b3 (.int .i64 n) (.slice oo el oc) 24 ∧ EdgesAt W2 (.slice oo el oc) es ∧ Below w.heap.size w W2) := ⟨two_next HW0.out.1 (below_next h1 hB2), t3, hEo.below hB2, below_next HW0.out.2 (below_next h1 hB2)⟩
  obtain ⟨d0, d1⟩ := cell_two HW2.out.1
  clear h1 hB2 t3 hEo c0 c1 C4 HW0
  go_upto_region 3 with (first | (go_at_call 5; refine Calls.mono (C5.out _ HW2.out.2.2.2) ?_; rintro e W3 ⟨rfl, h3⟩) | fail)
  have x4 := two_new W3 (.int .i64 q1) (.int .i64 q2) 27
  have hB4 := below_alloc (Below.refl _ W3) (Obj.cells #[.int .i64 q1, .int .i64 q2] 27)
  obtain ⟨b4, hb4⟩ : ∃ b, b = W3.heap.size := ⟨_, rfl⟩
  rw [← hb4] at x4 ⊢
  generalize W3.alloc (Obj.cells #[.int .i64 q1, .int .i64 q2] 27) = W4 at *
  have HK : Hid (∀ A, Below W3.heap.size W3 A → Two A b1 (.int .i64 n) (.slice ao el cap) 24 ∧ Two A b3 (.int .i64 n) (.slice oo el oc) 24 ∧ EdgesAt A (.slice oo el oc) es ∧ Below w.heap.size w A) := fun A hA => by
    have hb := below_next h3 hA
    exact ⟨two_next HW2.out.1 hb, two_next HW2.out.2.1 hb, HW2.out.2.2.1.below hb, below_next HW2.out.2.2.2 hb⟩
  have HB4 : Hid (W3.heap.size ≤ b4) := by show _ ≤ _; omega
  have HX : Hid (Two W4 b4 (.int .i64 q1) (.int .i64 q2) 27 ∧ Below W3.heap.size W3 W4) := ⟨x4, hB4⟩
  clear hB4 h3 x4 hb4 d0 d1 C5 HW2
  obtain ⟨k1, hk1⟩ : ∃ k1 : Bool, k1 = decide (q1 = 0 ∧ 12 < el) := ⟨_, rfl⟩
  have HK1 : Hid _ := hk1
  clear hk1
  go_cut [19] from 11 to 19 (fun s19 wd => s19 = .bool k1 ∧ wd = W4)
  case first =>
    obtain ⟨r0, r1⟩ := cell_two HX.out.1
    obtain ⟨r2, r3⟩ := cell_two (HK.out _ HX.out.2).1
    by_cases hc : q1 = 0
    · subst hc
      by_cases hn : 12 < el
      · have kk : decide ((12 : Int) < (el : Int)) = true := by simp; omega
        go_wp2
        go_meet
        case rel => exact ⟨by rw [HK1.out]; simp [hn], rfl⟩
      · have kk : decide ((12 : Int) < (el : Int)) = false := by simp; omega
        go_wp2
        go_meet
        case rel => exact ⟨by rw [HK1.out]; simp [hn], rfl⟩
    · have kk : (q1 == 0) = false := by simp [hc]
      go_wp2
      go_meet
      case rel => exact ⟨by rw [HK1.out]; simp [hc], rfl⟩
  case rest =>
    obtain ⟨rfl, rfl⟩ := hcut
    go_upto_if 19 with (fail)
    go_cut [] from 20 to 20 (fun wd => Hid (Two wd b4 (.int .i64 p1) (.int .i64 p2) 27 ∧ Below W3.heap.size W3 wd))
    case first =>
      cases k1 with
      | false =>
        have h1 : (p1, p2) = (q1, q2) ∨ ((p1, p2) = (0, 0) ∧ (q1, q2) = (0, 0)) := by
          rw [HP.out.1]
          have hh := HK1.out
          by_cases h0 : q1 = 0
          · have : ¬ 12 < el := fun h => by simp [h0, h] at hh
            have hq : (q1, q2) = (0, 0) := by
              have hch := HP.out.2.1
              rw [hch]
              exact (chk_good (by rw [← hch]; exact h0)).1
            rw [if_neg (by simpa using h0), if_neg this]
            exact Or.inr ⟨rfl, hq⟩
          · rw [if_pos h0]; exact Or.inl rfl
        have h2 : p1 = q1 ∧ p2 = q2 := by
          rcases h1 with h1 | ⟨h1, h2⟩
          · simpa using h1
          · simp only [Prod.mk.injEq] at h1 h2; omega
        have H2 : Hid _ := h2
        clear h1 h2
        go_wp2
        go_meet
        case rel => rw [H2.out.1, H2.out.2]; exact HX
      | true =>
        have h1 : p1 = 2 ∧ p2 = 0 := by
          have hh := HK1.out
          simp only [Bool.true_eq, decide_eq_true_eq] at hh
          have := HP.out.1
          rw [if_neg (by simpa using hh.1), if_pos hh.2] at this
          simpa using this
        have H1 : Hid _ := h1
        clear h1
        obtain ⟨r0, r1⟩ := cell_two HX.out.1
        go_wp2_with (first | (go_at_call 6; refine Calls.mono (refF_call 2 0) ?_; rintro e V1 ⟨rfl, g1⟩; obtain ⟨s1, s2, s3, s4, s5, s6⟩ := store_two' (two_next HX.out.1 g1) (.int .i64 2) (.int .i64 0)) | fail)
        go_meet
        case rel => rw [H1.out.1, H1.out.2]; exact ⟨two_setN (two_next HX.out.1 g1), ((below_next HX.out.2 g1).setCell HB4.out _).setCell HB4.out _⟩
    case rest =>
      have HX1 := hcut
      clear hcut HX HK1
      obtain ⟨r0, r1⟩ := cell_two (HK.out _ HX1.out.2).2.1
      go_upto_region 6 with (first | (go_at_call 7; refine Calls.mono (C7.out _ _ _ (HK.out _ HX1.out.2).2.2.2 (HK.out _ HX1.out.2).2.2.1) ?_; rintro e W5 ⟨⟨tv, rfl, hT⟩, h5⟩) | fail)
      have x6 := two_new W5 (.int .i64 p1) (.int .i64 p2) 27
      have hB6 := below_alloc (Below.refl _ W5) (Obj.cells #[.int .i64 p1, .int .i64 p2] 27)
      generalize W5.heap.size = b6 at x6 ⊢
      generalize W5.alloc (Obj.cells #[.int .i64 p1, .int .i64 p2] 27) = W6 at *
      have HK6 : Hid (∀ A, Below W6.heap.size W6 A → Two A b1 (.int .i64 n) (.slice ao el cap) 24 ∧ Two A b3 (.int .i64 n) (.slice oo el oc) 24 ∧ EdgesAt A (.slice oo el oc) es ∧ Below w.heap.size w A ∧ Two A b4 (.int .i64 p1) (.int .i64 p2) 27 ∧ Two A b6 (.int .i64 p1) (.int .i64 p2) 27 ∧ ∀ ls, RowsAt W5 tv ls → RowsAt A tv ls) := fun A hA => by
        have hb := below_next h5 (below_next hB6 hA)
        obtain ⟨k1, k2, k3, k4⟩ := HK.out A (below_next HX1.out.2 hb)
        exact ⟨k1, k2, k3, k4, two_next HX1.out.1 hb, two_next x6 hA, fun ls h => h.below (below_next hB6 hA)⟩
      have HT : Hid (TutB W5 n es (p1, p2) tv) := hT
      have C9 : Hid (∀ A, Below W6.heap.size W6 A → Calls Try.prog 9 #[.agg #[.int .i64 n, .slice oo el oc], .agg #[.int .i64 n, .slice ao el cap]] A fun e w' => e = .returned (.bool true) ∧ Below A.heap.size A w') := fun A hA => by
        obtain ⟨_, _, k3, k4, _⟩ := HK6.out A hA
        exact kept_true n _ _ es A k3 (HE.out.below k4)
      clear hT h5 hB6 x6 r0 r1 C7 HX1 HK HB4
      go_upto_region 8 with (first | (go_at_call 8; refine Calls.mono (C8.out _) ?_; rintro e V1 ⟨rfl, g1⟩; obtain ⟨y0, y1⟩ := cell_two (HK6.out _ g1).1; obtain ⟨y2, y3⟩ := cell_two (HK6.out _ g1).2.1; obtain ⟨y4, y5⟩ := cell_two (HK6.out _ g1).2.2.2.2.1; obtain ⟨y6, y7⟩ := cell_two (HK6.out _ g1).2.2.2.2.2.1) | (go_at_call 9; refine Calls.mono (C9.out _ g1) ?_; rintro e V2 ⟨rfl, g2⟩) | fail)
      have HG : Hid (Below W6.heap.size W6 V2) := below_next g1 g2
      clear g1 g2 y0 y1 y2 y3 y4 y5 y6 y7 C8 C9 hneq
      obtain ⟨y0, y1⟩ := cell_two (HK6.out _ HG.out).1
      obtain ⟨y4, y5⟩ := cell_two (HK6.out _ HG.out).2.2.2.2.1
      have HBw : Hid (Below w.heap.size w V2) := (HK6.out _ HG.out).2.2.2.1
      by_cases h0 : p1 = 0
      · have kc : (p1 != 0) = false := by simpa using h0
        have hT2 : ∃ (N : Nat) (es2 : List E2), n = N ∧ es = pzT es2 ∧ (∀ e ∈ es2, e.1 < N ∧ e.2 < N) ∧ RowsAt V2 tv (tabL N es2) := by
          rcases HT.out with ⟨h, _⟩ | ⟨_, N, es2, e1, e2, e3, h⟩
          · exact absurd h0 h
          · exact ⟨N, es2, e1, e2, e3, (HK6.out _ HG.out).2.2.2.2.2.2 _ h⟩
        obtain ⟨N, es2, rfl, rfl, hes, hrows⟩ := hT2
        have hgood : ∀ e ∈ pzT es2, (0 ≤ e.1 ∧ e.1 < N ∧ 0 ≤ e.2 ∧ e.2 < N) ∧ e.1 ≠ e.2 := by
          have hq : (chk (N : Int) (pzT es2)).1 = 0 := by
            rw [← HP.out.2.1]
            refine Classical.byContradiction fun h => ?_
            have := HP.out.1
            rw [if_pos h] at this
            simp only [Prod.mk.injEq] at this
            exact h (by rw [← this.1]; exact h0)
          exact (chk_good hq).2.2.2.2
        obtain ⟨tvo, tvc, htv, _⟩ := id hrows
        have hell : el = es2.length := by rw [HP.out.2.2]; simp [pzT]
        have HR : Hid (RowsAt V2 tv (tabL N es2) ∧ EdgesAt V2 (.slice ao el cap) (pzT es2)) := ⟨hrows, HE.out.below HBw.out⟩
        have C11 : Hid (N ≤ 12 → el ≤ 9 → Calls Try.prog 11 #[.agg #[.int .i64 (N : Int), .slice ao el cap]] V2 fun e w' => (∃ v, e = .returned v ∧ RowsAt w' v (tabL N es2)) ∧ Below V2.heap.size V2 w') := fun hN hm => by
          have h1 := HR.out.2
          rw [hell] at h1 hm ⊢
          exact refT_call h1 hN hm hgood hes
        clear hes hrows hgood hell h0 htv HT HP HE
        by_cases hm : 9 < el
        · have km : decide ((9 : Int) < (el : Int)) = true := by simp; omega
          go_wp2
          go_ret
          exact ⟨rfl, HBw.out⟩
        · have km : decide ((9 : Int) < (el : Int)) = false := by simp; omega
          by_cases hN : 12 < N
          · have kn : decide ((12 : Int) < (N : Int)) = true := by simp; omega
            go_wp2
            go_ret
            exact ⟨rfl, HBw.out⟩
          · have kn : decide ((12 : Int) < (N : Int)) = false := by simp; omega
            have C11' : Hid _ := C11.out (by omega) (by omega)
            clear C11
            go_wp2_with (first | (go_at_call 11; refine Calls.mono C11'.out ?_; rintro e V3 ⟨⟨v3, rfl, hr3⟩, g3⟩) | (go_at_call 10; refine Calls.mono (lists_true _ _ _ _ (HR.out.1.below g3) hr3) ?_; rintro e V4 ⟨rfl, mm, rfl⟩) | go_in)
            go_ret
            exact ⟨rfl, below_next HBw.out (below_next g3 (below_drewN (Below.refl _ _) _))⟩
      · have kc : (p1 != 0) = true := by simpa using h0
        have htv : tv = .slice none 0 0 := by
          rcases HT.out with ⟨_, h⟩ | ⟨h, _⟩
          · exact h
          · simp only [Prod.mk.injEq] at h; exact absurd h.1 h0
        subst htv
        clear h0 HT
        go_wp2
        go_ret
        exact ⟨rfl, HBw.out⟩
end Go.Proofs.Ytmeodnkmhakidaa
