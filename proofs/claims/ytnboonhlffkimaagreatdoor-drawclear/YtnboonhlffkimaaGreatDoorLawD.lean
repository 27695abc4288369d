/- DrawClear's walk. -/
import Derived.Test.YtnboonhlffkimaaGreatDoorEqM
import Derived.Test.YtnboonhlffkimaaGreatDoorBeg
import Derived.Test.YtnboonhlffkimaaGreatDoorCpW
import Derived.Deep.CutBlock
namespace Go.Proofs.YtnboonhlffkimaaGreatDoor
set_option maxRecDepth 8000
open Go.RowKit Go.Maps
attribute [local go_sem ↓] Go.wp_at_zero Go.wp_at_succ
def VL (W : World) (n : Int) (gv : Value) (ao : Option Addr) (ln ac : Nat) (P : Nat → Pt) (B : Bool) (q1 q2 : Int) : Nat → Value → World → Prop
  | 0, x, _ => x = .agg #[.int .i64 n, gv]
  | 1, x, _ => x = .slice ao ln ac
  | 2, x, w => ∃ po pc, x = .slice po ln pc ∧ PF w po ln P ∧ ln ≤ pc
  | 3, x, _ => x = .tuple #[.bool B, .agg #[.int .i64 q1, .int .i64 q2]]
  | 4, x, _ => x = .tuple #[.bool B, .agg #[.int .i64 q1, .int .i64 q2]]
  | 5, x, _ => x = .bool B
  | 6, x, _ => x = .agg #[.int .i64 q1, .int .i64 q2]
  | 7, x, w => ∃ b, x = ptr b ∧ W.heap.size ≤ b ∧ Two w b (.int .i64 0) (.int .i64 0) 28
  | 8, x, _ => x = .bool B
  | _, _, _ => ln = ln
theorem VL_mono {W : World} {n : Int} {gv : Value} {ao : Option Addr} {ln ac : Nat} {P : Nat → Pt} {B : Bool} {q1 q2 : Int} : ∀ i x w w', VL W n gv ao ln ac P B q1 q2 i x w → Below w.heap.size w w' → VL W n gv ao ln ac P B q1 q2 i x w' := fun i x w w' h hb => by
  match i with
  | 0 => exact h
  | 1 => exact h
  | 2 => obtain ⟨po, pc, h1, h2, h3⟩ := h; exact ⟨po, pc, h1, h2.below hb, h3⟩
  | 3 => exact h
  | 4 => exact h
  | 5 => exact h
  | 6 => exact h
  | 7 => obtain ⟨b, h1, h2, h3⟩ := h; exact ⟨b, h1, h2, two_next h3 hb⟩
  | 8 => exact h
  | n + 9 => rfl
set_option maxHeartbeats 32000000 in
theorem clear_law {w : World} {n : Int} {eo ao : Option Addr} {ec ln ac : Nat} {es : List Pair} {P : Nat → Pt} (hE : EdgesAt w (.slice eo es.length ec) es) (hec : es.length ≤ ec) (hP : PF w ao ln P) (hln : ln ≤ 8796093022208) (hT : T64 w) :
    Calls Tryz.prog 3 #[.agg #[.int .i64 n, .slice eo es.length ec], .slice ao ln ac] w fun e w' => e = .returned (.bool true) ∧ Below w.heap.size w w' := by
  obtain ⟨el, hel⟩ : ∃ el, el = es.length := ⟨_, rfl⟩
  obtain ⟨Q, hQ⟩ : ∃ Q, Q = clrP n es ln P := ⟨_, rfl⟩
  obtain ⟨K, hK⟩ : ∃ K, K = chk n es := ⟨_, rfl⟩
  obtain ⟨S, hS⟩ : ∃ S, S = (if K.1 = 0 ∧ (ln : Int) ≠ n then ((6 : Int), (0 : Int)) else K) := ⟨_, rfl⟩
  obtain ⟨B, hB⟩ : ∃ B, B = (decide (Q.1 = 0) && clearB ln es P) := ⟨_, rfl⟩
  have C4 : Hid (∀ A, Below w.heap.size w A → Calls Tryz.prog 4 #[.agg #[.int .i64 n, .slice eo el ec]] A fun e w' => Below A.heap.size A w' ∧ ∃ ao c, e = .returned (.agg #[.int .i64 n, .slice ao el c]) ∧ EdgesAt w' (.slice ao el c) es ∧ el ≤ c) := fun A hA => by rw [hel]; exact own_any n eo ec es A (hE.below hA)
  have C5 : Hid (∀ A, Below w.heap.size w A → Calls Tryz.prog 5 #[.agg #[.int .i64 n, .slice eo el ec]] A fun e w' => e = .returned (.agg #[.int .i64 K.1, .int .i64 K.2]) ∧ Below A.heap.size A w') := fun A hA => by rw [hel, hK]; exact refCheck_any n eo ec es A (hE.below hA) hec
  have C6 : Hid (∀ (a b : Int) A, Calls Tryz.prog 6 #[.int .i64 a, .int .i64 b] A fun e w' => e = .returned (.agg #[.int .i64 a, .int .i64 b]) ∧ Below A.heap.size A w') := fun a b A => refF_any a b A
  have C7 : Hid (∀ A v c po pc, EdgesAt A (.slice v el c) es → el ≤ c → PF A po ln P → ln ≤ pc → Calls Tryz.prog 7 #[.agg #[.int .i64 n, .slice v el c], .slice po ln pc] A fun e w' => e = .returned (.tuple #[.bool B, .agg #[.int .i64 Q.1, .int .i64 Q.2]]) ∧ Below A.heap.size A w') := fun A v c po pc h1 h2 h3 h4 => by
    rw [hel] at h1 h2 ⊢
    rw [hB, hQ]
    exact clear_call h1 h2 h3 h4 hln
  have C8 : Hid (∀ A, Below w.heap.size w A → Calls Tryz.prog 8 #[] A fun e w' => e = .returned (.bool true) ∧ Below A.heap.size A w') := fun A hA => begun_call (hT.under hA)
  have HF : Hid (Q = (if K.1 ≠ 0 then K else if (ln : Int) ≠ n then (6, 0) else match farP P ln with
    | some i => (3, (i : Int))
    | none => (0, 0)) ∧ K = chk n es ∧ S = (if K.1 = 0 ∧ (ln : Int) ≠ n then ((6 : Int), (0 : Int)) else K) ∧ B = (decide (Q.1 = 0) && clearB ln es P) ∧ el = es.length) := ⟨by rw [hQ, hK]; rfl, hK, hS, hB, hel⟩
  have HSQ : Hid ((S.1 ≠ 0 → Q = S) ∧ (S.1 = 0 → S = (0, 0) ∧ Q = (match farP P ln with
    | some i => (3, (i : Int))
    | none => (0, 0)) ∧ K.1 = 0 ∧ (ln : Int) = n)) := by
    have h1 := HF.out.1
    have h2 := HF.out.2.2.1
    by_cases hk : K.1 = 0
    · rw [if_neg (by simpa using hk)] at h1
      by_cases hn : (ln : Int) = n
      · rw [if_neg (by simpa using hn)] at h1
        rw [if_neg (fun h => h.2 hn)] at h2
        have hk0 : K = (0, 0) := by rw [HF.out.2.1]; exact (chk_good (by rw [← HF.out.2.1]; exact hk)).1
        refine ⟨fun h => ?_, fun _ => ⟨by rw [h2, hk0], h1, hk, hn⟩⟩
        rw [h2] at h
        exact absurd hk h
      · rw [if_pos hn] at h1
        rw [if_pos ⟨hk, hn⟩] at h2
        refine ⟨fun _ => by rw [h1, h2], fun h => ?_⟩
        rw [h2] at h
        cases h
    · rw [if_pos hk] at h1
      rw [if_neg (fun h => hk h.1)] at h2
      refine ⟨fun _ => by rw [h1, h2], fun h => ?_⟩
      rw [h2] at h
      exact absurd h hk
  have HH : Hid (EdgesAt w (.slice eo el ec) es ∧ PF w ao ln P) := ⟨by rw [hel]; exact hE, hP⟩
  rw [← hel]
  clear hE hec hP hT hQ hK hS hB hel
  obtain ⟨q1, q2⟩ := Q
  obtain ⟨k1, k2⟩ := K
  obtain ⟨s1, s2⟩ := S
  simp only at C5 C7 HF HSQ
  have hneq := neq28 q1 q2
  have HNEQ : Hid _ := hneq
  clear hneq
  go_enter Tryz.func3, Tryz.ntmps3
  go_upto_region 1 with (fail)
  have t1 := two_new w (.int .i64 n) (.slice eo el ec) 24
  have hB0 := below_alloc (Below.refl _ w) (Obj.cells #[.int .i64 n, .slice eo el ec] 24)
  generalize w.heap.size = b2 at t1 ⊢
  generalize w.alloc (Obj.cells #[.int .i64 n, .slice eo el ec] 24) = W0 at *
  have HW0 : Hid (Two W0 b2 (.int .i64 n) (.slice eo el ec) 24 ∧ Below w.heap.size w W0) := ⟨t1, hB0⟩
  obtain ⟨c0, c1⟩ := cell_two t1
  clear t1 hB0
  go_upto_region 2 with (first | (go_at_call 4; refine Calls.mono (C4.out _ HW0.out.2) ?_; rintro e W1 ⟨h1, oo, oc, rfl, hEo, hco⟩) | fail)
  have t3 := two_new W1 (.int .i64 n) (.slice oo el oc) 24
  have hB2 := below_alloc (Below.refl _ W1) (Obj.cells #[.int .i64 n, .slice oo el oc] 24)
  generalize W1.heap.size = b5 at t3 ⊢
  generalize W1.alloc (Obj.cells #[.int .i64 n, .slice oo el oc] 24) = W2 at *
  have HW2 : Hid (Two W2 b2 (.int .i64 n) (.slice eo el ec) 24 ∧ Two W2 b5 (.int .i64 n) (.slice oo el oc) 24 ∧ EdgesAt W2 (.slice oo el oc) es ∧ Below w.heap.size w W2 ∧ el ≤ oc) := ⟨two_next HW0.out.1 (below_next h1 hB2), t3, hEo.below hB2, below_next HW0.out.2 (below_next h1 hB2), hco⟩
  obtain ⟨d0, d1⟩ := cell_two HW2.out.1
  clear h1 hB2 t3 hEo c0 c1 C4 HW0 hco
  go_upto_region 3 with (first | (go_at_call 5; refine Calls.mono (C5.out _ HW2.out.2.2.2.1) ?_; rintro e W3 ⟨rfl, h3⟩) | fail)
  have x6 := two_new W3 (.int .i64 k1) (.int .i64 k2) 28
  have hB4 := below_alloc (Below.refl _ W3) (Obj.cells #[.int .i64 k1, .int .i64 k2] 28)
  obtain ⟨b6, hb6⟩ : ∃ b, b = W3.heap.size := ⟨_, rfl⟩
  rw [← hb6] at x6 ⊢
  generalize W3.alloc (Obj.cells #[.int .i64 k1, .int .i64 k2] 28) = W4 at *
  have HK : Hid (∀ A, Below W3.heap.size W3 A → Two A b2 (.int .i64 n) (.slice eo el ec) 24 ∧ Two A b5 (.int .i64 n) (.slice oo el oc) 24 ∧ EdgesAt A (.slice oo el oc) es ∧ Below w.heap.size w A) := fun A hA => by
    have hb := below_next h3 hA
    exact ⟨two_next HW2.out.1 hb, two_next HW2.out.2.1 hb, HW2.out.2.2.1.below hb, below_next HW2.out.2.2.2.1 hb⟩
  have HOC : Hid (el ≤ oc) := HW2.out.2.2.2.2
  have HB6 : Hid (W3.heap.size ≤ b6) := by show _ ≤ _; omega
  have HX : Hid (Two W4 b6 (.int .i64 k1) (.int .i64 k2) 28 ∧ Below W3.heap.size W3 W4) := ⟨x6, hB4⟩
  clear hB4 h3 x6 hb6 d0 d1 C5 HW2
  obtain ⟨t, ht⟩ : ∃ t : Bool, t = decide (k1 = 0 ∧ (ln : Int) ≠ n) := ⟨_, rfl⟩
  have HK1 : Hid _ := ht
  clear ht
  go_cut [23] from 14 to 23 (fun s23 wd => s23 = .bool t ∧ wd = W4)
  case first =>
    obtain ⟨r0, r1⟩ := cell_two HX.out.1
    obtain ⟨r2, r3⟩ := cell_two (HK.out _ HX.out.2).1
    by_cases hc : k1 = 0
    · subst hc
      by_cases hn : (ln : Int) = n
      · have kk : ((ln : Int) != n) = false := by simpa using hn
        have HT2 : Hid (t = false) := by show t = false; rw [HK1.out]; simp [hn]
        clear hn
        go_wp2
        go_meet
        case rel => exact ⟨by rw [HT2.out], rfl⟩
      · have kk : ((ln : Int) != n) = true := by simpa using hn
        have HT2 : Hid (t = true) := by show t = true; rw [HK1.out]; simp [hn]
        clear hn
        go_wp2
        go_meet
        case rel => exact ⟨by rw [HT2.out], rfl⟩
    · have kk : (k1 == 0) = false := by simp [hc]
      have HT2 : Hid (t = false) := by show t = false; rw [HK1.out]; simp [hc]
      clear hc
      go_wp2
      go_meet
      case rel => exact ⟨by rw [HT2.out], rfl⟩
  case rest =>
    obtain ⟨rfl, rfl⟩ := hcut
    go_upto_if 23 with (fail)
    go_cut [] from 24 to 24 (fun wd => Hid (Two wd b6 (.int .i64 s1) (.int .i64 s2) 28 ∧ Below W3.heap.size W3 wd))
    case first =>
      cases t with
      | false =>
        have h1 : (s1, s2) = (k1, k2) := by
          rw [HF.out.2.2.1]
          exact if_neg (fun h => by have := HK1.out; simp [h.1, h.2] at this)
        simp only [Prod.mk.injEq] at h1
        have H1 : Hid _ := h1
        clear h1
        go_wp2
        go_meet
        case rel => rw [H1.out.1, H1.out.2]; exact HX
      | true =>
        have h1 : (s1, s2) = (6, 0) := by
          rw [HF.out.2.2.1]
          have hh := HK1.out
          simp only [Bool.true_eq, decide_eq_true_eq] at hh
          exact if_pos hh
        simp only [Prod.mk.injEq] at h1
        have H1 : Hid _ := h1
        clear h1
        obtain ⟨r0, r1⟩ := cell_two HX.out.1
        go_wp2_with (first | (go_at_call 6; refine Calls.mono (C6.out 6 0 _) ?_; rintro e V1 ⟨rfl, g1⟩; obtain ⟨s1', s2', s3, s4, s5, s6⟩ := store_two' (two_next HX.out.1 g1) (.int .i64 6) (.int .i64 0)) | fail)
        go_meet
        case rel => rw [H1.out.1, H1.out.2]; exact ⟨two_setN (two_next HX.out.1 g1), ((below_next HX.out.2 g1).setCell HB6.out _).setCell HB6.out _⟩
    case rest =>
      have HX1 := hcut
      clear hcut HX HK1
      go_upto_block 0 with (fail)
      go_cut [7] from 25 to 67 (fun _ wd => Hid (Two wd b6 (.int .i64 q1) (.int .i64 q2) 28 ∧ Below W3.heap.size W3 wd))
      case first =>
        go_wp2_with (fail)
        go_loopw [7] (fun s7 wz => ∃ (i : Nat) (c d : Int), i ≤ ln ∧ s7 = .int .i64 (i : Int) ∧ Hid (Two wz b6 (.int .i64 c) (.int .i64 d) 28 ∧ Below W3.heap.size W3 wz ∧ ((c ≠ 0 ∧ c = q1 ∧ d = q2) ∨ (c = 0 ∧ d = 0 ∧ s1 = 0 ∧ ∀ j, j < i → okP (P j) = true)))) (fun s7 _ => ln - (numOf s7).toNat)
        case atStart =>
          refine ⟨0, s1, s2, Nat.zero_le _, rfl, HX1.out.1, HX1.out.2, ?_⟩
          by_cases h : s1 = 0
          · have h2 := (HSQ.out.2 h).1
            simp only [Prod.mk.injEq] at h2
            exact Or.inr ⟨h, h2.2, h, fun j hj => by omega⟩
          · have h2 := HSQ.out.1 h
            simp only [Prod.mk.injEq] at h2
            exact Or.inl ⟨h, h2.1.symm, h2.2.symm⟩
        case round =>
          obtain ⟨i, c, d, hi, rfl, hJ⟩ := hrel
          clear HX1
          obtain ⟨p0, p1⟩ := cell_two hJ.out.1
          by_cases hlt : i < ln
          · have i1 : (0 : Int) ≤ (i : Int) := by omega
            have i2 : (i : Int) < (ln : Int) := by omega
            have ki : decide ((i : Int) < (ln : Int)) = true := by simpa using i2
            by_cases hc : c = 0
            · subst hc
              obtain ⟨hs0, hok⟩ : s1 = 0 ∧ ∀ j, j < i → okP (P j) = true := by
                rcases hJ.out.2.2 with ⟨h, _⟩ | ⟨_, _, h1, h2⟩
                · exact absurd rfl h
                · exact ⟨h1, h2⟩
              have hd0 : d = 0 := by
                rcases hJ.out.2.2 with ⟨h, _⟩ | ⟨_, h1, _⟩
                · exact absurd rfl h
                · exact h1
              subst hd0
              obtain ⟨b, off, hao, z0, z1⟩ := HH.out.2.below (HK.out _ hJ.out.2.1).2.2.2 i hlt
              subst hao
              obtain ⟨x1, hx1⟩ : ∃ x, x = (P i).1 := ⟨_, rfl⟩
              obtain ⟨x2, hx2⟩ : ∃ x, x = (P i).2 := ⟨_, rfl⟩
              rw [← hx1] at z0
              rw [← hx2] at z1
              have HOK : Hid ((okP (P i) = true ↔ ((-1000000 ≤ x1 ∧ x1 ≤ 1000000) ∧ (-1000000 ≤ x2 ∧ x2 ≤ 1000000))) ∧ (∀ j, j < i → okP (P j) = true) ∧ s1 = 0) := ⟨by rw [hx1, hx2]; unfold okP valB; simp, hok, hs0⟩
              have HBAD : Hid (okP (P i) = false → q1 = 3 ∧ q2 = (i : Int)) := fun hb => by
                have h2 := (HSQ.out.2 hs0).2.1
                rw [farP_some hok hlt hb] at h2
                simpa using h2
              have HW5 : Hid (Below W3.heap.size W3 wr ∧ Two wr b6 (.int .i64 0) (.int .i64 0) 28) := ⟨hJ.out.2.1, hJ.out.1⟩
              clear hx1 hx2 hok hs0 hJ
              by_cases ha : x1 < -1000000
              · have ka : decide (x1 < -1000000) = true := by simpa using ha
                have HQ3 : Hid (q1 = 3 ∧ q2 = (i : Int)) := HBAD.out (by rw [Bool.eq_false_iff]; intro hh; have := HOK.out.1.1 hh; omega)
                clear ha
                go_wp2_with (first | (go_at_call 6; refine Calls.mono (C6.out _ _ _) ?_; rintro e V1 ⟨rfl, g1⟩; obtain ⟨s1', s2', s3, s4, s5, s6⟩ := store_two' (two_next HW5.out.2 g1) (.int .i64 3) (.int .i64 (i : Int))) | fail)
                go_roundw
                case rel => exact ⟨i + 1, 3, (i : Int), by omega, by go_num, two_setN (two_next HW5.out.2 g1), ((below_next HW5.out.1 g1).setCell HB6.out _).setCell HB6.out _, Or.inl ⟨by omega, HQ3.out.1.symm, HQ3.out.2.symm⟩⟩
                case measure => simp [numOf]; omega
              · have ka : decide (x1 < -1000000) = false := by simpa using ha
                by_cases hb : 1000000 < x1
                · have kb : decide (1000000 < x1) = true := by simpa using hb
                  have HQ3 : Hid (q1 = 3 ∧ q2 = (i : Int)) := HBAD.out (by rw [Bool.eq_false_iff]; intro hh; have := HOK.out.1.1 hh; omega)
                  clear ha hb
                  go_wp2_with (first | (go_at_call 6; refine Calls.mono (C6.out _ _ _) ?_; rintro e V1 ⟨rfl, g1⟩; obtain ⟨s1', s2', s3, s4, s5, s6⟩ := store_two' (two_next HW5.out.2 g1) (.int .i64 3) (.int .i64 (i : Int))) | fail)
                  go_roundw
                  case rel => exact ⟨i + 1, 3, (i : Int), by omega, by go_num, two_setN (two_next HW5.out.2 g1), ((below_next HW5.out.1 g1).setCell HB6.out _).setCell HB6.out _, Or.inl ⟨by omega, HQ3.out.1.symm, HQ3.out.2.symm⟩⟩
                  case measure => simp [numOf]; omega
                · have kb : decide (1000000 < x1) = false := by simpa using hb
                  by_cases hc : x2 < -1000000
                  · have kc : decide (x2 < -1000000) = true := by simpa using hc
                    have HQ3 : Hid (q1 = 3 ∧ q2 = (i : Int)) := HBAD.out (by rw [Bool.eq_false_iff]; intro hh; have := HOK.out.1.1 hh; omega)
                    clear ha hb hc
                    go_wp2_with (first | (go_at_call 6; refine Calls.mono (C6.out _ _ _) ?_; rintro e V1 ⟨rfl, g1⟩; obtain ⟨s1', s2', s3, s4, s5, s6⟩ := store_two' (two_next HW5.out.2 g1) (.int .i64 3) (.int .i64 (i : Int))) | fail)
                    go_roundw
                    case rel => exact ⟨i + 1, 3, (i : Int), by omega, by go_num, two_setN (two_next HW5.out.2 g1), ((below_next HW5.out.1 g1).setCell HB6.out _).setCell HB6.out _, Or.inl ⟨by omega, HQ3.out.1.symm, HQ3.out.2.symm⟩⟩
                    case measure => simp [numOf]; omega
                  · have kc : decide (x2 < -1000000) = false := by simpa using hc
                    by_cases hd : 1000000 < x2
                    · have kd : decide (1000000 < x2) = true := by simpa using hd
                      have HQ3 : Hid (q1 = 3 ∧ q2 = (i : Int)) := HBAD.out (by rw [Bool.eq_false_iff]; intro hh; have := HOK.out.1.1 hh; omega)
                      clear ha hb hc hd
                      go_wp2_with (first | (go_at_call 6; refine Calls.mono (C6.out _ _ _) ?_; rintro e V1 ⟨rfl, g1⟩; obtain ⟨s1', s2', s3, s4, s5, s6⟩ := store_two' (two_next HW5.out.2 g1) (.int .i64 3) (.int .i64 (i : Int))) | fail)
                      go_roundw
                      case rel => exact ⟨i + 1, 3, (i : Int), by omega, by go_num, two_setN (two_next HW5.out.2 g1), ((below_next HW5.out.1 g1).setCell HB6.out _).setCell HB6.out _, Or.inl ⟨by omega, HQ3.out.1.symm, HQ3.out.2.symm⟩⟩
                      case measure => simp [numOf]; omega
                    · have kd : decide (1000000 < x2) = false := by simpa using hd
                      have HG : Hid (okP (P i) = true) := HOK.out.1.2 (by omega)
                      clear ha hb hc hd
                      go_wp2
                      go_roundw
                      case rel => exact ⟨i + 1, 0, 0, by omega, by go_num, HW5.out.2, HW5.out.1, Or.inr ⟨rfl, rfl, HOK.out.2.2, fun j hj => by
                        by_cases e : j = i
                        · subst e; exact HG.out
                        · exact HOK.out.2.1 j (by omega)⟩⟩
                      case measure => simp [numOf]; omega
            · have kc : (c == 0) = false := by simp [hc]
              obtain ⟨h1, h2⟩ : c = q1 ∧ d = q2 := by
                rcases hJ.out.2.2 with ⟨_, h1, h2⟩ | ⟨h, _⟩
                · exact ⟨h1, h2⟩
                · exact absurd h hc
              have H1 : Hid _ := And.intro h1 h2
              clear h1 h2 hc
              go_wp2
              go_meet
              case rel => rw [← H1.out.1, ← H1.out.2]; exact ⟨hJ.out.1, hJ.out.2.1⟩
          · obtain rfl : i = ln := by omega
            have ki : decide ((i : Int) < (i : Int)) = false := by simp
            have H1 : Hid (c = q1 ∧ d = q2) := by
              rcases hJ.out.2.2 with ⟨_, h1, h2⟩ | ⟨h1, h2, h3, h4⟩
              · exact ⟨h1, h2⟩
              · have h5 := (HSQ.out.2 h3).2.1
                rw [farP_none h4] at h5
                simp only [Prod.mk.injEq] at h5
                exact ⟨by rw [h1, h5.1], by rw [h2, h5.2]⟩
            go_wp2
            go_meet
            case rel => rw [← H1.out.1, ← H1.out.2]; exact ⟨hJ.out.1, hJ.out.2.1⟩
      case rest =>
        have HX2 := hcut
        clear hcut HX1
        generalize wc = WC at *
        obtain ⟨r2, r5, rE, rB⟩ := HK.out _ HX2.out.2
        have HKC : Hid (∀ A, Below WC.heap.size WC A → Two A b2 (.int .i64 n) (.slice eo el ec) 24 ∧ Two A b5 (.int .i64 n) (.slice oo el oc) 24 ∧ EdgesAt A (.slice oo el oc) es ∧ Below w.heap.size w A ∧ Two A b6 (.int .i64 q1) (.int .i64 q2) 28) := fun A hA => ⟨two_next r2 hA, two_next r5 hA, rE.below hA, below_next rB hA, two_next HX2.out.1 hA⟩
        clear r2 r5 rE rB HX2 HK HB6
        go_upto_region 10 with (fail)
        refine region_ext (J := SQ WC 9 (VL WC n (.slice oo el oc) ao ln ac P B q1 q2) (fun f A => ∃ b, f 7 = ptr b ∧ f 8 = .bool B ∧ Two A b (.int .i64 q1) (.int .i64 q2) 28 ∧ Below WC.heap.size WC A)) (by kernel_rfl) (by kernel_rfl) (by kernel_rfl) SQ.start ?_ ?_
        · intro i o hi L xs a w1 hJ hL hd hcl hX
          match i, hi with
          | 0, hi =>
            cases hi
            have s1 := hX.out (s := 5) rfl
            obtain ⟨_, h5, _⟩ := HKC.out _ (hJ.early hL (by omega))
            obtain ⟨y0, y1⟩ := cell_two h5
            refine wpOp_value rfl rfl (v := .agg #[.int .i64 n, .slice oo el oc]) (w' := w1) ?_ ⟨_, rfl, hJ.put VL_mono hL (by omega) (Below.refl _ _) rfl⟩
            simp [go_sem, Act.eval, s1, y0, y1]
          | 1, hi =>
            cases hi
            have s1 := hX.out (s := 1) rfl
            refine wpOp_value rfl rfl (v := .slice ao ln ac) (w' := w1) ?_ ⟨_, rfl, hJ.put VL_mono hL (by omega) (Below.refl _ _) rfl⟩
            simp [go_sem, Act.eval, s1]
          | 2, hi =>
            cases hi
            have l1 := hd ⟨1, .data⟩ (by simp) rfl
            have e1 : xs 1 = .slice ao ln ac := hJ.tl (j := 1) hL (by omega) (by omega) l1
            have q1' := (hX.rd 1 _ 70 rfl rfl l1).trans e1
            obtain ⟨po, pc, w', hr, hp, hle, hB'⟩ := run_copyP (ty := 25) (ac := ac) (HH.out.2.below (HKC.out _ (hJ.early hL (by omega))).2.2.2.1) hln
            refine wpOp_value rfl rfl (v := .slice po ln pc) (w' := w') ?_ ⟨_, rfl, hJ.put VL_mono hL (by omega) hB' ⟨po, pc, rfl, hp, hle⟩⟩
            exact exec_append rfl rfl q1' hr
          | 3, hi =>
            cases hi
            have l0 := hd ⟨0, .data⟩ (by simp) rfl
            have l2 := hd ⟨2, .data⟩ (by simp) rfl
            have e0 : xs 0 = .agg #[.int .i64 n, .slice oo el oc] := hJ.tl (j := 0) hL (by omega) (by omega) l0
            have r0 := (hX.rd 0 _ 69 rfl rfl l0).trans e0
            obtain ⟨po, pc, e2, hp, hle⟩ := hJ.tl (j := 2) hL (by omega) (by omega) l2
            have r2 := (hX.rd 2 _ 71 rfl rfl l2).trans e2
            refine wpOp_call rfl rfl (f := 7) (args := #[.agg #[.int .i64 n, .slice oo el oc], .slice po ln pc]) (w' := w1) ?_ ?_
            · simp [go_sem, Act.eval, r0, r2]
            · refine Calls.mono (C7.out _ _ _ _ _ (HKC.out _ (hJ.early hL (by omega))).2.2.1 HOC.out hp hle) ?_
              rintro e w2 ⟨rfl, hB'⟩
              exact ⟨_, rfl, _, rfl, hJ.put VL_mono hL (by omega) hB' rfl⟩
          | 4, hi =>
            cases hi
            have l3 := hd ⟨3, .data⟩ (by simp) rfl
            have e3 : xs 3 = .tuple #[.bool B, .agg #[.int .i64 q1, .int .i64 q2]] := hJ.tl (j := 3) hL (by omega) (by omega) l3
            have r3 := (hX.rd 3 _ 72 rfl rfl l3).trans e3
            refine wpOp_value rfl rfl (v := .tuple #[.bool B, .agg #[.int .i64 q1, .int .i64 q2]]) (w' := w1) ?_ ⟨_, rfl, hJ.put VL_mono hL (by omega) (Below.refl _ _) rfl⟩
            simp [go_sem, Act.eval, r3]
          | 5, hi =>
            cases hi
            have l3 := hd ⟨4, .data⟩ (by simp) rfl
            have e3 : xs 4 = .tuple #[.bool B, .agg #[.int .i64 q1, .int .i64 q2]] := hJ.tl (j := 4) hL (by omega) (by omega) l3
            have r3 := (hX.rd 4 _ 68 rfl rfl l3).trans e3
            refine wpOp_value rfl rfl (v := .bool B) (w' := w1) ?_ ⟨_, rfl, hJ.put VL_mono hL (by omega) (Below.refl _ _) rfl⟩
            simp [go_sem, Act.eval, r3]
          | 6, hi =>
            cases hi
            have l3 := hd ⟨4, .data⟩ (by simp) rfl
            have e3 : xs 4 = .tuple #[.bool B, .agg #[.int .i64 q1, .int .i64 q2]] := hJ.tl (j := 4) hL (by omega) (by omega) l3
            have r3 := (hX.rd 4 _ 68 rfl rfl l3).trans e3
            refine wpOp_value rfl rfl (v := .agg #[.int .i64 q1, .int .i64 q2]) (w' := w1) ?_ ⟨_, rfl, hJ.put VL_mono hL (by omega) (Below.refl _ _) rfl⟩
            simp [go_sem, Act.eval, r3]
          | 7, hi =>
            cases hi
            refine wpOp_value rfl rfl (v := ptr w1.heap.size) (w' := w1.alloc (Obj.cells #[.int .i64 0, .int .i64 0] 28)) ?_ ⟨_, rfl, hJ.put VL_mono hL (by omega) (below_alloc (Below.refl _ _) _) ⟨w1.heap.size, rfl, (hJ.early hL (by omega)).size, two_new _ _ _ _⟩⟩
            simp [go_sem]
          | 8, hi =>
            cases hi
            have l3 := hd ⟨5, .data⟩ (by simp) rfl
            have e3 : xs 5 = .bool B := hJ.tl (j := 5) hL (by omega) (by omega) l3
            have r3 := (hX.rd 5 _ 73 rfl rfl l3).trans e3
            refine wpOp_value rfl rfl (v := .bool B) (w' := w1) ?_ ⟨_, rfl, hJ.put VL_mono hL (by omega) (Below.refl _ _) rfl⟩
            simp [go_sem, Act.eval, r3]
          | 9, hi =>
            cases hi
            have l7 := hd ⟨7, .data⟩ (by simp) rfl
            have l6 := hd ⟨6, .data⟩ (by simp) rfl
            have l8 := hd ⟨8, .phase⟩ (by simp) rfl
            have l5 := hcl 8 _ rfl l8 ⟨5, .data⟩ (by simp) rfl
            have l4 := hcl 6 _ rfl l6 ⟨4, .data⟩ (by simp) rfl
            have l3 := hcl 4 _ rfl l4 ⟨3, .data⟩ (by simp) rfl
            have l0 := hcl 3 _ rfl l3 ⟨0, .data⟩ (by simp) rfl
            have l2 := hcl 3 _ rfl l3 ⟨2, .data⟩ (by simp) rfl
            have l1 := hcl 2 _ rfl l2 ⟨1, .data⟩ (by simp) rfl
            have hall : ∀ j, j < 9 → L j = true := fun j hj => by
              have : j = 0 ∨ j = 1 ∨ j = 2 ∨ j = 3 ∨ j = 4 ∨ j = 5 ∨ j = 6 ∨ j = 7 ∨ j = 8 := by omega
              rcases this with rfl | rfl | rfl | rfl | rfl | rfl | rfl | rfl | rfl <;> assumption
            obtain ⟨b, e7, hbs, tb⟩ := hJ.told hL 7 (by omega) l7
            have e6 : xs 6 = .agg #[.int .i64 q1, .int .i64 q2] := hJ.told hL 6 (by omega) l6
            have e8 : xs 8 = .bool B := hJ.told hL 8 (by omega) l8
            have r7 := (hX.rd 7 _ 9 rfl rfl l7).trans e7
            have r6 := (hX.rd 6 _ 74 rfl rfl l6).trans e6
            obtain ⟨z1, z2, z3, z4, z5, z6⟩ := store_two' tb (.int .i64 q1) (.int .i64 q2)
            refine wpOp_skip rfl rfl (w' := (w1.setCell ⟨b, 0, none⟩ (.int .i64 q1)).setCell ⟨b, 1, none⟩ (.int .i64 q2)) ?_ ⟨undef, rfl, hJ.last hall ⟨b, by rw [updW_ne _ _ (by omega)]; exact e7, by rw [updW_ne _ _ (by omega)]; exact e8, two_setN tb, ((hJ.w0 hL).setCell hbs _).setCell hbs _⟩⟩
            simp [go_sem, Act.eval, r7, r6, z1, z2, z3, z4]
          | m + 10, hi => cases hi
        · intro L0 xv w1 hJ hall
          obtain ⟨b9, e7, e8, t9, hB9⟩ := hJ.fin (hall 9 (by simp))
          simp only [puts, Act.put, e7, e8, List.setIfInBounds_toArray, List.set_cons_succ, List.set_cons_zero]
          have HK9 : Hid (∀ A, Below w1.heap.size w1 A → Two A b2 (.int .i64 n) (.slice eo el ec) 24 ∧ Two A b5 (.int .i64 n) (.slice oo el oc) 24 ∧ EdgesAt A (.slice oo el oc) es ∧ Below w.heap.size w A ∧ Two A b6 (.int .i64 q1) (.int .i64 q2) 28 ∧ Two A b9 (.int .i64 q1) (.int .i64 q2) 28) := fun A hA => by
            obtain ⟨a1, a2, a3, a4, a5⟩ := HKC.out A (below_next hB9 hA)
            exact ⟨a1, a2, a3, a4, a5, two_next t9 hA⟩
          have C9 : Hid (∀ A, Below w1.heap.size w1 A → Calls Tryz.prog 9 #[.agg #[.int .i64 n, .slice oo el oc], .agg #[.int .i64 n, .slice eo el ec]] A fun e w' => e = .returned (.bool true) ∧ Below A.heap.size A w') := fun A hA => by
            obtain ⟨_, _, k3, k4, _⟩ := HK9.out A hA
            exact kept_true n _ _ es A k3 (HH.out.1.below k4)
          clear hJ hall t9 hB9 HKC C7 e7 e8
          generalize xv 0 = z0
          generalize xv 1 = z1
          generalize xv 2 = z2
          generalize xv 3 = z3
          generalize xv 4 = z4
          generalize xv 5 = z5
          generalize xv 6 = z6
          have hneq := HNEQ.out
          go_upto_region 13 with (first | (go_at_call 8; refine Calls.mono (C8.out _ (HK9.out _ (Below.refl _ _)).2.2.2.1) ?_; rintro e V1 ⟨rfl, g1⟩; obtain ⟨y0, y1⟩ := cell_two (HK9.out _ g1).1; obtain ⟨y2, y3⟩ := cell_two (HK9.out _ g1).2.1; obtain ⟨y4, y5⟩ := cell_two (HK9.out _ g1).2.2.2.2.1; obtain ⟨y6, y7⟩ := cell_two (HK9.out _ g1).2.2.2.2.2) | (go_at_call 9; refine Calls.mono (C9.out _ g1) ?_; rintro e V2 ⟨rfl, g2⟩) | fail)
          have HG : Hid (Below w1.heap.size w1 V2) := below_next g1 g2
          clear g1 g2 y0 y1 y2 y3 y4 y5 y6 y7 C8 C9 hneq
          obtain ⟨y0, y1⟩ := cell_two (HK9.out _ HG.out).1
          obtain ⟨y4, y5⟩ := cell_two (HK9.out _ HG.out).2.2.2.2.1
          have HBw : Hid (Below w.heap.size w V2) := (HK9.out _ HG.out).2.2.2.1
          by_cases h0 : q1 = 0
          · have kc : (q1 != 0) = false := by simpa using h0
            have hk : s1 = 0 := by
              refine Classical.byContradiction fun h => ?_
              have := HSQ.out.1 h
              simp only [Prod.mk.injEq] at this
              omega
            obtain ⟨_, hq, hk1, hn⟩ := HSQ.out.2 hk
            have hfar : farP P ln = none := by
              cases hf : farP P ln with
              | none => rfl
              | some i =>
                rw [hf] at hq
                simp only [Prod.mk.injEq] at hq
                omega
            have hok := farP_all hfar
            have hck : (chk n es).1 = 0 := by rw [← HF.out.2.1]; exact hk1
            obtain ⟨_, g0, g100, gl, hgood⟩ := chk_good hck
            rw [← hn] at hgood g100
            have hBq : B = refB ln es P := by
              have := HF.out.2.2.2.1
              rw [this, ← clear_ref hgood, h0]; rfl
            have C10 : Hid (Calls Tryz.prog 10 #[.agg #[.int .i64 n, .slice eo el ec], .slice ao ln ac] V2 fun e w' => e = .returned (.bool B) ∧ Below V2.heap.size V2 w') := by
              have hel := HF.out.2.2.2.2
              have hE2 := HH.out.1.below HBw.out
              rw [hBq, ← hn]
              rw [hel] at hE2 ⊢
              exact refClear_call hE2 hgood (HH.out.2.below HBw.out) (fun j hj => okP_bd (hok j hj)) (by omega) gl
            have kb : (B == B) = true := by simp
            clear h0 hk hq hk1 hn hfar hok hck g0 g100 gl hgood hBq
            go_wp2_with (first | (go_at_call 10; refine Calls.mono C10.out ?_; rintro e V3 ⟨rfl, g3⟩) | fail)
            go_ret
            exact ⟨rfl, below_next HBw.out g3⟩
          · have kc : (q1 != 0) = true := by simpa using h0
            have hBq : B = false := by
              have := HF.out.2.2.2.1
              rw [this]
              simp [h0]
            subst hBq
            clear h0
            go_wp2
            go_ret
            exact ⟨rfl, HBw.out⟩
end Go.Proofs.YtnboonhlffkimaaGreatDoor
