/- AssignLeast's walk. -/
import Derived.Test.YtmbnaegcichoeaaBegun
import Derived.Test.YtmbnaegcichoeaaCopy
namespace Go.Proofs.Ytmbnaegcichoeaa
open Go.RowKit Go.Maps
attribute [local go_sem ↓] Go.wp_at_zero Go.wp_at_succ

set_option maxRecDepth 4000 in
set_option maxHeartbeats 3000000 in
theorem leastLaw_bad {w : World} {v : Value} {ls : List (List Int)} (h : RowsAt w v ls) {fc fd : Int} (hf : costF ls = (fc, fd)) (hne : fc ≠ 0) :
    Calls Try.prog 3 #[v] w fun e w' => e = .returned (.bool true) ∧ Below w.heap.size w w' := by
  have HR : Hid (RowsAt w v ls) := h
  have H6 : Hid (∀ W, Below w.heap.size w W → Calls Try.prog 6 #[v] W fun e w' => e = .returned (.agg #[.int .i64 fc, .int .i64 fd]) ∧ Below W.heap.size W w') := fun W hW => by
    have := costFault_call (h.below hW)
    rw [hf] at this
    exact this
  have HF : Hid (costF ls = (fc, fd)) := hf
  have HN : Hid (fc ≠ 0) := hne
  have k1 : (fc != 0) = true := by simp [hne]
  obtain ⟨ao, cap, rfl, _⟩ := h
  clear hf hne
  go_enter Try.func3, Try.ntmps3
  go_upto_region 2 with (first | (go_at_call 5; refine Calls.mono (rows_call HR.out) ?_; rintro e W1 ⟨v1, rfl, hr1, hb1⟩) | go_in)
  have HR1 : Hid (RowsAt W1 v1 ls) := hr1
  obtain ⟨ao1, cap1, rfl, _⟩ := hr1
  go_upto_region 3 with (first | (go_at_call 6; refine (H6.out _ hb1).mono ?_; rintro e W2 ⟨rfl, hb2⟩) | go_in)
  have t4 := two_new W2 (.int .i64 fc) (.int .i64 fd) 25
  have hb2a := below_alloc hb2 (Obj.cells #[.int .i64 fc, .int .i64 fd] 25)
  have HR2 : Hid (RowsAt (W2.alloc (Obj.cells #[.int .i64 fc, .int .i64 fd] 25)) (.slice ao1 ls.length cap1) ls) := HR1.out.below hb2a
  have hB2 := below_next hb1 hb2a
  obtain ⟨b4, hb4⟩ : ∃ b, b = W2.heap.size := ⟨_, rfl⟩
  rw [← hb4] at t4 ⊢
  generalize W2.alloc (Obj.cells #[.int .i64 fc, .int .i64 fd] 25) = W3 at t4 hb2a HR2 hB2 ⊢
  clear hb1 hb2 hb2a HR1 hb4 H6
  go_upto_region 4 with (first | (go_at_call 7; refine (least_bad HR2.out HF.out HN.out).mono ?_; rintro e W4 ⟨rfl, hb5⟩) | go_in)
  have t9 := two_new W4 (.int .i64 fc) (.int .i64 fd) 25
  have hb5a := below_alloc hb5 (Obj.cells #[.int .i64 fc, .int .i64 fd] 25)
  have HR5 : Hid (RowsAt (W4.alloc (Obj.cells #[.int .i64 fc, .int .i64 fd] 25)) (.slice ao1 ls.length cap1) ls) := HR2.out.below hb5a
  have t45 := two_next t4 hb5a
  have hB5 := below_next hB2 hb5a
  obtain ⟨b9, hb9⟩ : ∃ b, b = W4.heap.size := ⟨_, rfl⟩
  rw [← hb9] at t9 ⊢
  generalize W4.alloc (Obj.cells #[.int .i64 fc, .int .i64 fd] 25) = W5 at t9 HR5 t45 hB5 ⊢
  clear hb5 hb5a HR2 hb9 hB2 t4
  have h8 := begun_call W5
  have H8 : Hid (Calls Try.prog 8 #[] W5 fun e w' => e = .returned (.bool true) ∧ Below W5.heap.size W5 w') := h8
  have h9 : ∀ W6, Below W5.heap.size W5 W6 → Calls Try.prog 9 #[.slice ao1 ls.length cap1, .slice ao ls.length cap] W6 fun e w' => e = .returned (.bool true) ∧ ∃ m, w' = W6.drewN m := fun W6 hW => lists_true _ _ ls W6 (HR5.out.below hW) (HR.out.below (below_next hB5 hW))
  have H9 : Hid (∀ W6, Below W5.heap.size W5 W6 → Calls Try.prog 9 #[.slice ao1 ls.length cap1, .slice ao ls.length cap] W6 fun e w' => e = .returned (.bool true) ∧ ∃ m, w' = W6.drewN m) := h9
  have HT9 : Hid (Two W5 b9 (.int .i64 fc) (.int .i64 fd) 25) := t9
  have HT4 : Hid (Two W5 b4 (.int .i64 fc) (.int .i64 fd) 25) := t45
  have hneq := neq25 fc fd
  clear h8 h9 t9 t45
  go_upto_region 6 with (first | (go_at_call 8; refine Calls.mono H8.out ?_; rintro e W6 ⟨rfl, hb6⟩; have t96 := two_next HT9.out hb6; have t46 := two_next HT4.out hb6; obtain ⟨q0, q1⟩ := cell_two t96; obtain ⟨q2, q3⟩ := cell_two t46) | (go_at_call 9; refine Calls.mono (H9.out _ hb6) ?_; rintro e W7 ⟨rfl, m7, hw7⟩; subst hw7) | go_in)
  go_wp2
  go_ret
  exact ⟨rfl, below_next (below_next hB5 hb6) (drewN_below _ _)⟩
theorem drewN_below' {w W : World} {B : Nat} (h : Below B w W) (m : Nat) : Below B w (W.drewN m) := below_drewN h m
set_option maxRecDepth 4000 in
set_option maxHeartbeats 6000000 in
theorem leastLaw_ok {w : World} {v : Value} {ls : List (List Int)} (h : RowsAt w v ls) (hf : costF ls = (0, 0)) :
    Calls Try.prog 3 #[v] w fun e w' => e = .returned (.bool true) ∧ Below w.heap.size w w' := by
  have hz : (costF ls).1 = 0 := by rw [hf]
  obtain ⟨_, hn, hgood⟩ := costF_good hz
  have HC : Hid (∀ i j, i < ls.length → j < ls.length → -1000000 ≤ cellL ls i j ∧ cellL ls i j ≤ 1000000) := cellL_bnd hz
  have HG : Hid (GridI w w.heap.size v ls.length (cellL ls)) := rows_grid h (fun l hl => (hgood l hl).1)
  have HR : Hid (RowsAt w v ls) := h
  have H6 : Hid (∀ W, Below w.heap.size w W → Calls Try.prog 6 #[v] W fun e w' => e = .returned (.agg #[.int .i64 0, .int .i64 0]) ∧ Below W.heap.size W w') := fun W hW => by
    have := costFault_call (h.below hW)
    rw [hf] at this
    exact this
  have HF : Hid (costF ls = (0, 0)) := hf
  obtain ⟨ao, cap, rfl, _⟩ := h
  clear hf hz hgood
  go_enter Try.func3, Try.ntmps3
  go_upto_region 2 with (first | (go_at_call 5; refine Calls.mono (rows_call HR.out) ?_; rintro e W1 ⟨v1, rfl, hr1, hb1⟩) | go_in)
  have HR1 : Hid (RowsAt W1 v1 ls) := hr1
  obtain ⟨ao1, cap1, rfl, _⟩ := hr1
  go_upto_region 3 with (first | (go_at_call 6; refine (H6.out _ hb1).mono ?_; rintro e W2 ⟨rfl, hb2⟩) | go_in)
  have t4 := two_new W2 (.int .i64 0) (.int .i64 0) 25
  have hb2a := below_alloc hb2 (Obj.cells #[.int .i64 0, .int .i64 0] 25)
  have HR2 : Hid (RowsAt (W2.alloc (Obj.cells #[.int .i64 0, .int .i64 0] 25)) (.slice ao1 ls.length cap1) ls) := HR1.out.below hb2a
  have hB2 := below_next hb1 hb2a
  obtain ⟨b4, hb4⟩ : ∃ b, b = W2.heap.size := ⟨_, rfl⟩
  rw [← hb4] at t4 ⊢
  generalize W2.alloc (Obj.cells #[.int .i64 0, .int .i64 0] 25) = W3 at t4 hb2a HR2 hB2 ⊢
  clear hb1 hb2 hb2a HR1 hb4 H6
  go_upto_region 4 with (first | (go_at_call 7; refine (least_ok newDeal_is HR2.out HF.out).mono ?_; rintro e W4 ⟨tv, rv, cv, total, rfl, hl4, hb5⟩) | go_in)
  have t9 := two_new W4 (.int .i64 0) (.int .i64 0) 25
  have hb5a := below_alloc hb5 (Obj.cells #[.int .i64 0, .int .i64 0] 25)
  have HR5 : Hid (RowsAt (W4.alloc (Obj.cells #[.int .i64 0, .int .i64 0] 25)) (.slice ao1 ls.length cap1) ls) := HR2.out.below hb5a
  have t45 := two_next t4 hb5a
  have hB5 := below_next hB2 hb5a
  obtain ⟨bt, br, bc, r, u, tk, ow, rfl, rfl, rfl, _, _, _, hrt, hrr, hrc, hmt, rfl⟩ := hl4
  have hrt5 := hrt.block (Below.heap_alloc _ (Obj.cells #[.int .i64 0, .int .i64 0] 25) _ hrt.lt)
  have hrr5 := hrr.block (Below.heap_alloc _ (Obj.cells #[.int .i64 0, .int .i64 0] 25) _ hrr.lt)
  have hrc5 := hrc.block (Below.heap_alloc _ (Obj.cells #[.int .i64 0, .int .i64 0] 25) _ hrc.lt)
  obtain ⟨b9, hb9⟩ : ∃ b, b = W4.heap.size := ⟨_, rfl⟩
  rw [← hb9] at t9 ⊢
  generalize W4.alloc (Obj.cells #[.int .i64 0, .int .i64 0] 25) = W5 at t9 HR5 t45 hB5 hrt5 hrr5 hrc5 ⊢
  have HRT : Hid (RowV W5 bt 3 ls.length (iv tk)) := hrt5
  have HRR : Hid (RowV W5 br 3 ls.length (iv r)) := hrr5
  have HRC : Hid (RowV W5 bc 3 ls.length (iv u)) := hrc5
  have HMT : Hid (Mt ls.length ls.length (cellL ls) r u tk ow) := hmt
  clear hb5 hb5a HR2 hb9 hB2 t4 hrt hrr hrc hrt5 hrr5 hrc5 hmt
  have h8 := begun_call W5
  have H8 : Hid (Calls Try.prog 8 #[] W5 fun e w' => e = .returned (.bool true) ∧ Below W5.heap.size W5 w') := h8
  have h9 : ∀ W6, Below W5.heap.size W5 W6 → Calls Try.prog 9 #[.slice ao1 ls.length cap1, .slice ao ls.length cap] W6 fun e w' => e = .returned (.bool true) ∧ ∃ m, w' = W6.drewN m := fun W6 hW => lists_true _ _ ls W6 (HR5.out.below hW) (HR.out.below (below_next hB5 hW))
  have H9 : Hid (∀ W6, Below W5.heap.size W5 W6 → Calls Try.prog 9 #[.slice ao1 ls.length cap1, .slice ao ls.length cap] W6 fun e w' => e = .returned (.bool true) ∧ ∃ m, w' = W6.drewN m) := h9
  have HT9 : Hid (Two W5 b9 (.int .i64 0) (.int .i64 0) 25) := t9
  have HT4 : Hid (Two W5 b4 (.int .i64 0) (.int .i64 0) 25) := t45
  have hneq := neq25 0 0
  obtain ⟨n, hnn⟩ : ∃ n, n = ls.length := ⟨_, rfl⟩
  obtain ⟨C, hCC⟩ : ∃ C, C = cellL ls := ⟨_, rfl⟩
  rw [← hnn] at H9 HG HC hn HRT HRR HRC HMT ⊢
  rw [← hCC] at HG HC HMT ⊢
  clear h8 h9 t9 t45 HR HR5 HF hnn hCC
  go_upto_region 6 with (first | (go_at_call 8; refine Calls.mono H8.out ?_; rintro e W6 ⟨rfl, hb6⟩; have t96 := two_next HT9.out hb6; have t46 := two_next HT4.out hb6; obtain ⟨q0, q1⟩ := cell_two t96; obtain ⟨q2, q3⟩ := cell_two t46) | (go_at_call 9; refine Calls.mono (H9.out _ hb6) ?_; rintro e W7 ⟨rfl, m7, hw7⟩; subst hw7) | go_in)
  go_upto_region 9 with (fail)
  have hb67 : Below W5.heap.size W5 (W6.drewN m7) := drewN_below' hb6 m7
  clear q0 q1 q2 q3 t96 t46 hb6 H8 H9 HT9 HT4 hneq
  generalize W6.drewN m7 = W7 at hb67 ⊢
  have HTK : Hid (∀ i, i < n → 0 ≤ tk i ∧ tk i < n) := fun i hi => by
    obtain ⟨j, h1, h2, _⟩ := HMT.out.eq i hi
    omega
  have h10 := all_true (w := W7) (vo := some ⟨bt, 0, none⟩) (n := n) (vc := n) (f := tk) (fun j hj => ⟨bt, 0, rfl, by
    have := (HRT.out.block (hb67.block _ HRT.out.lt)).cell hj
    rw [Nat.zero_add]; exact this⟩) (by omega) (Nat.le_refl _) HTK.out (fun i j hi hj e => by
    obtain ⟨a, _, a2, a3, _⟩ := HMT.out.eq i hi
    obtain ⟨b, _, b2, b3, _⟩ := HMT.out.eq j hj
    have : a = b := by omega
    subst this
    omega)
  have H10 : Hid (Calls Try.prog 10 #[.slice (some ⟨bt, 0, none⟩) n n, .int .i64 (n : Int)] W7 fun e w' => e = .returned (.bool true) ∧ Below W7.heap.size W7 w') := h10
  have k0 : ((n : Int) != (n : Int)) = false := by simp
  clear h10
  go_upto_region 11 with (first | (go_at_call 10; refine Calls.mono H10.out ?_; rintro e W8 ⟨rfl, hb8⟩) | go_in)
  have hb58 := below_next hb67 hb8
  have HB : Hid (Below w.heap.size w W8) := below_next hB5 hb58
  have HT : Hid (RowV W8 bt 3 n (iv tk)) := HRT.out.block (hb58.block _ HRT.out.lt)
  have HRW : Hid (RowV W8 br 3 n (iv r)) := HRR.out.block (hb58.block _ HRR.out.lt)
  have HCW : Hid (RowV W8 bc 3 n (iv u)) := HRC.out.block (hb58.block _ HRC.out.lt)
  have HGW : Hid (GridI W8 w.heap.size (.slice ao n cap) n C) := HG.out.turns (M := fun k => False) (Turns.of_below HB.out _) (fun _ h => h.elim)
  clear hb58 hb8 hb67 hB5 HRT HRR HRC HG H10
  go_wp2
  go_loopw [11, 12, 13] (fun sv iv' _ wr => ∃ k : Nat, k ≤ n ∧ iv' = .int .i64 (k : Int) ∧ sv = .int .i64 (sumC C tk k) ∧ ∃ m, wr = W8.drewN m) (fun _ iv' _ _ => n - (numOf iv').toNat)
  case atStart => exact ⟨0, Nat.zero_le _, rfl, rfl, 0, rfl⟩
  case round =>
    obtain ⟨k, hk, rfl, rfl, m0, hm0⟩ := hrel
    by_cases hlt : k < n
    · have i1 : (0 : Int) ≤ (k : Int) := by omega
      have i2 : (k : Int) < (n : Int) := by omega
      obtain ⟨ht1, ht2⟩ := HTK.out k hlt
      obtain ⟨j, hj⟩ : ∃ j : Nat, tk k = j := ⟨(tk k).toNat, by omega⟩
      have hjn : j < n := by omega
      have ct : wr.cell? ⟨bt, k, none⟩ = some (.int .i64 (j : Int)) := by
        have := HT.out.cell hlt
        unfold iv at this
        rw [hj] at this
        rw [hm0]; exact this
      obtain ⟨ao', cap', ev, hg⟩ := HGW.out
      cases ev
      obtain ⟨b, off, vo, vc, rfl, _, g1, hg2⟩ := hg k hlt
      have g1' : wr.cell? ⟨b, off + k, none⟩ = some (.slice vo n vc) := by rw [hm0]; exact g1
      have HG2 : Hid (∀ j, j < n → ∃ b' off', vo = some ⟨b', off', none⟩ ∧ W8.cell? ⟨b', off' + j, none⟩ = some (.int .i64 (C k j))) := fun j hj => by
        obtain ⟨b', off', e, _, g⟩ := hg2 j hj
        exact ⟨b', off', e, g⟩
      obtain ⟨b', off', rfl, g2⟩ := HG2.out j hjn
      have HG1 : Hid (W8.cell? ⟨b, off + k, none⟩ = some (.slice (some ⟨b', off', none⟩) n vc)) := g1
      have g2' : wr.cell? ⟨b', off' + j, none⟩ = some (.int .i64 (C k j)) := by rw [hm0]; exact g2
      have hb1 := sumC_bnd HC.out HTK.out k hk
      have hb2 := HC.out k j hlt hjn
      have HSU : Hid (sumC C tk (k + 1) = sumC C tk k + C k j) := by show sumC C tk k + C k (tk k).toNat = _; rw [hj]; rfl
      have i5 : (0 : Int) ≤ (j : Int) := by omega
      have i6 : (j : Int) < (n : Int) := by omega
      have HJ : Hid (tk k = (j : Int)) := hj
      have HM0 : Hid (wr = W8.drewN m0) := hm0
      obtain ⟨x, hx⟩ : ∃ x, x = sumC C tk k := ⟨_, rfl⟩
      rw [← hx] at HSU hb1 ⊢
      generalize hy : C k j = y at g2' hb2 HSU
      have i7 : IntKind.i64.wrap (x + y) = x + y := by rw [IntKind.wrap_i64]; omega
      clear hg hg2 hj ht1 ht2 hx g1 g2 hm0 hy
      go_upto_region 15 with (fail)
      go_quiet (fail)
      go_upto_region 16 with (fail)
      have HM1 : Hid (∃ m, wr.drewN nq = W8.drewN m) := ⟨m0 + nq, by rw [HM0.out, drewN_add]⟩
      clear ct g1' g2' HM0 i5 i6 i7
      generalize wr.drewN nq = WA at HM1 ⊢
      go_wp2
      go_loopw [13] (fun jv wr' => ∃ m : Nat, m ≤ n ∧ jv = .int .i64 (m : Int) ∧ ∃ d, wr' = W8.drewN d) (fun jv _ => n - (numOf jv).toNat)
      case atStart => exact ⟨0, Nat.zero_le _, rfl, HM1.out⟩
      case round =>
        clear HM1
        obtain ⟨m, hm, rfl, d, hd⟩ := hrel
        have HD : Hid (wr = W8.drewN d) := hd
        by_cases hltm : m < n
        · have j1 : (0 : Int) ≤ (m : Int) := by omega
          have j2 : (m : Int) < (n : Int) := by omega
          obtain ⟨b2, off2, e2, g2⟩ := HG2.out m hltm
          cases e2
          have g2' : wr.cell? ⟨b', off' + m, none⟩ = some (.int .i64 (C k m)) := by rw [hd]; exact g2
          have ct : wr.cell? ⟨bt, k, none⟩ = some (.int .i64 (j : Int)) := by
            have := HT.out.cell hlt
            unfold iv at this
            rw [HJ.out] at this
            rw [hd]; exact this
          have g1' : wr.cell? ⟨b, off + k, none⟩ = some (.slice (some ⟨b', off', none⟩) n vc) := by rw [hd]; exact HG1.out
          have cr : wr.cell? ⟨br, k, none⟩ = some (.int .i64 (r k)) := by rw [hd]; exact HRW.out.cell hlt
          have cu : wr.cell? ⟨bc, m, none⟩ = some (.int .i64 (u m)) := by rw [hd]; exact HCW.out.cell hltm
          have hlow := HMT.out.low k m hlt hltm
          have q1 := HMT.out.rlow k hlt
          have q2 := HMT.out.rbnd k hlt
          have q3 := HMT.out.ubnd m hltm
          have q4 := HMT.out.uup m hltm
          have heq : j = m → r k + u m = C k m := fun e => by
            obtain ⟨j', _, e1, _, e2⟩ := HMT.out.eq k hlt
            rw [HJ.out] at e1
            have : j' = m := by omega
            rw [← this]; exact e2
          generalize r k = rk at cr hlow q1 q2 heq
          generalize u m = um at cu hlow q3 q4 heq
          generalize C k m = ck at g2' hlow heq
          have i7 : IntKind.i64.wrap (rk + um) = rk + um := by rw [IntKind.wrap_i64]; omega
          have i8 : ¬ rk + um > ck := by omega
          clear hd g2
          by_cases hjm : j = m
          · have i9 := heq hjm
            have i10 : ((rk + um) != ck) = false := by simp [i9]
            subst hjm
            have i11 : ((j : Int) == (j : Int)) = true := by simp
            clear heq i9
            go_upto_region 19 with (fail)
            go_quiet (fail)
            go_wp2
            go_roundw
            case rel => exact ⟨j + 1, by omega, by go_num, d + nq, by rw [HD.out, drewN_add]⟩
            case measure => simp [numOf]; omega
          · have i11 : ((j : Int) == (m : Int)) = false := by rw [beq_eq_false_iff_ne]; omega
            clear heq
            go_upto_region 19 with (fail)
            go_quiet (fail)
            go_wp2
            go_roundw
            case rel => exact ⟨m + 1, by omega, by go_num, d + nq, by rw [HD.out, drewN_add]⟩
            case measure => simp [numOf]; omega
        · have j2 : ¬ (m : Int) < (n : Int) := by omega
          clear hd
          go_wp2
          go_roundw
          case rel => exact ⟨k + 1, by omega, by go_num, by rw [HSU.out], d, HD.out⟩
          case measure => simp [numOf]; omega
    · have i2 : ¬ (k : Int) < (n : Int) := by omega
      have hkn : k = n := by omega
      subst hkn
      have k5 : (sumC C tk k == sumC C tk k) = true := by simp
      have HM0 : Hid (wr = W8.drewN m0) := hm0
      clear hm0
      go_wp2
      go_ret
      exact ⟨rfl, by rw [HM0.out]; exact drewN_below' HB.out m0⟩
end Go.Proofs.Ytmbnaegcichoeaa
