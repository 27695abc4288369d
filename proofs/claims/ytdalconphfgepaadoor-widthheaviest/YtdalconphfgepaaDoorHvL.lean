/- WidthHeaviest's walk. -/
import Derived.Test.YtdalconphfgepaaDoorHvNR
import Derived.Deep.CutBlock
namespace Go.Proofs.YtdalconphfgepaaDoor
set_option maxRecDepth 8000
open Go.RowKit Go.Maps
attribute [local go_sem ↓] Go.wp_at_zero Go.wp_at_succ
set_option maxHeartbeats 64000000 in
theorem heavy_law {w : World} {n : Int} {ao uo wo : Option Addr} {cap uc wcp : Nat} {es : List Pair} {x : Value} {ls : List (List Int)} {u ws : List Int} (hE : EdgesAt w (.slice ao es.length cap) es) (hcap : es.length ≤ cap) (hx : RowsAt w x ls) (hxc : RowsC w x ls) (hu : IntsAt w (.slice uo u.length uc) u) (hws : IntsAt w (.slice wo ws.length wcp) ws) (ht : T64 w) :
    Calls Tryd.prog 5 #[.agg #[.int .i64 n, .slice ao es.length cap], .slice wo ws.length wcp, x, .slice uo u.length uc] w fun e w' => e = .returned (.bool true) ∧ Below w.heap.size w w' := by
  obtain ⟨xo, xc, hxe, hx9⟩ := id hx
  clear hx9
  obtain ⟨xl, hxl⟩ : ∃ xl, xl = ls.length := ⟨_, rfl⟩
  rw [← hxl] at hxe
  subst hxe
  have HNF : ∀ {A : World} {po : Option Addr} {pc : Nat} {u : List Int}, IntsAt A (.slice po u.length pc) u → NumF A po u.length (fun i => u.getD i 0) := fun hA => by
    obtain ⟨vo, vc, e, h1, _⟩ := ints_numF hA
    cases e
    exact h1
  obtain ⟨wl, hwl⟩ : ∃ wl, wl = ws.length := ⟨_, rfl⟩
  obtain ⟨ul, hul⟩ : ∃ ul, ul = u.length := ⟨_, rfl⟩
  obtain ⟨el, hel⟩ : ∃ el, el = es.length := ⟨_, rfl⟩
  obtain ⟨wt, hwt⟩ : ∃ wt : Nat → Int, wt = fun i => ws.getD i 0 := ⟨_, rfl⟩
  have hwlb : ws.length ≤ 17592186044416 := by obtain ⟨_, _, _, h, _⟩ := hws; exact h
  have hlsb : ls.length ≤ 5864062014805 := by obtain ⟨_, _, _, h, _⟩ := hxc; exact h
  have hwt0 : ∀ i, ws.length ≤ i → wt i = 0 := fun i hi => by rw [hwt]; simp [List.getD, List.getElem?_eq_none hi]
  obtain ⟨FR, hFR⟩ : ∃ FR, FR = fitsR n es ls (fun i => u.getD i 0) u.length := ⟨_, rfl⟩
  have C6 : Hid (∀ A, Below w.heap.size w A → Calls Tryd.prog 6 #[.agg #[.int .i64 n, .slice ao el cap]] A fun e w' => Below A.heap.size A w' ∧ ∃ ao c, e = .returned (.agg #[.int .i64 n, .slice ao el c]) ∧ EdgesAt w' (.slice ao el c) es ∧ el ≤ c) := fun A hA => by rw [hel]; exact own_any n ao cap es A (hE.below hA)
  have C16 : Hid (∀ A, Below w.heap.size w A → Calls Tryd.prog 16 #[.slice xo xl xc] A fun e w' => ∃ v', e = .returned v' ∧ RowsAt w' v' ls ∧ Below A.heap.size A w') := fun A hA => rows_call (hx.below hA)
  have C11 : Hid (∀ A, Below w.heap.size w A → Calls Tryd.prog 11 #[.agg #[.int .i64 n, .slice ao el cap], .slice xo xl xc, .slice uo ul uc] A fun e w' => e = .returned (.agg #[.int .i64 FR.2.1, .int .i64 FR.2.2]) ∧ Below A.heap.size A w') := fun A hA => by
    rw [hFR, hel, hul]
    exact fault_call (fun i => u.getD i 0) (hE.below hA) hcap (hxc.below hA)
  have C9 : Hid (∀ A, Below w.heap.size w A → Calls Tryd.prog 9 #[] A fun e w' => e = .returned (.bool true) ∧ Below A.heap.size A w') := fun A hA => begun_call (ht.under hA)
  have C12 : Hid (FR.2.1 = 0 → ∀ A, Below w.heap.size w A → Calls Tryd.prog 12 #[.agg #[.int .i64 n, .slice ao el cap], .slice xo xl xc, .slice uo ul uc] A fun e w' => e = .returned (.bool FR.1) ∧ Below A.heap.size A w') := fun h0 A hA => by
    rw [hFR] at h0 ⊢
    rw [hel, hul]
    obtain ⟨N, rfl, hN, hck, hm, hul2, hop, e⟩ := fitsR_good h0
    rw [e]
    have hnf := HNF (hu.below hA)
    have hxl2 : xl = u.length := by omega
    subst hxl2
    exact over_call (hE.below hA) (hxc.below hA) hck hN hul2.symm (by omega) hop hnf
  have C21 : Hid (∀ A v y po pc qo qc, Below w.heap.size w A → EdgesAt A v es → RowsAt A y ls → IntsAt A (.slice po ws.length pc) ws → IntsAt A (.slice qo u.length qc) u → Calls Tryd.prog 21 #[.agg #[.int .i64 n, v], .slice po ws.length pc, y, .slice qo u.length qc] A fun e w' => HyA w' A.heap.size n es wt (hvF n es ls (fun i => u.getD i 0) u.length wt ws.length) e ∧ Below A.heap.size A w') := fun A v y po pc qo qc hA h1 h2 h3 h4 => by
    rw [hwt]
    exact heavy_any h1 h2 (HNF h4) (HNF h3) hwlb (by rw [hwt] at hwt0; exact hwt0) (ht.under hA)
  have HNW : Hid (∀ A, Below w.heap.size w A → NumF A wo wl wt) := fun A hA => by rw [hwl, hwt]; exact HNF (hws.below hA)
  have HEU : Hid (EdgesAt w (.slice ao el cap) es ∧ RowsAt w (.slice xo xl xc) ls ∧ IntsAt w (.slice uo ul uc) u ∧ IntsAt w (.slice wo wl wcp) ws ∧ RowsC w (.slice xo xl xc) ls) := by rw [hel, hul, hwl]; exact ⟨hE, hx, hu, hws, hxc⟩
  obtain ⟨F0, hF0⟩ : ∃ F, F = FR.2 := ⟨_, rfl⟩
  obtain ⟨F1, hF1⟩ : ∃ F, F = hv1 n F0 wl := ⟨_, rfl⟩
  obtain ⟨F2, hF2⟩ : ∃ F, F = hv2 F1 wt wl := ⟨_, rfl⟩
  obtain ⟨F3, hF3⟩ : ∃ F, F = hv3 F2 FR.1 := ⟨_, rfl⟩
  obtain ⟨F4, hF4⟩ : ∃ F, F = hv4 F3 ls := ⟨_, rfl⟩
  have HF4 : Hid (hvF n es ls (fun i => u.getD i 0) u.length wt ws.length = F4) := by
    show _ = _
    rw [hF4, hF3, hF2, hF1, hF0, hFR, hwl]
    exact hv_all.symm
  have h00 : F0.1 = 0 → F0 = (0, 0) := fun h => by rw [hF0, hFR] at h ⊢; exact fitsR_two h
  have h11 : F1.1 = 0 → F1 = (0, 0) := fun h => by rw [hF1] at h ⊢; exact hv1_two h00 h
  have h22 : F2.1 = 0 → F2 = (0, 0) := fun h => by rw [hF2] at h ⊢; exact hv2_two h
  have h33 : F3.1 = 0 → F3 = (0, 0) := fun h => by rw [hF3] at h ⊢; exact hv3_two h22 h
  have h02 : F2.1 = 0 → FR.2.1 = 0 := fun h => by
    rw [hF2] at h
    unfold hv2 at h
    split at h
    · next hc =>
      rw [hF1] at hc
      unfold hv1 at hc
      split at hc
      · cases hc
      · rw [← hF0]; exact hc
    · next hc => exact absurd h hc
  have HF : Hid ((F1 = hv1 n F0 wl) ∧ (F2 = hv2 F1 wt wl) ∧ (F3 = hv3 F2 FR.1) ∧ (F4 = hv4 F3 ls) ∧ (F1.1 = 0 → F1 = (0, 0)) ∧ (F2.1 = 0 → F2 = (0, 0)) ∧ (F3.1 = 0 → F3 = (0, 0))) := ⟨hF1, hF2, hF3, hF4, h11, h22, h33⟩
  have C12' : Hid (F2.1 = 0 → ∀ A, Below w.heap.size w A → Calls Tryd.prog 12 #[.agg #[.int .i64 n, .slice ao el cap], .slice xo xl xc, .slice uo ul uc] A fun e w' => e = .returned (.bool FR.1) ∧ Below A.heap.size A w') := fun h => C12.out (h02 h)
  have HWB : Hid (wl ≤ 17592186044416 ∧ xl ≤ 5864062014805) := ⟨by omega, by omega⟩
  have HLN : Hid (ws.length = wl ∧ u.length = ul ∧ ls.length = xl ∧ es.length = el ∧ wt = fun i => ws.getD i 0) := ⟨hwl.symm, hul.symm, hxl.symm, hel.symm, hwt⟩
  have HT : Hid (T64 w) := ht
  have HF0 : Hid (F0 = FR.2) := hF0
  rw [← hel, ← hwl, ← hul]
  have HCK : Hid (F4.1 = 0 → ∃ N : Nat, n = N ∧ N ≤ 100 ∧ chk n es = (0, 0) ∧ wl = N ∧ ∀ i, -1000000 ≤ wt i ∧ wt i ≤ 1000000) := fun h4 => by
    have h3 : F3.1 = 0 := by
      rw [hF4] at h4
      unfold hv4 at h4
      split at h4
      · next hc => exact hc
      · exact h4
    have h2 : F2.1 = 0 := by
      rw [hF3] at h3
      unfold hv3 at h3
      split at h3
      · cases h3
      · exact h3
    obtain ⟨N, rfl, hN, hck, _⟩ := fitsR_good (n := n) (es := es) (ls := ls) (f := fun i => u.getD i 0) (ul := u.length) (by rw [← hFR]; exact h02 h2)
    have hz : F0.1 = 0 := by rw [hF0]; exact h02 h2
    have h1 : (wtR N wt wl).1 = 0 := by
      unfold wtR
      rw [hF2] at h2
      unfold hv2 at h2
      split at h2
      · next hc =>
        by_cases hne : (wl : Int) ≠ N
        · rw [hF1] at hc
          have : hv1 (N : Int) F0 wl = (6, 1) := if_pos ⟨hz, hne⟩
          rw [this] at hc
          cases hc
        · rw [if_neg hne]; exact h2
      · next hc => exact absurd h2 hc
    obtain ⟨e1, _, e2⟩ := wt_all h1 (by rw [hwl]; exact hwt0)
    exact ⟨N, rfl, hN, hck, e1, e2⟩
  clear hE hcap hx hxc hu hws ht hxl HNF hFR hF0 hF1 hF2 hF3 hF4 h00 h11 h22 h33 h02 C12 hwlb hlsb hwt0 hwl hul hel hwt
  obtain ⟨rb, rc, rd⟩ := FR
  simp only at C11 C12'
  obtain ⟨c0, d0⟩ := F0
  obtain ⟨c1, d1⟩ := F1
  obtain ⟨c2, d2⟩ := F2
  obtain ⟨c3, d3⟩ := F3
  obtain ⟨c4, d4⟩ := F4
  simp only at C12' HCK
  have e0 : Hid (c0 = rc ∧ d0 = rd) := by have := HF0.out; simp only [Prod.mk.injEq] at this; exact this
  obtain ⟨rfl, rfl⟩ := e0.out
  clear e0 HF0
  go_enter Tryd.func5, Tryd.ntmps5
  go_upto_region 1 with (fail)
  have t4 := two_new w (.int .i64 n) (.slice ao el cap) 24
  have hB0 := below_alloc (Below.refl _ w) (Obj.cells #[.int .i64 n, .slice ao el cap] 24)
  generalize w.heap.size = b4 at t4 ⊢
  generalize w.alloc (Obj.cells #[.int .i64 n, .slice ao el cap] 24) = W0 at *
  have HW0 : Hid (Two W0 b4 (.int .i64 n) (.slice ao el cap) 24 ∧ Below w.heap.size w W0) := ⟨t4, hB0⟩
  obtain ⟨q0, q1⟩ := cell_two t4
  clear t4 hB0
  go_upto_region 2 with (first | (go_at_call 6; refine Calls.mono (C6.out _ HW0.out.2) ?_; rintro e W1 ⟨h1, oo, oc, rfl, hEo, _⟩) | (go_at_call 16; refine Calls.mono (C16.out _ (below_next HW0.out.2 h1)) ?_; rintro e W2 ⟨rx, rfl, hR2, h2⟩) | fail)
  have t9 := two_new W2 (.int .i64 n) (.slice oo el oc) 24
  have hB4 := below_alloc (Below.refl _ W2) (Obj.cells #[.int .i64 n, .slice oo el oc] 24)
  generalize W2.heap.size = b9 at t9 ⊢
  generalize W2.alloc (Obj.cells #[.int .i64 n, .slice oo el oc] 24) = W4 at *
  have HW4 : Hid (Two W4 b4 (.int .i64 n) (.slice ao el cap) 24 ∧ Two W4 b9 (.int .i64 n) (.slice oo el oc) 24 ∧ EdgesAt W4 (.slice oo el oc) es ∧ RowsAt W4 rx ls ∧ Below w.heap.size w W4) := ⟨two_next HW0.out.1 (below_next h1 (below_next h2 hB4)), t9, hEo.below (below_next h2 hB4), hR2.below hB4, below_next HW0.out.2 (below_next h1 (below_next h2 hB4))⟩
  obtain ⟨q2, q3⟩ := cell_two HW4.out.1
  clear hB4 t9 h1 h2 hEo hR2 q0 q1 C6 C16
  go_upto_region 3 with (first | (go_at_call 11; refine Calls.mono (C11.out _ HW4.out.2.2.2.2) ?_; rintro e W5 ⟨rfl, h5⟩) | fail)
  have x11 := two_new W5 (.int .i64 c0) (.int .i64 d0) 27
  have hB6 := below_alloc (Below.refl _ W5) (Obj.cells #[.int .i64 c0, .int .i64 d0] 27)
  obtain ⟨b11, hb11⟩ : ∃ b, b = W5.heap.size := ⟨_, rfl⟩
  rw [← hb11] at x11 ⊢
  generalize W5.alloc (Obj.cells #[.int .i64 c0, .int .i64 d0] 27) = W6 at *
  have HK : Hid (∀ A, Below W5.heap.size W5 A → Two A b4 (.int .i64 n) (.slice ao el cap) 24 ∧ Two A b9 (.int .i64 n) (.slice oo el oc) 24 ∧ EdgesAt A (.slice oo el oc) es ∧ RowsAt A rx ls ∧ Below w.heap.size w A) := fun A hA => by
    have hb := below_next h5 hA
    exact ⟨two_next HW4.out.1 hb, two_next HW4.out.2.1 hb, HW4.out.2.2.1.below hb, HW4.out.2.2.2.1.below hb, below_next HW4.out.2.2.2.2 hb⟩
  have HB11 : Hid (W5.heap.size ≤ b11) := by show _ ≤ _; omega
  have HX : Hid (Two W6 b11 (.int .i64 c0) (.int .i64 d0) 27 ∧ Below W5.heap.size W5 W6) := ⟨x11, hB6⟩
  clear hB6 h5 x11 hb11 q2 q3 C11 HW4 HW0
  -- if w.Code == 0 && len(weights) != g.N
  obtain ⟨k1, hk1⟩ : ∃ k1 : Bool, k1 = decide (c0 = 0 ∧ (wl : Int) ≠ n) := ⟨_, rfl⟩
  have HK1 : Hid _ := hk1
  clear hk1
  go_cut [38] from 29 to 38 (fun s38 wd => s38 = .bool k1 ∧ wd = W6)
  case first =>
    obtain ⟨p0, p1⟩ := cell_two HX.out.1
    obtain ⟨p2, p3⟩ := cell_two (HK.out _ HX.out.2).1
    by_cases hc : c0 = 0
    · subst hc
      by_cases hn : (wl : Int) = n
      · have kk : ((wl : Int) != n) = false := by simp [hn]
        go_wp2
        go_meet
        case rel => exact ⟨by rw [HK1.out]; simp [hn], rfl⟩
      · have kk : ((wl : Int) != n) = true := by simp [hn]
        go_wp2
        go_meet
        case rel => exact ⟨by rw [HK1.out]; simp [hn], rfl⟩
    · have kk : (c0 == 0) = false := by simp [hc]
      go_wp2
      go_meet
      case rel => exact ⟨by rw [HK1.out]; simp [hc], rfl⟩
  case rest =>
    obtain ⟨rfl, rfl⟩ := hcut
    go_upto_if 38 with (fail)
    go_cut [] from 39 to 39 (fun wd => Hid (Two wd b11 (.int .i64 c1) (.int .i64 d1) 27 ∧ Below W5.heap.size W5 wd))
    case first =>
      cases k1 with
      | false =>
        have h1 : (c1, d1) = (c0, d0) := by
          have := HF.out.1
          rw [this]
          have hh := HK1.out
          exact if_neg (by simpa using hh)
        simp only [Prod.mk.injEq] at h1
        obtain ⟨rfl, rfl⟩ := h1
        go_wp2
        go_meet
        case rel => exact HX
      | true =>
        have h1 : (c1, d1) = (6, 1) := by
          have := HF.out.1
          rw [this]
          have hh := HK1.out
          exact if_pos (by simpa using hh)
        simp only [Prod.mk.injEq] at h1
        obtain ⟨rfl, rfl⟩ := h1
        go_wp2_with (first | (go_at_call 20; refine Calls.mono (refF_call 6 1) ?_; rintro e V1 ⟨rfl, g1⟩; obtain ⟨s1, s2, s3, s4, s5, s6⟩ := store_two' (two_next HX.out.1 g1) (.int .i64 6) (.int .i64 1)) | fail)
        go_meet
        case rel => exact ⟨two_setN (two_next HX.out.1 g1), ((below_next HX.out.2 g1).setCell HB11.out _).setCell HB11.out _⟩
    case rest =>
      clear HK1 HX
      have HX1 := hcut
      clear hcut
      go_upto_block 0 with (fail)
      go_cut [12] from 40 to 64 (fun _ wd => Hid (Two wd b11 (.int .i64 c2) (.int .i64 d2) 27 ∧ Below W5.heap.size W5 wd))
      case first =>
        go_wp2_with (fail)
        go_loopw [12] (fun s12 wz => ∃ (i : Nat) (c d : Int), i ≤ wl ∧ s12 = .int .i64 (i : Int) ∧ Hid (Two wz b11 (.int .i64 c) (.int .i64 d) 27 ∧ Below W5.heap.size W5 wz ∧ ((c ≠ 0 ∧ c = c2 ∧ d = d2) ∨ (c = 0 ∧ d = 0 ∧ (c2, d2) = wtF wt (wl - i) i)))) (fun s12 _ => wl - (numOf s12).toNat)
        case atStart =>
          refine ⟨0, c1, d1, Nat.zero_le _, rfl, HX1.out.1, HX1.out.2, ?_⟩
          by_cases h : c1 = 0
          · refine Or.inr ⟨h, ?_, ?_⟩
            · have := HF.out.2.2.2.2.1 h
              simp only [Prod.mk.injEq] at this
              exact this.2
            · rw [HF.out.2.1]
              exact if_pos h
          · refine Or.inl ⟨h, ?_⟩
            have : (c2, d2) = (c1, d1) := by rw [HF.out.2.1]; exact if_neg h
            simp only [Prod.mk.injEq] at this
            exact ⟨this.1.symm, this.2.symm⟩
        case round =>
          obtain ⟨i, c, d, hi, rfl, hJ⟩ := hrel
          clear HX1
          obtain ⟨p0, p1⟩ := cell_two hJ.out.1
          have hwlb := HWB.out.1
          by_cases hlt : i < wl
          · have k1 : decide ((i : Int) < (wl : Int)) = true := by simp; omega
            have n1 : (i : Int) < (wl : Int) := by omega
            have n0 : (0 : Int) ≤ (i : Int) := by omega
            by_cases hc : c = 0
            · subst hc
              have hd : d = 0 ∧ (c2, d2) = wtF wt (wl - i) i := by
                rcases hJ.out.2.2 with h | h
                · exact absurd rfl h.1
                · exact h.2
              have HS : Hid ((c2, d2) = if wt i < -1000000 ∨ 1000000 < wt i then (3, (i : Int)) else wtF wt (wl - (i + 1)) (i + 1)) := by
                show _ = _
                rw [hd.2]
                obtain ⟨k, hk⟩ : ∃ k, wl - i = k + 1 := ⟨wl - i - 1, by omega⟩
                rw [hk, show wl - (i + 1) = k by omega]
                rfl
              have HD : Hid (d = 0) := hd.1
              clear hd
              obtain ⟨wb, woff, hwo, cw⟩ := HNW.out _ (HK.out _ hJ.out.2.1).2.2.2.2 i hlt
              subst hwo
              by_cases hb : wt i < -1000000
              · have k2 : decide (wt i < -1000000) = true := by simpa using hb
                have h1 : (c2, d2) = (3, (i : Int)) := by rw [HS.out]; exact if_pos (Or.inl hb)
                simp only [Prod.mk.injEq] at h1
                have H1 : Hid (c2 = 3 ∧ d2 = (i : Int)) := h1
                clear h1 hb HS
                go_wp2_with (first | (go_at_call 20; refine Calls.mono (refF_call 3 (i : Int)) ?_; rintro e V1 ⟨rfl, g1⟩; obtain ⟨s1, s2, s3, s4, s5, s6⟩ := store_two' (two_next hJ.out.1 g1) (.int .i64 3) (.int .i64 (i : Int))) | fail)
                go_roundw
                case rel => exact ⟨i + 1, 3, (i : Int), by omega, by go_num, two_setN (two_next hJ.out.1 g1), ((below_next hJ.out.2.1 g1).setCell HB11.out _).setCell HB11.out _, Or.inl ⟨by decide, H1.out.1.symm, H1.out.2.symm⟩⟩
                case measure => simp [numOf]; omega
              · have k2 : decide (wt i < -1000000) = false := by simpa using hb
                by_cases hb2 : 1000000 < wt i
                · have k3 : decide (1000000 < wt i) = true := by simpa using hb2
                  have h1 : (c2, d2) = (3, (i : Int)) := by rw [HS.out]; exact if_pos (Or.inr hb2)
                  simp only [Prod.mk.injEq] at h1
                  have H1 : Hid (c2 = 3 ∧ d2 = (i : Int)) := h1
                  clear h1 hb hb2 HS
                  go_wp2_with (first | (go_at_call 20; refine Calls.mono (refF_call 3 (i : Int)) ?_; rintro e V1 ⟨rfl, g1⟩; obtain ⟨s1, s2, s3, s4, s5, s6⟩ := store_two' (two_next hJ.out.1 g1) (.int .i64 3) (.int .i64 (i : Int))) | fail)
                  go_roundw
                  case rel => exact ⟨i + 1, 3, (i : Int), by omega, by go_num, two_setN (two_next hJ.out.1 g1), ((below_next hJ.out.2.1 g1).setCell HB11.out _).setCell HB11.out _, Or.inl ⟨by decide, H1.out.1.symm, H1.out.2.symm⟩⟩
                  case measure => simp [numOf]; omega
                · have k3 : decide (1000000 < wt i) = false := by simpa using hb2
                  have H1 : Hid ((c2, d2) = wtF wt (wl - (i + 1)) (i + 1)) := HS.out.trans (if_neg (by omega))
                  clear hb hb2 HS
                  go_wp2
                  go_roundw
                  case rel => exact ⟨i + 1, 0, d, by omega, by go_num, hJ.out.1, hJ.out.2.1, Or.inr ⟨rfl, HD.out, H1.out⟩⟩
                  case measure => simp [numOf]; omega
            · have kc : (c == 0) = false := by simpa using hc
              have h2 : c = c2 ∧ d = d2 := by
                rcases hJ.out.2.2 with h | h
                · exact h.2
                · exact absurd h.1 hc
              go_wp2
              go_meet
              case rel => rw [← h2.1, ← h2.2]; exact ⟨hJ.out.1, hJ.out.2.1⟩
          · have k1 : decide ((i : Int) < (wl : Int)) = false := by simp; omega
            obtain rfl : i = wl := by omega
            have h2 : c = c2 ∧ d = d2 := by
              rcases hJ.out.2.2 with h | ⟨h1, h3, h4⟩
              · exact h.2
              · rw [Nat.sub_self] at h4
                simp only [wtF, Prod.mk.injEq] at h4
                exact ⟨h1.trans h4.1.symm, h3.trans h4.2.symm⟩
            have H2 : Hid (c = c2 ∧ d = d2) := h2
            clear h2
            go_wp2
            go_meet
            case rel => rw [← H2.out.1, ← H2.out.2]; exact ⟨hJ.out.1, hJ.out.2.1⟩
      case rest =>
        have HX2 := hcut
        clear hcut HX1
        go_upto_region 10 with (fail)
        obtain ⟨k2, hk2⟩ : ∃ k2 : Bool, k2 = decide (c2 = 0 ∧ rb = false) := ⟨_, rfl⟩
        have HK2 : Hid _ := hk2
        clear hk2
        go_cut [74] from 65 to 74 (fun s74 wd => s74 = .bool k2 ∧ Hid (Two wd b11 (.int .i64 c2) (.int .i64 d2) 27 ∧ Below W5.heap.size W5 wd))
        case first =>
          obtain ⟨p0, p1⟩ := cell_two HX2.out.1
          obtain ⟨p2, p3⟩ := cell_two (HK.out _ HX2.out.2).1
          by_cases hc : c2 = 0
          · subst hc
            have C12a : Hid _ := C12'.out rfl _ (HK.out _ HX2.out.2).2.2.2.2
            go_wp2_with (first | (go_at_call 12; refine Calls.mono C12a.out ?_; rintro e V1 ⟨rfl, g1⟩) | fail)
            go_meet
            case rel => exact ⟨by rw [HK2.out]; cases rb <;> rfl, two_next HX2.out.1 g1, below_next HX2.out.2 g1⟩
          · have kk : (c2 == 0) = false := by simp [hc]
            go_wp2
            go_meet
            case rel => exact ⟨by rw [HK2.out]; simp [hc], HX2⟩
        case rest =>
          obtain ⟨rfl, HX3⟩ := hcut
          go_upto_if 74 with (fail)
          go_cut [] from 75 to 75 (fun wd => Hid (Two wd b11 (.int .i64 c3) (.int .i64 d3) 27 ∧ Below W5.heap.size W5 wd))
          case first =>
            cases k2 with
            | false =>
              have h1 : (c3, d3) = (c2, d2) := by
                have := HF.out.2.2.1
                rw [this]
                have hh := HK2.out
                exact if_neg (by simpa using hh)
              simp only [Prod.mk.injEq] at h1
              have H1 : Hid _ := h1
              clear h1
              go_wp2
              go_meet
              case rel => rw [H1.out.1, H1.out.2]; exact HX3
            | true =>
              have h1 : (c3, d3) = (7, 0) := by
                have := HF.out.2.2.1
                rw [this]
                have hh := HK2.out
                exact if_pos (by simpa using hh)
              simp only [Prod.mk.injEq] at h1
              have H1 : Hid _ := h1
              clear h1
              obtain ⟨p0, p1⟩ := cell_two HX3.out.1
              go_wp2_with (first | (go_at_call 20; refine Calls.mono (refF_call 7 0) ?_; rintro e V1 ⟨rfl, g1⟩; obtain ⟨s1, s2, s3, s4, s5, s6⟩ := store_two' (two_next HX3.out.1 g1) (.int .i64 7) (.int .i64 0)) | fail)
              go_meet
              case rel => rw [H1.out.1, H1.out.2]; exact ⟨two_setN (two_next HX3.out.1 g1), ((below_next HX3.out.2 g1).setCell HB11.out _).setCell HB11.out _⟩
          case rest =>
            clear HK2 HX2 HX3
            have HX4 := hcut
            clear hcut
            go_upto_block 2 with (fail)
            go_cut [13] from 76 to 94 (fun _ wd => Hid (Two wd b11 (.int .i64 c4) (.int .i64 d4) 27 ∧ Below W5.heap.size W5 wd))
            case first =>
              go_wp2_with (fail)
              go_loopw [13] (fun s13 wz => ∃ (i : Nat) (c d : Int), i ≤ xl ∧ s13 = .int .i64 (i : Int) ∧ Hid (Two wz b11 (.int .i64 c) (.int .i64 d) 27 ∧ Below W5.heap.size W5 wz ∧ ((c ≠ 0 ∧ c = c4 ∧ d = d4) ∨ (c = 0 ∧ d = 0 ∧ (c4, d4) = smF (fun i => (ls.getD i []).length) (xl - i) i)))) (fun s13 _ => xl - (numOf s13).toNat)
              case atStart =>
                refine ⟨0, c3, d3, Nat.zero_le _, rfl, HX4.out.1, HX4.out.2, ?_⟩
                by_cases h : c3 = 0
                · refine Or.inr ⟨h, ?_, ?_⟩
                  · have := HF.out.2.2.2.2.2.2 h
                    simp only [Prod.mk.injEq] at this
                    exact this.2
                  · rw [HF.out.2.2.2.1, ← HLN.out.2.2.1]
                    exact if_pos h
                · refine Or.inl ⟨h, ?_⟩
                  have : (c4, d4) = (c3, d3) := by rw [HF.out.2.2.2.1]; exact if_neg h
                  simp only [Prod.mk.injEq] at this
                  exact ⟨this.1.symm, this.2.symm⟩
              case round =>
                obtain ⟨i, c, d, hi, rfl, hJ⟩ := hrel
                clear HX4
                obtain ⟨p0, p1⟩ := cell_two hJ.out.1
                have hxlb := HWB.out.2
                by_cases hlt : i < xl
                · have k1 : decide ((i : Int) < (xl : Int)) = true := by simp; omega
                  have n1 : (i : Int) < (xl : Int) := by omega
                  have n0 : (0 : Int) ≤ (i : Int) := by omega
                  by_cases hc : c = 0
                  · subst hc
                    have hd : d = 0 ∧ (c4, d4) = smF (fun i => (ls.getD i []).length) (xl - i) i := by
                      rcases hJ.out.2.2 with h | h
                      · exact absurd rfl h.1
                      · exact h.2
                    have hlt2 : i < ls.length := by rw [HLN.out.2.2.1]; exact hlt
                    obtain ⟨len, hlen⟩ : ∃ len, len = ls[i].length := ⟨_, rfl⟩
                    have HS : Hid ((c4, d4) = if 12 < len then (2, (i : Int)) else smF (fun i => (ls.getD i []).length) (xl - (i + 1)) (i + 1)) := by
                      show _ = _
                      rw [hd.2, hlen]
                      obtain ⟨k, hk⟩ : ∃ k, xl - i = k + 1 := ⟨xl - i - 1, by omega⟩
                      rw [hk, show xl - (i + 1) = k by omega]
                      have : (ls.getD i []).length = ls[i].length := by simp [List.getD, List.getElem?_eq_getElem hlt2]
                      simp only [smF, this]
                    have HD : Hid (d = 0) := hd.1
                    clear hd
                    obtain ⟨ro, rcp, re, _, hrows⟩ := HEU.out.2.2.2.2.below (HK.out _ hJ.out.2.1).2.2.2.2
                    have hro' : ro = xo := by cases re; rfl
                    subst hro'
                    clear re
                    obtain ⟨rb0, roff, lo0, lc0, hro, cr, hlc1, hlc2, hlc3⟩ := hrows i hlt2
                    subst hro
                    rw [← hlen] at cr hlc1 hlc2
                    clear hrows hlc3 hlen hlt2
                    by_cases hb : 12 < len
                    · have k2 : decide ((12 : Int) < (len : Int)) = true := by simp; omega
                      have h1 : (c4, d4) = (2, (i : Int)) := by rw [HS.out]; exact if_pos hb
                      simp only [Prod.mk.injEq] at h1
                      have H1 : Hid (c4 = 2 ∧ d4 = (i : Int)) := h1
                      clear h1 HS
                      go_wp2_with (first | (go_at_call 20; refine Calls.mono (refF_call 2 (i : Int)) ?_; rintro e V1 ⟨rfl, g1⟩; obtain ⟨s1, s2, s3, s4, s5, s6⟩ := store_two' (two_next hJ.out.1 g1) (.int .i64 2) (.int .i64 (i : Int))) | fail)
                      go_roundw
                      case rel => exact ⟨i + 1, 2, (i : Int), by omega, by go_num, two_setN (two_next hJ.out.1 g1), ((below_next hJ.out.2.1 g1).setCell HB11.out _).setCell HB11.out _, Or.inl ⟨by decide, H1.out.1.symm, H1.out.2.symm⟩⟩
                      case measure => simp [numOf]; omega
                    · have k2 : decide ((12 : Int) < (len : Int)) = false := by simp; omega
                      have H1 : Hid ((c4, d4) = smF (fun i => (ls.getD i []).length) (xl - (i + 1)) (i + 1)) := HS.out.trans (if_neg hb)
                      clear HS
                      go_wp2
                      go_roundw
                      case rel => exact ⟨i + 1, 0, d, by omega, by go_num, hJ.out.1, hJ.out.2.1, Or.inr ⟨rfl, HD.out, H1.out⟩⟩
                      case measure => simp [numOf]; omega
                  · have kc : (c == 0) = false := by simpa using hc
                    have h2 : c = c4 ∧ d = d4 := by
                      rcases hJ.out.2.2 with h | h
                      · exact h.2
                      · exact absurd h.1 hc
                    have H2 : Hid (c = c4 ∧ d = d4) := h2
                    clear h2
                    go_wp2
                    go_meet
                    case rel => rw [← H2.out.1, ← H2.out.2]; exact ⟨hJ.out.1, hJ.out.2.1⟩
                · have k1 : decide ((i : Int) < (xl : Int)) = false := by simp; omega
                  obtain rfl : i = xl := by omega
                  have h2 : c = c4 ∧ d = d4 := by
                    rcases hJ.out.2.2 with h | ⟨h1, h3, h4⟩
                    · exact h.2
                    · rw [Nat.sub_self] at h4
                      simp only [smF, Prod.mk.injEq] at h4
                      exact ⟨h1.trans h4.1.symm, h3.trans h4.2.symm⟩
                  have H2 : Hid (c = c4 ∧ d = d4) := h2
                  clear h2
                  go_wp2
                  go_meet
                  case rel => rw [← H2.out.1, ← H2.out.2]; exact ⟨hJ.out.1, hJ.out.2.1⟩
            case rest =>
              have HX5 := hcut
              clear hcut HX4
              go_upto_region 17 with (fail)
              obtain ⟨l1, l2, l3, l4⟩ := HLN.out
              clear l4
              have HX6 : Hid _ := HX5
              obtain ⟨Wr, hWr⟩ : ∃ W, W = wc := ⟨_, rfl⟩
              subst hWr
              refine region_ext (J := SR Wr 14 7 (VL Wr n (.slice oo el oc) rx (.slice wo wl wcp) (.slice uo ul uc) ws u es (c4, d4)) LKL (FPL Wr n ws es (c4, d4))) (by kernel_rfl) (by kernel_rfl) (by kernel_rfl) SR.start ?_ ?_
              · intro i o hi L xs a w1 hJ hL hd hc hX
                match i, hi with
                | 0, hi =>
                  cases hi
                  have s9 := hX.out (s := 9) rfl
                  have hb := hJ.sq.early hL (by omega)
                  obtain ⟨q0, q1⟩ := cell_two (HK.out _ (below_next HX6.out.2 hb)).2.1
                  refine wpOp_value rfl rfl (v := .agg #[.int .i64 n, .slice oo el oc]) (w' := w1) ?_ ⟨_, rfl, hJ.put VL_mono hL (by omega) (by omega) (Below.refl _ _) rfl trivial⟩
                  simp [go_sem, Act.eval, s9, q0, q1]
                | 1, hi =>
                  cases hi
                  have s1 := hX.out (s := 1) rfl
                  refine wpOp_value rfl rfl (v := .slice wo wl wcp) (w' := w1) ?_ ⟨_, rfl, hJ.put VL_mono hL (by omega) (by omega) (Below.refl _ _) rfl trivial⟩
                  simp [go_sem, Act.eval, s1]
                | 2, hi =>
                  cases hi
                  have l1 := hd ⟨1, .data⟩ (by simp) rfl
                  have r1 := (hX.rd 1 _ 97 rfl rfl l1).trans (hJ.sq.tl (j := 1) hL (by omega) (by omega) l1)
                  have hb := hJ.sq.early hL (by omega)
                  have hI := HEU.out.2.2.2.1.below (HK.out _ (below_next HX6.out.2 hb)).2.2.2.2
                  rw [← HLN.out.1] at hI
                  obtain ⟨po, pc, w', hr, hI', hB'⟩ := run_copyI (ty := 30) hI
                  refine wpOp_value rfl rfl (v := .slice po ws.length pc) (w' := w') ?_ ⟨_, rfl, hJ.put VL_mono hL (by omega) (by omega) hB' ⟨po, pc, rfl, hI'⟩ trivial⟩
                  have q1 : a.eval (.tmp 97) = .slice wo ws.length wcp := by rw [HLN.out.1]; exact r1
                  exact exec_append rfl rfl q1 hr
                | 3, hi =>
                  cases hi
                  have s10 := hX.out (s := 10) rfl
                  refine wpOp_value rfl rfl (v := rx) (w' := w1) ?_ ⟨_, rfl, hJ.put VL_mono hL (by omega) (by omega) (Below.refl _ _) rfl trivial⟩
                  simp [go_sem, Act.eval, s10]
                | 4, hi =>
                  cases hi
                  have s3 := hX.out (s := 3) rfl
                  refine wpOp_value rfl rfl (v := .slice uo ul uc) (w' := w1) ?_ ⟨_, rfl, hJ.put VL_mono hL (by omega) (by omega) (Below.refl _ _) rfl trivial⟩
                  simp [go_sem, Act.eval, s3]
                | 5, hi =>
                  cases hi
                  have l4 := hd ⟨4, .data⟩ (by simp) rfl
                  have r4 := (hX.rd 4 _ 100 rfl rfl l4).trans (hJ.sq.tl (j := 4) hL (by omega) (by omega) l4)
                  have hb := hJ.sq.early hL (by omega)
                  have hI := HEU.out.2.2.1.below (HK.out _ (below_next HX6.out.2 hb)).2.2.2.2
                  rw [← HLN.out.2.1] at hI
                  obtain ⟨po, pc, w', hr, hI', hB'⟩ := run_copyI (ty := 30) hI
                  refine wpOp_value rfl rfl (v := .slice po u.length pc) (w' := w') ?_ ⟨_, rfl, hJ.put VL_mono hL (by omega) (by omega) hB' ⟨po, pc, rfl, hI'⟩ trivial⟩
                  have q1 : a.eval (.tmp 100) = .slice uo u.length uc := by rw [HLN.out.2.1]; exact r4
                  exact exec_append rfl rfl q1 hr
                | 6, hi =>
                  cases hi
                  have l0 := hd ⟨0, .data⟩ (by simp) rfl
                  have l2 := hd ⟨2, .data⟩ (by simp) rfl
                  have l3 := hd ⟨3, .data⟩ (by simp) rfl
                  have l5 := hd ⟨5, .data⟩ (by simp) rfl
                  have r0 := (hX.rd 0 _ 96 rfl rfl l0).trans (hJ.sq.tl (j := 0) hL (by omega) (by omega) l0)
                  have r3 := (hX.rd 3 _ 99 rfl rfl l3).trans (hJ.sq.tl (j := 3) hL (by omega) (by omega) l3)
                  obtain ⟨po, pc, e2, hI2⟩ := hJ.sq.tl (j := 2) hL (by omega) (by omega) l2
                  obtain ⟨qo, qc, e5, hI5⟩ := hJ.sq.tl (j := 5) hL (by omega) (by omega) l5
                  have r2 := (hX.rd 2 _ 98 rfl rfl l2).trans e2
                  have r5 := (hX.rd 5 _ 101 rfl rfl l5).trans e5
                  have hb := hJ.sq.early hL (by omega)
                  have hk := HK.out _ (below_next HX6.out.2 hb)
                  refine wpOp_call rfl rfl (f := 21) (args := #[.agg #[.int .i64 n, .slice oo el oc], .slice po ws.length pc, rx, .slice qo u.length qc]) (w' := w1) ?_ ?_
                  · simp [go_sem, Act.eval, r0, r2, r3, r5]
                  · refine Calls.mono (C21.out w1 _ _ _ _ _ _ hk.2.2.2.2 hk.2.2.1 hk.2.2.2.1 hI2 hI5) ?_
                    rintro e w2 ⟨hy, hB2⟩
                    rw [HF4.out] at hy
                    obtain ⟨v, rfl, hv⟩ := hy.tuple hb.size
                    rw [HLN.out.2.2.2.2] at hv
                    exact ⟨v, rfl, _, rfl, hJ.put VL_mono hL (by omega) (by omega) hB2 hv trivial⟩
                | 7, hi =>
                  cases hi
                  have l6 := hd ⟨6, .data⟩ (by simp) rfl
                  have v6 := hJ.sq.tl (j := 6) hL (by omega) (by omega) l6
                  have r6 := hX.rd 6 _ 102 rfl rfl l6
                  refine wpOp_value rfl rfl (v := xs 6) (w' := w1) ?_ ⟨_, rfl, hJ.putq VL_mono hL (by omega) (Below.refl _ _) v6 trivial (fun j hj hne hlj => ?_)⟩
                  · simp [go_sem, Act.eval, r6]
                  · have no : ∀ {P : Prop}, L 7 = true → P := fun h => by rw [hL] at h; cases h
                    match j, hj, hne with
                    | 0, _, _ => trivial
                    | 1, _, _ => trivial
                    | 2, _, _ => trivial
                    | 3, _, _ => trivial
                    | 4, _, _ => trivial
                    | 5, _, _ => trivial
                    | 6, _, _ => trivial
                    | 7, _, h => exact absurd rfl h
                    | 8, _, _ => exact no (hc 8 _ rfl hlj ⟨7, .data⟩ (by simp) rfl)
                    | 9, _, _ => exact no (hc 9 _ rfl hlj ⟨7, .data⟩ (by simp) rfl)
                    | 10, _, _ => exact no (hc 10 _ rfl hlj ⟨7, .data⟩ (by simp) rfl)
                    | 11, _, _ => trivial
                    | 12, _, _ => exact no (hc 12 _ rfl hlj ⟨7, .phase⟩ (by simp) rfl)
                    | 13, _, _ => exact no (hc 13 _ rfl hlj ⟨7, .phase⟩ (by simp) rfl)
                    | k + 14, h, _ => omega
                | 8, hi =>
                  cases hi
                  have l7 := hd ⟨7, .data⟩ (by simp) rfl
                  obtain ⟨y0, y1, e7, _⟩ := hJ.sq.tl (j := 7) hL (by omega) (by omega) l7
                  have r7 := (hX.rd 7 _ 95 rfl rfl l7).trans e7
                  refine wpOp_value rfl rfl (v := y0) (w' := w1) ?_ ⟨_, rfl, hJ.put VL_mono hL (by omega) (by omega) (Below.refl _ _) trivial ⟨_, _, _, e7, rfl⟩⟩
                  simp [go_sem, Act.eval, r7]
                | 9, hi =>
                  cases hi
                  have l7 := hd ⟨7, .data⟩ (by simp) rfl
                  obtain ⟨y0, y1, e7, _⟩ := hJ.sq.tl (j := 7) hL (by omega) (by omega) l7
                  have r7 := (hX.rd 7 _ 95 rfl rfl l7).trans e7
                  refine wpOp_value rfl rfl (v := y1) (w' := w1) ?_ ⟨_, rfl, hJ.put VL_mono hL (by omega) (by omega) (Below.refl _ _) trivial ⟨_, _, _, e7, rfl⟩⟩
                  simp [go_sem, Act.eval, r7]
                | 10, hi =>
                  cases hi
                  have l7 := hd ⟨7, .data⟩ (by simp) rfl
                  obtain ⟨y0, y1, e7, _⟩ := hJ.sq.tl (j := 7) hL (by omega) (by omega) l7
                  have r7 := (hX.rd 7 _ 95 rfl rfl l7).trans e7
                  refine wpOp_value rfl rfl (v := .agg #[.int .i64 c4, .int .i64 d4]) (w' := w1) ?_ ⟨_, rfl, hJ.put VL_mono hL (by omega) (by omega) (Below.refl _ _) trivial ⟨_, _, _, e7, rfl⟩⟩
                  simp [go_sem, Act.eval, r7]
                | 11, hi =>
                  cases hi
                  have hb := hJ.sq.early hL (by omega)
                  refine wpOp_value rfl rfl (v := .pointer (some ⟨w1.heap.size, 0, none⟩)) (w' := w1.alloc (Obj.cells #[.int .i64 0, .int .i64 0] 27)) ?_ ⟨_, rfl, hJ.put VL_mono hL (by omega) (by omega) (below_alloc (Below.refl _ _) _) ⟨_, rfl, hb.size, two_new _ _ _ _⟩ trivial⟩
                  simp [go_sem]
                | 12, hi =>
                  cases hi
                  have l8 := hd ⟨8, .data⟩ (by simp) rfl
                  have k8 := hJ.lk (hJ.sq.open_ hL (by omega)) 8 (by omega) l8
                  have r8 := hX.rd 8 _ 103 rfl rfl l8
                  refine wpOp_value rfl rfl (v := xs 8) (w' := w1) ?_ ⟨_, rfl, hJ.put VL_mono hL (by omega) (by omega) (Below.refl _ _) trivial k8⟩
                  simp [go_sem, Act.eval, r8]
                | 13, hi =>
                  cases hi
                  have l9 := hd ⟨9, .data⟩ (by simp) rfl
                  have k9 := hJ.lk (hJ.sq.open_ hL (by omega)) 9 (by omega) l9
                  have r9 := hX.rd 9 _ 104 rfl rfl l9
                  refine wpOp_value rfl rfl (v := xs 9) (w' := w1) ?_ ⟨_, rfl, hJ.put VL_mono hL (by omega) (by omega) (Below.refl _ _) trivial k9⟩
                  simp [go_sem, Act.eval, r9]
                | 14, hi =>
                  cases hi
                  have hall : ∀ j, j < 14 → L j = true := fun j hj => by
                    have : j = 0 ∨ j = 1 ∨ j = 2 ∨ j = 3 ∨ j = 4 ∨ j = 5 ∨ j = 6 ∨ j = 7 ∨ j = 8 ∨ j = 9 ∨ j = 10 ∨ j = 11 ∨ j = 12 ∨ j = 13 := by omega
                    rcases this with rfl | rfl | rfl | rfl | rfl | rfl | rfl | rfl | rfl | rfl | rfl | rfl | rfl | rfl
                    · exact hd ⟨0, .phase⟩ (by simp) rfl
                    · exact hd ⟨1, .phase⟩ (by simp) rfl
                    · exact hd ⟨2, .phase⟩ (by simp) rfl
                    · exact hd ⟨3, .phase⟩ (by simp) rfl
                    · exact hd ⟨4, .phase⟩ (by simp) rfl
                    · exact hd ⟨5, .phase⟩ (by simp) rfl
                    · exact hd ⟨6, .phase⟩ (by simp) rfl
                    · exact hd ⟨7, .phase⟩ (by simp) rfl
                    · exact hd ⟨8, .phase⟩ (by simp) rfl
                    · exact hd ⟨9, .phase⟩ (by simp) rfl
                    · exact hd ⟨10, .phase⟩ (by simp) rfl
                    · exact hd ⟨11, .phase⟩ (by simp) rfl
                    · exact hd ⟨12, .phase⟩ (by simp) rfl
                    · exact hd ⟨13, .phase⟩ (by simp) rfl
                  obtain ⟨y0, y1, e7, hz⟩ := hJ.sq.told hL 7 (by omega) (hall 7 (by omega))
                  obtain ⟨b, e11, hbs, tb⟩ := hJ.sq.told hL 11 (by omega) (hall 11 (by omega))
                  obtain ⟨a0, a1, a2, f10, k10⟩ := hJ.lk hL 10 (by omega) (hall 10 (by omega))
                  obtain ⟨a3, a4, a5, f12, k12⟩ := hJ.lk hL 12 (by omega) (hall 12 (by omega))
                  obtain ⟨a6, a7, a8, f13, k13⟩ := hJ.lk hL 13 (by omega) (hall 13 (by omega))
                  rw [e7] at f10 f12 f13
                  simp only [Value.tuple.injEq, Array.mk.injEq, List.cons.injEq, and_true] at f10 f12 f13
                  obtain ⟨rfl, rfl, rfl⟩ := f10
                  obtain ⟨rfl, rfl, rfl⟩ := f12
                  obtain ⟨rfl, rfl, rfl⟩ := f13
                  have r10 := (hX.rd 10 _ 105 rfl rfl (hall 10 (by omega))).trans k10
                  have r11 := (hX.rd 11 _ 16 rfl rfl (hall 11 (by omega))).trans e11
                  have hb := hJ.sq.w0 hL
                  obtain ⟨q1, q2, q3, q4, _, _⟩ := store_two' tb (.int .i64 c4) (.int .i64 d4)
                  have htu := (setCell_turns w1 b 0 (.int .i64 c4)).trans (setCell_turns (w1.setCell ⟨b, 0, none⟩ (.int .i64 c4)) b 1 (.int .i64 d4))
                  refine wpOp_skip rfl rfl (w' := (w1.setCell ⟨b, 0, none⟩ (.int .i64 c4)).setCell ⟨b, 1, none⟩ (.int .i64 d4)) ?_ ⟨undef, rfl, hJ.last hall ⟨b, by rw [updV_ne _ _ (by omega)]; exact e11, ?_, two_setN tb, (hb.setCell hbs _).setCell hbs _⟩⟩
                  · simp [go_sem, Act.eval, r10, r11, q1, q2, q3, q4]
                  · rw [updV_ne _ _ (by omega), updV_ne _ _ (by omega), k12, k13]
                    exact hz.store tb htu.grown
                | k + 15, hi => cases hi
              · intro L0 xv w1 hJ hall
                obtain ⟨b16, e11, hz, t16, hBF⟩ := hJ.sq.fin (hall 14 (by simp))
                rw [← HLN.out.2.2.2.2] at hz
                simp only [puts, Act.put, e11, List.setIfInBounds_toArray, List.set_cons_succ, List.set_cons_zero]
                have HZ : Hid (HzA w1 Wr.heap.size n es wt (c4, d4) (xv 12) (xv 13) ∧ Two w1 b16 (.int .i64 c4) (.int .i64 d4) 27 ∧ Below Wr.heap.size Wr w1) := ⟨hz, t16, hBF⟩
                clear hJ hall hz t16 hBF e11
                generalize xv 12 = y14 at *
                generalize xv 13 = y15 at *
                generalize xv 0 = z0
                generalize xv 1 = z1
                generalize xv 2 = z2
                generalize xv 3 = z3
                generalize xv 4 = z4
                generalize xv 5 = z5
                generalize xv 6 = z6
                generalize xv 7 = z7
                generalize xv 8 = z8
                generalize xv 9 = z9
                generalize xv 10 = z10
                have HK2 : Hid (∀ A, Below w1.heap.size w1 A → Two A b4 (.int .i64 n) (.slice ao el cap) 24 ∧ Two A b9 (.int .i64 n) (.slice oo el oc) 24 ∧ EdgesAt A (.slice oo el oc) es ∧ RowsAt A rx ls ∧ Below w.heap.size w A ∧ Two A b11 (.int .i64 c4) (.int .i64 d4) 27 ∧ Two A b16 (.int .i64 c4) (.int .i64 d4) 27) := fun A hA => by
                  have h1 := below_next HX6.out.2 (below_next HZ.out.2.2 hA)
                  obtain ⟨k1, k2, k3, k4, k5⟩ := HK.out A h1
                  exact ⟨k1, k2, k3, k4, k5, two_next HX6.out.1 (below_next HZ.out.2.2 hA), two_next HZ.out.2.1 hA⟩
                have C10 : Hid (∀ A, Below w1.heap.size w1 A → Calls Tryd.prog 10 #[.agg #[.int .i64 n, .slice oo el oc], .agg #[.int .i64 n, .slice ao el cap]] A fun e w' => e = .returned (.bool true) ∧ Below A.heap.size A w') := fun A hA => by
                  obtain ⟨_, _, k3, _, k6, _⟩ := HK2.out A hA
                  exact kept_true n _ _ es A k3 (HEU.out.1.below k6)
                have C18 : Hid (∀ A, Below w1.heap.size w1 A → Calls Tryd.prog 18 #[rx, .slice xo xl xc] A fun e w' => e = .returned (.bool true) ∧ Below A.heap.size A w') := fun A hA => by
                  obtain ⟨_, _, _, k4, k6, _⟩ := HK2.out A hA
                  exact (lists_true _ _ ls A k4 (HEU.out.2.1.below k6)).mono fun e w' ⟨h1, m, h2⟩ => ⟨h1, by rw [h2]; exact below_drewN (Below.refl _ _) _⟩
                have hneq := neq27 c4 d4
                clear HX5 HX6 HK HB11 C12' C21 HF
                go_upto_region 20 with (first | (go_at_call 9; refine Calls.mono (C9.out _ (HK2.out _ (Below.refl _ _)).2.2.2.2.1) ?_; rintro e V1 ⟨rfl, g1⟩; obtain ⟨y0, y1⟩ := cell_two (HK2.out _ g1).2.2.2.2.2.1; obtain ⟨y2, y3⟩ := cell_two (HK2.out _ g1).2.2.2.2.2.2; obtain ⟨y4, y5⟩ := cell_two (HK2.out _ g1).1; obtain ⟨y6, y7⟩ := cell_two (HK2.out _ g1).2.1) | (go_at_call 10; refine Calls.mono (C10.out _ g1) ?_; rintro e V2 ⟨rfl, g2⟩) | (go_at_call 18; refine Calls.mono (C18.out _ (below_next g1 g2)) ?_; rintro e V3 ⟨rfl, g3⟩) | fail)
                have g4 := below_next (below_next g1 g2) g3
                have HG : Hid (Below w1.heap.size w1 V3) := g4
                clear g4 g1 g2 g3 y0 y1 y2 y3 y4 y5 y6 y7 C10 C18 C9 hneq
                obtain ⟨k1, _, _, _, _, k7, _⟩ := HK2.out _ HG.out
                obtain ⟨p0, p1⟩ := cell_two k7
                obtain ⟨p2, p3⟩ := cell_two k1
                clear k1 k7
                by_cases h4 : c4 = 0
                · subst h4
                  have HH : Hid (HzA w1 Wr.heap.size n es wt (0, d4) y14 y15 ∧ ∃ N : Nat, n = N ∧ N ≤ 100 ∧ chk n es = (0, 0) ∧ wl = N ∧ ∀ i, -1000000 ≤ wt i ∧ wt i ≤ 1000000) := ⟨HZ.out.1, HCK.out rfl⟩
                  clear HZ HCK HF4
                  obtain ⟨hz, N', hn', hN', hck', hwN, hwb⟩ := HH.out
                  rcases hz with ⟨hz, _⟩ | ⟨_, N, es', p, lo, lc, hn, hes, hlt, hA, e14, e15, hrow⟩
                  · exact absurd rfl hz
                  obtain rfl : N' = N := by omega
                  subst hn
                  subst e14
                  subst e15
                  have hwN' := hwN.symm
                  clear hwN
                  subst hwN'
                  obtain ⟨E, hE⟩ : ∃ E, E = elems p.2 := ⟨_, rfl⟩
                  rw [← hE] at hrow ⊢
                  obtain ⟨_, _, _, hel1000, hgood⟩ := chk_good (n := (N' : Int)) (es := es) (by rw [hck'])
                  have HR : Hid (∀ A, Below w1.heap.size w1 A → A.ownsRow Wr.heap.size 3 1 (.slice lo E.length lc) E.length (qv E)) := fun A hA => own_under hrow hA
                  have hEl : E.length ≤ 128 := by rw [hE]; exact count_le p.2
                  have hEN : ∀ x ∈ E, x < N' := fun x hx => by
                    rw [hE] at hx
                    exact hA.2.2.2.1 x ((mem_elems hA.1).1 hx)
                  have hES : E.Pairwise (· < ·) := by rw [hE]; exact elems_sorted _
                  have hEI : ∀ i j (hi : i < E.length) (hj : j < E.length), hasB es (E[i] : Int) (E[j] : Int) = false := fun i j hi hj => by
                    have bi : p.2.testBit E[i] = true := (mem_elems hA.1).1 (by rw [← hE]; exact List.getElem_mem hi)
                    have bj : p.2.testBit E[j] = true := (mem_elems hA.1).1 (by rw [← hE]; exact List.getElem_mem hj)
                    cases hb : hasB es (E[i] : Int) (E[j] : Int) with
                    | false => rfl
                    | true =>
                      rw [hes, nearE_has hlt, hA.2.2.1 _ _ bi bj] at hb
                      cases hb
                  have hsum : p.1 = (E.map wt).sum := by rw [hA.2.1, hE]; rfl
                  have C15 : Hid (∀ A, Below w1.heap.size w1 A → Calls Tryd.prog 15 #[.agg #[.int .i64 (N' : Int), .slice ao el cap]] A fun e w' => Below A.heap.size A w' ∧ ∃ ao cap, e = .returned (.slice ao N' cap) ∧ GridAt w' (.slice ao N' cap) N' (hasB es)) := fun A hA => by
                    obtain ⟨_, _, _, _, k6, _⟩ := HK2.out A hA
                    exact gridOf_any N' _ es A (HEU.out.1.below k6) hN' hel1000 hgood
                  have C22 : Hid (∀ A, Below w1.heap.size w1 A → Calls Tryd.prog 22 #[.slice lo E.length lc, .int .i64 (N' : Int)] A fun e w' => e = .returned (.bool true) ∧ Below A.heap.size A w') := fun A hA => rising_true (HR.out A hA) hEN hES hEl
                  have HM : Hid ((∀ x ∈ E, x < N') ∧ (∀ i j (hi : i < E.length) (hj : j < E.length), hasB es (E[i] : Int) (E[j] : Int) = false) ∧ p.1 = (E.map wt).sum ∧ (∀ i, -1000000 ≤ wt i ∧ wt i ≤ 1000000) ∧ E.length ≤ 128 ∧ N' ≤ 100) := ⟨hEN, hEI, hsum, hwb, hEl, hN'⟩
                  have HS : Hid (∀ b, HvB (fun (i j : Nat) => hasB es i j) wt N' (2 ^ N') b → p.1 = b) := fun b hb => by
                    rw [hes] at hb hgood
                    exact hv_same hlt (fun e he => (hgood e he).2) hN' hA hb
                  clear hE hrow hEl hEN hES hEI hsum hgood hck' hwb hN' hlt hA hes HH hn' hel1000
                  go_upto_region 25 with (first | (go_at_call 15; refine Calls.mono (C15.out _ HG.out) ?_; rintro e V4 ⟨g5, go, gc, rfl, hGr⟩; obtain ⟨y4, y5⟩ := cell_two (HK2.out _ (below_next HG.out g5)).1) | (go_at_call 22; refine Calls.mono (C22.out _ (below_next HG.out g5)) ?_; rintro e V5 ⟨rfl, g6⟩) | fail)
                  have HG5 : Hid (Below w1.heap.size w1 V5) := below_next (below_next HG.out g5) g6
                  have HGr : Hid (∀ A, Below V5.heap.size V5 A → ∀ i : Nat, i < N' → ∃ g b, go = some ⟨g, 0, none⟩ ∧ A.cell? ⟨g, i, none⟩ = some (.slice (some ⟨b, 0, none⟩) N' N') ∧ ∀ j : Nat, j < N' → A.cell? ⟨b, j, none⟩ = some (.bool (hasB es i j))) := fun A hA => by
                    obtain ⟨a1, c1', e1, h⟩ := (hGr.below g6).below hA
                    cases e1
                    exact h
                  have C23 : Hid (N' ≤ 14 → ∀ A, Below V5.heap.size V5 A → Calls Tryd.prog 23 #[.slice go N' gc, .slice wo N' wcp] A fun e w' => e = .returned (.int .i64 p.1) ∧ w' = A) := fun h14 A hA => by
                    refine (refHeavy_call ((hGr.below g6).below hA) h14 (HNW.out A (HK2.out A (below_next HG5.out hA)).2.2.2.2.1) HM.out.2.2.2.1).mono ?_
                    rintro e w' ⟨⟨b, rfl, hb⟩, rfl⟩
                    exact ⟨by rw [HS.out b hb], rfl⟩
                  have HP : Hid (Below w.heap.size w V5 ∧ Two V5 b4 (.int .i64 (N' : Int)) (.slice ao el cap) 24) := ⟨(HK2.out _ HG5.out).2.2.2.2.1, (HK2.out _ HG5.out).1⟩
                  have HNW5 : Hid (∀ A, Below V5.heap.size V5 A → NumF A wo N' wt) := fun A hA => HNW.out A (HK2.out A (below_next HG5.out hA)).2.2.2.2.1
                  have HR5 : Hid (∀ A, Below V5.heap.size V5 A → A.ownsRow Wr.heap.size 3 1 (.slice lo E.length lc) E.length (qv E)) := fun A hA => HR.out A (below_next HG5.out hA)
                  clear HG g5 g6 hGr y4 y5 C15 C22 HS HK2 HR HNW p0 p1 p2 p3 HG5
                  go_wp2_with (fail)
                  go_loopw [18, 19, 20] (fun s18 s19 _ wz => ∃ i : Nat, i ≤ E.length ∧ s19 = .int .i64 (i : Int) ∧ s18 = .int .i64 ((E.take i).map wt).sum ∧ Hid (Below V5.heap.size V5 wz)) (fun _ s19 _ _ => E.length - (numOf s19).toNat)
                  case atStart => exact ⟨0, Nat.zero_le _, rfl, rfl, Below.refl _ _⟩
                  case round =>
                    obtain ⟨i, hi, rfl, rfl, hB⟩ := hrel
                    have hEl := HM.out.2.2.2.2.1
                    by_cases hlt : i < E.length
                    · have k1 : decide ((i : Int) < (E.length : Int)) = true := by simp; omega
                      have n0 : (0 : Int) ≤ (i : Int) := by omega
                      have n1 : (i : Int) < (E.length : Int) := by omega
                      obtain ⟨x, hx⟩ : ∃ x, E[i]? = some x := ⟨_, List.getElem?_eq_getElem hlt⟩
                      obtain ⟨g, hg, cx⟩ := qcell (HR5.out _ hB.out) hx
                      subst hg
                      have hxN := HM.out.1 x (List.mem_of_getElem? hx)
                      obtain ⟨wb, woff, hwo, cw⟩ := HNW5.out _ hB.out x hxN
                      subst hwo
                      have m0 : (0 : Int) ≤ (x : Int) := by omega
                      have m1 : (x : Int) < (N' : Int) := by omega
                      obtain ⟨sm, hsm⟩ : ∃ sm, sm = ((E.take i).map wt).sum := ⟨_, rfl⟩
                      have hbd := sum_bd HM.out.2.2.2.1 (E.take i)
                      rw [← hsm, List.length_take] at hbd
                      have hbx := HM.out.2.2.2.1 x
                      have b1 : -9223372036854775808 ≤ sm + wt x := by omega
                      have b2 : sm + wt x < 9223372036854775808 := by omega
                      have HSM : Hid (sm + wt x = ((E.take (i + 1)).map wt).sum) := by
                        show _ = _
                        rw [hsm, List.take_add_one, hx]
                        simp
                      rw [← hsm]
                      clear hsm hbd hbx
                      go_upto_region 30 with (fail)
                      clear cw
                      go_wp2_with (fail)
                      go_loopw [20] (fun s20 wz => ∃ j : Nat, j ≤ i ∧ s20 = .int .i64 (j : Int) ∧ Hid (Below V5.heap.size V5 wz)) (fun s20 _ => i - (numOf s20).toNat)
                      case atStart => exact ⟨0, Nat.zero_le _, rfl, hB⟩
                      case round =>
                        obtain ⟨j, hj, rfl, hB2⟩ := hrel
                        clear hB cx
                        by_cases hji : j < i
                        · have k2 : decide ((j : Int) < (i : Int)) = true := by simp; omega
                          have j0 : (0 : Int) ≤ (j : Int) := by omega
                          have j1 : (j : Int) < (E.length : Int) := by omega
                          have j2 : (j : Int) < (i : Int) := by omega
                          obtain ⟨z, hz⟩ : ∃ z, E[j]? = some z := ⟨_, List.getElem?_eq_getElem (by omega)⟩
                          obtain ⟨g', hg', cx⟩ := qcell (HR5.out _ hB2.out) hx
                          cases hg'
                          obtain ⟨g', hg', cz⟩ := qcell (HR5.out _ hB2.out) hz
                          cases hg'
                          have hzN := HM.out.1 z (List.mem_of_getElem? hz)
                          have z0 : (0 : Int) ≤ (z : Int) := by omega
                          have z1 : (z : Int) < (N' : Int) := by omega
                          obtain ⟨gg, gb, hgo, cg, cgr⟩ := HGr.out _ hB2.out x hxN
                          have cr := cgr z hzN
                          have hfalse : hasB es (x : Int) (z : Int) = false := by
                            have := HM.out.2.1 i j hlt (by omega)
                            rw [List.getElem?_eq_getElem hlt] at hx
                            rw [List.getElem?_eq_getElem (show j < E.length by omega)] at hz
                            rw [Option.some.inj hx, Option.some.inj hz] at this
                            exact this
                          rw [hfalse] at cr
                          subst hgo
                          go_upto_region 33 with (fail)
                          have d0 := cell_growD cx
                          have d1 := cell_growD cz
                          have d2 := cell_growD cg
                          have d3 := cell_growD cr
                          clear cx cz cg cr cgr hfalse
                          refine wp_region_below (by kernel_rfl) (by kernel_rfl) ?_
                          repeat (go_big_quiet_step (fail))
                          refine wpQuiet_nil ?_
                          rintro _ ⟨gp, rfl⟩
                          have hB8 := growD_below wr gp
                          have HB8 : Hid _ := below_next hB2.out hB8
                          clear d0 d1 d2 d3 hB8 hB2
                          generalize growD wr gp = w8 at *
                          go_wp2
                          go_roundw
                          case rel => exact ⟨j + 1, by omega, by go_num, HB8⟩
                          case measure => simp [numOf]; omega
                        · have k2 : decide ((j : Int) < (i : Int)) = false := by simp; omega
                          go_wp2
                          go_roundw
                          case rel => exact ⟨i + 1, by omega, by go_num, by rw [HSM.out], hB2⟩
                          case measure => simp [numOf]; omega
                    · obtain rfl : i = E.length := by omega
                      have k1 : decide ((E.length : Int) < (E.length : Int)) = false := by simp
                      have hs : ((E.take E.length).map wt).sum = p.1 := by rw [List.take_length, HM.out.2.2.1]
                      rw [hs]
                      obtain ⟨p0, p1⟩ := cell_two (two_next HP.out.2 hB.out)
                      have HBw : Hid (Below w.heap.size w wr) := below_next HP.out.1 hB.out
                      clear hs
                      by_cases h14 : N' ≤ 14
                      · have k2 : decide ((14 : Int) < (N' : Int)) = false := by simp; omega
                        have C23' : Hid _ := C23.out h14 _ hB.out
                        clear C23
                        go_wp2_with (first | (go_at_call 23; refine Calls.mono C23'.out ?_; rintro e V6 ⟨rfl, rfl⟩) | fail)
                        go_ret
                        exact ⟨rfl, HBw.out⟩
                      · have k2 : decide ((14 : Int) < (N' : Int)) = true := by simp; omega
                        clear C23
                        go_wp2
                        go_ret
                        exact ⟨rfl, HBw.out⟩
                · have kc : (c4 != 0) = true := by simpa using h4
                  have hz : y14 = .int .i64 0 ∧ y15 = .slice none 0 0 := by
                    rcases HZ.out.1 with ⟨_, h⟩ | ⟨h, _⟩
                    · exact h
                    · simp only [Prod.mk.injEq] at h; exact absurd h.1 h4
                  obtain ⟨rfl, rfl⟩ := hz
                  have HB : Hid (Below w.heap.size w V3) := (HK2.out _ HG.out).2.2.2.2.1
                  clear h4 HZ HCK
                  go_wp2
                  go_ret
                  exact ⟨rfl, HB.out⟩
end Go.Proofs.YtdalconphfgepaaDoor
