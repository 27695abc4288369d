/- What Least answers, as WidthLeast asks it. WidthLeast's walk. -/
import Derived.Test.YtdalconphfgepaaDoorBagsLC
import Derived.Test.YtdalconphfgepaaDoorMostW
import Derived.Test.YtdalconphfgepaaDoorFitsL
import Derived.Test.YtdalconphfgepaaDoorWidM
namespace Go.Proofs.YtdalconphfgepaaDoor
set_option maxRecDepth 8000
open Go.RowKit Go.Maps
theorem pz_nat {N : Nat} : ∀ {es : List Pair}, (∀ e ∈ es, (0 ≤ e.1 ∧ e.1 < N ∧ 0 ≤ e.2 ∧ e.2 < N) ∧ e.1 ≠ e.2) → ∃ es' : List E2, es = pz es' ∧ (∀ e ∈ es', e.1 < N ∧ e.2 < N)
  | [], _ => ⟨[], rfl, fun e he => by cases he⟩
  | e :: l, h => by
    obtain ⟨l', rfl, hl⟩ := pz_nat (N := N) (es := l) (fun e' he => h e' (by simp [he]))
    obtain ⟨⟨h1, h2, h3, h4⟩, _⟩ := h e (by simp)
    refine ⟨(e.1.toNat, e.2.toNat) :: l', ?_, fun e' he => ?_⟩
    · have e1 : ((e.1.toNat : Nat) : Int) = e.1 := by omega
      have e2 : ((e.2.toNat : Nat) : Int) = e.2 := by omega
      simp only [pz, List.map_cons, e1, e2]
    · rcases List.mem_cons.1 he with rfl | he
      · constructor
        · show e.1.toNat < N; omega
        · show e.2.toNat < N; omega
      · exact hl e' he
theorem nearE_has {N : Nat} {es : List E2} (he : ∀ e ∈ es, e.1 < N ∧ e.2 < N) (a b : Nat) : hasB (pz es) (a : Int) (b : Int) = true ↔ (at' (nearBy N es) a).testBit b = true := by
  rw [hasB_iff', nearBy_iff he]
  constructor
  · rintro (h | h)
    · obtain ⟨e, h1, h2⟩ := List.mem_map.1 h
      obtain ⟨e1, e2⟩ := Prod.mk.inj h2
      exact ⟨e, h1, Or.inl ⟨by omega, by omega⟩⟩
    · obtain ⟨e, h1, h2⟩ := List.mem_map.1 h
      obtain ⟨e1, e2⟩ := Prod.mk.inj h2
      exact ⟨e, h1, Or.inr ⟨by omega, by omega⟩⟩
  · rintro ⟨e, h1, ⟨rfl, rfl⟩ | ⟨rfl, rfl⟩⟩
    · exact Or.inl (List.mem_map.2 ⟨e, h1, rfl⟩)
    · exact Or.inr (List.mem_map.2 ⟨e, h1, rfl⟩)
set_option maxHeartbeats 4000000 in
theorem least_all {w A : World} {n : Int} {es : List Pair} {ao oo : Option Addr} {cap oc : Nat} (hE : EdgesAt w (.slice ao es.length cap) es) (hcap : es.length ≤ cap) (hA : Below w.heap.size w A) (hEo : EdgesAt A (.slice oo es.length oc) es) (ht : T64 w) :
    Calls Tryd.prog 8 #[.agg #[.int .i64 n, .slice oo es.length oc]] A fun e w' => Below A.heap.size A w' ∧ ∃ lw ba bc ua uc m, e = .returned (.tuple #[.int .i64 lw, .slice ba m bc, .slice ua m uc, .agg #[.int .i64 (smallR n es).1, .int .i64 (smallR n es).2]]) ∧ ((smallR n es).1 ≠ 0 → lw = 0 ∧ m = 0) ∧ ((smallR n es).1 = 0 → ∀ W, Below w'.heap.size w' W →
      (Calls Tryd.prog 11 #[.agg #[.int .i64 n, .slice ao es.length cap], .slice ba m bc, .slice ua m uc] W fun e w2 => e = .returned (.agg #[.int .i64 0, .int .i64 0]) ∧ Below W.heap.size W w2) ∧
      (Calls Tryd.prog 12 #[.agg #[.int .i64 n, .slice ao es.length cap], .slice ba m bc, .slice ua m uc] W fun e w2 => e = .returned (.bool true) ∧ Below W.heap.size W w2) ∧
      (Calls Tryd.prog 13 #[.slice ba m bc] W fun e w2 => e = .returned (.int .i64 lw) ∧ w2 = W) ∧
      (n ≤ 6 → Calls Tryd.prog 15 #[.agg #[.int .i64 n, .slice ao es.length cap]] W fun e w2 => Below W.heap.size W w2 ∧ ∃ go gk gc, e = .returned (.slice go gk gc) ∧ Calls Tryd.prog 14 #[.slice go gk gc] w2 fun e w3 => e = .returned (.int .i64 lw) ∧ Below w2.heap.size w2 w3)) := by
  by_cases hs : (smallR n es).1 = 0
  · have hs' := hs
    unfold smallR at hs'
    split at hs'
    · exact absurd hs' (by decide)
    next h12 =>
    obtain ⟨hck, hn0, hn1, hel, hgood⟩ := chk_good hs'
    obtain ⟨N, rfl⟩ := Int.eq_ofNat_of_zero_le hn0
    have hN : N ≤ 12 := by
      have : ¬ (12 : Int) < (N : Int) := fun h => h12 ⟨hs', h⟩
      omega
    have hsr : smallR (N : Int) es = (0, 0) := by
      unfold smallR
      rw [if_neg h12, hck]
    rw [hsr]
    obtain ⟨es', rfl, hes⟩ := pz_nat hgood
    rw [pz_len] at hE hEo hcap hel ⊢
    have hnl := nearBy_len N es'
    have hbit := nearBy_bit hes
    have hsym := nearBy_sym hes
    have hlt : ∀ s ∈ nearBy N es', s < 2 ^ 128 := fun s hs => by
      obtain ⟨u, hu, rfl⟩ := List.mem_iff_getElem.1 hs
      refine Nat.lt_pow_two_of_testBit _ fun i hi => ?_
      have := hbit u i
      rw [show at' (nearBy N es') u = (nearBy N es')[u] by simp [at', hu]] at this
      cases h : (nearBy N es')[u].testBit i with
      | false => rfl
      | true => have := this h; omega
    have hord0 := ordL_ext (near := nearBy N es') (N := N) hnl hlt hN hbit
    have hord := ord_of_list (N := N) (L := ordL (nearBy N es') N) hord0.1 hord0.2.1 hord0.2.2
    obtain ⟨o, ho⟩ : ∃ o, o = fun i => (ordL (nearBy N es') N).getD i 0 := ⟨_, rfl⟩
    have hwd : wideO (nearBy N es') o (goneF o) N = (lastL (nearBy N es') (setOf (List.range N))).1 := by
      rw [ho]
      exact ordL_wd hnl hlt hN hbit
    refine Calls.mono (least_full hEo hck hN hes (by omega) (ht.under hA)) ?_
    rintro e w' ⟨⟨ba, bc, ua, uc, xs, rfl, o1, o2, o3⟩, hB⟩
    rw [← ho] at hord o2 o3
    refine ⟨hB, _, ba, bc, ua, uc, N, rfl, fun h => absurd rfl h, fun _ W hW => ?_⟩
    have hBW := below_next hA (below_next hB hW)
    have hR := (br_rows hN o1 o3).below hW
    have hU := (ups_num o2).below hW
    have hEW := hE.below hBW
    have hop := bagsZ_open hlt (by omega) hbit hord
    have hzl : (bagsZ (nearBy N es') o N).length = N := by simp [bagsZ]
    have hfit : (fitsR (N : Int) (pz es') (bagsZ (nearBy N es') o N) (upO (nearBy N es') o (goneF o) N) N).2 = (0, 0) := by
      unfold fitsR
      rw [if_neg (by rw [hck]; simp), if_neg (by omega), if_neg (by omega), Int.toNat_natCast, if_pos (by rw [hop])]
    have hlies : liesB N (pz es') (setsL N (bagsZ (nearBy N es') o N)) (upO (nearBy N es') o (goneF o) N) = true :=
      bagsO_lies hlt (by omega) hsym hord (by simp [setsL, bagsZ]) (fun i x hi => bagsZ_sets hlt (by omega) hbit hord hi x) hgood (fun e he => by
        obtain ⟨⟨h1, h2, h3, h4⟩, _⟩ := hgood e he
        rw [← nearE_has hes, hasB_iff']
        left
        rw [Int.toNat_of_nonneg h1, Int.toNat_of_nonneg h3]
        exact he)
    refine ⟨?_, ?_, ?_, fun h6 => ?_⟩
    · have := fault_call (n := (N : Int)) (ul := N) (uo := ua) (uc := uc) (upO (nearBy N es') o (goneF o) N) (by rw [pz_len]; exact hEW) (by rw [pz_len]; exact hcap) hR
      rw [hfit, pz_len] at this
      exact this
    · have := over_call (uc := uc) (by rw [pz_len]; exact hEW) hR hck (by omega) hzl (by omega) (by rw [hop]) hU
      rw [hlies, pz_len] at this
      exact this
    · have := most_call (w := W) (xo := ba) (m := N) (xc := bc) (g := fun i => (bagO (nearBy N es') o i).length) (by omega) (fun i => by have : (bagO (nearBy N es') o i).length ≤ 128 := count_le _; omega) (fun i hi => by
        obtain ⟨ao', cap', e', _, h⟩ := hR
        injection e' with e1' e2' e3'
        subst e1'
        obtain ⟨b, off, xo, xc, e1, e2, _⟩ := h i (by omega)
        refine ⟨b, off, xo, xc, e1, ?_⟩
        rw [e2]
        simp [bagsZ])
      rw [most_bags hlt (by omega) hord N (Nat.le_refl _), hwd] at this
      exact this
    · refine Calls.mono (gridOf_any N _ (pz es') W hEW (by omega) (by rw [pz_len]; omega) hgood) ?_
      rintro e w2 ⟨h1, go, gc, rfl, hG⟩
      refine ⟨h1, go, N, gc, rfl, ?_⟩
      exact width_is hnl hlt (by omega) hbit hsym (fun a b ha hb hab => by rw [has_all (hasB_sym _) ha hb hab, nearE_has hes]) hG
  · refine Calls.mono (least_bad hEo hs) ?_
    rintro e w' ⟨rfl, hB⟩
    exact ⟨hB, 0, none, 0, none, 0, 0, rfl, fun _ => ⟨rfl, rfl⟩, fun h => absurd h hs⟩
end Go.Proofs.YtdalconphfgepaaDoor

namespace Go.Proofs.YtdalconphfgepaaDoor
set_option maxRecDepth 8000
open Go.RowKit Go.Maps
attribute [local go_sem ↓] Go.wp_at_zero Go.wp_at_succ
set_option maxHeartbeats 8000000 in
theorem least_law {w : World} {n : Int} {ao : Option Addr} {cap : Nat} {es : List Pair} (hE : EdgesAt w (.slice ao es.length cap) es) (hcap : es.length ≤ cap) (ht : T64 w) :
    Calls Tryd.prog 3 #[.agg #[.int .i64 n, .slice ao es.length cap]] w fun e w' => e = .returned (.bool true) ∧ Below w.heap.size w w' := by
  have C6 : Hid (∀ A, Below w.heap.size w A → Calls Tryd.prog 6 #[.agg #[.int .i64 n, .slice ao es.length cap]] A fun e w' => Below A.heap.size A w' ∧ ∃ ao c, e = .returned (.agg #[.int .i64 n, .slice ao es.length c]) ∧ EdgesAt w' (.slice ao es.length c) es ∧ es.length ≤ c) := fun A hA => own_any n ao cap es A (hE.below hA)
  have C7 : Hid (∀ A, Below w.heap.size w A → Calls Tryd.prog 7 #[.agg #[.int .i64 n, .slice ao es.length cap], .int .i64 12] A fun e w' => e = .returned (.agg #[.int .i64 (smallR n es).1, .int .i64 (smallR n es).2]) ∧ Below A.heap.size A w') := fun A hA => small_call (hE.below hA) hcap
  have C8 : Hid (∀ A oo oc, Below w.heap.size w A → EdgesAt A (.slice oo es.length oc) es → _) := fun A oo oc hA hEo => least_all (n := n) (oc := oc) hE hcap hA hEo ht
  have C9 : Hid (∀ A, Below w.heap.size w A → Calls Tryd.prog 9 #[] A fun e w' => e = .returned (.bool true) ∧ Below A.heap.size A w') := fun A hA => begun_call (ht.under hA)
  have HEU : Hid (EdgesAt w (.slice ao es.length cap) es) := hE
  clear hE hcap ht
  generalize smallR n es = SR at *
  obtain ⟨rc, rd⟩ := SR
  simp only at C7 C8
  have hneq := neq27 rc rd
  go_enter Tryd.func3, Tryd.ntmps3
  go_upto_region 1 with (fail)
  have t3 := two_new w (.int .i64 n) (.slice ao es.length cap) 24
  have hB0 := below_alloc (Below.refl _ w) (Obj.cells #[.int .i64 n, .slice ao es.length cap] 24)
  generalize w.heap.size = b1 at t3 ⊢
  generalize w.alloc (Obj.cells #[.int .i64 n, .slice ao es.length cap] 24) = W0 at *
  have HW0 : Hid (Two W0 b1 (.int .i64 n) (.slice ao es.length cap) 24 ∧ Below w.heap.size w W0) := ⟨t3, hB0⟩
  obtain ⟨q0, q1⟩ := cell_two t3
  clear t3 hB0
  go_upto_region 2 with (first | (go_at_call 6; refine Calls.mono (C6.out _ HW0.out.2) ?_; rintro e W1 ⟨h1, oo, oc, rfl, hEo, _⟩) | fail)
  have t7 := two_new W1 (.int .i64 n) (.slice oo es.length oc) 24
  have hB4 := below_alloc (Below.refl _ W1) (Obj.cells #[.int .i64 n, .slice oo es.length oc] 24)
  generalize W1.heap.size = b3 at t7 ⊢
  generalize W1.alloc (Obj.cells #[.int .i64 n, .slice oo es.length oc] 24) = W4 at *
  have HW4 : Hid (Two W4 b1 (.int .i64 n) (.slice ao es.length cap) 24 ∧ Two W4 b3 (.int .i64 n) (.slice oo es.length oc) 24 ∧ EdgesAt W4 (.slice oo es.length oc) es ∧ Below w.heap.size w W4) := ⟨two_next HW0.out.1 (below_next h1 hB4), t7, hEo.below hB4, below_next HW0.out.2 (below_next h1 hB4)⟩
  obtain ⟨q2, q3⟩ := cell_two HW4.out.1
  clear hB4 t7 h1 hEo q0 q1 C6
  go_upto_region 3 with (first | (go_at_call 7; refine Calls.mono (C7.out _ HW4.out.2.2.2) ?_; rintro e W5 ⟨rfl, h5⟩) | fail)
  have x10 := two_new W5 (.int .i64 rc) (.int .i64 rd) 27
  have hB6 := below_alloc h5 (Obj.cells #[.int .i64 rc, .int .i64 rd] 27)
  obtain ⟨b4, hb4⟩ : ∃ b, b = W5.heap.size := ⟨_, rfl⟩
  rw [← hb4] at x10 ⊢
  generalize W5.alloc (Obj.cells #[.int .i64 rc, .int .i64 rd] 27) = W6 at *
  have HW6 : Hid (Two W6 b1 (.int .i64 n) (.slice ao es.length cap) 24 ∧ Two W6 b3 (.int .i64 n) (.slice oo es.length oc) 24 ∧ EdgesAt W6 (.slice oo es.length oc) es ∧ Below w.heap.size w W6 ∧ Two W6 b4 (.int .i64 rc) (.int .i64 rd) 27) := ⟨two_next HW4.out.1 hB6, two_next HW4.out.2.1 hB6, HW4.out.2.2.1.below hB6, below_next HW4.out.2.2.2 hB6, x10⟩
  obtain ⟨q4, q5⟩ := cell_two HW6.out.2.1
  clear hB6 h5 x10 hb4 q2 q3 C7
  go_upto_region 4 with (first | (go_at_call 8; refine Calls.mono (C8.out _ _ _ HW6.out.2.2.2.1 HW6.out.2.2.1) ?_; rintro e W7 ⟨h7, lw, ba, bc, ua, uc, m, rfl, hbad, hok⟩) | fail)
  have x12 := two_new W7 (.int .i64 rc) (.int .i64 rd) 27
  have hB8 := below_alloc (Below.refl _ W7) (Obj.cells #[.int .i64 rc, .int .i64 rd] 27)
  obtain ⟨b8, hb8⟩ : ∃ b, b = W7.heap.size := ⟨_, rfl⟩
  rw [← hb8] at x12 ⊢
  have HOK : Hid _ := hok
  generalize W7.alloc (Obj.cells #[.int .i64 rc, .int .i64 rd] 27) = W8 at *
  have HW8 : Hid (∀ A, Below W8.heap.size W8 A → Two A b1 (.int .i64 n) (.slice ao es.length cap) 24 ∧ Two A b3 (.int .i64 n) (.slice oo es.length oc) 24 ∧ EdgesAt A (.slice oo es.length oc) es ∧ Below w.heap.size w A ∧ Two A b4 (.int .i64 rc) (.int .i64 rd) 27 ∧ Two A b8 (.int .i64 rc) (.int .i64 rd) 27 ∧ Below W7.heap.size W7 A) := fun A hA => by
    have hb := below_next h7 (below_next hB8 hA)
    exact ⟨two_next HW6.out.1 hb, two_next HW6.out.2.1 hb, HW6.out.2.2.1.below hb, below_next HW6.out.2.2.2.1 hb, two_next HW6.out.2.2.2.2 hb, two_next x12 hA, below_next hB8 hA⟩
  have HBAD : Hid _ := hbad
  clear h7 x12 hb8 q4 q5 C8 hB8 hok hbad
  have C10 : Hid (∀ A, Below W8.heap.size W8 A → Calls Tryd.prog 10 #[.agg #[.int .i64 n, .slice oo es.length oc], .agg #[.int .i64 n, .slice ao es.length cap]] A fun e w' => e = .returned (.bool true) ∧ Below A.heap.size A w') := fun A hA => by
    obtain ⟨_, _, k3, k6, _⟩ := HW8.out A hA
    exact kept_true n _ _ es A k3 (HEU.out.below k6)
  go_upto_region 6 with (first | (go_at_call 9; refine Calls.mono (C9.out _ (HW8.out _ (Below.refl _ _)).2.2.2.1) ?_; rintro e V1 ⟨rfl, g1⟩; obtain ⟨z0, z1⟩ := cell_two (HW8.out _ g1).2.2.2.2.1; obtain ⟨z2, z3⟩ := cell_two (HW8.out _ g1).2.2.2.2.2.1; obtain ⟨z4, z5⟩ := cell_two (HW8.out _ g1).1; obtain ⟨z6, z7⟩ := cell_two (HW8.out _ g1).2.1) | (go_at_call 10; refine Calls.mono (C10.out _ g1) ?_; rintro e V2 ⟨rfl, g2⟩) | fail)
  have g5 := below_next g1 g2
  obtain ⟨k1, _, _, k6, k7, _, k8⟩ := HW8.out _ g5
  obtain ⟨y0, y1⟩ := cell_two k7
  obtain ⟨y2, y3⟩ := cell_two k1
  have HV : Hid (Below w.heap.size w V2 ∧ Below W7.heap.size W7 V2 ∧ Two V2 b1 (.int .i64 n) (.slice ao es.length cap) 24) := ⟨k6, k8, k1⟩
  clear k1 k6 k7 k8 g5 g1 g2 z0 z1 z2 z3 z4 z5 z6 z7 C10 C9 HW8
  by_cases h0 : rc = 0
  · have kc : (rc != 0) = false := by simpa using h0
    have HO : Hid _ := HOK.out h0
    clear h0 HOK HBAD
    have hfd : ∀ (w : World), (Instr.field 27 (.agg #[.int .i64 0, .int .i64 0]) 0).run Tryd.prog w = .ok (.int .i64 0) w := fun _ => by kernel_rfl
    go_upto_region 10 with (first | (go_at_call 11; refine Calls.mono (HO.out _ HV.out.2.1).1 ?_; rintro e V3 ⟨rfl, g3⟩; obtain ⟨z0, z1⟩ := cell_two (two_next HV.out.2.2 g3)) | (go_at_call 12; refine Calls.mono (HO.out _ (below_next HV.out.2.1 g3)).2.1 ?_; rintro e V4 ⟨rfl, g4⟩) | (go_at_call 13; refine Calls.mono (HO.out _ (below_next (below_next HV.out.2.1 g3) g4)).2.2.1 ?_; rintro e V5 ⟨rfl, rfl⟩) | fail)
    have g5 := below_next g3 g4
    obtain ⟨x0, x1⟩ := cell_two (two_next HV.out.2.2 g5)
    have HV5 : Hid (Below w.heap.size w V5 ∧ Below W7.heap.size W7 V5) := ⟨below_next HV.out.1 g5, below_next HV.out.2.1 g5⟩
    clear g3 g4 g5 z0 z1
    by_cases h6 : n ≤ 6
    · have k6 : decide ((6 : Int) < n) = false := by simp; omega
      have HO' : Hid _ := (HO.out _ HV5.out.2).2.2.2 h6
      go_wp2_with (first | (go_at_call 15; refine Calls.mono HO'.out ?_; rintro e V6 ⟨g6, go, gk, gc, rfl, hc⟩; have HC : Hid _ := hc; clear hc) | (go_at_call 14; refine Calls.mono HC.out ?_; rintro e V7 ⟨rfl, g7⟩) | go_in)
      go_ret
      exact ⟨by simp, below_next HV5.out.1 (below_next g6 g7)⟩
    · have k6 : decide ((6 : Int) < n) = true := by simp; omega
      go_wp2
      go_ret
      exact ⟨rfl, HV5.out.1⟩
  · have kc : (rc != 0) = true := by simpa using h0
    obtain ⟨hl0, hm0⟩ := HBAD.out h0
    subst hl0 hm0
    clear h0 HOK HBAD
    go_wp2
    go_ret
    exact ⟨rfl, HV.out.1⟩
end Go.Proofs.YtdalconphfgepaaDoor
