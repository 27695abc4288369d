/- PolyCounts' walk. -/
import Derived.Test.YtmeodnkmhakidaaDoorCkS
import Derived.Test.YtmeodnkmhakidaaDoorRfL
import Derived.Test.YtmeodnkmhakidaaDoorRfM
import Derived.Test.YtmeodnkmhakidaaDoorRfHR
import Derived.Test.YtmeodnkmhakidaaDoorBegun
import Derived.Deep.CutBlock
namespace Go.Proofs.YtmeodnkmhakidaaDoor
set_option maxRecDepth 8000
open Go.RowKit Go.Maps
attribute [local go_sem ↓] Go.wp_at_zero Go.wp_at_succ
def zL (T : List Nat) : List Int := T.map fun (x : Nat) => (x : Int)
theorem ints_own {w : World} {base vc : Nat} {vo : Option Addr} {T : List Nat} (h : w.ownsRow base 3 1 (.slice vo T.length vc) T.length (qv T)) (hT : ∀ x ∈ T, x < 1000000000) (hl : T.length ≤ 1000) : IntsAt w (.slice vo T.length vc) (zL T) := by
  have e1 : (zL T).length = T.length := by simp [zL]
  have e2 : (zL T).map (Value.int .i64) = qv T := by simp [zL, qv]
  refine intsAt_row (base := base) (by rw [e1, e2]; exact h) (fun x hx => ?_) (by rw [e1]; omega)
  obtain ⟨y, hy, rfl⟩ := List.mem_map.1 hx
  have := hT y hy
  exact ⟨by omega, by omega⟩
theorem tally_ok {ks : List Nat} {m : Nat} (h1 : ks.length < 1000000000) (h2 : ∀ k ∈ ks, k ≤ m) (hm : m ≤ 100) : (∀ x ∈ ks.foldl bump [], x < 1000000000) ∧ (ks.foldl bump []).length ≤ 1000 := by
  refine ⟨getD_memL fun i => ?_, fold_len (by simp) fun k hk => by have := h2 k hk; omega⟩
  have h := fold_get ks [] i
  have h3 : ([] : List Nat).getD i 0 = 0 := by simp
  rw [h3] at h
  omega
theorem hasB_adj (es : List E2) (a b : Nat) : hasB (pzT es) (a : Int) (b : Int) = adjE es a b := by
  unfold hasB pzT adjE
  rw [List.any_map]
  congr 1
  funext e
  have q : ∀ x y : Nat, (((x : Int)) == (y : Int)) = (x == y) := fun x y => by
    rw [Bool.eq_iff_iff, beq_iff_eq, beq_iff_eq]; omega
  simp only [Function.comp, q]
/-- What Matchings or Loose answers, its first part. -/
def TalB (K : List E2 → Nat → List Nat → Prop) (w' : World) (n : Int) (es : List Pair) (P : Int × Int) (t : Value) : Prop :=
  (P.1 ≠ 0 ∧ t = .slice none 0 0) ∨ (P = (0, 0) ∧ ∀ (N : Nat) (es2 : List E2), n = N → es = pzT es2 → ∃ ks, K es2 N ks ∧ IntsAt w' t (zL (ks.foldl bump [])))
theorem talB_of {K : List E2 → Nat → List Nat → Prop} {B : Nat} {w' : World} {n : Int} {es : List Pair} {e : Ending} (h : TalA K B w' n es e) (hK : ∀ es N ks, N ≤ 12 → K es N ks → ks.length < 1000000000 ∧ ∀ k ∈ ks, k ≤ 100) : ∃ t, e = .returned (.tuple #[t, .agg #[.int .i64 (chkI n es n).1, .int .i64 (chkI n es n).2]]) ∧ TalB K w' n es (chkI n es n) t := by
  rcases h with ⟨h0, rfl⟩ | ⟨h0, N, es2, ks, vo, vc, rfl, rfl, h3, h4, h5, h6, rfl, h7⟩
  · exact ⟨_, rfl, Or.inl ⟨h0, rfl⟩⟩
  · refine ⟨_, by rw [h0], Or.inr ⟨h0, fun N' es2' e1 e2 => ?_⟩⟩
    obtain rfl : N = N' := by omega
    obtain rfl := pzT_inj e2
    obtain ⟨a1, a2⟩ := hK _ _ _ h5 h6
    obtain ⟨b1, b2⟩ := tally_ok a1 a2 (Nat.le_refl _)
    exact ⟨ks, h6, ints_own h7 b1 b2⟩
def RngB (n : Int) (es : List Pair) (P : Int × Int) (r : Nat) : Prop :=
  (P.1 ≠ 0 ∧ r = 0) ∨ (P = (0, 0) ∧ ∀ (N : Nat) (es2 : List E2), n = N → es = pzT es2 → r = ringN N es2)
theorem rngB_of {n : Int} {es : List Pair} {e : Ending} (h : RngA n es e) : ∃ r : Nat, e = .returned (.tuple #[.int .i64 (r : Int), .agg #[.int .i64 (chkI n es n).1, .int .i64 (chkI n es n).2]]) ∧ RngB n es (chkI n es n) r := by
  rcases h with ⟨h0, rfl⟩ | ⟨h0, N, es2, rfl, rfl, h3, h4, h5, rfl⟩
  · exact ⟨0, rfl, Or.inl ⟨h0, rfl⟩⟩
  · refine ⟨_, by rw [h0], Or.inr ⟨h0, fun N' es2' e1 e2 => ?_⟩⟩
    obtain rfl : N = N' := by omega
    rw [pzT_inj e2]
set_option maxHeartbeats 16000000 in
theorem counts_law {w : World} {n : Int} {ao : Option Addr} {cap : Nat} {es : List Pair} (hE : EdgesAt w (.slice ao es.length cap) es) (hcap : es.length ≤ cap) (hT : T32 w) :
    Calls Tryd.prog 3 #[.agg #[.int .i64 n, .slice ao es.length cap]] w fun e w' => e = .returned (.bool true) ∧ Below w.heap.size w w' := by
  obtain ⟨el, hel⟩ : ∃ el, el = es.length := ⟨_, rfl⟩
  have hel13 : es.length ≤ 8796093022208 := by obtain ⟨_, _, _, h, _⟩ := hE; exact h
  have C4 : Hid (∀ A, Below w.heap.size w A → Calls Tryd.prog 4 #[.agg #[.int .i64 n, .slice ao el cap]] A fun e w' => Below A.heap.size A w' ∧ ∃ ao c, e = .returned (.agg #[.int .i64 n, .slice ao el c]) ∧ EdgesAt w' (.slice ao el c) es ∧ el ≤ c) := fun A hA => by rw [hel]; exact own_any n ao cap es A (hE.below hA)
  obtain ⟨P, hP⟩ : ∃ P, P = chkI n es n := ⟨_, rfl⟩
  have C5 : Hid (∀ A, Below w.heap.size w A → Calls Tryd.prog 5 #[.agg #[.int .i64 n, .slice ao el cap], .int .i64 12] A fun e w' => e = .returned (.agg #[.int .i64 P.1, .int .i64 P.2]) ∧ Below A.heap.size A w') := fun A hA => by rw [hel, hP, ← smallR_chkI]; exact small_call (hE.below hA) hcap
  have C6 : Hid (∀ A v c, Below w.heap.size w A → EdgesAt A (.slice v el c) es → Calls Tryd.prog 6 #[.agg #[.int .i64 n, .slice v el c]] A fun e w' => (∃ t, e = .returned (.tuple #[t, .agg #[.int .i64 P.1, .int .i64 P.2]]) ∧ TalB (fun es N ks => MtK es (2 ^ N - 1) 0 N ks) w' n es P t) ∧ Below A.heap.size A w') := fun A v c hA hEA => by
    rw [hel] at hEA ⊢
    rw [hP]
    refine (matchings_call (n := n) hEA (hT.below hA)).mono fun e w' ⟨h1, h2⟩ => ⟨talB_of h1 fun es N ks hN hK => ⟨?_, fun k hk => ?_⟩, h2⟩
    · exact Nat.lt_of_le_of_lt (Nat.le_trans hK.2.1 (fac_le hN)) (by decide)
    · have := hK.2.2 k hk; omega
  have C7 : Hid (∀ A v c, Below w.heap.size w A → EdgesAt A (.slice v el c) es → Calls Tryd.prog 7 #[.agg #[.int .i64 n, .slice v el c]] A fun e w' => (∃ t, e = .returned (.tuple #[t, .agg #[.int .i64 P.1, .int .i64 P.2]]) ∧ TalB (fun es N ks => LsK es N (2 ^ N - 1) 0 N ks) w' n es P t) ∧ Below A.heap.size A w') := fun A v c hA hEA => by
    rw [hel] at hEA ⊢
    rw [hP]
    refine (looses_call (n := n) hEA (hT.below hA)).mono fun e w' ⟨h1, h2⟩ => ⟨talB_of h1 fun es N ks hN hK => ⟨?_, fun k hk => ?_⟩, h2⟩
    · exact Nat.lt_of_le_of_lt (Nat.le_trans hK.2.1 (Nat.pow_le_pow_right (by decide) hN)) (by decide)
    · have := hK.2.2 k hk; omega
  have C8 : Hid (∀ A v c, Below w.heap.size w A → EdgesAt A (.slice v el c) es → Calls Tryd.prog 8 #[.agg #[.int .i64 n, .slice v el c]] A fun e w' => (∃ r : Nat, e = .returned (.tuple #[.int .i64 (r : Int), .agg #[.int .i64 P.1, .int .i64 P.2]]) ∧ RngB n es P r) ∧ Below A.heap.size A w') := fun A v c hA hEA => by
    rw [hel] at hEA ⊢
    rw [hP]
    exact (ringsA_call (n := n) hEA (hT.below hA)).mono fun e w' ⟨h1, h2⟩ => ⟨rngB_of h1, h2⟩
  have C9 : Hid (∀ A, Calls Tryd.prog 9 #[] A fun e w' => e = .returned (.bool true) ∧ Below A.heap.size A w') := fun A => begun_call
  have HE : Hid (EdgesAt w (.slice ao el cap) es ∧ el ≤ cap) := by rw [hel]; exact ⟨hE, hcap⟩
  have HP : Hid (P = chkI n es n ∧ el = es.length) := ⟨hP, hel⟩
  rw [← hel]
  rw [← hel] at hel13
  clear hE hcap hT hP hel
  obtain ⟨p1, p2⟩ := P
  simp only at C5 C6 C7 C8 HP
  have hneq := neq27 p1 p2
  go_enter Tryd.func3, Tryd.ntmps3
  go_upto_region 1 with (fail)
  have t1 := two_new w (.int .i64 n) (.slice ao el cap) 24
  have hB0 := below_alloc (Below.refl _ w) (Obj.cells #[.int .i64 n, .slice ao el cap] 24)
  generalize w.heap.size = b1 at t1 ⊢
  generalize w.alloc (Obj.cells #[.int .i64 n, .slice ao el cap] 24) = W0 at *
  have HW0 : Hid (Two W0 b1 (.int .i64 n) (.slice ao el cap) 24 ∧ Below w.heap.size w W0) := ⟨t1, hB0⟩
  obtain ⟨c0, c1⟩ := cell_two t1
  clear t1 hB0
  go_upto_region 2 with (first | (go_at_call 4; refine Calls.mono (C4.out _ HW0.out.2) ?_; rintro e W1 ⟨h1, oo, oc, rfl, hEo, _⟩) | fail)
  have t3 := two_new W1 (.int .i64 n) (.slice oo el oc) 24
  have hB2 := below_alloc (Below.refl _ W1) (Obj.cells #[.int .i64 n, .slice oo el oc] 24)
  generalize W1.heap.size = b3 at t3 ⊢
  generalize W1.alloc (Obj.cells #[.int .i64 n, .slice oo el oc] 24) = W2 at *
  have HW2 : Hid (Two W2 b1 (.int .i64 n) (.slice ao el cap) 24 ∧ Two W2 b3 (.int .i64 n) (.slice oo el oc) 24 ∧ EdgesAt W2 (.slice oo el oc) es ∧ Below w.heap.size w W2) := ⟨two_next HW0.out.1 (below_next h1 hB2), t3, hEo.below hB2, below_next HW0.out.2 (below_next h1 hB2)⟩
  obtain ⟨d0, d1⟩ := cell_two HW2.out.1
  clear h1 hB2 t3 hEo c0 c1 C4 HW0
  go_upto_region 3 with (first | (go_at_call 5; refine Calls.mono (C5.out _ HW2.out.2.2.2) ?_; rintro e W3 ⟨rfl, h3⟩) | fail)
  have x4 := two_new W3 (.int .i64 p1) (.int .i64 p2) 27
  have hB4 := below_alloc (Below.refl _ W3) (Obj.cells #[.int .i64 p1, .int .i64 p2] 27)
  generalize W3.heap.size = b4 at x4 ⊢
  generalize W3.alloc (Obj.cells #[.int .i64 p1, .int .i64 p2] 27) = W4 at *
  have HK4 : Hid (∀ A, Below W4.heap.size W4 A → Two A b1 (.int .i64 n) (.slice ao el cap) 24 ∧ Two A b3 (.int .i64 n) (.slice oo el oc) 24 ∧ EdgesAt A (.slice oo el oc) es ∧ Below w.heap.size w A ∧ Two A b4 (.int .i64 p1) (.int .i64 p2) 27) := fun A hA => by
    have hb := below_next h3 (below_next hB4 hA)
    exact ⟨two_next HW2.out.1 hb, two_next HW2.out.2.1 hb, HW2.out.2.2.1.below hb, below_next HW2.out.2.2.2 hb, two_next x4 hA⟩
  clear h3 hB4 x4 d0 d1 C5 HW2
  obtain ⟨r0, r1⟩ := cell_two (HK4.out _ (Below.refl _ _)).2.1
  go_upto_region 4 with (first | (go_at_call 6; refine Calls.mono (C6.out _ _ _ (HK4.out _ (Below.refl _ _)).2.2.2.1 (HK4.out _ (Below.refl _ _)).2.2.1) ?_; rintro e W5 ⟨⟨ta, rfl, hA5⟩, h5⟩) | fail)
  have x6 := two_new W5 (.int .i64 p1) (.int .i64 p2) 27
  have hB6 := below_alloc (Below.refl _ W5) (Obj.cells #[.int .i64 p1, .int .i64 p2] 27)
  generalize W5.heap.size = b6 at x6 ⊢
  generalize W5.alloc (Obj.cells #[.int .i64 p1, .int .i64 p2] 27) = W6 at *
  have HK6 : Hid (∀ A, Below W6.heap.size W6 A → Below W4.heap.size W4 A ∧ Two A b6 (.int .i64 p1) (.int .i64 p2) 27 ∧ Below W5.heap.size W5 A) := fun A hA => ⟨below_next h5 (below_next hB6 hA), two_next x6 hA, below_next hB6 hA⟩
  have HA : Hid (TalB (fun es N ks => MtK es (2 ^ N - 1) 0 N ks) W5 n es (p1, p2) ta) := hA5
  clear h5 hB6 x6 r0 r1 hA5 C6
  obtain ⟨r0, r1⟩ := cell_two (HK4.out _ (HK6.out _ (Below.refl _ _)).1).2.1
  go_upto_region 5 with (first | (go_at_call 7; refine Calls.mono (C7.out _ _ _ (HK4.out _ (HK6.out _ (Below.refl _ _)).1).2.2.2.1 (HK4.out _ (HK6.out _ (Below.refl _ _)).1).2.2.1) ?_; rintro e W7 ⟨⟨tb, rfl, hA7⟩, h7⟩) | fail)
  have x8 := two_new W7 (.int .i64 p1) (.int .i64 p2) 27
  have hB8 := below_alloc (Below.refl _ W7) (Obj.cells #[.int .i64 p1, .int .i64 p2] 27)
  generalize W7.heap.size = b8 at x8 ⊢
  generalize W7.alloc (Obj.cells #[.int .i64 p1, .int .i64 p2] 27) = W8 at *
  have HK8 : Hid (∀ A, Below W8.heap.size W8 A → Below W6.heap.size W6 A ∧ Two A b8 (.int .i64 p1) (.int .i64 p2) 27 ∧ Below W7.heap.size W7 A) := fun A hA => ⟨below_next h7 (below_next hB8 hA), two_next x8 hA, below_next hB8 hA⟩
  have HB : Hid (TalB (fun es N ks => LsK es N (2 ^ N - 1) 0 N ks) W7 n es (p1, p2) tb) := hA7
  clear h7 hB8 x8 r0 r1 hA7 C7
  obtain ⟨r0, r1⟩ := cell_two (HK4.out _ (HK6.out _ (HK8.out _ (Below.refl _ _)).1).1).2.1
  go_upto_region 6 with (first | (go_at_call 8; refine Calls.mono (C8.out _ _ _ (HK4.out _ (HK6.out _ (HK8.out _ (Below.refl _ _)).1).1).2.2.2.1 (HK4.out _ (HK6.out _ (HK8.out _ (Below.refl _ _)).1).1).2.2.1) ?_; rintro e W9 ⟨⟨rn, rfl, hA9⟩, h9⟩) | fail)
  have x10 := two_new W9 (.int .i64 p1) (.int .i64 p2) 27
  have hB10 := below_alloc (Below.refl _ W9) (Obj.cells #[.int .i64 p1, .int .i64 p2] 27)
  generalize W9.heap.size = b10 at x10 ⊢
  generalize W9.alloc (Obj.cells #[.int .i64 p1, .int .i64 p2] 27) = W10 at *
  have HK : Hid (∀ A, Below W10.heap.size W10 A → Two A b1 (.int .i64 n) (.slice ao el cap) 24 ∧ Two A b3 (.int .i64 n) (.slice oo el oc) 24 ∧ EdgesAt A (.slice oo el oc) es ∧ Below w.heap.size w A ∧ Two A b4 (.int .i64 p1) (.int .i64 p2) 27 ∧ Two A b6 (.int .i64 p1) (.int .i64 p2) 27 ∧ Two A b8 (.int .i64 p1) (.int .i64 p2) 27 ∧ Two A b10 (.int .i64 p1) (.int .i64 p2) 27 ∧ Below W5.heap.size W5 A ∧ Below W7.heap.size W7 A) := fun A hA => by
    obtain ⟨a1, a2, a3⟩ := HK8.out A (below_next h9 (below_next hB10 hA))
    obtain ⟨b1, b2, b3⟩ := HK6.out A a1
    obtain ⟨c1, c2, c3, c4, c5⟩ := HK4.out A b1
    exact ⟨c1, c2, c3, c4, c5, b2, a2, two_next x10 hA, b3, a3⟩
  have HR : Hid (RngB n es (p1, p2) rn) := hA9
  clear h9 hB10 x10 r0 r1 hA9 C8 HK4 HK6 HK8
  have C10 : Hid (∀ A, Below W10.heap.size W10 A → Calls Tryd.prog 10 #[.agg #[.int .i64 n, .slice oo el oc], .agg #[.int .i64 n, .slice ao el cap]] A fun e w' => e = .returned (.bool true) ∧ Below A.heap.size A w') := fun A hA => by
    obtain ⟨_, _, k3, k4, _⟩ := HK.out A hA
    exact kept_true n _ _ es A k3 (HE.out.1.below k4)
  go_upto_region 8 with (first | (go_at_call 9; refine Calls.mono (C9.out _) ?_; rintro e V1 ⟨rfl, g1⟩; obtain ⟨y0, y1⟩ := cell_two (HK.out _ g1).1; obtain ⟨y2, y3⟩ := cell_two (HK.out _ g1).2.1; obtain ⟨y4, y5⟩ := cell_two (HK.out _ g1).2.2.2.2.1; obtain ⟨y6, y7⟩ := cell_two (HK.out _ g1).2.2.2.2.2.1; obtain ⟨y8, y9⟩ := cell_two (HK.out _ g1).2.2.2.2.2.2.1; obtain ⟨ya, yb⟩ := cell_two (HK.out _ g1).2.2.2.2.2.2.2.1) | (go_at_call 10; refine Calls.mono (C10.out _ g1) ?_; rintro e V2 ⟨rfl, g2⟩) | fail)
  have HG : Hid (Below W10.heap.size W10 V2) := below_next g1 g2
  clear g1 g2 y0 y1 y2 y3 y4 y5 y6 y7 y8 y9 ya yb C9 C10 hneq
  obtain ⟨y0, y1⟩ := cell_two (HK.out _ HG.out).1
  obtain ⟨y4, y5⟩ := cell_two (HK.out _ HG.out).2.2.2.2.1
  have HBw : Hid (Below w.heap.size w V2) := (HK.out _ HG.out).2.2.2.1
  by_cases h0 : p1 = 0
  · have kc : (p1 != 0) = false := by simpa using h0
    have hck : (chkI n es n).1 = 0 := by rw [← HP.out.1]; exact h0
    obtain ⟨g1, g2, g3⟩ := chkI_good hck
    obtain ⟨hck2, hn0, hn1, hlen0, hgood⟩ := chk_good g2
    obtain ⟨N, rfl⟩ := Int.eq_ofNat_of_zero_le hn0
    obtain ⟨es2, rfl, hes⟩ := pzT_nat (N := N) hgood
    have hN : N ≤ 12 := by omega
    have hel2 : el = es2.length := by rw [HP.out.2]; simp [pzT]
    obtain ⟨ks, hks, hIa⟩ : ∃ ks, MtK es2 (2 ^ N - 1) 0 N ks ∧ IntsAt V2 ta (zL (ks.foldl bump [])) := by
      rcases HA.out with ⟨h, _⟩ | ⟨_, h⟩
      · exact absurd h0 h
      · obtain ⟨ks, h1, h2⟩ := h N es2 rfl rfl
        exact ⟨ks, h1, h2.below (HK.out _ HG.out).2.2.2.2.2.2.2.2.1⟩
    obtain ⟨ls, hls, hIb⟩ : ∃ ks, LsK es2 N (2 ^ N - 1) 0 N ks ∧ IntsAt V2 tb (zL (ks.foldl bump [])) := by
      rcases HB.out with ⟨h, _⟩ | ⟨_, h⟩
      · exact absurd h0 h
      · obtain ⟨ks, h1, h2⟩ := h N es2 rfl rfl
        exact ⟨ks, h1, h2.below (HK.out _ HG.out).2.2.2.2.2.2.2.2.2⟩
    have hrn : rn = ringN N es2 := by
      rcases HR.out with ⟨h, _⟩ | ⟨_, h⟩
      · exact absurd h0 h
      · exact h N es2 rfl rfl
    obtain ⟨p, hp⟩ : ∃ p : Nat → Nat → Bool, p = fun (i j : Nat) => hasB (pzT es2) i j := ⟨_, rfl⟩
    have hpa : ∀ x y, x < N → y < N → p x y = adjE es2 x y := fun x y _ _ => by rw [hp]; exact hasB_adj es2 x y
    obtain ⟨T2, hT2⟩ : ∃ T, T = (lzL N p (2 ^ N)).foldl bump [] := ⟨_, rfl⟩
    obtain ⟨T1, hT1⟩ : ∃ T, T = (mtR es2 (fun _ => false) 0).foldl bump [] := ⟨_, rfl⟩
    have hTb : ls.foldl bump [] = T2 := by rw [hT2]; exact lsK_lzL hls hpa
    have hTa : ks.foldl bump [] = T1 := by rw [hT1]; exact mtK_mtR hks hes
    rw [hTa] at hIa
    rw [hTb] at hIb
    have hb2 : (∀ x ∈ T2, x < 1000000000) ∧ T2.length ≤ 1000 := by
      rw [hT2]
      refine tally_ok (m := N) ?_ (lzL_mem _) (by omega)
      have h1 := lzL_len (N := N) (adj := p) (2 ^ N)
      have h2 : 2 ^ N ≤ 2 ^ 12 := Nat.pow_le_pow_right (by decide) hN
      omega
    have C11 : Hid (Calls Tryd.prog 11 #[.agg #[.int .i64 (N : Int), .slice ao el cap]] V2 fun e w' => Below V2.heap.size V2 w' ∧ ∃ go gc, e = .returned (.slice go N gc) ∧ GridAt w' (.slice go N gc) N (hasB (pzT es2))) := gridOf_any N _ (pzT es2) V2 (HE.out.1.below HBw.out) (by omega) hlen0 hgood
    have C13 : Hid (∀ A go gc, GridAt A (.slice go N gc) N (hasB (pzT es2)) → Calls Tryd.prog 13 #[.slice go N gc] A fun e w' => (∃ v, e = .returned v ∧ IntsAt w' v (zL T2)) ∧ Below A.heap.size A w') := fun A go gc hG =>
      (refLoose_call hG hN (T := T2) (by rw [hT2, hp])).mono fun e w' ⟨⟨vo, vc, h1, h2⟩, h3⟩ => ⟨⟨_, h1, ints_own h2 hb2.1 hb2.2⟩, h3⟩
    have C14 : Hid (el ≤ 14 → ∀ A, Below w.heap.size w A → Calls Tryd.prog 14 #[.agg #[.int .i64 (N : Int), .slice ao el cap]] A fun e w' => (∃ v, e = .returned v ∧ IntsAt w' v (zL T1)) ∧ Below A.heap.size A w') := fun hm A hA => by
      have hE1 := HE.out.1.below hA
      have hcap1 := HE.out.2
      rw [hel2] at hE1 hcap1 hm ⊢
      have hb1 : (∀ x ∈ T1, x < 1000000000) ∧ T1.length ≤ 1000 := by
        rw [hT1]
        refine tally_ok (m := 0 + es2.length) ?_ (mtR_mem _ _ _) (by omega)
        have h1 := mtR_len es2 (fun _ => false) 0
        have h2 : 2 ^ es2.length ≤ 2 ^ 14 := Nat.pow_le_pow_right (by decide) hm
        omega
      refine (refMat_call hE1 hcap1 hes hN hm).mono ?_
      rw [← hT1]
      exact fun e w' ⟨⟨vo, vc, h1, h2⟩, h3⟩ => ⟨⟨_, h1, ints_own h2 hb1.1 hb1.2⟩, h3⟩
    have C15 : Hid (∀ A go gc, GridAt A (.slice go N gc) N (hasB (pzT es2)) → Calls Tryd.prog 15 #[.slice go N gc] A fun e w' => e = .returned (.int .i64 (rn : Int)) ∧ Below A.heap.size A w') := fun A go gc hG => by
      have h := ringsRef_call hN hG
      rw [← hp, ← ringN_ringR hpa, ← hrn] at h
      exact h
    have HI : Hid (IntsAt V2 ta (zL T1) ∧ IntsAt V2 tb (zL T2) ∧ Two V2 b1 (.int .i64 (N : Int)) (.slice ao el cap) 24) := ⟨hIa, hIb, (HK.out _ HG.out).1⟩
    clear hks hls hIa hIb hrn hp hpa hT1 hT2 hTa hTb hb2 hes hgood hlen0 hn0 hn1 hck hck2 g1 g2 g3 h0 HA HB HR HP HK HE hel2
    go_upto_region 11 with (first | (go_at_call 11; refine Calls.mono C11.out ?_; rintro e V3 ⟨h3, go, gc, rfl, hG3⟩) | fail)
    have HV3 : Hid (Below V2.heap.size V2 V3 ∧ GridAt V3 (.slice go N gc) N (hasB (pzT es2))) := ⟨h3, hG3⟩
    clear h3 hG3 C11 y0 y1 y4 y5
    go_upto_region 13 with (first | (go_at_call 13; refine Calls.mono (C13.out _ _ _ HV3.out.2) ?_; rintro e V4 ⟨⟨v4, rfl, h4⟩, h5⟩) | (go_at_call 12; refine Calls.mono (ints_trueN _ _ _ _ (HI.out.2.1.below (below_next HV3.out.1 h5)) h4) ?_; rintro e V5 ⟨rfl, mm, rfl⟩) | fail)
    have HV5 : Hid (Below V2.heap.size V2 (V4.drewN mm) ∧ GridAt (V4.drewN mm) (.slice go N gc) N (hasB (pzT es2))) := ⟨below_next HV3.out.1 (below_next h5 (drewN_below V4 mm)), HV3.out.2.below (below_next h5 (drewN_below V4 mm))⟩
    clear h4 h5 HV3 C13
    generalize V4.drewN mm = V5 at *
    obtain ⟨y0, y1⟩ := cell_two (two_next HI.out.2.2 HV5.out.1)
    by_cases hm : el ≤ 14
    · have km : decide ((el : Int) ≤ 14) = true := by simp; omega
      have C14' : Hid _ := C14.out hm V5 (below_next HBw.out HV5.out.1)
      clear C14 hm
      go_upto_region 15 with (first | (go_at_call 14; refine Calls.mono C14'.out ?_; rintro e V6 ⟨⟨v6, rfl, h6⟩, h7⟩) | (go_at_call 12; refine Calls.mono (ints_trueN _ _ _ _ (HI.out.1.below (below_next HV5.out.1 h7)) h6) ?_; rintro e V7 ⟨rfl, m2, rfl⟩) | fail)
      have HV7 : Hid (Below V2.heap.size V2 (V6.drewN m2) ∧ GridAt (V6.drewN m2) (.slice go N gc) N (hasB (pzT es2))) := ⟨below_next HV5.out.1 (below_next h7 (drewN_below V6 m2)), HV5.out.2.below (below_next h7 (drewN_below V6 m2))⟩
      clear h6 h7 HV5 C14' y0 y1
      generalize V6.drewN m2 = V7 at *
      obtain ⟨y0, y1⟩ := cell_two (two_next HI.out.2.2 HV7.out.1)
      by_cases h8 : 8 < N
      · have k8 : decide ((8 : Int) < (N : Int)) = true := by simp; omega
        go_wp2
        go_ret
        exact ⟨rfl, below_next HBw.out HV7.out.1⟩
      · have k8 : decide ((8 : Int) < (N : Int)) = false := by simp; omega
        go_wp2_with (first | (go_at_call 15; refine Calls.mono (C15.out _ _ _ HV7.out.2) ?_; rintro e V8 ⟨rfl, h9⟩) | fail)
        go_ret
        exact ⟨rfl, below_next HBw.out (below_next HV7.out.1 h9)⟩
    · have km : decide ((el : Int) ≤ 14) = false := by simp; omega
      clear C14 hm
      by_cases h8 : 8 < N
      · have k8 : decide ((8 : Int) < (N : Int)) = true := by simp; omega
        go_wp2
        go_ret
        exact ⟨rfl, below_next HBw.out HV5.out.1⟩
      · have k8 : decide ((8 : Int) < (N : Int)) = false := by simp; omega
        go_wp2_with (first | (go_at_call 15; refine Calls.mono (C15.out _ _ _ HV5.out.2) ?_; rintro e V8 ⟨rfl, h9⟩) | fail)
        go_ret
        exact ⟨rfl, below_next HBw.out (below_next HV5.out.1 h9)⟩
  · have kc : (p1 != 0) = true := by simpa using h0
    have hta : ta = .slice none 0 0 := by
      rcases HA.out with ⟨_, h⟩ | ⟨h, _⟩
      · exact h
      · simp only [Prod.mk.injEq] at h; exact absurd h.1 h0
    have htb : tb = .slice none 0 0 := by
      rcases HB.out with ⟨_, h⟩ | ⟨h, _⟩
      · exact h
      · simp only [Prod.mk.injEq] at h; exact absurd h.1 h0
    have hrn : rn = 0 := by
      rcases HR.out with ⟨_, h⟩ | ⟨h, _⟩
      · exact h
      · simp only [Prod.mk.injEq] at h; exact absurd h.1 h0
    subst hta htb hrn
    clear h0 HA HB HR
    go_wp2
    go_ret
    exact ⟨rfl, HBw.out⟩
end Go.Proofs.YtmeodnkmhakidaaDoor
