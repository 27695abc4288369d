/- ColourPoly's walk. -/
import Derived.Test.YtdnmoifbkojnlaaSmallF
import Derived.Test.YtdnmoifbkojnlaaCols
import Derived.Test.YtdnmoifbkojnlaaPolyB
import Derived.Test.YtdnmoifbkojnlaaStanB
import Derived.Test.YtdnmoifbkojnlaaAcyc
namespace Go.Proofs.Ytdnmoifbkojnlaa
open Go.RowKit Go.Maps
attribute [local go_sem ↓] Go.wp_at_zero Go.wp_at_succ

theorem poly_top (N : Nat) (es : List Pair) : polyE N es N = 1 := by
  obtain ⟨b, hb⟩ : ∃ b, polyE N es N = Wr b := ⟨_, if_pos rfl⟩
  have h := poly_cg N es N
  rw [polT_top, hb] at h
  have h1 : Wr b = Wr (Wr b) := ((wr_cg b).wr).symm
  rw [hb, h1, h.wr]
  decide
theorem hz_wr (p : Nat → Int) (x : Int) (m d : Nat) : hz p x m (d + 1) = Wr (hz p x m (d + 1)) := ((wr_cg _).wr).symm
theorem poly_val (N : Nat) (es : List Pair) (x : Int) : hz (polyE N es) x (N + 1) (N + 1) = Wr (pe (polT N (adjE es)) x (N + 1)) := by
  rw [hz_wr]
  exact (hz_pe (poly_cg N es)).wr
theorem poly_nat (N : Nat) (es : List Pair) (x : Nat) : hz (polyE N es) (x : Int) (N + 1) (N + 1) = Wr (Cc x (fun v z => hasB es (v : Int) (z : Int)) N []) := by
  rw [poly_val, polT_count]
  rfl
theorem adj_toN {N : Nat} {es : List Pair} (hg : ∀ e ∈ es, (0 ≤ e.1 ∧ e.1 < (N : Int) ∧ 0 ≤ e.2 ∧ e.2 < (N : Int)) ∧ e.1 ≠ e.2) : adjE es = adjN (toN es) := by
  funext v z
  rw [Bool.eq_iff_iff, adjN_iff]
  unfold adjE hasB
  rw [List.any_eq_true]
  constructor
  · rintro ⟨⟨p, q⟩, he, h⟩
    simp at h
    rcases h with ⟨rfl, rfl⟩ | ⟨rfl, rfl⟩
    · exact Or.inl (List.mem_map.2 ⟨_, he, by simp⟩)
    · exact Or.inr (List.mem_map.2 ⟨_, he, by simp⟩)
  · rintro (h | h)
    · obtain ⟨⟨p, q⟩, he, e⟩ := List.mem_map.1 h
      have := hg _ he
      simp only [Prod.mk.injEq] at e this
      exact ⟨(p, q), he, by simp; omega⟩
    · obtain ⟨⟨p, q⟩, he, e⟩ := List.mem_map.1 h
      have := hg _ he
      simp only [Prod.mk.injEq] at e this
      exact ⟨(p, q), he, by simp; omega⟩
theorem neg_even (k : Nat) : (-1 : Int) ^ (2 * k) = 1 := by
  rw [Int.pow_mul]
  exact Int.one_pow
def PolyEnd (N : Nat) (n a : Int) : Prop := (N % 2 = 1 → IntKind.i64.wrap (-n) = a) ∧ (N % 2 = 0 → n = a)
theorem poly_end {N : Nat} {es : List Pair} (hg : ∀ e ∈ es, (0 ≤ e.1 ∧ e.1 < (N : Int) ∧ 0 ≤ e.2 ∧ e.2 < (N : Int)) ∧ e.1 ≠ e.2) (hl : es.length ≤ 10) : PolyEnd N (hz (polyE N es) (-1) (N + 1) (N + 1)) (acy (toN es)) := by
  have hin : ∀ e ∈ toN es, e.1 < N ∧ e.2 < N := fun e he => by
    obtain ⟨⟨p, q⟩, he', rfl⟩ := List.mem_map.1 he
    have := (hg _ he').1
    simp only at this ⊢
    omega
  have hlo : ∀ e ∈ toN es, e.1 ≠ e.2 := fun e he => by
    obtain ⟨⟨p, q⟩, he', rfl⟩ := List.mem_map.1 he
    have := hg _ he'
    simp only at this ⊢
    omega
  have hp : polE N (toN es) = polT N (adjE es) := by
    rw [adj_toN hg]
    exact funext fun j => if_pos hlo
  have hb : 0 ≤ acy (toN es) ∧ acy (toN es) ≤ 1024 := by
    have h := acT_le (toN es) (2 ^ (toN es).length)
    have e : acT (toN es) (2 ^ (toN es).length) = acy (toN es) := rfl
    rw [e] at h
    have h2 : 2 ^ (toN es).length ≤ 1024 := by
      unfold toN
      rw [List.length_map]
      exact Nat.le_trans (Nat.pow_le_pow_right (by omega) hl) (by decide)
    omega
  rw [poly_val, ← hp, stanley _ _ rfl hin]
  generalize acy (toN es) = a at hb
  constructor
  · intro h
    obtain ⟨k, rfl⟩ : ∃ k, N = 2 * k + 1 := ⟨N / 2, by omega⟩
    rw [Int.pow_succ, neg_even]
    unfold Wr
    rw [IntKind.wrap_i64, IntKind.wrap_i64]
    omega
  · intro h
    obtain ⟨k, rfl⟩ : ∃ k, N = 2 * k := ⟨N / 2, by omega⟩
    rw [neg_even]
    unfold Wr
    rw [IntKind.wrap_i64]
    omega
set_option maxRecDepth 4000 in
set_option maxHeartbeats 3000000 in
theorem polyLaw_bad {w : World} {n : Int} {vo : Option Addr} {vc : Nat} {es : List Pair} (hE : EdgesAt w (.slice vo es.length vc) es) (hcap : es.length ≤ vc) {c d : Int} (hs : smallF n es 12 = (c, d)) (hc : c ≠ 0) :
    Calls Try.prog 4 #[.agg #[.int .i64 n, .slice vo es.length vc]] w fun e w' => e = .returned (.bool true) ∧ Below w.heap.size w w' := by
  have HE : Hid (EdgesAt w (.slice vo es.length vc) es) := hE
  have HS : Hid (smallF n es ((12 : Nat) : Int) = (c, d)) := hs
  have HC : Hid (c ≠ 0) := hc
  have kc : (c != 0) = true := by simp [hc]
  clear hE hs hc
  go_enter Try.func4, Try.ntmps4
  go_upto_region 1 with (fail)
  have t1 := two_new w (.int .i64 n) (.slice vo es.length vc) 24
  have hB0 := below_alloc (Below.refl _ w) (Obj.cells #[.int .i64 n, .slice vo es.length vc] 24)
  obtain ⟨b1, hb1⟩ : ∃ b, b = w.heap.size := ⟨_, rfl⟩
  rw [← hb1] at t1 ⊢
  generalize w.alloc (Obj.cells #[.int .i64 n, .slice vo es.length vc] 24) = W0 at t1 hB0 ⊢
  have HT1 : Hid (Two W0 b1 (.int .i64 n) (.slice vo es.length vc) 24) := t1
  obtain ⟨q0, q1⟩ := cell_two t1
  have h6 := own_any n vo vc es W0 (HE.out.below hB0)
  have H6 : Hid (Calls Try.prog 6 #[.agg #[.int .i64 n, .slice vo es.length vc]] W0 fun e w' => Below W0.heap.size W0 w' ∧ ∃ ao c, e = .returned (.agg #[.int .i64 n, .slice ao es.length c]) ∧ EdgesAt w' (.slice ao es.length c) es ∧ es.length ≤ c) := h6
  clear hb1 h6 t1
  go_upto_region 2 with (first | (go_at_call 6; refine Calls.mono H6.out ?_; rintro e W1 ⟨hb1, ao, ac, rfl, hEo, _⟩) | go_in)
  have hb1a := below_alloc hb1 (Obj.cells #[.int .i64 n, .slice ao es.length ac] 24)
  have t3 := two_new W1 (.int .i64 n) (.slice ao es.length ac) 24
  have HEO : Hid (EdgesAt (W1.alloc (Obj.cells #[.int .i64 n, .slice ao es.length ac] 24)) (.slice ao es.length ac) es) := hEo.below (below_alloc (Below.refl _ W1) _)
  obtain ⟨b3, hb3⟩ : ∃ b, b = W1.heap.size := ⟨_, rfl⟩
  rw [← hb3] at t3 ⊢
  generalize W1.alloc (Obj.cells #[.int .i64 n, .slice ao es.length ac] 24) = W2 at t3 hb1a HEO ⊢
  have t12 := two_next HT1.out hb1a
  have HT12 : Hid (Two W2 b1 (.int .i64 n) (.slice vo es.length vc) 24) := t12
  have HT3 : Hid (Two W2 b3 (.int .i64 n) (.slice ao es.length ac) 24) := t3
  have hB2 := below_next hB0 hb1a
  clear q0 q1 H6 hb1 hEo hb3 hb1a t3 HT1 hB0
  obtain ⟨q0, q1⟩ := cell_two t12
  clear t12
  have h7 := smallFault_call (most := 12) (n := n) (HE.out.below hB2) hcap
  rw [HS.out] at h7
  have H7 : Hid (Calls Try.prog 7 #[.agg #[.int .i64 n, .slice vo es.length vc], .int .i64 12] W2 fun e w' => e = .returned (.agg #[.int .i64 c, .int .i64 d]) ∧ Below W2.heap.size W2 w') := h7
  clear h7
  go_upto_region 3 with (first | (go_at_call 7; refine Calls.mono H7.out ?_; rintro e W3 ⟨rfl, hb3⟩) | go_in)
  have hb3a := below_alloc hb3 (Obj.cells #[.int .i64 c, .int .i64 d] 27)
  have t4 := two_new W3 (.int .i64 c) (.int .i64 d) 27
  have HEO4 : Hid (EdgesAt (W3.alloc (Obj.cells #[.int .i64 c, .int .i64 d] 27)) (.slice ao es.length ac) es) := HEO.out.below hb3a
  obtain ⟨b4, hb4⟩ : ∃ b, b = W3.heap.size := ⟨_, rfl⟩
  rw [← hb4] at t4 ⊢
  generalize W3.alloc (Obj.cells #[.int .i64 c, .int .i64 d] 27) = W4 at t4 hb3a HEO4 ⊢
  have HT4 : Hid (Two W4 b4 (.int .i64 c) (.int .i64 d) 27) := t4
  have t14 := two_next HT12.out hb3a
  have t34 := two_next HT3.out hb3a
  have HT14 : Hid (Two W4 b1 (.int .i64 n) (.slice vo es.length vc) 24) := t14
  have HT34 : Hid (Two W4 b3 (.int .i64 n) (.slice ao es.length ac) 24) := t34
  have hB4 := below_next hB2 hb3a
  clear q0 q1 H7 hb3 hb4 hb3a t4 t14 HT12 HT3 hB2 HEO
  obtain ⟨q0, q1⟩ := cell_two t34
  clear t34
  go_upto_region 4 with (first | (go_at_call 14; refine Calls.mono (poly_bad HEO4.out HS.out HC.out) ?_; rintro e W5 ⟨rfl, hb5⟩) | go_in)
  have t7 := two_new W5 (.int .i64 c) (.int .i64 d) 27
  have hb5a := below_alloc hb5 (Obj.cells #[.int .i64 c, .int .i64 d] 27)
  obtain ⟨b7, hb7⟩ : ∃ b, b = W5.heap.size := ⟨_, rfl⟩
  rw [← hb7] at t7 ⊢
  generalize W5.alloc (Obj.cells #[.int .i64 c, .int .i64 d] 27) = W6 at t7 hb5a ⊢
  have HT7 : Hid (Two W6 b7 (.int .i64 c) (.int .i64 d) 27) := t7
  have HT46 : Hid (Two W6 b4 (.int .i64 c) (.int .i64 d) 27) := two_next HT4.out hb5a
  have HT16 : Hid (Two W6 b1 (.int .i64 n) (.slice vo es.length vc) 24) := two_next HT14.out hb5a
  have HT36 : Hid (Two W6 b3 (.int .i64 n) (.slice ao es.length ac) 24) := two_next HT34.out hb5a
  have HEO6 : Hid (EdgesAt W6 (.slice ao es.length ac) es) := HEO4.out.below hb5a
  have hB6 := below_next hB4 hb5a
  have H9 : Hid (Calls Try.prog 9 #[] W6 fun e w' => e = .returned (.bool true) ∧ Below W6.heap.size W6 w') := begun_call W6
  have H10 : Hid (∀ W, Below W6.heap.size W6 W → Calls Try.prog 10 #[.agg #[.int .i64 n, .slice ao es.length ac], .agg #[.int .i64 n, .slice vo es.length vc]] W fun e w' => e = .returned (.bool true) ∧ Below W.heap.size W w') := fun W hW => kept_true n _ _ es W (HEO6.out.below hW) (HE.out.below (below_next hB6 hW))
  have hneq := neq27 c d
  clear q0 q1 hb5 hb5a hb7 t7 HT4 HT14 HT34 HEO4 hB4
  go_upto_region 6 with (first
    | (go_at_call 9; refine Calls.mono H9.out ?_; rintro e W7 ⟨rfl, hb7⟩; have t77 := two_next HT7.out hb7; have t47 := two_next HT46.out hb7; have t17 := two_next HT16.out hb7; have t37 := two_next HT36.out hb7; obtain ⟨q0, q1⟩ := cell_two t77; obtain ⟨q2, q3⟩ := cell_two t47; obtain ⟨q4, q5⟩ := cell_two t17; obtain ⟨q6, q7⟩ := cell_two t37)
    | (go_at_call 10; refine Calls.mono (H10.out _ hb7) ?_; rintro e W8 ⟨rfl, hb8⟩)
    | go_in)
  have hb68 := below_next hb7 hb8
  have hB8 := below_next hB6 hb68
  have t48 := two_next HT46.out hb68
  have t18 := two_next HT16.out hb68
  clear q0 q1 q2 q3 q4 q5 q6 q7 t77 t47 t17 t37 hb7 hb8 H9 H10 hneq HT7 HT46 HT16 HT36 HEO6 hB6
  obtain ⟨q2, q3⟩ := cell_two t48
  obtain ⟨q4, q5⟩ := cell_two t18
  go_wp2
  go_ret
  exact ⟨rfl, hB8⟩
set_option maxRecDepth 4000 in
set_option maxHeartbeats 3000000 in
theorem polyLaw_ok {w : World} {N : Nat} {vo : Option Addr} {vc : Nat} {es : List Pair} (hE : EdgesAt w (.slice vo es.length vc) es) (hcap : es.length ≤ vc) (hs : (chk N es).1 = 0) (hN : N ≤ 12) :
    Calls Try.prog 4 #[.agg #[.int .i64 (N : Int), .slice vo es.length vc]] w fun e w' => e = .returned (.bool true) ∧ Below w.heap.size w w' := by
  obtain ⟨n1, hn1⟩ : ∃ n1, n1 = N + 1 := ⟨_, rfl⟩
  have HN1 : Hid (n1 = N + 1) := hn1
  clear hn1
  have HE : Hid (EdgesAt w (.slice vo es.length vc) es) := hE
  have hsm : smallF (N : Int) es ((12 : Nat) : Int) = (0, 0) := by
    unfold smallF
    rw [if_pos hs, if_neg (by omega)]
  have HS : Hid (smallF (N : Int) es ((12 : Nat) : Int) = (0, 0)) := hsm
  have HCHK : Hid ((chk (N : Int) es).1 = 0) := hs
  clear hE hs hsm
  go_enter Try.func4, Try.ntmps4
  go_upto_region 1 with (fail)
  have t1 := two_new w (.int .i64 (N : Int)) (.slice vo es.length vc) 24
  have hB0 := below_alloc (Below.refl _ w) (Obj.cells #[.int .i64 (N : Int), .slice vo es.length vc] 24)
  obtain ⟨b1, hb1⟩ : ∃ b, b = w.heap.size := ⟨_, rfl⟩
  rw [← hb1] at t1 ⊢
  generalize w.alloc (Obj.cells #[.int .i64 (N : Int), .slice vo es.length vc] 24) = W0 at t1 hB0 ⊢
  have HT1 : Hid (Two W0 b1 (.int .i64 (N : Int)) (.slice vo es.length vc) 24) := t1
  obtain ⟨q0, q1⟩ := cell_two t1
  have h6 := own_any (N : Int) vo vc es W0 (HE.out.below hB0)
  have H6 : Hid (Calls Try.prog 6 #[.agg #[.int .i64 (N : Int), .slice vo es.length vc]] W0 fun e w' => Below W0.heap.size W0 w' ∧ ∃ ao c, e = .returned (.agg #[.int .i64 (N : Int), .slice ao es.length c]) ∧ EdgesAt w' (.slice ao es.length c) es ∧ es.length ≤ c) := h6
  clear hb1 h6 t1
  go_upto_region 2 with (first | (go_at_call 6; refine Calls.mono H6.out ?_; rintro e W1 ⟨hb1, ao, ac, rfl, hEo, _⟩) | go_in)
  have hb1a := below_alloc hb1 (Obj.cells #[.int .i64 (N : Int), .slice ao es.length ac] 24)
  have t3 := two_new W1 (.int .i64 (N : Int)) (.slice ao es.length ac) 24
  have HEO : Hid (EdgesAt (W1.alloc (Obj.cells #[.int .i64 (N : Int), .slice ao es.length ac] 24)) (.slice ao es.length ac) es) := hEo.below (below_alloc (Below.refl _ W1) _)
  obtain ⟨b3, hb3⟩ : ∃ b, b = W1.heap.size := ⟨_, rfl⟩
  rw [← hb3] at t3 ⊢
  generalize W1.alloc (Obj.cells #[.int .i64 (N : Int), .slice ao es.length ac] 24) = W2 at t3 hb1a HEO ⊢
  have t12 := two_next HT1.out hb1a
  have HT12 : Hid (Two W2 b1 (.int .i64 (N : Int)) (.slice vo es.length vc) 24) := t12
  have HT3 : Hid (Two W2 b3 (.int .i64 (N : Int)) (.slice ao es.length ac) 24) := t3
  have hB2 := below_next hB0 hb1a
  clear q0 q1 H6 hb1 hEo hb3 hb1a t3 HT1 hB0
  obtain ⟨q0, q1⟩ := cell_two t12
  clear t12
  have h7 := smallFault_call (most := 12) (n := (N : Int)) (HE.out.below hB2) hcap
  rw [HS.out] at h7
  have H7 : Hid (Calls Try.prog 7 #[.agg #[.int .i64 (N : Int), .slice vo es.length vc], .int .i64 12] W2 fun e w' => e = .returned (.agg #[.int .i64 0, .int .i64 0]) ∧ Below W2.heap.size W2 w') := h7
  clear h7
  go_upto_region 3 with (first | (go_at_call 7; refine Calls.mono H7.out ?_; rintro e W3 ⟨rfl, hb3⟩) | go_in)
  have hb3a := below_alloc hb3 (Obj.cells #[.int .i64 0, .int .i64 0] 27)
  have t4 := two_new W3 (.int .i64 0) (.int .i64 0) 27
  have HEO4 : Hid (EdgesAt (W3.alloc (Obj.cells #[.int .i64 0, .int .i64 0] 27)) (.slice ao es.length ac) es) := HEO.out.below hb3a
  obtain ⟨b4, hb4⟩ : ∃ b, b = W3.heap.size := ⟨_, rfl⟩
  rw [← hb4] at t4 ⊢
  generalize W3.alloc (Obj.cells #[.int .i64 0, .int .i64 0] 27) = W4 at t4 hb3a HEO4 ⊢
  have HT4 : Hid (Two W4 b4 (.int .i64 0) (.int .i64 0) 27) := t4
  have t14 := two_next HT12.out hb3a
  have t34 := two_next HT3.out hb3a
  have HT14 : Hid (Two W4 b1 (.int .i64 (N : Int)) (.slice vo es.length vc) 24) := t14
  have HT34 : Hid (Two W4 b3 (.int .i64 (N : Int)) (.slice ao es.length ac) 24) := t34
  have hB4 := below_next hB2 hb3a
  clear q0 q1 H7 hb3 hb4 hb3a t4 t14 HT12 HT3 hB2 HEO
  obtain ⟨q0, q1⟩ := cell_two t34
  clear t34
  have h14 := poly_ok HEO4.out HCHK.out hN
  rw [← HN1.out] at h14
  have H14 : Hid (Calls Try.prog 14 #[.agg #[.int .i64 (N : Int), .slice ao es.length ac]] W4 fun e w' => ∃ g, e = .returned (.tuple #[sl g n1, .agg #[.int .i64 0, .int .i64 0]]) ∧ W4.heap.size ≤ g ∧ RowV w' g 3 n1 (iv (polyE N es)) ∧ Below W4.heap.size W4 w') := h14
  clear h14
  go_upto_region 4 with (first | (go_at_call 14; refine Calls.mono H14.out ?_; rintro e W5 ⟨g, rfl, hgl, hrg, hb5⟩) | go_in)
  have t7 := two_new W5 (.int .i64 0) (.int .i64 0) 27
  have hb5a := below_alloc hb5 (Obj.cells #[.int .i64 0, .int .i64 0] 27)
  have hrg6 := rowV_next hrg (below_alloc (Below.refl _ W5) (Obj.cells #[.int .i64 0, .int .i64 0] 27))
  obtain ⟨b7, hb7⟩ : ∃ b, b = W5.heap.size := ⟨_, rfl⟩
  rw [← hb7] at t7 ⊢
  generalize W5.alloc (Obj.cells #[.int .i64 0, .int .i64 0] 27) = W6 at t7 hb5a hrg6 ⊢
  have HRM : Hid (RowV W6 g 3 n1 (iv (polyE N es))) := hrg6
  clear hrg hrg6 H14
  have HT7 : Hid (Two W6 b7 (.int .i64 0) (.int .i64 0) 27) := t7
  have HT46 : Hid (Two W6 b4 (.int .i64 0) (.int .i64 0) 27) := two_next HT4.out hb5a
  have HT16 : Hid (Two W6 b1 (.int .i64 (N : Int)) (.slice vo es.length vc) 24) := two_next HT14.out hb5a
  have HT36 : Hid (Two W6 b3 (.int .i64 (N : Int)) (.slice ao es.length ac) 24) := two_next HT34.out hb5a
  have HEO6 : Hid (EdgesAt W6 (.slice ao es.length ac) es) := HEO4.out.below hb5a
  have hB6 := below_next hB4 hb5a
  have H9 : Hid (Calls Try.prog 9 #[] W6 fun e w' => e = .returned (.bool true) ∧ Below W6.heap.size W6 w') := begun_call W6
  have H10 : Hid (∀ W, Below W6.heap.size W6 W → Calls Try.prog 10 #[.agg #[.int .i64 (N : Int), .slice ao es.length ac], .agg #[.int .i64 (N : Int), .slice vo es.length vc]] W fun e w' => e = .returned (.bool true) ∧ Below W.heap.size W w') := fun W hW => kept_true (N : Int) _ _ es W (HEO6.out.below hW) (HE.out.below (below_next hB6 hW))
  have hneq := neq27 0 0
  clear q0 q1 hb5 hb5a hb7 t7 HT4 HT14 HT34 HEO4 hB4
  go_upto_region 6 with (first
    | (go_at_call 9; refine Calls.mono H9.out ?_; rintro e W7 ⟨rfl, hb7⟩; have t77 := two_next HT7.out hb7; have t47 := two_next HT46.out hb7; have t17 := two_next HT16.out hb7; have t37 := two_next HT36.out hb7; obtain ⟨q0, q1⟩ := cell_two t77; obtain ⟨q2, q3⟩ := cell_two t47; obtain ⟨q4, q5⟩ := cell_two t17; obtain ⟨q6, q7⟩ := cell_two t37)
    | (go_at_call 10; refine Calls.mono (H10.out _ hb7) ?_; rintro e W8 ⟨rfl, hb8⟩)
    | go_in)
  have hb68 := below_next hb7 hb8
  have hB8 := below_next hB6 hb68
  have t48 := two_next HT46.out hb68
  have t18 := two_next HT16.out hb68
  clear q0 q1 q2 q3 q4 q5 q6 q7 t77 t47 t17 t37 hb7 hb8 H9 H10 hneq HT7 HT46 HT16 HT36 HEO6 hB6
  have HT18 : Hid (Two W8 b1 (.int .i64 (N : Int)) (.slice vo es.length vc) 24) := t18
  obtain ⟨q2, q3⟩ := cell_two t48
  obtain ⟨q4, q5⟩ := cell_two t18
  have HR8 : Hid (RowV W8 g 3 n1 (iv (polyE N es))) := rowV_next HRM.out hb68
  have k1 : IntKind.i64.wrap ((N : Int) + 1) = (n1 : Int) := by rw [IntKind.wrap_i64, HN1.out]; omega
  have k2 : (N : Int) < (n1 : Int) := by rw [HN1.out]; omega
  have k3 : (0 : Int) ≤ (N : Int) := by omega
  have cN : W8.cell? ⟨g, N, none⟩ = some (.int .i64 1) := by
    have h := HR8.out.cell (j := N) (by rw [HN1.out]; omega)
    rw [h]
    show some (Value.int .i64 (polyE N es N)) = _
    rw [poly_top]
  obtain ⟨_, _, _, hlen, hgood⟩ := chk_good HCHK.out
  have HGD : Hid (∀ e ∈ es, (0 ≤ e.1 ∧ e.1 < (N : Int) ∧ 0 ≤ e.2 ∧ e.2 < (N : Int)) ∧ e.1 ≠ e.2) := hgood
  have h11 := gridOf_any N _ es W8 (HE.out.below hB8) (by omega) hlen hgood
  have H11 : Hid (Calls Try.prog 11 #[.agg #[.int .i64 (N : Int), .slice vo es.length vc]] W8 fun e w' => Below W8.heap.size W8 w' ∧ ∃ ao cap, e = .returned (.slice ao N cap) ∧ GridAt w' (.slice ao N cap) N (hasB es)) := h11
  clear h11 hgood hlen
  go_upto_region 11 with (first | (go_at_call 11; refine Calls.mono H11.out ?_; rintro e W9 ⟨hb9, gao, gcap, rfl, hG⟩) | go_in)
  have HG : Hid (GridAt W9 (.slice gao N gcap) N (hasB es)) := hG
  have hB9 := below_next hB8 hb9
  have HR9 : Hid (RowV W9 g 3 n1 (iv (polyE N es))) := rowV_next HR8.out hb9
  have t19 := two_next HT18.out hb9
  have HT19 : Hid (Two W9 b1 (.int .i64 (N : Int)) (.slice vo es.length vc) 24) := t19
  have HAT : Hid (∀ (W : World) (x : Int), Below W9.heap.size W9 W → Calls Try.prog 15 #[sl g n1, .int .i64 x] W fun e w' => e = .returned (.int .i64 (hz (polyE N es) x (N + 1) (N + 1))) ∧ w' = W) := fun W x hW => by
    have h := at_call (x := x) (rowV_next HR9.out hW) (by rw [HN1.out]; omega)
    rw [HN1.out] at h ⊢
    exact h
  have HCO : Hid (∀ (W : World) (x : Nat), x ≤ 12 → Below W9.heap.size W9 W → Calls Try.prog 16 #[.slice gao N gcap, .int .i64 (x : Int)] W fun e w' => e = .returned (.int .i64 (hz (polyE N es) (x : Int) (N + 1) (N + 1))) ∧ Below W.heap.size W w') := fun W x hx hW => by
    have h := colTop_call (k := x) (by omega) (by omega) (HG.out.below hW)
    rw [poly_nat]
    exact h
  have HAC : Hid (∀ W : World, es.length ≤ 10 → Below W9.heap.size W9 W → Calls Try.prog 17 #[.agg #[.int .i64 (N : Int), .slice vo es.length vc]] W fun e w' => e = .returned (.int .i64 (acy (toN es))) ∧ Below W.heap.size W w') := fun W hl hW =>
    acyclic_call (HE.out.below (below_next hB9 hW)) (by omega) hl (fun e he => by have := HGD.out e he; exact ⟨this.1.1, this.1.2.2.1, this.1.2.1, this.1.2.2.2⟩)
  have HTAIL : Hid (es.length ≤ 10 → PolyEnd N (hz (polyE N es) (-1) (N + 1) (N + 1)) (acy (toN es))) := fun hl => poly_end HGD.out hl
  clear hG q2 q3 q4 q5 t48 t18 H11 cN HR8 HRM HR9 HT18 HGD
  obtain ⟨q4, q5⟩ := cell_two t19
  clear t19
  obtain ⟨nv, hnv⟩ : ∃ nv, nv = hz (polyE N es) (-1) (N + 1) (N + 1) := ⟨_, rfl⟩
  obtain ⟨av, hav⟩ : ∃ av, av = acy (toN es) := ⟨_, rfl⟩
  have HNV : Hid (∀ W : World, Below W9.heap.size W9 W → Calls Try.prog 15 #[sl g n1, .int .i64 (-1)] W fun e w' => e = .returned (.int .i64 nv) ∧ w' = W) := fun W hW => by
    rw [hnv]; exact HAT.out W (-1) hW
  rw [← hnv, ← hav] at HTAIL
  rw [← hav] at HAC
  clear hnv hav
  by_cases h6 : N ≤ 6
  · have i6 : (N : Int) ≤ 6 := by omega
    go_wp2
    go_loopw [8] (fun xv wr => ∃ x : Nat, x ≤ N + 1 ∧ xv = .int .i64 (x : Int) ∧ Below W9.heap.size W9 wr) (fun xv _ => N + 1 - (numOf xv).toNat)
    case atStart => exact ⟨0, Nat.zero_le _, rfl, Below.refl _ _⟩
    case round =>
      clear q4 q5
      obtain ⟨x, hx, rfl, hbx⟩ := hrel
      have t1x := two_next HT19.out hbx
      obtain ⟨q4, q5⟩ := cell_two t1x
      clear t1x
      by_cases hxN : x ≤ N
      · have i8 : (x : Int) ≤ (N : Int) := by omega
        have h15 := HAT.out wr (x : Int) hbx
        have h16 := HCO.out wr x (by omega) hbx
        obtain ⟨vx, hvx⟩ : ∃ vx, vx = hz (polyE N es) (x : Int) (N + 1) (N + 1) := ⟨_, rfl⟩
        rw [← hvx] at h15 h16
        have H15 : Hid (Calls Try.prog 15 #[sl g n1, .int .i64 (x : Int)] wr fun e w' => e = .returned (.int .i64 vx) ∧ w' = wr) := h15
        have H16 : Hid (Calls Try.prog 16 #[.slice gao N gcap, .int .i64 (x : Int)] wr fun e w' => e = .returned (.int .i64 vx) ∧ Below wr.heap.size wr w') := h16
        have kv : (vx != vx) = false := by simp
        clear h15 h16 hvx
        go_wp2_with (first | (go_at_call 15; refine Calls.mono H15.out ?_; rintro e _ ⟨rfl, rfl⟩) | (go_at_call 16; refine Calls.mono H16.out ?_; rintro e WZ ⟨rfl, hbZ⟩) | go_in)
        go_roundw
        case rel => exact ⟨x + 1, by omega, by go_num, below_next hbx hbZ⟩
        case measure => simp [numOf]; omega
      · have i8 : ¬ (x : Int) ≤ (N : Int) := by omega
        by_cases hl10 : es.length ≤ 10
        · have i7 : ¬ ((es.length : Int) > 10) := by omega
          obtain ⟨z1, z2⟩ := HTAIL.out hl10
          have H15 : Hid (Calls Try.prog 15 #[sl g n1, .int .i64 (-1)] wr fun e w' => e = .returned (.int .i64 nv) ∧ w' = wr) := HNV.out wr hbx
          have H17 : Hid (Calls Try.prog 17 #[.agg #[.int .i64 (N : Int), .slice vo es.length vc]] wr fun e w' => e = .returned (.int .i64 av) ∧ Below wr.heap.size wr w') := HAC.out wr hl10 hbx
          by_cases hodd : N % 2 = 1
          · have r1 : ((N : Int) % 2 == 1) = true := by rw [beq_iff_eq]; omega
            have r2 : ((N : Int).tmod 2 == 1) = true := by rw [Int.tmod_eq_emod_of_nonneg (by omega)]; exact r1
            have hv := z1 hodd
            clear z1 z2 hodd
            go_wp2_with (first | (go_at_call 15; refine Calls.mono H15.out ?_; rintro e _ ⟨rfl, rfl⟩) | (go_at_call 17; refine Calls.mono H17.out ?_; rintro e WZ ⟨rfl, hbZ⟩) | go_in)
            go_ret
            exact ⟨by simp, below_next (below_next hB9 hbx) hbZ⟩
          · have r1 : ((N : Int) % 2 == 1) = false := by rw [beq_eq_false_iff_ne]; omega
            have r2 : ((N : Int).tmod 2 == 1) = false := by rw [Int.tmod_eq_emod_of_nonneg (by omega)]; exact r1
            have hv := z2 (by omega)
            clear z1 z2 hodd
            subst hv
            go_wp2_with (first | (go_at_call 15; refine Calls.mono H15.out ?_; rintro e _ ⟨rfl, rfl⟩) | (go_at_call 17; refine Calls.mono H17.out ?_; rintro e WZ ⟨rfl, hbZ⟩) | go_in)
            go_ret
            exact ⟨by simp, below_next (below_next hB9 hbx) hbZ⟩
        · have i7 : (es.length : Int) > 10 := by omega
          go_wp2
          go_ret
          exact ⟨rfl, below_next hB9 hbx⟩
  · have i6 : ¬ (N : Int) ≤ 6 := by omega
    have hbx := Below.refl W9.heap.size W9
    by_cases hl10 : es.length ≤ 10
    · have i7 : ¬ ((es.length : Int) > 10) := by omega
      obtain ⟨z1, z2⟩ := HTAIL.out hl10
      have H15 : Hid (Calls Try.prog 15 #[sl g n1, .int .i64 (-1)] W9 fun e w' => e = .returned (.int .i64 nv) ∧ w' = W9) := HNV.out W9 hbx
      have H17 : Hid (Calls Try.prog 17 #[.agg #[.int .i64 (N : Int), .slice vo es.length vc]] W9 fun e w' => e = .returned (.int .i64 av) ∧ Below W9.heap.size W9 w') := HAC.out W9 hl10 hbx
      by_cases hodd : N % 2 = 1
      · have r1 : ((N : Int) % 2 == 1) = true := by rw [beq_iff_eq]; omega
        have r2 : ((N : Int).tmod 2 == 1) = true := by rw [Int.tmod_eq_emod_of_nonneg (by omega)]; exact r1
        have hv := z1 hodd
        clear z1 z2 hodd
        go_wp2_with (first | (go_at_call 15; refine Calls.mono H15.out ?_; rintro e _ ⟨rfl, rfl⟩) | (go_at_call 17; refine Calls.mono H17.out ?_; rintro e WZ ⟨rfl, hbZ⟩) | go_in)
        go_ret
        exact ⟨by simp, below_next (below_next hB9 hbx) hbZ⟩
      · have r1 : ((N : Int) % 2 == 1) = false := by rw [beq_eq_false_iff_ne]; omega
        have r2 : ((N : Int).tmod 2 == 1) = false := by rw [Int.tmod_eq_emod_of_nonneg (by omega)]; exact r1
        have hv := z2 (by omega)
        clear z1 z2 hodd
        subst hv
        go_wp2_with (first | (go_at_call 15; refine Calls.mono H15.out ?_; rintro e _ ⟨rfl, rfl⟩) | (go_at_call 17; refine Calls.mono H17.out ?_; rintro e WZ ⟨rfl, hbZ⟩) | go_in)
        go_ret
        exact ⟨by simp, below_next (below_next hB9 hbx) hbZ⟩
    · have i7 : (es.length : Int) > 10 := by omega
      go_wp2
      go_ret
      exact ⟨rfl, below_next hB9 hbx⟩
end Go.Proofs.Ytdnmoifbkojnlaa
