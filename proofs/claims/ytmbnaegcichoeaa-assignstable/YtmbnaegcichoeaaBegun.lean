/- assignBegun: two examples. -/
import Derived.Test.YtmbnaegcichoeaaStable
import Derived.Test.YtmbnaegcichoeaaLeast
import Derived.Test.YtmbnaegcichoeaaNewDeal
import Derived.Test.YtmbnaegcichoeaaRefs
namespace Go.Proofs.Ytmbnaegcichoeaa
open Go.RowKit Go.Maps
attribute [local go_sem ↓] Go.wp_at_zero Go.wp_at_succ

theorem newDeal_is : NewDeal := fun w v n C h1 h2 h3 => newDeal_call w v n C h1 h2 h3
theorem box2_ints {w : World} {b : Nat} {x y : Int} (h : Box w b #[.int .i64 x, .int .i64 y] 3) (hx : I64 x) (hy : I64 y) : IntsAt w (sl b 2) [x, y] := by
  refine ⟨_, 2, rfl, ⟨by simp, by simp⟩, fun z hz => ?_, fun k hk => ⟨b, 0, rfl, ?_⟩⟩
  · simp at hz; rcases hz with rfl | rfl
    · exact hx
    · exact hy
  · rw [Nat.zero_add]
    match k, hk with
    | 0, _ => exact box_cell h rfl
    | 1, _ => exact box_cell h rfl
theorem box2_rows {w : World} {b c d : Nat} {p q r s : Int} (h : Box w b #[sl c 2, sl d 2] 27) (hc : Box w c #[.int .i64 p, .int .i64 q] 3) (hd : Box w d #[.int .i64 r, .int .i64 s] 3) (hp : I64 p) (hq : I64 q) (hr : I64 r) (hs : I64 s) : RowsAt w (sl b 2) [[p, q], [r, s]] := by
  refine ⟨_, 2, rfl, by simp, by simp, fun k hk => ?_⟩
  match k, hk with
  | 0, _ => exact ⟨b, 0, _, rfl, box_cell h rfl, box2_ints hc hp hq⟩
  | 1, _ => exact ⟨b, 0, _, rfl, box_cell h rfl, box2_ints hd hr hs⟩
theorem rows2_new (w : World) (p q r s : Int) (hp : I64 p) (hq : I64 q) (hr : I64 r) (hs : I64 s) :
    RowsAt (((w.alloc (Obj.cells #[.int .i64 p, .int .i64 q] 3)).alloc (Obj.cells #[.int .i64 r, .int .i64 s] 3)).alloc (Obj.cells #[sl w.heap.size 2, sl (w.heap.size + 1) 2] 27)) (sl (w.heap.size + 1 + 1) 2) [[p, q], [r, s]] := by
  have h1 := at3_2 w #[sl w.heap.size 2, sl (w.heap.size + 1) 2] 27 (Obj.cells #[.int .i64 p, .int .i64 q] 3) (Obj.cells #[.int .i64 r, .int .i64 s] 3)
  have h2 := box_alloc (at2_0 w #[.int .i64 p, .int .i64 q] 3 (Obj.cells #[.int .i64 r, .int .i64 s] 3)) (Obj.cells #[sl w.heap.size 2, sl (w.heap.size + 1) 2] 27)
  have h3 := box_alloc (at2_1 w #[.int .i64 r, .int .i64 s] 3 (Obj.cells #[.int .i64 p, .int .i64 q] 3)) (Obj.cells #[sl w.heap.size 2, sl (w.heap.size + 1) 2] 27)
  exact box2_rows h1 h2 h3 hp hq hr hs
theorem least_five {B : Nat} {w' : World} {tv rv cv : Value} {total : Int} (h : LeastIs 2 (cellL [[1, 2], [3, 5]]) B w' tv rv cv total) : total = 5 := by
  obtain ⟨bt, br, bc, r, u, tk, ow, _, _, _, _, _, _, _, _, _, hm, e⟩ := h
  obtain ⟨j0, a1, a2, a3, a4⟩ := hm.eq 0 (by omega)
  obtain ⟨j1, b1, b2, b3, b4⟩ := hm.eq 1 (by omega)
  have l01 := hm.low 0 1 (by omega) (by omega)
  have l10 := hm.low 1 0 (by omega) (by omega)
  have c00 : cellL [[1, 2], [3, 5]] 0 0 = 1 := rfl
  have c01 : cellL [[1, 2], [3, 5]] 0 1 = 2 := rfl
  have c10 : cellL [[1, 2], [3, 5]] 1 0 = 3 := rfl
  have c11 : cellL [[1, 2], [3, 5]] 1 1 = 5 := rfl
  have hne : j0 ≠ j1 := fun e => by subst e; omega
  rw [e]
  simp only [sumC]
  rw [a2, b2]
  simp only [Int.toNat_natCast]
  have hc : (j0 = 0 ∧ j1 = 1) ∨ (j0 = 1 ∧ j1 = 0) := by omega
  rcases hc with ⟨rfl, rfl⟩ | ⟨rfl, rfl⟩
  · rw [c00] at a4; rw [c11] at b4; rw [c01] at l01; rw [c10] at l10
    omega
  · rw [c01, c10]; rfl
theorem stable_ten {w' : World} {b : Nat} (h : StableIs 2 (nameA [[0, 1], [0, 1]]) (placeB [[1, 0], [0, 1]]) w' b) : IntsAt w' (sl b 2) [1, 0] := by
  obtain ⟨has, ask, hg, _, hr⟩ := h
  have hs := hg.stable
  obtain ⟨k0, e0⟩ := hs.at' 0 (by omega)
  obtain ⟨k1, e1⟩ := hs.at' 1 (by omega)
  have hA' : ∀ x, x < 2 → ∀ k, k < 2 → nameA [[0, 1], [0, 1]] x k = k := by decide
  have hA : ∀ x k, x < 2 → k < 2 → nameA [[0, 1], [0, 1]] x k = k := fun x k h1 h2 => hA' x h1 k h2
  have hP : placeB [[1, 0], [0, 1]] 0 0 = 1 ∧ placeB [[1, 0], [0, 1]] 0 1 = 0 := by decide
  have hi := hs.inj 0 1 (by omega) (by omega)
  rw [hA 0 _ (by omega) k0, hA 1 _ (by omega) k1] at hi
  have hst := hs.stable 1 0 0 (by omega)
  rw [hA 0 _ (by omega) k0, hA 1 0 (by omega) (by omega), hP.1, hP.2] at hst
  have h0 : ask 0 - 1 = 1 := by
    apply Classical.byContradiction
    intro hne
    have : ask 0 - 1 = 0 := by omega
    have h1 : ask 1 - 1 = 1 := by
      apply Classical.byContradiction
      intro h
      have := hi (by omega)
      omega
    have := hst (by omega) (by omega) this
    omega
  have h1 : ask 1 - 1 = 0 := by
    apply Classical.byContradiction
    intro h
    have := hi (by omega)
    omega
  have c0 := hr.cell (j := 0) (by omega)
  have c1 := hr.cell (j := 1) (by omega)
  unfold iv at c0 c1
  simp only at c0 c1
  rw [h0, hA 0 1 (by omega) (by omega)] at c0
  rw [h1, hA 1 0 (by omega) (by omega)] at c1
  refine ⟨_, 2, rfl, ⟨by simp, by simp⟩, fun z hz => ?_, fun k hk => ⟨b, 0, rfl, ?_⟩⟩
  · simp at hz; rcases hz with rfl | rfl <;> exact I64.mk (by omega) (by omega)
  · rw [Nat.zero_add]
    match k, hk with
    | 0, _ => exact c0
    | 1, _ => exact c1

theorem stable_of4 (W : World) : Calls Try.prog 12 #[sl (W.heap.size + 1 + 1) 2, sl (W.heap.size + 1 + 1 + 1 + 1 + 1) 2] ((((((W.alloc (Obj.cells #[.int .i64 0, .int .i64 1] 3)).alloc (Obj.cells #[.int .i64 0, .int .i64 1] 3)).alloc (Obj.cells #[sl W.heap.size 2, sl (W.heap.size + 1) 2] 27)).alloc (Obj.cells #[.int .i64 1, .int .i64 0] 3)).alloc (Obj.cells #[.int .i64 0, .int .i64 1] 3)).alloc (Obj.cells #[sl (W.heap.size + 1 + 1 + 1) 2, sl (W.heap.size + 1 + 1 + 1 + 1) 2] 27)) fun e w' => ∃ b, e = .returned (.tuple #[sl b 2, .agg #[.int .i64 0, .int .i64 0]]) ∧ IntsAt w' (sl b 2) [1, 0] ∧ Below W.heap.size W w' := by
  have i0 : I64 0 := I64.mk (by omega) (by omega)
  have i1 : I64 1 := I64.mk (by omega) (by omega)
  have hra := rows2_new W 0 1 0 1 i0 i1 i0 i1
  have hb3 : Below W.heap.size W (((W.alloc (Obj.cells #[.int .i64 0, .int .i64 1] 3)).alloc (Obj.cells #[.int .i64 0, .int .i64 1] 3)).alloc (Obj.cells #[sl W.heap.size 2, sl (W.heap.size + 1) 2] 27)) := below3 _ _ _
  have hz : (((W.alloc (Obj.cells #[.int .i64 0, .int .i64 1] 3)).alloc (Obj.cells #[.int .i64 0, .int .i64 1] 3)).alloc (Obj.cells #[sl W.heap.size 2, sl (W.heap.size + 1) 2] 27)).heap.size = W.heap.size + 1 + 1 + 1 := by simp
  generalize (((W.alloc (Obj.cells #[.int .i64 0, .int .i64 1] 3)).alloc (Obj.cells #[.int .i64 0, .int .i64 1] 3)).alloc (Obj.cells #[sl W.heap.size 2, sl (W.heap.size + 1) 2] 27)) = W3 at hra hb3 hz ⊢
  have hrb := rows2_new W3 1 0 0 1 i1 i0 i0 i1
  have hb6 := below3 (w := W3) (Obj.cells #[.int .i64 1, .int .i64 0] 3) (Obj.cells #[.int .i64 0, .int .i64 1] 3) (Obj.cells #[sl W3.heap.size 2, sl (W3.heap.size + 1) 2] 27)
  have hra6 := hra.below hb6
  rw [hz] at hrb hra6 hb6
  refine (stable_ok hra6 hrb (by decide)).mono ?_
  rintro e w' ⟨b, rfl, _, hs, hb⟩
  refine ⟨b, rfl, stable_ten hs, below_next (below_next hb3 ?_) hb⟩
  rw [hz]; exact hb6
set_option maxRecDepth 4000 in
set_option maxHeartbeats 2000000 in
theorem begun_call (w : World) : Calls Try.prog 8 #[] w fun e w' => e = .returned (.bool true) ∧ Below w.heap.size w w' := by
  go_enter Try.func8, Try.ntmps8
  go_upto_region 2 with (first | (go_at_call 7; refine (least_ok newDeal_is (rows2_new _ 1 2 3 5 (I64.mk (by omega) (by omega)) (I64.mk (by omega) (by omega)) (I64.mk (by omega) (by omega)) (I64.mk (by omega) (by omega))) (by decide)).mono ?_; rintro e W1 ⟨tv, rv, cv, total, rfl, hl, hb1⟩) | go_in)
  have ht := least_five hl
  subst ht
  have hB1 : Below w.heap.size w W1 := below_next (below3 _ _ _) hb1
  have t5 := two_new W1 (.int .i64 0) (.int .i64 0) 25
  have hB2 := below_alloc hB1 (Obj.cells #[.int .i64 0, .int .i64 0] 25)
  obtain ⟨b5, hb5⟩ : ∃ b, b = W1.heap.size := ⟨_, rfl⟩
  rw [← hb5] at t5 ⊢
  generalize W1.alloc (Obj.cells #[.int .i64 0, .int .i64 0] 25) = W2 at t5 hB2 ⊢
  have HT5 : Hid (Two W2 b5 (.int .i64 0) (.int .i64 0) 25) := t5
  clear hl hb1 hb5 hB1 t5
  have h12 := stable_of4 W2
  have H12 : Hid (Calls Try.prog 12 #[sl (W2.heap.size + 1 + 1) 2, sl (W2.heap.size + 1 + 1 + 1 + 1 + 1) 2] ((((((W2.alloc (Obj.cells #[.int .i64 0, .int .i64 1] 3)).alloc (Obj.cells #[.int .i64 0, .int .i64 1] 3)).alloc (Obj.cells #[sl W2.heap.size 2, sl (W2.heap.size + 1) 2] 27)).alloc (Obj.cells #[.int .i64 1, .int .i64 0] 3)).alloc (Obj.cells #[.int .i64 0, .int .i64 1] 3)).alloc (Obj.cells #[sl (W2.heap.size + 1 + 1 + 1) 2, sl (W2.heap.size + 1 + 1 + 1 + 1) 2] 27)) fun e w' => ∃ b, e = .returned (.tuple #[sl b 2, .agg #[.int .i64 0, .int .i64 0]]) ∧ IntsAt w' (sl b 2) [1, 0] ∧ Below W2.heap.size W2 w') := h12
  clear h12
  go_upto_region 3 with (first | (go_at_call 12; refine Calls.mono H12.out ?_; rintro e W7 ⟨b, rfl, hl7, hb7⟩) | go_in)
  have t7 := two_new W7 (.int .i64 0) (.int .i64 0) 25
  have hb8 := below_alloc hb7 (Obj.cells #[.int .i64 0, .int .i64 0] 25)
  have hl8 := hl7.below (below_alloc (Below.refl _ W7) (Obj.cells #[.int .i64 0, .int .i64 0] 25))
  obtain ⟨b7, hb7'⟩ : ∃ b, b = W7.heap.size := ⟨_, rfl⟩
  rw [← hb7'] at t7 ⊢
  generalize W7.alloc (Obj.cells #[.int .i64 0, .int .i64 0] 25) = W8 at t7 hb8 hl8 ⊢
  have t5 := two_next HT5.out hb8
  have hB8 := below_next hB2 hb8
  obtain ⟨q0, _⟩ := cell_two t5
  obtain ⟨q1, _⟩ := cell_two t7
  have HL8 : Hid (IntsAt W8 (sl b 2) [1, 0]) := hl8
  clear hb7' hl7 hb7 HT5 H12 t5 t7 hl8
  have h21 := ints_true (sl b 2) (sl W8.heap.size 2) [1, 0] (W8.alloc (Obj.cells #[.int .i64 1, .int .i64 0] 3)) (HL8.out.below (below_alloc (Below.refl _ W8) _)) (box2_ints (heap_alloc_new _ _) (I64.mk (by omega) (by omega)) (I64.mk (by omega) (by omega)))
  have H21 : Hid (Calls Try.prog 21 #[sl b 2, sl W8.heap.size 2] (W8.alloc (Obj.cells #[.int .i64 1, .int .i64 0] 3)) fun e w' => e = .returned (.bool true) ∧ ∃ m, w' = (W8.alloc (Obj.cells #[.int .i64 1, .int .i64 0] 3)).drewN m) := h21
  clear h21
  go_wp2_with (first | (go_at_call 21; refine Calls.mono H21.out ?_; rintro e W9 ⟨rfl, m, hw9⟩) | go_in)
  go_ret
  exact ⟨rfl, below_next (below_alloc hB8 _) (drewN_below _ _)⟩
end Go.Proofs.Ytmbnaegcichoeaa
