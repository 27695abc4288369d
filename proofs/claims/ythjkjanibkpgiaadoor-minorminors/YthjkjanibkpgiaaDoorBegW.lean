/- minorBegun: an example of the document. -/
import Derived.Test.YthjkjanibkpgiaaDoorMnW
import Derived.Test.YthjkjanibkpgiaaDoorFivW
import Derived.Test.YthjkjanibkpgiaaDoorFullW
namespace Go.Proofs.YthjkjanibkpgiaaDoor
set_option maxRecDepth 8000
open Go.RowKit Go.Maps
attribute [local go_sem ↓] Go.wp_at_zero Go.wp_at_succ
theorem full3 : fullP 3 = pzT es3 := by decide +kernel
theorem all5 {f g : Nat → Bool} (hp : ∀ i, f i = true → i < 5) (h : ∀ k : Fin 5, f k.val = true → g k.val = true) : ∀ i, f i = true → g i = true := fun i hi => h ⟨i, hp i hi⟩ hi
theorem bit5 {p : Nat} (hp : p < 32) : ∀ i, p.testBit i = true → i < 5 := fun _ hi => bit_lt (show p < 2 ^ 5 from hp) hi
theorem rch_one {near : Nat → Nat} {N u : Nat} : Rch near N (2 ^ u) u (2 ^ u) := rch_start (by rw [Nat.testBit_two_pow]; simp)
theorem rch28 : Rch (nearF es5) 5 28 2 28 := by
  refine ⟨by decide, fun i hi => hi, fun c hc hcl => ?_⟩
  have h3 : c.testBit 3 = true := hcl 3 (by
    rw [anyN_bit, List.any_eq_true]
    exact ⟨2, by decide, by rw [hc]; decide +kernel⟩) (by decide)
  have h4 : c.testBit 4 = true := hcl 4 (by
    rw [anyN_bit, List.any_eq_true]
    exact ⟨3, by decide, by rw [h3]; decide +kernel⟩) (by decide)
  refine all5 (bit5 (by decide)) fun i => ?_
  match i with
  | ⟨0, _⟩ => intro h; exact absurd (show (28 : Nat).testBit 0 = true from h) (by decide)
  | ⟨1, _⟩ => intro h; exact absurd (show (28 : Nat).testBit 1 = true from h) (by decide)
  | ⟨2, _⟩ => intro _; exact hc
  | ⟨3, _⟩ => intro _; exact h3
  | ⟨4, _⟩ => intro _; exact h4
theorem cho53 {tog : Nat → Bool} (h : ∀ x, x ≠ 0 → (tog x = true ↔ Rch (nearF es5) 5 x (Lib.ctz 32 x) x)) : Cho tog (2 ^ 5 - 1).testBit [1, 2, 28] := by
  have z1 : Lib.ctz 32 1 = 0 := by decide +kernel
  have z2 : Lib.ctz 32 2 = 1 := by decide +kernel
  have z3 : Lib.ctz 32 28 = 2 := by decide +kernel
  refine ⟨by decide, all5 (bit5 (by decide)) (by decide), (h 1 (by decide)).2 (by rw [z1]; exact rch_one (u := 0)), by decide, all5 (bit5 (by decide)) (by decide +kernel), (h 2 (by decide)).2 (by rw [z2]; exact rch_one (u := 1)), by decide, all5 (bit5 (by decide)) (by decide +kernel), (h 28 (by decide)).2 (by rw [z3]; exact rch28), trivial⟩
theorem fit28 : (fitP (nearF es5) (nearF es3) 5 3 [1, 2, 28]).isSome = true := by decide +kernel
set_option maxHeartbeats 8000000 in
theorem begun_call {w : World} (hT : T32 w) : Calls Tryd.prog 8 #[] w fun e w' => e = .returned (.bool true) ∧ Below w.heap.size w w' := by
  have C26 : Hid (∀ A : World, Calls Tryd.prog 26 #[.int .i64 3] A fun e w' => ∃ ao c, e = .returned (.agg #[.int .i64 3, .slice ao 3 c]) ∧ EdgesAt w' (.slice ao 3 c) (pzT es3) ∧ Below A.heap.size A w') := fun A => by
    have h := full_call 3 A (by decide)
    rw [full3] at h
    refine h.mono ?_
    rintro e w' ⟨hB, ao, c, rfl, hE⟩
    exact ⟨ao, c, rfl, hE, hB⟩
  have C7 : Hid (∀ A ao ao2 c c2, Below w.heap.size w A → EdgesAt A (.slice ao 5 c) (pzT es5) → EdgesAt A (.slice ao2 3 c2) (pzT es3) → Calls Tryd.prog 7 #[.agg #[.int .i64 5, .slice ao 5 c], .agg #[.int .i64 3, .slice ao2 3 c2]] A fun e w' => ∃ y, e = .returned (.tuple #[y, .bool true, .agg #[.int .i64 0, .int .i64 0]]) ∧ Below A.heap.size A w') := fun A ao ao2 c c2 hA h1 h2 => by
    refine (minor_call (n := 5) (n2 := 3) (es := pzT es5) (es2 := pzT es3) h1 h2 (hT.below hA)).mono ?_
    rintro e w' ⟨h, hB⟩
    rcases h with ⟨h, _⟩ | ⟨_, N, M, eg, eh, y, db, tog, e1, e2, e3, e4, _, _, _, _, _, _, ht, rfl, h⟩
    · rw [chk53] at h; exact absurd rfl h
    · have hN : N = 5 := by omega
      have hM : M = 3 := by omega
      subst hN hM
      have e5 := pzT_inj e3
      have e6 := pzT_inj e4
      subst e5 e6
      rcases h with ⟨rfl, _⟩ | ⟨_, h, _⟩
      · exact ⟨y, rfl, hB⟩
      · have := h _ (cho53 ht) rfl
        have h2 := fit28
        rw [this] at h2
        cases h2
  have C13 : Hid (∀ A ao ao2 c c2, Below w.heap.size w A → EdgesAt A (.slice ao 5 c) (pzT es5) → EdgesAt A (.slice ao2 3 c2) (pzT es3) → Calls Tryd.prog 13 #[.agg #[.int .i64 5, .slice ao 5 c], .agg #[.int .i64 3, .slice ao2 3 c2]] A fun e w' => ∃ y, e = .returned (.tuple #[y, .bool false, .agg #[.int .i64 0, .int .i64 0]]) ∧ Below A.heap.size A w') := fun A ao ao2 c c2 hA h1 h2 => by
    refine (within_call (n := 5) (n2 := 3) (es := pzT es5) (es2 := pzT es3) h1 h2 (hT.below hA)).mono ?_
    rintro e w' ⟨h, hB⟩
    rcases h with ⟨h, _⟩ | ⟨_, N, M, eg, eh, y, e1, e2, e3, e4, _, _, _, _, _, _, rfl, _⟩
    · rw [chk53] at h; exact absurd rfl h
    · have hN : N = 5 := by omega
      have hM : M = 3 := by omega
      subst hN hM
      have e5 := pzT_inj e3
      have e6 := pzT_inj e4
      subst e5 e6
      rw [fit53]
      exact ⟨y, rfl, hB⟩
  clear hT
  go_enter Tryd.func8, Tryd.ntmps8
  go_upto_region 2 with (first
    | (go_at_call 25; refine Calls.mono (five_call _) ?_; rintro e A1 ⟨ao, c, rfl, hE1, hB1⟩)
    | (go_at_call 26; refine Calls.mono (C26.out _) ?_; rintro e A2 ⟨ao2, c2, rfl, hE2, hB2⟩; have hB12 := below_next hB1 hB2; have hE12 := hE1.below hB2)
    | (go_at_call 7; refine Calls.mono (C7.out _ _ _ _ _ hB12 hE12 hE2) ?_; rintro e A3 ⟨y, rfl, hB3⟩; have hB13 := below_next hB12 hB3)
    | fail)
  have t3 := two_new A3 (.int .i64 0) (.int .i64 0) 27
  have hBa := below_alloc (Below.refl _ A3) (Obj.cells #[.int .i64 0, .int .i64 0] 27)
  have hBB : Below w.heap.size w (A3.alloc (Obj.cells #[.int .i64 0, .int .i64 0] 27)) := below_next hB13 hBa
  have hl := lt_of_block t3
  generalize A3.heap.size = b3 at *
  generalize A3.alloc (Obj.cells #[.int .i64 0, .int .i64 0] 27) = W1 at *
  clear hB1 hB2 hB3 hB12 hB13 hE1 hE2 hE12 hBa C7
  go_upto_region 3 with (first
    | (go_at_call 25; refine Calls.mono (five_call _) ?_; rintro e A1 ⟨ao, c, rfl, hE1, hB1⟩)
    | (go_at_call 26; refine Calls.mono (C26.out _) ?_; rintro e A2 ⟨ao2, c2, rfl, hE2, hB2⟩; have hB12 := below_next hB1 hB2; have hE12 := hE1.below hB2)
    | (go_at_call 13; refine Calls.mono (C13.out _ _ _ _ _ (below_next hBB hB12) hE12 hE2) ?_; rintro e A3 ⟨y2, rfl, hB3⟩; have hB13 := below_next hB12 hB3)
    | fail)
  have t4 := two_new A3 (.int .i64 0) (.int .i64 0) 27
  have hBa := below_alloc (Below.refl _ A3) (Obj.cells #[.int .i64 0, .int .i64 0] 27)
  have hBC := below_next hB13 hBa
  have t3' := two_next t3 hBC
  have HBW : Hid (Below w.heap.size w (A3.alloc (Obj.cells #[.int .i64 0, .int .i64 0] 27))) := below_next hBB hBC
  generalize A3.heap.size = b4 at *
  generalize A3.alloc (Obj.cells #[.int .i64 0, .int .i64 0] 27) = W2 at *
  obtain ⟨d0, d1⟩ := cell_two t3'
  obtain ⟨d2, d3⟩ := cell_two t4
  clear hB1 hB2 hB3 hB12 hB13 hE1 hE2 hE12 hBa hBC hBB t3 t3' t4 hl
  go_wp2
  go_ret
  exact ⟨rfl, HBW.out⟩
end Go.Proofs.YthjkjanibkpgiaaDoor
