/- Beside: ways that share no node, and a cut of as many nodes. -/
import Derived.Test.YtkakmaalmhofmaaBesideMN
import Derived.Test.YtkakmaalmhofmaaHasP
import Derived.Test.YtkakmaalmhofmaaApartC
import Derived.Lib.MinMax
namespace Go.Proofs.Ytkakmaalmhofmaa
open Go.RowKit Go.Maps
attribute [local go_sem ↓] Go.wp_at_zero Go.wp_at_succ

theorem gates_le {N s t : Nat} {es : List Pair} : (gatesL N s t es).length ≤ 2 * es.length + N := by
  rw [gates_len]
  have : (vlG s t N).length ≤ N := Nat.le_trans (List.length_filter_le _ _) (by simp)
  omega
theorem rsG_ok {N s t : Nat} {es : List Pair} (hN : N ≤ 1000000) : Ok (2 * (gatesL N s t es).length) (fun p => (rsG (gatesL N s t es)).getD p 0) := fun p hp => by
  have hb : ∀ a, a < (gatesL N s t es).length → 0 ≤ (pip (gatesL N s t es) a).2.2 ∧ (pip (gatesL N s t es) a).2.2 ≤ 1000000 := fun a ha => by
    by_cases h : a < 2 * es.length
    · rw [pip_edge h]; simp; omega
    · rw [gates_len] at ha
      obtain ⟨i, rfl⟩ : ∃ i, a = 2 * es.length + i := ⟨a - 2 * es.length, by omega⟩
      rw [pip_gate (by omega)]; simp
  obtain ⟨a, rfl | rfl⟩ : ∃ a, p = 2 * a ∨ p = 2 * a + 1 := ⟨p / 2, by omega⟩
  · have ha : a < (gatesL N s t es).length := by omega
    have h1 := hb a ha
    rw [tw_even]
    show 0 ≤ (rsG (gatesL N s t es)).getD (2 * a) 0 ∧ (rsG (gatesL N s t es)).getD (2 * a) 0 + (rsG (gatesL N s t es)).getD (2 * a + 1) 0 ≤ 4000000
    rw [(rsG_get ha).1, (rsG_get ha).2]
    omega
  · have ha : a < (gatesL N s t es).length := by omega
    have h1 := hb a ha
    rw [tw_odd]
    show 0 ≤ (rsG (gatesL N s t es)).getD (2 * a + 1) 0 ∧ (rsG (gatesL N s t es)).getD (2 * a + 1) 0 + (rsG (gatesL N s t es)).getD (2 * a) 0 ≤ 4000000
    rw [(rsG_get ha).1, (rsG_get ha).2]
    omega
theorem no_edge {N s t : Nat} {fes : List Pair} (hg : ∀ e ∈ fes, 0 ≤ e.1 ∧ e.1 < (N : Int) ∧ 0 ≤ e.2 ∧ e.2 < (N : Int)) (hF : FormE N fes) (hno : decide ((min (s : Int) (t : Int), max (s : Int) (t : Int)) ∈ fes) = false) {k : Nat} (hk : k < fes.length) : ¬ (endA fes k = s ∧ endB fes k = t) ∧ ¬ (endA fes k = t ∧ endB fes k = s) := by
  have h1 := hg fes[k] (List.getElem_mem hk)
  have h2 := hF.lt k hk
  have hA : endA fes k = fes[k].1.toNat := by unfold endA; rw [getD_lt hk]
  have hB : endB fes k = fes[k].2.toNat := by unfold endB; rw [getD_lt hk]
  have h3 : (min (s : Int) (t : Int), max (s : Int) (t : Int)) ∉ fes := by simpa using hno
  have h4 : ∀ a b : Int, fes[k] = (a, b) → min (s : Int) (t : Int) = a → max (s : Int) (t : Int) = b → False := fun a b h5 h6 h7 => h3 (by rw [h6, h7, ← h5]; exact List.getElem_mem hk)
  have h5 := h4 fes[k].1 fes[k].2 rfl
  constructor
  · rintro ⟨r1, r2⟩
    exact h5 (by omega) (by omega)
  · rintro ⟨r1, r2⟩
    exact h5 (by omega) (by omega)
set_option maxRecDepth 4000 in
set_option maxHeartbeats 2000000 in
theorem beside_has {N s t : Nat} {v : Value} {es : List Pair} {w : World} (hE : EdgesAt w v es) {fes : List Pair} (ho : openS (N : Int) es (s : Int) (t : Int) = ⟨N, fes, 0, 0⟩) (hN : N ≤ 100) (hl : fes.length ≤ 1000) (hs : s < N) (ht : t < N) (hno : decide ((min (s : Int) (t : Int), max (s : Int) (t : Int)) ∈ fes) = true) :
    Calls Try.prog 23 #[.agg #[.int .i64 (N : Int), v], .int .i64 (s : Int), .int .i64 (t : Int)] w fun r w' => r = .returned (.tuple #[.slice none 0 0, .slice none 0 0, .agg #[.int .i64 8, .int .i64 0]]) ∧ Below w.heap.size w w' := by
  obtain ⟨eo, ec, rfl⟩ := hE.form
  have h34 : ∀ W, Below w.heap.size w W → Calls Try.prog 34 #[.agg #[.int .i64 (N : Int), .slice eo es.length ec], .int .i64 (s : Int), .int .i64 (t : Int)] W fun e w' => Below W.heap.size W w' ∧ ∃ ao cap, e = .returned (.tuple #[.agg #[.int .i64 (N : Int), .slice ao fes.length cap], .agg #[.int .i64 0, .int .i64 0]]) ∧ EdgesAt w' (.slice ao fes.length cap) fes ∧ ∀ x, ao = some x → W.heap.size ≤ x.block := fun W hW => by
    have := openForm_call N s t (.slice eo es.length ec) es W (hE.below hW)
    rw [ho] at this
    exact this
  have H34 : Hid (∀ W, Below w.heap.size w W → Calls Try.prog 34 #[.agg #[.int .i64 (N : Int), .slice eo es.length ec], .int .i64 (s : Int), .int .i64 (t : Int)] W fun e w' => Below W.heap.size W w' ∧ ∃ ao cap, e = .returned (.tuple #[.agg #[.int .i64 (N : Int), .slice ao fes.length cap], .agg #[.int .i64 0, .int .i64 0]]) ∧ EdgesAt w' (.slice ao fes.length cap) fes ∧ ∀ x, ao = some x → W.heap.size ≤ x.block) := h34
  clear h34 hE ho
  go_enter Try.func23, Try.ntmps23
  go_upto_region 1 with (fail)
  have t3 : Two ((w.alloc (Obj.cells #[.int .i64 (N : Int), .slice eo es.length ec] 40)).alloc (Obj.cells #[.int .i64 0, .int .i64 0] 26)) w.heap.size (.int .i64 (N : Int)) (.slice eo es.length ec) 40 := two_alloc (two_new w _ _ 40) _
  have t8 := two_nxt w (Obj.cells #[.int .i64 (N : Int), .slice eo es.length ec] 40) (.int .i64 0) (.int .i64 0) 26
  have hB0 := below2 (w := w) (Obj.cells #[.int .i64 (N : Int), .slice eo es.length ec] 40) (Obj.cells #[.int .i64 0, .int .i64 0] 26)
  generalize (w.alloc (Obj.cells #[.int .i64 (N : Int), .slice eo es.length ec] 40)).alloc (Obj.cells #[.int .i64 0, .int .i64 0] 26) = W0 at t3 t8 hB0 ⊢
  obtain ⟨b8, hb8⟩ : ∃ b, b = w.heap.size + 1 := ⟨_, rfl⟩
  rw [← hb8] at t8 ⊢
  have hb8w : w.heap.size < b8 := by omega
  clear hb8
  obtain ⟨q0, q1⟩ := cell_two t3
  have F8 : Hid (∀ W, Below W0.heap.size W0 W → Two W b8 (.int .i64 0) (.int .i64 0) 26) := fun W h => two_next t8 h
  go_upto_region 2 with (first | (go_at_call 34; refine (H34.out _ hB0).mono ?_; rintro e W1 ⟨hb1, fo, fc, rfl, hE1, hfo⟩; have t9 := two_new W1 (.int .i64 (N : Int)) (.slice fo fes.length fc) 40; have y8 := F8.out _ (below_alloc hb1 (Obj.cells #[.int .i64 (N : Int), .slice fo fes.length fc] 40)); have g8 := free_two y8; obtain ⟨z8, z81⟩ := cell_two y8) | go_in)
  have hBa := below_alloc hb1 (Obj.cells #[.int .i64 (N : Int), .slice fo fes.length fc] 40)
  have hb8W : b8 < W0.heap.size := lt_of_block t8
  have hb1s := hb1.size
  obtain ⟨b9, hb9⟩ : ∃ b, b = W1.heap.size := ⟨_, rfl⟩
  rw [← hb9] at t9 ⊢
  have hn89 : b9 ≠ b8 := by omega
  have y9 : Two (((W1.alloc (Obj.cells #[.int .i64 (N : Int), .slice fo fes.length fc] 40)).setCell ⟨b8, 0, none⟩ (.int .i64 0)).setCell ⟨b8, 1, none⟩ (.int .i64 0)) b9 (.int .i64 (N : Int)) (.slice fo fes.length fc) 40 := two_far (two_far t9 hn89) hn89
  have x8 : Two (((W1.alloc (Obj.cells #[.int .i64 (N : Int), .slice fo fes.length fc] 40)).setCell ⟨b8, 0, none⟩ (.int .i64 0)).setCell ⟨b8, 1, none⟩ (.int .i64 0)) b8 (.int .i64 0) (.int .i64 0) 26 := two_setN y8
  have hE2 : EdgesAt (((W1.alloc (Obj.cells #[.int .i64 (N : Int), .slice fo fes.length fc] 40)).setCell ⟨b8, 0, none⟩ (.int .i64 0)).setCell ⟨b8, 1, none⟩ (.int .i64 0)) (.slice fo fes.length fc) fes := by
    refine EdgesAt.setCell (EdgesAt.setCell (hE1.below (below_alloc (Below.refl _ W1) _)) (fun x hx => ?_) _) (fun x hx => ?_) _
    · have := hfo x hx; show x.block ≠ b8; omega
    · have := hfo x hx; show x.block ≠ b8; omega
  have hB2 : Below w.heap.size w (((W1.alloc (Obj.cells #[.int .i64 (N : Int), .slice fo fes.length fc] 40)).setCell ⟨b8, 0, none⟩ (.int .i64 0)).setCell ⟨b8, 1, none⟩ (.int .i64 0)) := ((below_next hB0 hBa).setCell (p := ⟨b8, 0, none⟩) (by show w.heap.size ≤ b8; omega) _).setCell (p := ⟨b8, 1, none⟩) (by show w.heap.size ≤ b8; omega) _
  generalize (((W1.alloc (Obj.cells #[.int .i64 (N : Int), .slice fo fes.length fc] 40)).setCell ⟨b8, 0, none⟩ (.int .i64 0)).setCell ⟨b8, 1, none⟩ (.int .i64 0)) = W2 at y9 x8 hE2 hB2 ⊢
  clear t3 t8 hB0 q0 q1 F8 hb1 hE1 hfo t9 y8 g8 z8 z81 hBa hb8W hb1s hb9 H34
  obtain ⟨z0, z1⟩ := cell_two y9
  obtain ⟨z8, z81⟩ := cell_two x8
  obtain ⟨mn, hmn⟩ : ∃ mn, mn = min (s : Int) (t : Int) := ⟨_, rfl⟩
  obtain ⟨mx, hmx⟩ : ∃ mx, mx = max (s : Int) (t : Int) := ⟨_, rfl⟩
  have h42 := containsP_call hE2 hl (x := mn) (y := mx) ⟨by omega, by omega⟩ ⟨by omega, by omega⟩
  rw [hmn, hmx, hno] at h42
  have HE2 : Hid (EdgesAt W2 (.slice fo fes.length fc) fes) := hE2
  have H42 : Hid (Calls Try.prog 42 #[.slice fo fes.length fc, .agg #[.int .i64 (min (s : Int) (t : Int)), .int .i64 (max (s : Int) (t : Int))]] W2 fun e w' => e = .returned (.bool true) ∧ Below W2.heap.size W2 w') := h42
  clear h42 hE2 hmn hmx hno
  go_upto_region 5 with (first | (go_at_call 42; refine Calls.mono H42.out ?_; rintro e W3 ⟨rfl, hb3⟩) | go_in)
  have y8 := two_next x8 hb3
  have f8 := free_two y8
  have hB3 := below_next hB2 hb3
  clear z0 z1 z8 z81 H42
  obtain ⟨z8, z81⟩ := cell_two y8
  go_wp2
  have x9 := two_setN (x' := .int .i64 8) (y' := .int .i64 0) y8
  have hB4 := (hB3.setCell (p := ⟨b8, 0, none⟩) (by show w.heap.size ≤ b8; omega) (.int .i64 8)).setCell (p := ⟨b8, 1, none⟩) (by show w.heap.size ≤ b8; omega) (.int .i64 0)
  generalize ((W3.setCell ⟨b8, 0, none⟩ (.int .i64 8)).setCell ⟨b8, 1, none⟩ (.int .i64 0)) = W4 at x9 hB4 ⊢
  obtain ⟨n8, n81⟩ := cell_two x9
  refine bodyPost_ret (v := .tuple #[.slice none 0 0, .slice none 0 0, .agg #[.int .i64 8, .int .i64 0]]) ?_ rfl ⟨rfl, hB4⟩
  simp [results, Try.results23, go_sem, n8, n81]
/-- What Beside answers. -/
def BesideIs (N s t : Nat) (fes : List Pair) (B : Nat) (w' : World) (wv cv : Value) : Prop :=
  ∃ (ls : List (List Nat)) (e e' : Nat → Nat → Bool) (F : Nat → Int), ListsAt w' B wv ls ∧ Ways N s t e e' ls ∧ (∀ a b v, v ≠ t → e a v = true → e b v = true → a = b) ∧ (∀ a b, e a b = true → ∃ j, j < 2 * fes.length ∧ a = oaE fes j ∧ b = obE fes j) ∧
    w'.ownsRow B 3 1 cv (listN N (cutN F)).length (qv (listN N (cutN F))) ∧ ls.length = (listN N (cutN F)).length ∧ F (2 * s + 1) = 0 ∧ F (2 * t) = -1 ∧ ∀ j, j < 2 * fes.length → F (2 * oaE fes j + 1) ≠ -1 → F (2 * obE fes j) ≠ -1

set_option maxRecDepth 4000 in
set_option maxHeartbeats 2000000 in
theorem beside_ok {N s t : Nat} {v : Value} {es : List Pair} {w : World} (hE : EdgesAt w v es) {fes : List Pair} {p : Int → Int → Bool} (hfes : fes = allP N p) (ho : openS (N : Int) es (s : Int) (t : Int) = ⟨N, fes, 0, 0⟩) (hN : N ≤ 100) (hl : fes.length ≤ 1000) (hs : s < N) (ht : t < N) (hst : s ≠ t) (hno : decide ((min (s : Int) (t : Int), max (s : Int) (t : Int)) ∈ fes) = false) :
    Calls Try.prog 23 #[.agg #[.int .i64 (N : Int), v], .int .i64 (s : Int), .int .i64 (t : Int)] w fun r w' => ∃ wv cv, r = .returned (.tuple #[wv, cv, .agg #[.int .i64 0, .int .i64 0]]) ∧ BesideIs N s t fes w.heap.size w' wv cv ∧ Below w.heap.size w w' := by
  have hF : FormE N fes := by rw [hfes]; exact form_allP N p
  have hg : ∀ e ∈ fes, 0 ≤ e.1 ∧ e.1 < N ∧ 0 ≤ e.2 ∧ e.2 < N := fun e he => by
    rw [hfes] at he
    obtain ⟨u, v, h1, h2, _, rfl⟩ := allP_mem.1 he
    simp; omega
  have HF : Hid (FormE N fes) := hF
  have HG : Hid (∀ e ∈ fes, 0 ≤ e.1 ∧ e.1 < N ∧ 0 ≤ e.2 ∧ e.2 < N) := hg
  have HNO : Hid (∀ k, k < fes.length → ¬ (endA fes k = s ∧ endB fes k = t) ∧ ¬ (endA fes k = t ∧ endB fes k = s)) := fun k hk => no_edge hg hF hno hk
  clear hF hg hfes
  obtain ⟨eo, ec, rfl⟩ := hE.form
  have h34 : ∀ W, Below w.heap.size w W → Calls Try.prog 34 #[.agg #[.int .i64 (N : Int), .slice eo es.length ec], .int .i64 (s : Int), .int .i64 (t : Int)] W fun e w' => Below W.heap.size W w' ∧ ∃ ao cap, e = .returned (.tuple #[.agg #[.int .i64 (N : Int), .slice ao fes.length cap], .agg #[.int .i64 0, .int .i64 0]]) ∧ EdgesAt w' (.slice ao fes.length cap) fes ∧ ∀ x, ao = some x → W.heap.size ≤ x.block := fun W hW => by
    have := openForm_call N s t (.slice eo es.length ec) es W (hE.below hW)
    rw [ho] at this
    exact this
  have H34 : Hid (∀ W, Below w.heap.size w W → Calls Try.prog 34 #[.agg #[.int .i64 (N : Int), .slice eo es.length ec], .int .i64 (s : Int), .int .i64 (t : Int)] W fun e w' => Below W.heap.size W w' ∧ ∃ ao cap, e = .returned (.tuple #[.agg #[.int .i64 (N : Int), .slice ao fes.length cap], .agg #[.int .i64 0, .int .i64 0]]) ∧ EdgesAt w' (.slice ao fes.length cap) fes ∧ ∀ x, ao = some x → W.heap.size ≤ x.block) := h34
  clear h34 hE ho
  go_enter Try.func23, Try.ntmps23
  go_upto_region 1 with (fail)
  have t3 : Two ((w.alloc (Obj.cells #[.int .i64 (N : Int), .slice eo es.length ec] 40)).alloc (Obj.cells #[.int .i64 0, .int .i64 0] 26)) w.heap.size (.int .i64 (N : Int)) (.slice eo es.length ec) 40 := two_alloc (two_new w _ _ 40) _
  have t8 := two_nxt w (Obj.cells #[.int .i64 (N : Int), .slice eo es.length ec] 40) (.int .i64 0) (.int .i64 0) 26
  have hB0 := below2 (w := w) (Obj.cells #[.int .i64 (N : Int), .slice eo es.length ec] 40) (Obj.cells #[.int .i64 0, .int .i64 0] 26)
  generalize (w.alloc (Obj.cells #[.int .i64 (N : Int), .slice eo es.length ec] 40)).alloc (Obj.cells #[.int .i64 0, .int .i64 0] 26) = W0 at t3 t8 hB0 ⊢
  obtain ⟨b8, hb8⟩ : ∃ b, b = w.heap.size + 1 := ⟨_, rfl⟩
  rw [← hb8] at t8 ⊢
  have hb8w : w.heap.size < b8 := by omega
  clear hb8
  obtain ⟨q0, q1⟩ := cell_two t3
  have F8 : Hid (∀ W, Below W0.heap.size W0 W → Two W b8 (.int .i64 0) (.int .i64 0) 26) := fun W h => two_next t8 h
  go_upto_region 2 with (first | (go_at_call 34; refine (H34.out _ hB0).mono ?_; rintro e W1 ⟨hb1, fo, fc, rfl, hE1, hfo⟩; have t9 := two_new W1 (.int .i64 (N : Int)) (.slice fo fes.length fc) 40; have y8 := F8.out _ (below_alloc hb1 (Obj.cells #[.int .i64 (N : Int), .slice fo fes.length fc] 40)); have g8 := free_two y8; obtain ⟨z8, z81⟩ := cell_two y8) | go_in)
  have hBa := below_alloc hb1 (Obj.cells #[.int .i64 (N : Int), .slice fo fes.length fc] 40)
  have hb8W : b8 < W0.heap.size := lt_of_block t8
  have hb1s := hb1.size
  obtain ⟨b9, hb9⟩ : ∃ b, b = W1.heap.size := ⟨_, rfl⟩
  rw [← hb9] at t9 ⊢
  have hn89 : b9 ≠ b8 := by omega
  have y9 : Two (((W1.alloc (Obj.cells #[.int .i64 (N : Int), .slice fo fes.length fc] 40)).setCell ⟨b8, 0, none⟩ (.int .i64 0)).setCell ⟨b8, 1, none⟩ (.int .i64 0)) b9 (.int .i64 (N : Int)) (.slice fo fes.length fc) 40 := two_far (two_far t9 hn89) hn89
  have x8 : Two (((W1.alloc (Obj.cells #[.int .i64 (N : Int), .slice fo fes.length fc] 40)).setCell ⟨b8, 0, none⟩ (.int .i64 0)).setCell ⟨b8, 1, none⟩ (.int .i64 0)) b8 (.int .i64 0) (.int .i64 0) 26 := two_setN y8
  have hE2 : EdgesAt (((W1.alloc (Obj.cells #[.int .i64 (N : Int), .slice fo fes.length fc] 40)).setCell ⟨b8, 0, none⟩ (.int .i64 0)).setCell ⟨b8, 1, none⟩ (.int .i64 0)) (.slice fo fes.length fc) fes := by
    refine EdgesAt.setCell (EdgesAt.setCell (hE1.below (below_alloc (Below.refl _ W1) _)) (fun x hx => ?_) _) (fun x hx => ?_) _
    · have := hfo x hx; show x.block ≠ b8; omega
    · have := hfo x hx; show x.block ≠ b8; omega
  have hB2 : Below w.heap.size w (((W1.alloc (Obj.cells #[.int .i64 (N : Int), .slice fo fes.length fc] 40)).setCell ⟨b8, 0, none⟩ (.int .i64 0)).setCell ⟨b8, 1, none⟩ (.int .i64 0)) := ((below_next hB0 hBa).setCell (p := ⟨b8, 0, none⟩) (by show w.heap.size ≤ b8; omega) _).setCell (p := ⟨b8, 1, none⟩) (by show w.heap.size ≤ b8; omega) _
  generalize (((W1.alloc (Obj.cells #[.int .i64 (N : Int), .slice fo fes.length fc] 40)).setCell ⟨b8, 0, none⟩ (.int .i64 0)).setCell ⟨b8, 1, none⟩ (.int .i64 0)) = W2 at y9 x8 hE2 hB2 ⊢
  clear t3 t8 hB0 q0 q1 F8 hb1 hE1 hfo t9 y8 g8 z8 z81 hBa hb8W hb1s hb9 H34
  obtain ⟨z0, z1⟩ := cell_two y9
  obtain ⟨z8, z81⟩ := cell_two x8
  obtain ⟨mn, hmn⟩ : ∃ mn, mn = min (s : Int) (t : Int) := ⟨_, rfl⟩
  obtain ⟨mx, hmx⟩ : ∃ mx, mx = max (s : Int) (t : Int) := ⟨_, rfl⟩
  have h42 := containsP_call hE2 hl (x := mn) (y := mx) ⟨by omega, by omega⟩ ⟨by omega, by omega⟩
  rw [hmn, hmx, hno] at h42
  have HE2 : Hid (EdgesAt W2 (.slice fo fes.length fc) fes) := hE2
  have H42 : Hid (Calls Try.prog 42 #[.slice fo fes.length fc, .agg #[.int .i64 (min (s : Int) (t : Int)), .int .i64 (max (s : Int) (t : Int))]] W2 fun e w' => e = .returned (.bool false) ∧ Below W2.heap.size W2 w') := h42
  clear h42 hE2 hmn hmx hno
  go_upto_region 6 with (first | (go_at_call 42; refine Calls.mono H42.out ?_; rintro e W3 ⟨rfl, hb3⟩) | go_in)
  have y9b := two_next y9 hb3
  have x8b := two_next x8 hb3
  have hE3 := EdgesAt.below HE2.out hb3
  have hB3 := below_next hB2 hb3
  have HE3 : Hid (EdgesAt W3 (.slice fo fes.length fc) fes) := hE3
  have h43 := gatesOf_call (s := s) (t := t) hE3 hN hl HG.out
  have H43 : Hid (Calls Try.prog 43 #[.agg #[.int .i64 (N : Int), .slice fo fes.length fc], .int .i64 (s : Int), .int .i64 (t : Int)] W3 fun r w' => ∃ bp, r = .returned (ptr bp) ∧ Below W3.heap.size W3 w' ∧ ∃ c : Pp, c.bp = bp ∧ c.N = 2 * N ∧ c.M = 2 * (gatesL N s t fes).length ∧ c.T = (fun p => (tsG (gatesL N s t fes)).getD p 0) ∧ PS c w' (fun p => (rsG (gatesL N s t fes)).getD p 0) ∧ Net c.N c.M c.T c.ls ∧ c.ub ≤ w'.heap.size ∧ c.br < w'.heap.size ∧ W3.heap.size ≤ c.br) := h43
  clear z0 z1 z8 z81 y9 x8 hB2 HE2 H42 hb3 hE3 h43 mn mx
  obtain ⟨z0, z1⟩ := cell_two y9b
  go_upto_region 7 with (first | (go_at_call 43; refine Calls.mono H43.out ?_; rintro r W4 ⟨_, rfl, hb4, c, rfl, hcN, hcM, hcT, hps, hnet, hub, hbr, hbrW⟩) | go_in)
  have hok := rsG_ok (N := N) (s := s) (t := t) (es := fes) (by omega)
  rw [← hcM] at hok
  have h32 := fill_call (s := 2 * s + 1) (t := 2 * t) hnet (by omega) (by omega) (by omega) (by omega) hps hub hok hbr
  simp only [hcN, hcM, hcT] at h32
  have hcM2 : c.M ≤ 10000 := by rw [hcM]; have := gates_le (N := N) (s := s) (t := t) (es := fes); omega
  have hlt := hnet.lt
  rw [hcN, hcM, hcT] at hlt
  have HLT : Hid (∀ p, p < 2 * (gatesL N s t fes).length → (tsG (gatesL N s t fes)).getD p 0 < 2 * N) := hlt
  obtain ⟨ls, hls⟩ : ∃ s1, s1 = 2 * s + 1 := ⟨_, rfl⟩
  obtain ⟨et, het⟩ : ∃ t1, t1 = 2 * t := ⟨_, rfl⟩
  have l1 := leaves_call (v := s) (by omega)
  have e1 := enters_call (v := t) (by omega)
  rw [← hls] at h32 l1
  rw [← het] at h32 e1
  have L1 : Hid (∀ w : World, Calls Try.prog 44 #[.int .i64 (s : Int)] w fun e w' => e = .returned (.int .i64 (ls : Int)) ∧ w' = w) := l1
  have E1 : Hid (∀ w : World, Calls Try.prog 45 #[.int .i64 (t : Int)] w fun e w' => e = .returned (.int .i64 (et : Int)) ∧ w' = w) := e1
  have H32 : Hid (Calls Try.prog 32 #[ptr c.bp, .int .i64 (ls : Int), .int .i64 (et : Int)] W4 fun r w' => ∃ x bf, r = .returned (.tuple #[.int .i64 x, sl bf (2 * N)]) ∧ 0 ≤ x ∧ W4.heap.size ≤ bf ∧ ∃ R', Mv (2 * (gatesL N s t fes).length) (fun p => (tsG (gatesL N s t fes)).getD p 0) et ls x (fun p => (rsG (gatesL N s t fes)).getD p 0) R' ∧ PS c w' R' ∧ ∃ F, RowV w' bf 3 (2 * N) (fun v => .int .i64 (F v)) ∧ Far (2 * N) (2 * (gatesL N s t fes).length) (fun p => (tsG (gatesL N s t fes)).getD p 0) R' ls F ∧ F et = -1 ∧ Turns (fun k => k = c.br) W4 w') := h32
  have HNT : Hid (Net (2 * N) (2 * (gatesL N s t fes).length) c.T c.ls) := by rw [← hcN, ← hcM]; exact hnet
  have HCT : Hid (c.T = (fun p => (tsG (gatesL N s t fes)).getD p 0)) := hcT
  have HNT2 : Hid (Net c.N c.M c.T c.ls) := hnet
  have HCN : Hid (c.N = 2 * N) := hcN
  have HLS : Hid (ls = 2 * s + 1 ∧ et = 2 * t) := ⟨hls, het⟩
  clear h32 hok hnet hps hub hbr hcT hcN hcM H43 z0 z1 l1 e1 hls het hlt
  obtain ⟨n2, hn2⟩ : ∃ n2, n2 = 2 * N := ⟨_, rfl⟩
  have HN2 : Hid (n2 = 2 * N) := hn2
  rw [← hn2] at H32
  clear hn2
  go_upto_region 8 with (first
    | (go_at_call 44; refine (L1.out _).mono ?_; rintro r w2 ⟨rfl, hw2⟩; rw [hw2]; clear hw2)
    | (go_at_call 45; refine (E1.out _).mono ?_; rintro r w2 ⟨rfl, hw2⟩; rw [hw2]; clear hw2)
    | (go_at_call 32; refine Calls.mono H32.out ?_; rintro r Wf ⟨x, bf, rfl, hx0, hbf, R', hmv, hps, F, hrf, hfar, hFt, htu⟩) | go_in)
  have hBf : Below W3.heap.size W3 Wf := htu.below hb4 hb4.size (fun k hk => by rw [hk]; exact hbrW)
  have hls := HLS.out
  rw [hls.1, hls.2] at hmv
  rw [hls.1] at hfar
  rw [hls.2] at hFt
  clear hls
  have hn2 := HN2.out
  rw [hn2] at hfar
  clear hn2
  have hG := gated HF.out HNO.out hmv
  have hbal := hG.bal
  obtain ⟨hxc, hclo⟩ := beside_cut hs ht hst hmv hG hfar HLT.out hFt
  obtain ⟨X, hX⟩ : ∃ X, X = (listN N (cutN F)).length := ⟨_, rfl⟩
  rw [← hX] at hxc
  subst hxc
  have hX1 : X ≤ 100 := by
    rw [hX]
    exact Nat.le_trans (List.length_filter_le _ _) (by simp; omega)
  have HPS : Hid (PS c Wf R') := hps
  have HRF : Hid (RowV Wf bf 3 n2 (fun v => .int .i64 (F v))) := hrf
  have HBAL : Hid (Bal (stepO (oaE fes) (obE fes) (fun j => R' (2 * j + 1)) (2 * fes.length)) N s t (X : Int) s) := hbal
  have HONE : Hid (∀ a b v, v ≠ t → stepO (oaE fes) (obE fes) (fun j => R' (2 * j + 1)) (2 * fes.length) a v = true → stepO (oaE fes) (obE fes) (fun j => R' (2 * j + 1)) (2 * fes.length) b v = true → a = b) := fun a b v hv h1 h2 => hG.only hv h1 h2
  have HX : Hid (X = (listN N (cutN F)).length) := hX
  have HFS : Hid (F (2 * s + 1) = 0 ∧ F (2 * t) = -1) := ⟨hfar.src, hFt⟩
  have HCLO : Hid (∀ j, j < 2 * fes.length → F (2 * oaE fes j + 1) ≠ -1 → F (2 * obE fes j) ≠ -1) := hclo
  have y9f := two_next y9b hBf
  have x8f := two_next x8b hBf
  have hBw := below_next hB3 hBf
  have hb8f : b8 < Wf.heap.size := lt_of_block x8f
  clear hmv hps hrf hfar hFt htu hG hbal hclo hX y9b x8b hB3 hBf hb4 HE3 H32 hbf hbrW HLT L1 E1 HLS
  obtain ⟨z0, z1⟩ := cell_two y9f
  go_wp2
  clear z0 z1
  go_loopw [7, 51] (fun cv i wr => ∃ (k : Nat) (po : Option Addr) (pc : Nat), i = .int .i64 (k : Int) ∧ k ≤ N ∧ cv = .slice po (listN k (cutN F)).length pc ∧ wr.ownsRow Wf.heap.size 3 1 (.slice po (listN k (cutN F)).length pc) (listN k (cutN F)).length (qv (listN k (cutN F))) ∧ Below Wf.heap.size Wf wr) (fun _ i _ => N - (numOf i).toNat)
  case atStart => exact ⟨0, none, 0, rfl, Nat.zero_le _, rfl, by simpa [listN, qv] using World.ownsRow_nil _ _ _ _, Below.refl _ _⟩
  case round =>
    obtain ⟨k, po, pc, rfl, hk, rfl, hown, hB⟩ := hrel
    have HOWN : Hid (wr.ownsRow Wf.heap.size 3 1 (.slice po (listN k (cutN F)).length pc) (listN k (cutN F)).length (qv (listN k (cutN F)))) := hown
    clear hown
    by_cases hlt : k < N
    · have i2 : (k : Int) < (N : Int) := by omega
      have hle : (listN k (cutN F)).length ≤ k := Nat.le_trans (List.length_filter_le _ _) (by simp)
      have hrf := RowV.block HRF.out (hB.block _ (RowV.lt HRF.out))
      have l1 := leaves_call (v := k) (by omega)
      have e1 := enters_call (v := k) (by omega)
      have hn2' := HN2.out
      have c1 := hrf.cell (show 2 * k < n2 by omega)
      have c2 := hrf.cell (show 2 * k + 1 < n2 by omega)
      have hcn : cutN F k = (decide (F (2 * k) ≠ -1) && decide (F (2 * k + 1) = -1)) := rfl
      have hsu := listN_succ k (cutN F)
      obtain ⟨lk, hlk⟩ : ∃ z, z = 2 * k + 1 := ⟨_, rfl⟩
      obtain ⟨ek, hek⟩ : ∃ z, z = 2 * k := ⟨_, rfl⟩
      rw [← hlk] at l1 c2 hcn
      rw [← hek] at e1 c1 hcn
      have j1 : (0 : Int) ≤ (lk : Int) := by omega
      have j2 : (lk : Int) < (n2 : Int) := by omega
      have j3 : (0 : Int) ≤ (ek : Int) := by omega
      have j4 : (ek : Int) < (n2 : Int) := by omega
      have L1 : Hid (∀ w : World, Calls Try.prog 44 #[.int .i64 (k : Int)] w fun e w' => e = .returned (.int .i64 (lk : Int)) ∧ w' = w) := l1
      have E1 : Hid (∀ w : World, Calls Try.prog 45 #[.int .i64 (k : Int)] w fun e w' => e = .returned (.int .i64 (ek : Int)) ∧ w' = w) := e1
      have HSU : Hid (listN (k + 1) (cutN F) = listN k (cutN F) ++ (if cutN F k = true then [k] else [])) := hsu
      have HCN2 : Hid (cutN F k = (decide (F ek ≠ -1) && decide (F lk = -1))) := hcn
      have hsz := hB.size
      clear hlk hek l1 e1 hcn hsu hrf hn2'
      by_cases h1 : F ek = -1
      · have k1 : (F ek != -1) = false := by simp [h1]
        have HO2 : Hid (wr.ownsRow Wf.heap.size 3 1 (.slice po (listN (k + 1) (cutN F)).length pc) (listN (k + 1) (cutN F)).length (qv (listN (k + 1) (cutN F)))) := by
          have e : listN (k + 1) (cutN F) = listN k (cutN F) := by rw [HSU.out, HCN2.out]; simp [h1]
          show wr.ownsRow _ _ _ _ _ _
          rw [e]; exact HOWN.out
        have hlen : (listN (k + 1) (cutN F)).length = (listN k (cutN F)).length := by rw [HSU.out, HCN2.out]; simp [h1]
        clear h1
        go_wp2_with (first
          | (go_at_call 44; refine (L1.out _).mono ?_; rintro r w2 ⟨rfl, hw2⟩; rw [hw2]; clear hw2)
          | (go_at_call 45; refine (E1.out _).mono ?_; rintro r w2 ⟨rfl, hw2⟩; rw [hw2]; clear hw2)
          | go_in)
        go_roundw
        case rel => exact ⟨k + 1, po, pc, by go_num, by omega, by rw [hlen], HO2.out, hB⟩
        case measure => simp [numOf]; omega
      · have k1 : (F ek != -1) = true := by simp [h1]
        by_cases h2 : F lk = -1
        · have k2 : (F lk == -1) = true := by simp [h2]
          have HSU2 : Hid (listN (k + 1) (cutN F) = listN k (cutN F) ++ [k]) := by show _ = _; rw [HSU.out, HCN2.out]; simp [h1, h2]
          have hlen : (listN (k + 1) (cutN F)).length = (listN k (cutN F)).length + 1 := by rw [HSU2.out]; simp
          clear h1 h2
          go_wp2_with (first
            | (go_at_call 44; refine (L1.out _).mono ?_; rintro r w2 ⟨rfl, hw2⟩; rw [hw2]; clear hw2)
            | (go_at_call 45; refine (E1.out _).mono ?_; rintro r w2 ⟨rfl, hw2⟩; rw [hw2]; clear hw2)
            | (at_builtin; refine wpList_pushA (x := k) rfl _ _ rfl rfl rfl HOWN.out (by omega) hsz ?_; intro g1 c1 w2 hown1 hgr1 hat1)
            | go_in)
          have hB2 := (hB.alloc hB.size (Obj.cells #[.int .i64 (k : Int)] 3)).grown hgr1 (by simp; omega) (fun b hb => (HOWN.out.lt b hb).1)
          rw [← HSU2.out] at hown1
          have HO2 : Hid (w2.ownsRow Wf.heap.size 3 1 (.slice (some ⟨g1, 0, none⟩) (listN (k + 1) (cutN F)).length c1) (listN (k + 1) (cutN F)).length (qv (listN (k + 1) (cutN F)))) := hown1
          clear hown1 hgr1 hat1
          go_roundw
          case rel => exact ⟨k + 1, some ⟨g1, 0, none⟩, c1, by go_num, by omega, by rw [hlen], HO2.out, hB2⟩
          case measure => simp [numOf]; omega
        · have k2 : (F lk == -1) = false := by simp [h2]
          have HO2 : Hid (wr.ownsRow Wf.heap.size 3 1 (.slice po (listN (k + 1) (cutN F)).length pc) (listN (k + 1) (cutN F)).length (qv (listN (k + 1) (cutN F)))) := by
            have e : listN (k + 1) (cutN F) = listN k (cutN F) := by rw [HSU.out, HCN2.out]; simp [h2]
            show wr.ownsRow _ _ _ _ _ _
            rw [e]; exact HOWN.out
          have hlen : (listN (k + 1) (cutN F)).length = (listN k (cutN F)).length := by rw [HSU.out, HCN2.out]; simp [h2]
          clear h1 h2
          go_wp2_with (first
            | (go_at_call 44; refine (L1.out _).mono ?_; rintro r w2 ⟨rfl, hw2⟩; rw [hw2]; clear hw2)
            | (go_at_call 45; refine (E1.out _).mono ?_; rintro r w2 ⟨rfl, hw2⟩; rw [hw2]; clear hw2)
            | go_in)
          go_roundw
          case rel => exact ⟨k + 1, po, pc, by go_num, by omega, by rw [hlen], HO2.out, hB⟩
          case measure => simp [numOf]; omega
    · have i2 : ¬ (k : Int) < (N : Int) := by omega
      have hke : k = N := by omega
      subst hke
      have y9w := two_next y9f hB
      obtain ⟨z0, z1⟩ := cell_two y9w
      have h46 := gateSteps_call (PS.below HPS.out hB) HNT2.out HCN.out hcM2 hN
      have H46 : Hid (Calls Try.prog 46 #[ptr c.bp, .int .i64 (k : Int)] wr fun r w' => ∃ ao, r = .returned (.slice ao k k) ∧ ∃ bl, NearsAt w' ao k bl (gateB c.ls c.T R') ∧ (∀ i, i < k → wr.heap.size ≤ bl i) ∧ Below wr.heap.size wr w') := h46
      have HST : Hid (∀ a b, a < k → gateB c.ls c.T R' a b = stepO (oaE fes) (obE fes) (fun j => R' (2 * j + 1)) (2 * fes.length) a b) := fun a b ha => gate_step HF.out HCT.out HNT.out ha
      clear h46
      go_wp2_with (first
        | (go_at_call 46; refine Calls.mono H46.out ?_; rintro r W5 ⟨ao, rfl, bl, hnr, hbl, hb5⟩; have HNR : Hid (NearsAt W5 ao k bl (stepO (oaE fes) (obE fes) (fun j => R' (2 * j + 1)) (2 * fes.length))) := NearsAt.congr hnr (fun i j hi _ => HST.out i j hi); have HBL : Hid (∀ i, i < k → wr.heap.size ≤ bl i) := hbl; clear hnr hbl)
        | (go_at_call 37; refine Calls.mono (unwind_call HNR.out hN hs (by omega) HBAL.out) ?_; rintro r W6 ⟨wv, rfl, ls, hlsl, hla, hwy, htu⟩; have HLA : Hid (ListsAt W6 W5.heap.size wv ls) := hla; have HWY : Hid (∃ e', Ways k s t (stepO (oaE fes) (obE fes) (fun j => R' (2 * j + 1)) (2 * fes.length)) e' ls) := hwy; have HTU : Hid (Turns (Marks k bl) W5 W6) := htu; have hb6 : Below wr.heap.size wr W6 := Turns.below hb5 htu hb5.size (fun k ⟨i, hi, hk⟩ => by rw [hk]; exact HBL.out i hi); have x8g := two_next x8f (below_next hB hb6); have g8 := free_two x8g; obtain ⟨m8, m81⟩ := cell_two x8g; clear hla hwy htu)
        | go_in)
      have x8h := two_setN (x' := .int .i64 0) (y' := .int .i64 0) x8g
      have hsz5 : Wf.heap.size ≤ W5.heap.size := Nat.le_trans hB.size hb5.size
      have hla2 := (((HLA.out.turns (setCell_turns W6 b8 0 (.int .i64 0)) (fun k hk => Or.inl (by omega))).turns (setCell_turns _ b8 1 (.int .i64 0)) (fun k hk => Or.inl (by omega)))).mono (b' := w.heap.size) (by have := hBw.size; omega)
      have hc6 : W6.ownsRow Wf.heap.size 3 1 (.slice po (listN k (cutN F)).length pc) (listN k (cutN F)).length (qv (listN k (cutN F))) := ownsRow_blocks HOWN.out (fun b hb => hb6.block b (HOWN.out.lt b hb).2)
      have hc7 := ownsRow_mono (ownsRow_setCell_below (a := ⟨b8, 1, none⟩) (ownsRow_setCell_below (a := ⟨b8, 0, none⟩) hc6 (by show b8 < Wf.heap.size; omega) (.int .i64 0)) (by show b8 < Wf.heap.size; omega) (.int .i64 0)) (b' := w.heap.size) hBw.size
      have hB9 := ((below_next hBw (below_next hB hb6)).setCell (p := ⟨b8, 0, none⟩) (by show w.heap.size ≤ b8; omega) (.int .i64 0)).setCell (p := ⟨b8, 1, none⟩) (by show w.heap.size ≤ b8; omega) (.int .i64 0)
      generalize ((W6.setCell ⟨b8, 0, none⟩ (.int .i64 0)).setCell ⟨b8, 1, none⟩ (.int .i64 0)) = W7 at x8h hla2 hc7 hB9 ⊢
      obtain ⟨n8, n81⟩ := cell_two x8h
      obtain ⟨e', hways⟩ := HWY.out
      refine bodyPost_ret (v := .tuple #[wv, .slice po (listN k (cutN F)).length pc, .agg #[.int .i64 0, .int .i64 0]]) ?_ rfl ⟨wv, _, rfl, ⟨ls, _, e', F, hla2, hways, HONE.out, fun a b h => ?_, hc7, by rw [hlsl]; exact HX.out, HFS.out.1, HFS.out.2, HCLO.out⟩, hB9⟩
      · simp [results, Try.results23, go_sem, n8, n81]
      · obtain ⟨j, hj, _, h2, h3⟩ := stepO_ex.1 h
        exact ⟨j, hj, h2, h3⟩
set_option maxRecDepth 4000 in
set_option maxHeartbeats 2000000 in
theorem beside_bad {n s t : Int} {v : Value} {es : List Pair} {w : World} (hE : EdgesAt w v es) {gn : Int} {gl : List Pair} {c d : Int} (ho : openS n es s t = ⟨gn, gl, c, d⟩) (hc : c ≠ 0) :
    Calls Try.prog 23 #[.agg #[.int .i64 n, v], .int .i64 s, .int .i64 t] w fun r w' => r = .returned (.tuple #[.slice none 0 0, .slice none 0 0, .agg #[.int .i64 c, .int .i64 d]]) ∧ Below w.heap.size w w' := by
  obtain ⟨eo, ec, rfl⟩ := hE.form
  have h34 : ∀ W, Below w.heap.size w W → Calls Try.prog 34 #[.agg #[.int .i64 n, .slice eo es.length ec], .int .i64 s, .int .i64 t] W fun e w' => Below W.heap.size W w' ∧ ∃ ao cap, e = .returned (.tuple #[.agg #[.int .i64 gn, .slice ao gl.length cap], .agg #[.int .i64 c, .int .i64 d]]) ∧ EdgesAt w' (.slice ao gl.length cap) gl ∧ ∀ x, ao = some x → W.heap.size ≤ x.block := fun W hW => by
    have := openForm_call n s t (.slice eo es.length ec) es W (hE.below hW)
    rw [ho] at this
    exact this
  have H34 : Hid (∀ W, Below w.heap.size w W → Calls Try.prog 34 #[.agg #[.int .i64 n, .slice eo es.length ec], .int .i64 s, .int .i64 t] W fun e w' => Below W.heap.size W w' ∧ ∃ ao cap, e = .returned (.tuple #[.agg #[.int .i64 gn, .slice ao gl.length cap], .agg #[.int .i64 c, .int .i64 d]]) ∧ EdgesAt w' (.slice ao gl.length cap) gl ∧ ∀ x, ao = some x → W.heap.size ≤ x.block) := h34
  have k1 : (c != 0) = true := by simp [hc]
  clear h34 hE ho hc
  go_enter Try.func23, Try.ntmps23
  go_upto_region 1 with (fail)
  have t3 : Two ((w.alloc (Obj.cells #[.int .i64 n, .slice eo es.length ec] 40)).alloc (Obj.cells #[.int .i64 0, .int .i64 0] 26)) w.heap.size (.int .i64 n) (.slice eo es.length ec) 40 := two_alloc (two_new w _ _ 40) _
  have t8 := two_nxt w (Obj.cells #[.int .i64 n, .slice eo es.length ec] 40) (.int .i64 0) (.int .i64 0) 26
  have hB0 := below2 (w := w) (Obj.cells #[.int .i64 n, .slice eo es.length ec] 40) (Obj.cells #[.int .i64 0, .int .i64 0] 26)
  generalize (w.alloc (Obj.cells #[.int .i64 n, .slice eo es.length ec] 40)).alloc (Obj.cells #[.int .i64 0, .int .i64 0] 26) = W0 at t3 t8 hB0 ⊢
  obtain ⟨b8, hb8⟩ : ∃ b, b = w.heap.size + 1 := ⟨_, rfl⟩
  rw [← hb8] at t8 ⊢
  have hb8w : w.heap.size < b8 := by omega
  clear hb8
  obtain ⟨q0, q1⟩ := cell_two t3
  have F8 : Hid (∀ W, Below W0.heap.size W0 W → Two W b8 (.int .i64 0) (.int .i64 0) 26) := fun W h => two_next t8 h
  go_upto_region 2 with (first | (go_at_call 34; refine (H34.out _ hB0).mono ?_; rintro e W1 ⟨hb1, fo, fc, rfl, hE1, hfo⟩; have y8 := F8.out _ (below_alloc hb1 (Obj.cells #[.int .i64 gn, .slice fo gl.length fc] 40)); have g8 := free_two y8; obtain ⟨z8, z81⟩ := cell_two y8) | go_in)
  have hBa := below_alloc hb1 (Obj.cells #[.int .i64 gn, .slice fo gl.length fc] 40)
  have x8 : Two (((W1.alloc (Obj.cells #[.int .i64 gn, .slice fo gl.length fc] 40)).setCell ⟨b8, 0, none⟩ (.int .i64 c)).setCell ⟨b8, 1, none⟩ (.int .i64 d)) b8 (.int .i64 c) (.int .i64 d) 26 := two_setN y8
  have hB2 : Below w.heap.size w (((W1.alloc (Obj.cells #[.int .i64 gn, .slice fo gl.length fc] 40)).setCell ⟨b8, 0, none⟩ (.int .i64 c)).setCell ⟨b8, 1, none⟩ (.int .i64 d)) := ((below_next hB0 hBa).setCell (p := ⟨b8, 0, none⟩) (by show w.heap.size ≤ b8; omega) _).setCell (p := ⟨b8, 1, none⟩) (by show w.heap.size ≤ b8; omega) _
  generalize (((W1.alloc (Obj.cells #[.int .i64 gn, .slice fo gl.length fc] 40)).setCell ⟨b8, 0, none⟩ (.int .i64 c)).setCell ⟨b8, 1, none⟩ (.int .i64 d)) = W2 at x8 hB2 ⊢
  clear t3 t8 hB0 q0 q1 F8 hb1 hE1 hfo y8 g8 z8 z81 hBa H34
  obtain ⟨z8, z81⟩ := cell_two x8
  have f8 := free_two x8
  go_upto_region 3 with (fail)
  go_region
  all_goals
    go_wp2
    have x9 := two_setN (x' := .int .i64 c) (y' := .int .i64 d) x8
    have hB3 := (hB2.setCell (p := ⟨b8, 0, none⟩) (by show w.heap.size ≤ b8; omega) (.int .i64 c)).setCell (p := ⟨b8, 1, none⟩) (by show w.heap.size ≤ b8; omega) (.int .i64 d)
    generalize ((W2.setCell ⟨b8, 0, none⟩ (.int .i64 c)).setCell ⟨b8, 1, none⟩ (.int .i64 d)) = W3 at x9 hB3 ⊢
    have z9 : Two W3.drew b8 (.int .i64 c) (.int .i64 d) 26 := x9
    obtain ⟨n8, n81⟩ := cell_two z9
    refine bodyPost_ret (v := .tuple #[.slice none 0 0, .slice none 0 0, .agg #[.int .i64 c, .int .i64 d]]) ?_ rfl ⟨rfl, hB3.drew⟩
    simp [results, Try.results23, go_sem, n8, n81]
theorem hasB_sym' (es : List Pair) (a b : Int) : hasB es a b = hasB es b a := by
  unfold hasB
  congr 1
  funext e
  exact Bool.or_comm _ _
/-- The law's fault. -/
def besideF (n : Int) (es : List Pair) (s t : Int) : Int × Int := if (chk n es).1 = 0 then (if (endsF n s t).1 = 0 then (if hasB es s t = true then (8, 0) else (0, 0)) else endsF n s t) else chk n es
theorem has_form {N s t : Nat} {es : List Pair} (hs : s < N) (ht : t < N) (hst : s ≠ t) : decide ((min (s : Int) (t : Int), max (s : Int) (t : Int)) ∈ allP N (hasB es)) = hasB es s t := by
  rw [Bool.eq_iff_iff, decide_eq_true_eq, allP_mem]
  constructor
  · rintro ⟨u, v, h1, h2, h3, h4⟩
    rw [Prod.mk.injEq] at h4
    by_cases h : s < t
    · have e1 : u = s := by omega
      have e2 : v = t := by omega
      rw [← e1, ← e2]; exact h3
    · have e1 : u = t := by omega
      have e2 : v = s := by omega
      rw [hasB_sym', ← e1, ← e2]; exact h3
  · intro h
    by_cases hlt : s < t
    · exact ⟨s, t, hlt, ht, h, by rw [Prod.mk.injEq]; omega⟩
    · exact ⟨t, s, by omega, hs, by rw [hasB_sym']; exact h, by rw [Prod.mk.injEq]; omega⟩
theorem beside_any (n s t : Int) (v : Value) (es : List Pair) (w : World) (hE : EdgesAt w v es) :
    Calls Try.prog 23 #[.agg #[.int .i64 n, v], .int .i64 s, .int .i64 t] w fun r w' => ∃ wv cv c d, r = .returned (.tuple #[wv, cv, .agg #[.int .i64 c, .int .i64 d]]) ∧ besideF n es s t = (c, d) ∧ ((c ≠ 0 ∧ wv = .slice none 0 0 ∧ cv = .slice none 0 0) ∨ (c = 0 ∧ d = 0 ∧ ∃ N u z : Nat, n = N ∧ s = u ∧ t = z ∧ N ≤ 100 ∧ es.length ≤ 1000 ∧ (∀ e ∈ es, (0 ≤ e.1 ∧ e.1 < N ∧ 0 ≤ e.2 ∧ e.2 < N) ∧ e.1 ≠ e.2) ∧ u < N ∧ z < N ∧ u ≠ z ∧ hasB es (u : Int) (z : Int) = false ∧ BesideIs N u z (allP N (hasB es)) w.heap.size w' wv cv)) ∧ Below w.heap.size w w' := by
  unfold besideF
  by_cases h1 : (chk n es).1 = 0
  · obtain ⟨hz, hn0, hn1, hl, hg⟩ := chk_good h1
    rw [if_pos h1]
    obtain ⟨N, rfl⟩ : ∃ N : Nat, n = N := ⟨n.toNat, by omega⟩
    have hfs := formS_good h1
    by_cases h2 : (endsF N s t).1 = 0
    · obtain ⟨he, h3, h4, h5, h6, h7⟩ := endsF_zero h2
      rw [if_pos h2]
      obtain ⟨u, rfl⟩ : ∃ u : Nat, s = u := ⟨s.toNat, by omega⟩
      obtain ⟨z, rfl⟩ : ∃ z : Nat, t = z := ⟨t.toNat, by omega⟩
      have ho : openS (N : Int) es (u : Int) (z : Int) = ⟨N, allP N (hasB es), 0, 0⟩ := by
        unfold openS
        rw [hfs]
        simp [he]
      have hhf := has_form (N := N) (s := u) (t := z) (es := es) (by omega) (by omega) (by omega)
      cases hh : hasB es (u : Int) (z : Int) with
      | true =>
        rw [hh] at hhf
        rw [if_pos rfl]
        refine (beside_has hE ho (by omega) (Nat.le_trans (allP_has_le N es) hl) (by omega) (by omega) hhf).mono ?_
        rintro r w' ⟨rfl, hb⟩
        exact ⟨_, _, _, _, rfl, rfl, Or.inl ⟨by omega, rfl, rfl⟩, hb⟩
      | false =>
        rw [hh] at hhf
        rw [if_neg (by simp)]
        refine (beside_ok hE rfl ho (by omega) (Nat.le_trans (allP_has_le N es) hl) (by omega) (by omega) (by omega) hhf).mono ?_
        rintro r w' ⟨wv, cv, rfl, ha, hb⟩
        exact ⟨wv, cv, 0, 0, rfl, rfl, Or.inr ⟨rfl, rfl, N, u, z, rfl, rfl, rfl, by omega, hl, hg, by omega, by omega, by omega, hh, ha⟩, hb⟩
    · rw [if_neg h2]
      have ho : openS (N : Int) es s t = ⟨0, [], (endsF N s t).1, (endsF N s t).2⟩ := by
        unfold openS
        rw [hfs]
        simp [h2]
      refine (beside_bad hE ho h2).mono ?_
      rintro r w' ⟨rfl, hb⟩
      exact ⟨_, _, _, _, rfl, rfl, Or.inl ⟨h2, rfl, rfl⟩, hb⟩
  · rw [if_neg h1]
    have ho : openS n es s t = ⟨0, [], (chk n es).1, (chk n es).2⟩ := by
      unfold openS formS
      simp [h1]
    refine (beside_bad hE ho h1).mono ?_
    rintro r w' ⟨rfl, hb⟩
    exact ⟨_, _, _, _, rfl, rfl, Or.inl ⟨h1, rfl, rfl⟩, hb⟩
end Go.Proofs.Ytkakmaalmhofmaa
