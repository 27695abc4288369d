/- polyBegun: an example of the document. -/
import Derived.Test.YtmeodnkmhakidaaDoorTutW
import Derived.Test.YtmeodnkmhakidaaDoorFullW
import Derived.Test.YtmeodnkmhakidaaDoorRowsP
namespace Go.Proofs.YtmeodnkmhakidaaDoor
set_option maxRecDepth 8000
open Go.RowKit Go.Maps
attribute [local go_sem ↓] Go.wp_at_zero Go.wp_at_succ
/-- A table of one's own, as rows of numbers. -/
theorem Tb.rows {w : World} {bt R C : Nat} {T : Nat → Nat → Int} (h : Tb w bt R C T) (hI : ∀ i j, i < R → j < C → I64 (T i j)) (hR : R ≤ 1000) (hC : C ≤ 1000) : RowsAt w (sl bt R) ((List.range R).map fun i => (List.range C).map fun j => T i j) := by
  refine ⟨some ⟨bt, 0, none⟩, R, by simp, by simp, by simp; omega, fun k hk => ?_⟩
  have hk' : k < R := by simpa using hk
  refine ⟨bt, 0, sl (bt + 1 + k) C, rfl, by rw [Nat.zero_add]; exact h.tab.cell hk', some ⟨bt + 1 + k, 0, none⟩, C, by simp, by simp; omega, fun z hz => ?_, fun j hj => ?_⟩
  · simp at hz
    obtain ⟨j, hj, rfl⟩ := hz
    exact hI k j hk' hj
  · have hj' : j < C := by simpa using hj
    refine ⟨bt + 1 + k, 0, rfl, ?_⟩
    rw [Nat.zero_add]
    have := (h.row k hk').cell hj'
    simpa using this
theorem tT_small {N w : Nat} {es : List E2} (h1 : ∀ B ∈ sub es, kf N B - w ≤ 13 ∧ kf N B + B.length - N ≤ 13) (hm : es.length ≤ 12) (i j : Nat) : I64 (tT N w es i j) := by
  have key : ∀ l : List (List E2), (∀ B ∈ l, kf N B - w ≤ 13 ∧ kf N B + B.length - N ≤ 13) → -(67108864 * (l.length : Int)) ≤ (l.map fun B => co (kf N B - w) i * co (kf N B + B.length - N) j).sum ∧ (l.map fun B => co (kf N B - w) i * co (kf N B + B.length - N) j).sum ≤ 67108864 * (l.length : Int) := fun l => by
    induction l with
    | nil => intro _; simp
    | cons B l ih =>
      intro h
      have h2 := ih (fun B hB => h B (by simp [hB]))
      have h3 := mul_small (co_small (h B (by simp)).1 i) (co_small (h B (by simp)).2 j)
      rw [List.map_cons, List.sum_cons, List.length_cons]
      omega
  have h := key (sub es) h1
  rw [sub_len] at h
  have : (2 : Nat) ^ es.length ≤ 2 ^ 12 := Nat.pow_le_pow_right (by decide) hm
  have h3 : ((2 ^ es.length : Nat) : Int) ≤ 4096 := by omega
  exact ⟨by show _ ≤ tT N w es i j; unfold tT; omega, by show tT N w es i j ≤ _; unfold tT; omega⟩
theorem tut_rows {w : World} {bt N : Nat} {es : List E2} (h : Tb w bt (N - kf N es + 1) (kf N es + es.length - N + 1) (tT N (kf N es) es)) (hes : ∀ e ∈ es, e.1 < N ∧ e.2 < N) (hm : es.length ≤ 12) (hN : N ≤ 100) : RowsAt w (sl bt (N - kf N es + 1)) ((List.range (N - kf N es + 1)).map fun i => (List.range (kf N es + es.length - N + 1)).map fun j => tT N (kf N es) es i j) := by
  have hk := kf_le hes
  refine h.rows (fun i j _ _ => tT_small (fun B hB => ?_) hm i j) (by have := hN; omega) (by omega)
  have h1 := kf_sub hes hB
  obtain ⟨C, _, h2⟩ := sub_rest hB
  have h3 := (kf_sub hes (sub_self es)).2.2.1
  omega
def e3 : List E2 := [(0, 1), (0, 2), (1, 2)]
theorem full3 : fullP 3 = pzT e3 := by decide +kernel
theorem k3 : kf 3 e3 = 1 := by decide +kernel
theorem t3 : ((List.range (3 - kf 3 e3 + 1)).map fun i => (List.range (kf 3 e3 + e3.length - 3 + 1)).map fun j => tT 3 (kf 3 e3) e3 i j) = [[0, 1], [1, 0], [1, 0]] := by decide +kernel
theorem chk3 : chkP 3 (fullP 3) (fullP 3).length = (0, 0) := by decide +kernel
theorem pzT_inj : ∀ {a b : List E2}, pzT a = pzT b → a = b
  | [], [], _ => rfl
  | [], y :: b, h => by cases h
  | x :: a, [], h => by cases h
  | x :: a, y :: b, h => by
    simp only [pzT, List.map_cons, List.cons.injEq, Prod.mk.injEq] at h
    have e : x = y := Prod.ext (by omega) (by omega)
    rw [pzT_inj (a := a) (b := b) h.2, e]
theorem lit_rows (W : World) : RowsAt ((((W.alloc (Obj.cells #[.int .i64 0, .int .i64 1] 3)).alloc (Obj.cells #[.int .i64 1, .int .i64 0] 3)).alloc (Obj.cells #[.int .i64 1, .int .i64 0] 3)).alloc (Obj.cells #[.slice (some ⟨W.heap.size, 0, none⟩) 2 2, .slice (some ⟨W.heap.size + 1, 0, none⟩) 2 2, .slice (some ⟨W.heap.size + 1 + 1, 0, none⟩) 2 2] 29)) (.slice (some ⟨W.heap.size + 1 + 1 + 1, 0, none⟩) 3 3) [[0, 1], [1, 0], [1, 0]] := by
  obtain ⟨A, hA⟩ : ∃ A, A = (((W.alloc (Obj.cells #[.int .i64 0, .int .i64 1] 3)).alloc (Obj.cells #[.int .i64 1, .int .i64 0] 3)).alloc (Obj.cells #[.int .i64 1, .int .i64 0] 3)).alloc (Obj.cells #[.slice (some ⟨W.heap.size, 0, none⟩) 2 2, .slice (some ⟨W.heap.size + 1, 0, none⟩) 2 2, .slice (some ⟨W.heap.size + 1 + 1, 0, none⟩) 2 2] 29) := ⟨_, rfl⟩
  have t0 : Two A W.heap.size (.int .i64 0) (.int .i64 1) 3 := by
    rw [hA]; exact two_alloc (two_alloc (two_alloc (two_new W _ _ 3) _) _) _
  have t1 : Two A (W.heap.size + 1) (.int .i64 1) (.int .i64 0) 3 := by
    rw [hA]
    refine two_alloc (two_alloc ?_ _) _
    have := two_new (W.alloc (Obj.cells #[.int .i64 0, .int .i64 1] 3)) (.int .i64 1) (.int .i64 0) 3
    simpa using this
  have t2 : Two A (W.heap.size + 1 + 1) (.int .i64 1) (.int .i64 0) 3 := by
    rw [hA]
    refine two_alloc ?_ _
    have := two_new ((W.alloc (Obj.cells #[.int .i64 0, .int .i64 1] 3)).alloc (Obj.cells #[.int .i64 1, .int .i64 0] 3)) (.int .i64 1) (.int .i64 0) 3
    simpa using this
  have t3 : Box A (W.heap.size + 1 + 1 + 1) #[.slice (some ⟨W.heap.size, 0, none⟩) 2 2, .slice (some ⟨W.heap.size + 1, 0, none⟩) 2 2, .slice (some ⟨W.heap.size + 1 + 1, 0, none⟩) 2 2] 29 := by
    rw [hA]
    have := heap_alloc_new (((W.alloc (Obj.cells #[.int .i64 0, .int .i64 1] 3)).alloc (Obj.cells #[.int .i64 1, .int .i64 0] 3)).alloc (Obj.cells #[.int .i64 1, .int .i64 0] 3)) (Obj.cells #[.slice (some ⟨W.heap.size, 0, none⟩) 2 2, .slice (some ⟨W.heap.size + 1, 0, none⟩) 2 2, .slice (some ⟨W.heap.size + 1 + 1, 0, none⟩) 2 2] 29)
    have hs : (((W.alloc (Obj.cells #[.int .i64 0, .int .i64 1] 3)).alloc (Obj.cells #[.int .i64 1, .int .i64 0] 3)).alloc (Obj.cells #[.int .i64 1, .int .i64 0] 3)).heap.size = W.heap.size + 1 + 1 + 1 := by simp
    rw [hs] at this
    exact this
  rw [← hA]
  clear hA
  have ints : ∀ (b : Nat) (x y : Int), I64 x → I64 y → Two A b (.int .i64 x) (.int .i64 y) 3 → IntsAt A (.slice (some ⟨b, 0, none⟩) 2 2) [x, y] := fun b x y hx hy h => by
    obtain ⟨c0, c1⟩ := cell_two h
    refine ⟨some ⟨b, 0, none⟩, 2, rfl, by simp, fun z hz => ?_, fun k hk => ?_⟩
    · simp at hz
      rcases hz with rfl | rfl
      · exact hx
      · exact hy
    · match k, hk with
      | 0, _ => exact ⟨b, 0, rfl, c0⟩
      | 1, _ => exact ⟨b, 0, rfl, c1⟩
      | k + 2, hk => simp at hk; omega
  have i0 : I64 0 := ⟨by omega, by omega⟩
  have i1 : I64 1 := ⟨by omega, by omega⟩
  refine ⟨_, 3, rfl, by simp, by simp, fun k hk => ?_⟩
  match k, hk with
  | 0, _ => exact ⟨_, 0, _, rfl, box_cell t3 (i := 0) rfl, ints _ 0 1 i0 i1 t0⟩
  | 1, _ => exact ⟨_, 0, _, rfl, box_cell t3 (i := 1) rfl, ints _ 1 0 i1 i0 t1⟩
  | 2, _ => exact ⟨_, 0, _, rfl, box_cell t3 (i := 2) rfl, ints _ 1 0 i1 i0 t2⟩
  | k + 3, hk => simp at hk; omega
set_option maxHeartbeats 8000000 in
theorem begun_call {w : World} : Calls Tryd.prog 9 #[] w fun e w' => e = .returned (.bool true) ∧ Below w.heap.size w w' := by
  have C17 : Hid (∀ A, Calls Tryd.prog 25 #[.int .i64 3] A fun e w' => (∃ ao c, e = .returned (.agg #[.int .i64 3, .slice ao (fullP 3).length c]) ∧ EdgesAt w' (.slice ao (fullP 3).length c) (fullP 3)) ∧ Below A.heap.size A w') := fun A => by
    refine (full_call 3 A (by decide)).mono ?_
    rintro e w' ⟨hB, ao, c, rfl, h⟩
    exact ⟨⟨ao, c, rfl, h⟩, hB⟩
  have C7 : Hid (∀ A ao c, EdgesAt A (.slice ao (fullP 3).length c) (fullP 3) → Calls Tryd.prog 24 #[.agg #[.int .i64 3, .slice ao (fullP 3).length c]] A fun e w' => (∃ bt, e = .returned (.tuple #[sl bt 3, .agg #[.int .i64 0, .int .i64 0]]) ∧ RowsAt w' (sl bt 3) [[0, 1], [1, 0], [1, 0]]) ∧ Below A.heap.size A w') := fun A ao c h => by
    refine (tutte_call (n := 3) h).mono ?_
    rintro e w' ⟨hT, hB⟩
    refine ⟨?_, hB⟩
    rcases hT with ⟨h0, _⟩ | ⟨_, N, es2, bt, h1, h2, h3, h4, h5, rfl, h6⟩
    · rw [chk3] at h0; exact absurd rfl h0
    · obtain rfl : N = 3 := by omega
      rw [full3] at h2
      have he := pzT_inj h2
      subst he
      have hr := tut_rows h6 h3 h4 h5
      rw [t3] at hr
      have e3' : 3 - kf 3 e3 + 1 = 3 := by rw [k3]
      rw [e3'] at hr ⊢
      exact ⟨bt, rfl, hr⟩
  generalize (fullP 3).length = fl at *
  go_enter Tryd.func9, Tryd.ntmps9
  go_upto_region 2 with (first | (go_at_call 25; refine Calls.mono (C17.out _) ?_; rintro e W1 ⟨⟨ao, c, rfl, hE⟩, h1⟩) | (go_at_call 24; refine Calls.mono (C7.out _ _ _ hE) ?_; rintro e W2 ⟨⟨bt, rfl, hR⟩, h2⟩) | fail)
  have x2 := two_new W2 (.int .i64 0) (.int .i64 0) 27
  have hB3 := below_alloc (Below.refl _ W2) (Obj.cells #[.int .i64 0, .int .i64 0] 27)
  generalize W2.heap.size = b2 at x2 ⊢
  generalize W2.alloc (Obj.cells #[.int .i64 0, .int .i64 0] 27) = W3 at *
  have HW3 : Hid (RowsAt W3 (sl bt 3) [[0, 1], [1, 0], [1, 0]] ∧ Below w.heap.size w W3) := ⟨hR.below hB3, below_next h1 (below_next h2 hB3)⟩
  obtain ⟨d0, d1⟩ := cell_two x2
  clear x2 hB3 hR h1 h2 hE C17 C7
  have hBA : Below W3.heap.size W3 ((((W3.alloc (Obj.cells #[.int .i64 0, .int .i64 1] 3)).alloc (Obj.cells #[.int .i64 1, .int .i64 0] 3)).alloc (Obj.cells #[.int .i64 1, .int .i64 0] 3)).alloc (Obj.cells #[.slice (some ⟨W3.heap.size, 0, none⟩) 2 2, .slice (some ⟨W3.heap.size + 1, 0, none⟩) 2 2, .slice (some ⟨W3.heap.size + 1 + 1, 0, none⟩) 2 2] 29)) := below_alloc (below_alloc (below_alloc (below_alloc (Below.refl _ W3) _) _) _) _
  have HBA : Hid _ := hBA
  clear hBA
  go_wp2_with (first | (go_at_call 26; refine Calls.mono (lists_true _ _ [[0, 1], [1, 0], [1, 0]] _ (HW3.out.1.below HBA.out) (lit_rows W3)) ?_; rintro e V4 ⟨rfl, mm, rfl⟩) | go_in)
  go_ret
  exact ⟨rfl, below_next HW3.out.2 (below_next HBA.out (below_drewN (Below.refl _ _) _))⟩
end Go.Proofs.YtmeodnkmhakidaaDoor
