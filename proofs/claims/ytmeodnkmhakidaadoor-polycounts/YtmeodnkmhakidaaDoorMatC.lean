/- Matchings and Loose. -/
import Derived.Test.YtmeodnkmhakidaaDoorCkS
import Derived.Test.YtmeodnkmhakidaaDoorLsWT
namespace Go.Proofs.YtmeodnkmhakidaaDoor
set_option maxRecDepth 8000
open Go.RowKit Go.Maps
attribute [local go_sem ↓] Go.wp_at_zero Go.wp_at_succ
/-- What Matchings or Loose answers: a fault, or a tally of what K tells. -/
def TalA (K : List E2 → Nat → List Nat → Prop) (B : Nat) (w' : World) (n : Int) (es : List Pair) (e : Ending) : Prop :=
  ((chkI n es n).1 ≠ 0 ∧ e = .returned (.tuple #[.slice none 0 0, .agg #[.int .i64 (chkI n es n).1, .int .i64 (chkI n es n).2]])) ∨
  (chkI n es n = (0, 0) ∧ ∃ (N : Nat) (es2 : List E2) (ks : List Nat) (vo : Option Addr) (vc : Nat), n = N ∧ es = pzT es2 ∧ (∀ e ∈ es2, e.1 < N ∧ e.2 < N) ∧ Simp es2 ∧ N ≤ 12 ∧ K es2 N ks ∧ e = .returned (.tuple #[.slice vo (ks.foldl bump []).length vc, .agg #[.int .i64 0, .int .i64 0]]) ∧ w'.ownsRow B 3 1 (.slice vo (ks.foldl bump []).length vc) (ks.foldl bump []).length (qv (ks.foldl bump [])))
set_option maxHeartbeats 8000000 in
theorem matchings_call {w : World} {n : Int} {ao : Option Addr} {cap : Nat} {es : List Pair} (hE : EdgesAt w (.slice ao es.length cap) es) (hT : T32 w) :
    Calls Tryd.prog 6 #[.agg #[.int .i64 n, .slice ao es.length cap]] w fun e w' => TalA (fun es N ks => MtK es (2 ^ N - 1) 0 N ks) w.heap.size w' n es e ∧ Below w.heap.size w w' := by
  have C13 : Hid (∀ A, Below w.heap.size w A → Calls Tryd.prog 18 #[.agg #[.int .i64 n, .slice ao es.length cap], .int .i64 n] A fun e w' => e = .returned (.agg #[.int .i64 (chkI n es n).1, .int .i64 (chkI n es n).2]) ∧ Below A.heap.size A w') := fun A hA => checkI_call (hE.below hA)
  have hw0 : 0 < w.heap.size := World.block_lt_of_cell? w _ (hT 0 (by decide))
  have HE : Hid (EdgesAt w (.slice ao es.length cap) es ∧ T32 w ∧ 0 < w.heap.size) := ⟨hE, hT, hw0⟩
  obtain ⟨P, hP⟩ : ∃ P, P = chkI n es n := ⟨_, rfl⟩
  have HP : Hid (P = chkI n es n) := hP
  rw [← hP] at C13
  obtain ⟨p1, p2⟩ := P
  simp only at C13
  clear hE hP hT hw0
  go_enter Tryd.func6, Tryd.ntmps6
  go_upto_region 1 with (fail)
  have t1 : Two ((w.alloc (Obj.cells #[.int .i64 n, .slice ao es.length cap] 24)).alloc (Obj.cells #[.int .i64 0, .int .i64 0] 27)) w.heap.size (.int .i64 n) (.slice ao es.length cap) 24 := two_alloc (two_new _ _ _ _) _
  have t3 : Two ((w.alloc (Obj.cells #[.int .i64 n, .slice ao es.length cap] 24)).alloc (Obj.cells #[.int .i64 0, .int .i64 0] 27)) (w.heap.size + 1) (.int .i64 0) (.int .i64 0) 27 := by
    have := two_new (w.alloc (Obj.cells #[.int .i64 n, .slice ao es.length cap] 24)) (.int .i64 0) (.int .i64 0) 27
    simpa using this
  have hB0 : Below w.heap.size w ((w.alloc (Obj.cells #[.int .i64 n, .slice ao es.length cap] 24)).alloc (Obj.cells #[.int .i64 0, .int .i64 0] 27)) := below_alloc (below_alloc (Below.refl _ w) _) _
  obtain ⟨b1, hb1⟩ : ∃ b, b = w.heap.size := ⟨_, rfl⟩
  obtain ⟨b3, hb3⟩ : ∃ b, b = w.heap.size + 1 := ⟨_, rfl⟩
  rw [← hb3] at t3 ⊢
  rw [← hb1] at t1 ⊢
  generalize ((w.alloc (Obj.cells #[.int .i64 n, .slice ao es.length cap] 24)).alloc (Obj.cells #[.int .i64 0, .int .i64 0] 27)) = W1 at *
  have HW1 : Hid (Two W1 b1 (.int .i64 n) (.slice ao es.length cap) 24 ∧ Two W1 b3 (.int .i64 0) (.int .i64 0) 27 ∧ Below w.heap.size w W1 ∧ w.heap.size ≤ b3) := ⟨t1, t3, hB0, by omega⟩
  have HB1 : Hid (b1 = w.heap.size) := hb1
  obtain ⟨c0, c1⟩ := cell_two t1
  clear t1 t3 hB0 hb1 hb3
  go_upto_region 2 with (first | (go_at_call 18; refine Calls.mono (C13.out _ HW1.out.2.2.1) ?_; rintro e W2 ⟨rfl, h2⟩) | fail)
  have x4 := two_new W2 (.int .i64 p1) (.int .i64 p2) 27
  have hB3 := below_alloc (Below.refl _ W2) (Obj.cells #[.int .i64 p1, .int .i64 p2] 27)
  generalize W2.heap.size = b4 at x4 ⊢
  generalize W2.alloc (Obj.cells #[.int .i64 p1, .int .i64 p2] 27) = W3 at *
  have HW3 : Hid (Two W3 b1 (.int .i64 n) (.slice ao es.length cap) 24 ∧ Two W3 b3 (.int .i64 0) (.int .i64 0) 27 ∧ Below w.heap.size w W3) := ⟨two_next HW1.out.1 (below_next h2 hB3), two_next HW1.out.2.1 (below_next h2 hB3), below_next HW1.out.2.2.1 (below_next h2 hB3)⟩
  have HB3 : Hid (w.heap.size ≤ b3) := HW1.out.2.2.2
  obtain ⟨d0, d1⟩ := cell_two x4
  clear h2 hB3 x4 c0 c1 C13 HW1
  by_cases h : p1 = 0
  · have k1 : (p1 != 0) = false := by simpa using h
    have hP0 : (chkI n es n).1 = 0 := by rw [← HP.out]; exact h
    obtain ⟨g1, g2, g3⟩ := chkI_good hP0
    obtain ⟨hck, hn0, hn1, hlen0, hgood⟩ := chk_good g2
    obtain ⟨N, rfl⟩ := Int.eq_ofNat_of_zero_le hn0
    obtain ⟨es2, rfl, hes⟩ := pzT_nat (N := N) hgood
    have hlen : (pzT es2).length = es2.length := by simp [pzT]
    rw [hlen] at HE HW3 hlen0 ⊢
    have hS : Simp es2 := chk_sim g2
    have hN12 : N ≤ 12 := by omega
    have HN : Hid (chkI (N : Int) (pzT es2) (N : Int) = (0, 0) ∧ (∀ e ∈ es2, e.1 < N ∧ e.2 < N) ∧ Simp es2 ∧ N ≤ 12) := ⟨g1, hes, hS, hN12⟩
    have C20 : Hid (∀ A, Below w.heap.size w A → Calls Tryd.prog 20 #[.agg #[.int .i64 (N : Int), .slice ao es2.length cap]] A fun e w' => (∃ b, e = .returned (sl b N) ∧ A.heap.size ≤ b ∧ RowV w' b 65 N (nv (nearF es2))) ∧ Below A.heap.size A w') := fun A hA => nearSets_call (HE.out.1.below hA) hes (simp_ne hS) (by omega) hlen0
    clear hS hes g1 g2 g3 hck hn0 hn1 hgood hP0 h HP hN12
    go_upto_region 5 with (fail)
    have x5 : One (W3.alloc (Obj.cells #[.slice none 0 0] 46)) W3.heap.size (.slice none 0 0) 46 := heap_alloc_new _ _
    have hB5 := below_alloc (Below.refl _ W3) (Obj.cells #[.slice none 0 0] 46)
    obtain ⟨b5, hb5⟩ : ∃ b, b = W3.heap.size := ⟨_, rfl⟩
    rw [← hb5] at x5 ⊢
    generalize W3.alloc (Obj.cells #[.slice none 0 0] 46) = W5 at *
    have HW5 : Hid (Two W5 b1 (.int .i64 (N : Int)) (.slice ao es2.length cap) 24 ∧ Two W5 b3 (.int .i64 0) (.int .i64 0) 27 ∧ Below w.heap.size w W5 ∧ One W5 b5 (.slice none 0 0) 46 ∧ w.heap.size ≤ b5 ∧ b3 ≠ b5) := ⟨two_next HW3.out.1 hB5, two_next HW3.out.2.1 hB5, below_next HW3.out.2.2 hB5, x5, by rw [hb5]; exact HW3.out.2.2.size, by have := lt_of_block HW3.out.2.1; omega⟩
    obtain ⟨c0, c1⟩ := cell_two HW5.out.1
    clear HW3 hB5 x5 hb5 d0 d1
    go_upto_region 6 with (first | (go_at_call 20; refine Calls.mono (C20.out _ HW5.out.2.2.1) ?_; rintro e W6 ⟨⟨nb, rfl, h6, h7⟩, h8⟩; have H6 : Hid _ := And.intro h6 (And.intro h7 h8); clear h6 h7 h8; have CT : Hid (Calls Tryd.prog 19 #[sl nb N, .func (.func 21) #[ptr b5] #[]] W6 fun e w' => e = .returned (.tuple #[]) ∧ (∃ ks, MtK es2 (2 ^ N - 1) 0 N ks ∧ TA w' (W6.heap.size + 3) b5 46 (ks.foldl bump [])) ∧ Turns (FrT W6.heap.size b5) W6 w') := mats_call H6.out.2.1 (by have := lt_of_block HW5.out.2.2.2.1; have := H6.out.1; omega) (by have := HW5.out.2.2.2.2.1; have := HE.out.2.2; omega) (HE.out.2.1.below (below_next HW5.out.2.2.1 H6.out.2.2)) ((H6.out.2.2.block _ (lt_of_block HW5.out.2.2.2.1)).trans HW5.out.2.2.2.1) HN.out.2.1 HN.out.2.2.1 HN.out.2.2.2) | (go_at_call 19; refine Calls.mono CT.out ?_; rintro e W7 ⟨rfl, ⟨ks, hks, vo, vc, h9, h10⟩, h11⟩) | fail)
    have hB7 : Below w.heap.size w W7 := Turns.below (below_next HW5.out.2.2.1 H6.out.2.2) h11 (Nat.le_trans HW5.out.2.2.1.size H6.out.2.2.size) (fun k hk => by have := HW5.out.2.2.2.2.1; have := HW5.out.2.2.1.size; have := H6.out.2.2.size; rcases hk with hk | hk <;> omega)
    have hT7 : Two W7 b3 (.int .i64 0) (.int .i64 0) 27 := two_turns (two_next HW5.out.2.1 H6.out.2.2) h11 (fun hk => by have := HW5.out.2.2.2.2.2; have := lt_of_block HW5.out.2.1; have := H6.out.2.2.size; rcases hk with hk | hk <;> omega)
    have hO7 : W7.ownsRow w.heap.size 3 1 (.slice vo (ks.foldl bump []).length vc) (ks.foldl bump []).length (qv (ks.foldl bump [])) := ownsRow_mono h10 (by have := HW5.out.2.2.1.size; have := H6.out.2.2.size; omega)
    have c9 : W7.cell? ⟨b5, 0, none⟩ = some (.slice vo (ks.foldl bump []).length vc) := box_cell (i := 0) h9 rfl
    obtain ⟨q1, q2, q3, q4, q5, q6⟩ := store_two' hT7 (.int .i64 0) (.int .i64 0)
    have HX : Hid (MtK es2 (2 ^ N - 1) 0 N ks ∧ Below w.heap.size w W7 ∧ W7.ownsRow w.heap.size 3 1 (.slice vo (ks.foldl bump []).length vc) (ks.foldl bump []).length (qv (ks.foldl bump [])) ∧ Two W7 b3 (.int .i64 0) (.int .i64 0) 27) := ⟨hks, hB7, hO7, hT7⟩
    clear hks hB7 hO7 hT7 h9 h10 h11 CT C20 c0 c1
    go_wp2
    refine bodyPost_ret (v := .tuple #[.slice vo (ks.foldl bump []).length vc, .agg #[.int .i64 0, .int .i64 0]]) ?_ rfl ⟨?_, (HX.out.2.1.setCell HB3.out _).setCell HB3.out _⟩
    · simp [results, Tryd.results6, go_sem, q5, q6]
    · refine Or.inr ⟨HN.out.1, N, es2, ks, vo, vc, rfl, rfl, HN.out.2.1, HN.out.2.2.1, HN.out.2.2.2, HX.out.1, rfl, ?_⟩
      refine ownsRow_blocks HX.out.2.2.1 fun b hb => ?_
      have hne : b ≠ b3 := fun e => by
        subst e
        obtain ⟨cur, hc⟩ := own_cells HX.out.2.2.1 hb
        have h2 : W7.heap[b]? = _ := HX.out.2.2.2
        rw [hc] at h2
        cases h2
      exact (Below.heap_setCell _ _ _ _ hne).trans (Below.heap_setCell _ _ _ _ hne)
  · have k1 : (p1 != 0) = true := by simpa using h
    have HN : Hid (p1 ≠ 0) := h
    clear h
    go_upto_region 3 with (fail)
    have g0 := cell_growD d0
    have g1 := cell_growD d1
    clear d0 d1
    refine wp_region_tailT 2 (by kernel_rfl) (by kernel_rfl) (by kernel_rfl) (by decide) ?_
    simp only [List.take_succ_cons, List.take_zero, List.drop_succ_cons, List.drop_zero]
    repeat (go_big_quiet_step (fail))
    refine wpQuiet_nil ?_
    rintro _ ⟨gp, rfl⟩
    have hB8 := growD_below W3 gp
    clear g0 g1
    generalize growD W3 gp = w8 at *
    obtain ⟨q1, q2, q3, q4, q5, q6⟩ := store_two' (two_next HW3.out.2.1 hB8) (.int .i64 p1) (.int .i64 p2)
    have HB8 : Hid (Below w.heap.size w w8) := below_next HW3.out.2.2 hB8
    clear hB8
    go_wp2
    refine bodyPost_ret (v := .tuple #[.slice none 0 0, .agg #[.int .i64 p1, .int .i64 p2]]) ?_ rfl ⟨?_, (HB8.out.setCell HB3.out _).setCell HB3.out _⟩
    · simp [results, Tryd.results6, go_sem, q5, q6]
    · unfold TalA
      rw [← HP.out]
      exact Or.inl ⟨HN.out, rfl⟩
set_option maxHeartbeats 8000000 in
theorem looses_call {w : World} {n : Int} {ao : Option Addr} {cap : Nat} {es : List Pair} (hE : EdgesAt w (.slice ao es.length cap) es) (hT : T32 w) :
    Calls Tryd.prog 7 #[.agg #[.int .i64 n, .slice ao es.length cap]] w fun e w' => TalA (fun es N ks => LsK es N (2 ^ N - 1) 0 N ks) w.heap.size w' n es e ∧ Below w.heap.size w w' := by
  have C13 : Hid (∀ A, Below w.heap.size w A → Calls Tryd.prog 18 #[.agg #[.int .i64 n, .slice ao es.length cap], .int .i64 n] A fun e w' => e = .returned (.agg #[.int .i64 (chkI n es n).1, .int .i64 (chkI n es n).2]) ∧ Below A.heap.size A w') := fun A hA => checkI_call (hE.below hA)
  have hw0 : 0 < w.heap.size := World.block_lt_of_cell? w _ (hT 0 (by decide))
  have HE : Hid (EdgesAt w (.slice ao es.length cap) es ∧ T32 w ∧ 0 < w.heap.size) := ⟨hE, hT, hw0⟩
  obtain ⟨P, hP⟩ : ∃ P, P = chkI n es n := ⟨_, rfl⟩
  have HP : Hid (P = chkI n es n) := hP
  rw [← hP] at C13
  obtain ⟨p1, p2⟩ := P
  simp only at C13
  clear hE hP hT hw0
  go_enter Tryd.func7, Tryd.ntmps7
  go_upto_region 1 with (fail)
  have t1 : Two ((w.alloc (Obj.cells #[.int .i64 n, .slice ao es.length cap] 24)).alloc (Obj.cells #[.int .i64 0, .int .i64 0] 27)) w.heap.size (.int .i64 n) (.slice ao es.length cap) 24 := two_alloc (two_new _ _ _ _) _
  have t3 : Two ((w.alloc (Obj.cells #[.int .i64 n, .slice ao es.length cap] 24)).alloc (Obj.cells #[.int .i64 0, .int .i64 0] 27)) (w.heap.size + 1) (.int .i64 0) (.int .i64 0) 27 := by
    have := two_new (w.alloc (Obj.cells #[.int .i64 n, .slice ao es.length cap] 24)) (.int .i64 0) (.int .i64 0) 27
    simpa using this
  have hB0 : Below w.heap.size w ((w.alloc (Obj.cells #[.int .i64 n, .slice ao es.length cap] 24)).alloc (Obj.cells #[.int .i64 0, .int .i64 0] 27)) := below_alloc (below_alloc (Below.refl _ w) _) _
  obtain ⟨b1, hb1⟩ : ∃ b, b = w.heap.size := ⟨_, rfl⟩
  obtain ⟨b3, hb3⟩ : ∃ b, b = w.heap.size + 1 := ⟨_, rfl⟩
  rw [← hb3] at t3 ⊢
  rw [← hb1] at t1 ⊢
  generalize ((w.alloc (Obj.cells #[.int .i64 n, .slice ao es.length cap] 24)).alloc (Obj.cells #[.int .i64 0, .int .i64 0] 27)) = W1 at *
  have HW1 : Hid (Two W1 b1 (.int .i64 n) (.slice ao es.length cap) 24 ∧ Two W1 b3 (.int .i64 0) (.int .i64 0) 27 ∧ Below w.heap.size w W1 ∧ w.heap.size ≤ b3) := ⟨t1, t3, hB0, by omega⟩
  have HB1 : Hid (b1 = w.heap.size) := hb1
  obtain ⟨c0, c1⟩ := cell_two t1
  clear t1 t3 hB0 hb1 hb3
  go_upto_region 2 with (first | (go_at_call 18; refine Calls.mono (C13.out _ HW1.out.2.2.1) ?_; rintro e W2 ⟨rfl, h2⟩) | fail)
  have x4 := two_new W2 (.int .i64 p1) (.int .i64 p2) 27
  have hB3 := below_alloc (Below.refl _ W2) (Obj.cells #[.int .i64 p1, .int .i64 p2] 27)
  generalize W2.heap.size = b4 at x4 ⊢
  generalize W2.alloc (Obj.cells #[.int .i64 p1, .int .i64 p2] 27) = W3 at *
  have HW3 : Hid (Two W3 b1 (.int .i64 n) (.slice ao es.length cap) 24 ∧ Two W3 b3 (.int .i64 0) (.int .i64 0) 27 ∧ Below w.heap.size w W3) := ⟨two_next HW1.out.1 (below_next h2 hB3), two_next HW1.out.2.1 (below_next h2 hB3), below_next HW1.out.2.2.1 (below_next h2 hB3)⟩
  have HB3 : Hid (w.heap.size ≤ b3) := HW1.out.2.2.2
  obtain ⟨d0, d1⟩ := cell_two x4
  clear h2 hB3 x4 c0 c1 C13 HW1
  by_cases h : p1 = 0
  · have k1 : (p1 != 0) = false := by simpa using h
    have hP0 : (chkI n es n).1 = 0 := by rw [← HP.out]; exact h
    obtain ⟨g1, g2, g3⟩ := chkI_good hP0
    obtain ⟨hck, hn0, hn1, hlen0, hgood⟩ := chk_good g2
    obtain ⟨N, rfl⟩ := Int.eq_ofNat_of_zero_le hn0
    obtain ⟨es2, rfl, hes⟩ := pzT_nat (N := N) hgood
    have hlen : (pzT es2).length = es2.length := by simp [pzT]
    rw [hlen] at HE HW3 hlen0 ⊢
    have hS : Simp es2 := chk_sim g2
    have hN12 : N ≤ 12 := by omega
    have HN : Hid (chkI (N : Int) (pzT es2) (N : Int) = (0, 0) ∧ (∀ e ∈ es2, e.1 < N ∧ e.2 < N) ∧ Simp es2 ∧ N ≤ 12) := ⟨g1, hes, hS, hN12⟩
    have C20 : Hid (∀ A, Below w.heap.size w A → Calls Tryd.prog 20 #[.agg #[.int .i64 (N : Int), .slice ao es2.length cap]] A fun e w' => (∃ b, e = .returned (sl b N) ∧ A.heap.size ≤ b ∧ RowV w' b 65 N (nv (nearF es2))) ∧ Below A.heap.size A w') := fun A hA => nearSets_call (HE.out.1.below hA) hes (simp_ne hS) (by omega) hlen0
    clear hS hes g1 g2 g3 hck hn0 hn1 hgood hP0 h HP hN12
    go_upto_region 5 with (fail)
    have x5 : One (W3.alloc (Obj.cells #[.slice none 0 0] 46)) W3.heap.size (.slice none 0 0) 46 := heap_alloc_new _ _
    have hB5 := below_alloc (Below.refl _ W3) (Obj.cells #[.slice none 0 0] 46)
    obtain ⟨b5, hb5⟩ : ∃ b, b = W3.heap.size := ⟨_, rfl⟩
    rw [← hb5] at x5 ⊢
    generalize W3.alloc (Obj.cells #[.slice none 0 0] 46) = W5 at *
    have HW5 : Hid (Two W5 b1 (.int .i64 (N : Int)) (.slice ao es2.length cap) 24 ∧ Two W5 b3 (.int .i64 0) (.int .i64 0) 27 ∧ Below w.heap.size w W5 ∧ One W5 b5 (.slice none 0 0) 46 ∧ w.heap.size ≤ b5 ∧ b3 ≠ b5) := ⟨two_next HW3.out.1 hB5, two_next HW3.out.2.1 hB5, below_next HW3.out.2.2 hB5, x5, by rw [hb5]; exact HW3.out.2.2.size, by have := lt_of_block HW3.out.2.1; omega⟩
    obtain ⟨c0, c1⟩ := cell_two HW5.out.1
    clear HW3 hB5 x5 hb5 d0 d1
    go_upto_region 6 with (first | (go_at_call 20; refine Calls.mono (C20.out _ HW5.out.2.2.1) ?_; rintro e W6 ⟨⟨nb, rfl, h6, h7⟩, h8⟩; have H6 : Hid _ := And.intro h6 (And.intro h7 h8); clear h6 h7 h8; have CT : Hid (Calls Tryd.prog 22 #[sl nb N, .func (.func 21) #[ptr b5] #[]] W6 fun e w' => e = .returned (.tuple #[]) ∧ (∃ ks, LsK es2 N (2 ^ N - 1) 0 N ks ∧ TA w' (W6.heap.size + 3) b5 46 (ks.foldl bump [])) ∧ Turns (FrT W6.heap.size b5) W6 w') := loose_call H6.out.2.1 (by have := lt_of_block HW5.out.2.2.2.1; have := H6.out.1; omega) (by have := HW5.out.2.2.2.2.1; have := HE.out.2.2; omega) (HE.out.2.1.below (below_next HW5.out.2.2.1 H6.out.2.2)) ((H6.out.2.2.block _ (lt_of_block HW5.out.2.2.2.1)).trans HW5.out.2.2.2.1) HN.out.2.1 HN.out.2.2.1 HN.out.2.2.2) | (go_at_call 22; refine Calls.mono CT.out ?_; rintro e W7 ⟨rfl, ⟨ks, hks, vo, vc, h9, h10⟩, h11⟩) | fail)
    have hB7 : Below w.heap.size w W7 := Turns.below (below_next HW5.out.2.2.1 H6.out.2.2) h11 (Nat.le_trans HW5.out.2.2.1.size H6.out.2.2.size) (fun k hk => by have := HW5.out.2.2.2.2.1; have := HW5.out.2.2.1.size; have := H6.out.2.2.size; rcases hk with hk | hk <;> omega)
    have hT7 : Two W7 b3 (.int .i64 0) (.int .i64 0) 27 := two_turns (two_next HW5.out.2.1 H6.out.2.2) h11 (fun hk => by have := HW5.out.2.2.2.2.2; have := lt_of_block HW5.out.2.1; have := H6.out.2.2.size; rcases hk with hk | hk <;> omega)
    have hO7 : W7.ownsRow w.heap.size 3 1 (.slice vo (ks.foldl bump []).length vc) (ks.foldl bump []).length (qv (ks.foldl bump [])) := ownsRow_mono h10 (by have := HW5.out.2.2.1.size; have := H6.out.2.2.size; omega)
    have c9 : W7.cell? ⟨b5, 0, none⟩ = some (.slice vo (ks.foldl bump []).length vc) := box_cell (i := 0) h9 rfl
    obtain ⟨q1, q2, q3, q4, q5, q6⟩ := store_two' hT7 (.int .i64 0) (.int .i64 0)
    have HX : Hid (LsK es2 N (2 ^ N - 1) 0 N ks ∧ Below w.heap.size w W7 ∧ W7.ownsRow w.heap.size 3 1 (.slice vo (ks.foldl bump []).length vc) (ks.foldl bump []).length (qv (ks.foldl bump [])) ∧ Two W7 b3 (.int .i64 0) (.int .i64 0) 27) := ⟨hks, hB7, hO7, hT7⟩
    clear hks hB7 hO7 hT7 h9 h10 h11 CT C20 c0 c1
    go_wp2
    refine bodyPost_ret (v := .tuple #[.slice vo (ks.foldl bump []).length vc, .agg #[.int .i64 0, .int .i64 0]]) ?_ rfl ⟨?_, (HX.out.2.1.setCell HB3.out _).setCell HB3.out _⟩
    · simp [results, Tryd.results7, go_sem, q5, q6]
    · refine Or.inr ⟨HN.out.1, N, es2, ks, vo, vc, rfl, rfl, HN.out.2.1, HN.out.2.2.1, HN.out.2.2.2, HX.out.1, rfl, ?_⟩
      refine ownsRow_blocks HX.out.2.2.1 fun b hb => ?_
      have hne : b ≠ b3 := fun e => by
        subst e
        obtain ⟨cur, hc⟩ := own_cells HX.out.2.2.1 hb
        have h2 : W7.heap[b]? = _ := HX.out.2.2.2
        rw [hc] at h2
        cases h2
      exact (Below.heap_setCell _ _ _ _ hne).trans (Below.heap_setCell _ _ _ _ hne)
  · have k1 : (p1 != 0) = true := by simpa using h
    have HN : Hid (p1 ≠ 0) := h
    clear h
    go_upto_region 3 with (fail)
    have g0 := cell_growD d0
    have g1 := cell_growD d1
    clear d0 d1
    refine wp_region_tailT 2 (by kernel_rfl) (by kernel_rfl) (by kernel_rfl) (by decide) ?_
    simp only [List.take_succ_cons, List.take_zero, List.drop_succ_cons, List.drop_zero]
    repeat (go_big_quiet_step (fail))
    refine wpQuiet_nil ?_
    rintro _ ⟨gp, rfl⟩
    have hB8 := growD_below W3 gp
    clear g0 g1
    generalize growD W3 gp = w8 at *
    obtain ⟨q1, q2, q3, q4, q5, q6⟩ := store_two' (two_next HW3.out.2.1 hB8) (.int .i64 p1) (.int .i64 p2)
    have HB8 : Hid (Below w.heap.size w w8) := below_next HW3.out.2.2 hB8
    clear hB8
    go_wp2
    refine bodyPost_ret (v := .tuple #[.slice none 0 0, .agg #[.int .i64 p1, .int .i64 p2]]) ?_ rfl ⟨?_, (HB8.out.setCell HB3.out _).setCell HB3.out _⟩
    · simp [results, Tryd.results7, go_sem, q5, q6]
    · unfold TalA
      rw [← HP.out]
      exact Or.inl ⟨HN.out, rfl⟩
end Go.Proofs.YtmeodnkmhakidaaDoor
