/- drawBegun: the document's examples. -/
import Derived.Test.YtnboonhlffkimaaGreatDoorBegunM
import Derived.Test.YtnboonhlffkimaaGreatDoorRiseM
import Derived.Test.YtnboonhlffkimaaGreatDoorClrW
namespace Go.Proofs.YtnboonhlffkimaaGreatDoor
set_option maxRecDepth 100000
open Go.RowKit Go.Maps
attribute [local go_sem ↓] Go.wp_at_zero Go.wp_at_succ
def r5 (v x : Nat) : Bool := decide (v = x) || (decide (v < 5) && decide (x < 5))
theorem full5 : ∀ a b : Fin 5, a ≠ b → hasB (fullP 5) (a.val : Int) (b.val : Int) = true := by decide +kernel
theorem good5 : ∀ e ∈ fullP 5, (0 ≤ e.1 ∧ e.1 < 5 ∧ 0 ≤ e.2 ∧ e.2 < 5) := by decide +kernel
theorem r5_star : ∀ v x, r5 v x = true ↔ Star (St 5 (bothB (fullP 5)) allB) v x := fun v x => by
  constructor
  · intro h
    unfold r5 at h
    by_cases e : v = x
    · subst e; exact Star.refl _
    · have h2 : v < 5 ∧ x < 5 := by simpa [e] using h
      refine Star.one ⟨h2.2, ?_, rfl⟩
      exact full5 ⟨v, h2.1⟩ ⟨x, h2.2⟩ (fun q => e (by simpa using q))
  · intro h
    refine Star.ind (P := fun x => r5 v x = true) (by simp [r5]) (fun b c hs hbc _ => ?_) h
    obtain ⟨h1, h2, _⟩ := hbc
    have hb : b < 5 := by
      unfold bothB hasB at h2
      rw [List.any_eq_true] at h2
      obtain ⟨e, he, hq⟩ := h2
      have hg := good5 e he
      have hq2 : (e.1 = (b : Int) ∧ e.2 = (c : Int)) ∨ (e.1 = (c : Int) ∧ e.2 = (b : Int)) := by simpa using hq
      omega
    have hv : v < 5 ∨ v = c := by
      have : r5 v b = true := by
        refine Star.ind (P := fun x => x < 5 → r5 v x = true) (fun _ => by simp [r5]) (fun b' c' hs' hbc' ih hc' => ?_) hs hb
        have hb' : b' < 5 := by
          have h2' := hbc'.2.1
          unfold bothB hasB at h2'
          rw [List.any_eq_true] at h2'
          obtain ⟨e, he, hq⟩ := h2'
          have hg := good5 e he
          have hq2 : (e.1 = (b' : Int) ∧ e.2 = (c' : Int)) ∨ (e.1 = (c' : Int) ∧ e.2 = (b' : Int)) := by simpa using hq
          omega
        have := ih hb'
        unfold r5 at this ⊢
        simp at this ⊢
        omega
      unfold r5 at this
      simp at this
      omega
    unfold r5
    simp
    omega
theorem one5 : (piecesS 5 allB r5).length = 1 := by decide +kernel
theorem k5_full : fullP 5 = k5.map fun e => ((e.1 : Int), (e.2 : Int)) := by decide +kernel
theorem flat5 : flatE k5 = flat (fullP 5) := by rw [k5_full]; rfl
theorem i64_5 : ∀ e ∈ fullP 5, I64 e.1 ∧ I64 e.2 := fun e he => by
  have := good5 e he
  unfold I64
  omega
theorem len_5 : (fullP 5).length = 10 := by decide +kernel
set_option maxHeartbeats 4000000 in
theorem joined5_call {w : World} {ao : Option Addr} {cap : Nat} (hE : EdgesAt w (.slice ao 10 cap) (fullP 5)) :
    Calls Tryz.prog 45 #[.agg #[.int .i64 5, .slice ao 10 cap]] w fun e w' => (∃ po pc, e = .returned (.agg #[.int .i64 5, .slice po 10 pc]) ∧ EdgesAt w' (.slice po 10 pc) (fullP 5)) ∧ Below w.heap.size w w' := by
  have C65 : Hid (∀ A, Below w.heap.size w A → Calls Tryz.prog 65 #[.agg #[.int .i64 5, .slice ao 10 cap]] A fun r w' => (∃ lo lc, r = .returned (.tuple #[.slice lo 1 lc, .agg #[.int .i64 0, .int .i64 0]])) ∧ Below A.heap.size A w') := fun A hA => by
    have h := components_ok 5 ao cap (fullP 5) A (by rw [len_5]; exact hE.below hA) chk5 r5 r5_star
    rw [len_5] at h
    refine h.mono ?_
    rintro r w' ⟨v', rfl, hL, hB⟩
    obtain ⟨lo, lc, rfl⟩ := hL.form
    rw [one5]
    exact ⟨⟨lo, lc, rfl⟩, hB⟩
  obtain ⟨g, o, hao⟩ : ∃ g o, ao = some ⟨g, o, none⟩ := by
    obtain ⟨ao', cap', e, _, _, hc⟩ := hE
    cases e
    obtain ⟨b, off, e, _⟩ := hc 0 (by rw [len_5]; omega)
    exact ⟨b, off, e⟩
  subst hao
  have C66 : Hid (∀ A, Below w.heap.size w A → Calls Tryz.prog 66 #[.slice (some ⟨g, o, none⟩) 10 cap] A fun e w' => (∃ g' c', e = .returned (.slice (some ⟨g', 0, none⟩) 10 c') ∧ EdgesAt w' (.slice (some ⟨g', 0, none⟩) 10 c') (fullP 5) ∧ A.heap.size ≤ g') ∧ Below A.heap.size A w') := fun A hA => by
    have h := cloneE_call (w := A) (g := g) (o := o) (pc := cap) (l := k5) (by decide) (by decide) (fun k e hk => by
      obtain ⟨ao', cap', e', _, _, hc⟩ := hE.below hA
      have hkl : k < (fullP 5).length := by rw [len_5]; exact (List.getElem?_eq_some_iff.1 hk).1
      obtain ⟨b, off, e2, c1, c2⟩ := hc k hkl
      injection e' with e3 e4 e5
      rw [← e3] at e2
      cases e2
      have hv : (fullP 5)[k] = ((e.1 : Int), (e.2 : Int)) := by
        have : (fullP 5)[k]? = some ((e.1 : Int), (e.2 : Int)) := by rw [k5_full, List.getElem?_map, hk]; rfl
        rw [List.getElem?_eq_getElem hkl] at this
        exact Option.some.inj this
      rw [hv] at c1 c2
      exact ⟨c1, c2⟩)
    refine h.mono ?_
    rintro e w' ⟨g', c', rfl, hE', hB⟩
    have hE2 : w'.ownsRow A.heap.size 38 2 (.slice (some ⟨g', 0, none⟩) 10 c') 10 (flatE k5) := hE'
    rw [flat5] at hE2
    have hE3 := edgesAt_row (L := fullP 5) (base := A.heap.size) (v := .slice (some ⟨g', 0, none⟩) 10 c') (by rw [len_5]; exact hE2) i64_5 (by rw [len_5]; omega)
    exact ⟨⟨g', c', rfl, hE3, (hE2.lt g' rfl).1⟩, hB⟩
  clear hE
  go_enter Tryz.func45, Tryz.ntmps45
  go_upto_region 1 with (fail)
  have t1 : Two ((w.alloc (Obj.cells #[.int .i64 5, .slice (some ⟨g, o, none⟩) 10 cap] 24)).alloc (Obj.cells #[.int .i64 0, .slice none 0 0] 24)) w.heap.size (.int .i64 5) (.slice (some ⟨g, o, none⟩) 10 cap) 24 := two_alloc (two_new _ _ _ _) _
  have t2 : Two ((w.alloc (Obj.cells #[.int .i64 5, .slice (some ⟨g, o, none⟩) 10 cap] 24)).alloc (Obj.cells #[.int .i64 0, .slice none 0 0] 24)) (w.heap.size + 1) (.int .i64 0) (.slice none 0 0) 24 := two_nxt _ _ _ _ _
  have hB0 : Below w.heap.size w ((w.alloc (Obj.cells #[.int .i64 5, .slice (some ⟨g, o, none⟩) 10 cap] 24)).alloc (Obj.cells #[.int .i64 0, .slice none 0 0] 24)) := below_alloc (below_alloc (Below.refl _ w) _) _
  obtain ⟨b1, hb1⟩ : ∃ b, b = w.heap.size := ⟨_, rfl⟩
  obtain ⟨b2, hb2⟩ : ∃ b, b = w.heap.size + 1 := ⟨_, rfl⟩
  rw [← hb2] at t2 ⊢
  rw [← hb1] at t1 ⊢
  generalize ((w.alloc (Obj.cells #[.int .i64 5, .slice (some ⟨g, o, none⟩) 10 cap] 24)).alloc (Obj.cells #[.int .i64 0, .slice none 0 0] 24)) = W1 at *
  have HW1 : Hid (∀ A, Below W1.heap.size W1 A → Two A b1 (.int .i64 5) (.slice (some ⟨g, o, none⟩) 10 cap) 24 ∧ Two A b2 (.int .i64 0) (.slice none 0 0) 24 ∧ Below w.heap.size w A) := fun A hA => ⟨two_next t1 hA, two_next t2 hA, below_next hB0 hA⟩
  have HB2 : Hid (w.heap.size ≤ b2 ∧ b2 < W1.heap.size) := ⟨by omega, lt_of_block t2⟩
  obtain ⟨c0, c1⟩ := cell_two t1
  clear t1 t2 hB0 hb1 hb2
  go_upto_region 2 with (first | (go_at_call 65; refine Calls.mono (C65.out _ (HW1.out _ (Below.refl _ _)).2.2) ?_; rintro e W2 ⟨⟨lo, lc, rfl⟩, h2⟩) | fail)
  have hB3 := below_next h2 (below_alloc (Below.refl _ W2) (Obj.cells #[.int .i64 0, .int .i64 0] 28))
  generalize W2.heap.size = b4 at *
  generalize W2.alloc (Obj.cells #[.int .i64 0, .int .i64 0] 28) = W3 at *
  have HW3 : Hid (Below W1.heap.size W1 W3) := hB3
  clear h2 hB3 c0 c1 C65
  obtain ⟨c0, c1⟩ := cell_two (HW1.out _ HW3.out).1
  go_upto_region 4 with (first | (go_at_call 66; refine Calls.mono (C66.out _ (HW1.out _ HW3.out).2.2) ?_; rintro e W4 ⟨⟨g', c', rfl, hE4, hg4⟩, h4⟩) | fail)
  have HW4 : Hid (Below W1.heap.size W1 W4 ∧ EdgesAt W4 (.slice (some ⟨g', 0, none⟩) 10 c') (fullP 5) ∧ b2 < g') := ⟨below_next HW3.out h4, hE4, by have := HB2.out.2; have := HW3.out.size; omega⟩
  clear hE4 hg4 h4 c0 c1 C66
  go_loopw [5, 6] (fun s5 s6 wz => s6 = .int .i64 1 ∧ s5 = .slice (some ⟨g', 0, none⟩) 10 c' ∧ wz = W4) (fun _ _ _ => 0)
  case atStart => exact ⟨rfl, rfl, rfl⟩
  case round =>
    obtain ⟨rfl, rfl, hwr⟩ := hrel
    have hwr' := hwr.symm
    clear hwr
    subst hwr'
    obtain ⟨q1, q2, q3⟩ := HW1.out _ HW4.out.1
    obtain ⟨c0, c1⟩ := cell_two q1
    obtain ⟨s1, s2, s3, s4, s5, s6⟩ := store_two' q2 (.int .i64 5) (.slice (some ⟨g', 0, none⟩) 10 c')
    have HQ : Hid (Below w.heap.size w W4) := q3
    clear q1 q2 q3
    go_wp2
    refine bodyPost_ret (v := .agg #[.int .i64 5, .slice (some ⟨g', 0, none⟩) 10 c']) ?_ rfl ⟨⟨_, _, rfl, ?_⟩, (HQ.out.setCell HB2.out.1 _).setCell HB2.out.1 _⟩
    · simp [results, Tryz.results45, go_sem, s5, s6]
    · have hne := HW4.out.2.2
      exact (HW4.out.2.1.setCell (fun x hx => by cases hx; simp; omega) _).setCell (fun x hx => by cases hx; simp; omega) _
theorem store3 {w : World} {b : Nat} {x y z : Value} {t : TypeId} (h : Box w b #[x, y, z] t) (x' y' z' : Value) : w.cell? ⟨b, 0, none⟩ = some x ∧ w.frozen? ⟨b, 0, none⟩ = false ∧ (w.setCell ⟨b, 0, none⟩ x').cell? ⟨b, 1, none⟩ = some y ∧ (w.setCell ⟨b, 0, none⟩ x').frozen? ⟨b, 1, none⟩ = false ∧ ((w.setCell ⟨b, 0, none⟩ x').setCell ⟨b, 1, none⟩ y').cell? ⟨b, 2, none⟩ = some z ∧ ((w.setCell ⟨b, 0, none⟩ x').setCell ⟨b, 1, none⟩ y').frozen? ⟨b, 2, none⟩ = false ∧ (((w.setCell ⟨b, 0, none⟩ x').setCell ⟨b, 1, none⟩ y').setCell ⟨b, 2, none⟩ z').cell? ⟨b, 0, none⟩ = some x' ∧ (((w.setCell ⟨b, 0, none⟩ x').setCell ⟨b, 1, none⟩ y').setCell ⟨b, 2, none⟩ z').cell? ⟨b, 1, none⟩ = some y' ∧ (((w.setCell ⟨b, 0, none⟩ x').setCell ⟨b, 1, none⟩ y').setCell ⟨b, 2, none⟩ z').cell? ⟨b, 2, none⟩ = some z' := by
  have h1 : Box (w.setCell ⟨b, 0, none⟩ x') b #[x', y, z] t := box_set h 0 x'
  have h2 : Box ((w.setCell ⟨b, 0, none⟩ x').setCell ⟨b, 1, none⟩ y') b #[x', y', z] t := box_set h1 1 y'
  have h3 : Box (((w.setCell ⟨b, 0, none⟩ x').setCell ⟨b, 1, none⟩ y').setCell ⟨b, 2, none⟩ z') b #[x', y', z'] t := box_set h2 2 z'
  exact ⟨box_cell h (i := 0) rfl, box_free h 0, box_cell h1 (i := 1) rfl, box_free h1 1, box_cell h2 (i := 2) rfl, box_free h2 2, box_cell h3 (i := 0) rfl, box_cell h3 (i := 1) rfl, box_cell h3 (i := 2) rfl⟩
set_option maxHeartbeats 4000000 in
theorem tile5_call {w : World} {ao : Option Addr} {cap : Nat} (hE : EdgesAt w (.slice ao 10 cap) (fullP 5)) (ht : T64 w) :
    Calls Tryz.prog 33 #[.agg #[.int .i64 5, .slice ao 10 cap]] w fun e w' => e = .returned (.tuple #[.agg #[.slice none 0 0, .map none, .slice none 0 0], .bool false]) ∧ Below w.heap.size w w' := by
  have C45 : Hid (∀ A, Below w.heap.size w A → Calls Tryz.prog 45 #[.agg #[.int .i64 5, .slice ao 10 cap]] A fun e w' => (∃ po pc, e = .returned (.agg #[.int .i64 5, .slice po 10 pc]) ∧ EdgesAt w' (.slice po 10 pc) (fullP 5)) ∧ Below A.heap.size A w') := fun A hA => joined5_call (hE.below hA)
  have HT : Hid (T64 w) := ht
  have C46 : Hid (∀ A v, Below w.heap.size w A → EdgesAt A v (fullP 5) → Calls Tryz.prog 46 #[.agg #[.int .i64 5, v]] A fun e w' => ∃ po pc, e = .returned (.tuple #[.slice none 0 0, .slice po 10 pc, .agg #[.int .i64 0, .int .i64 0]]) ∧ Below A.heap.size A w') := fun A v hA hE => by
    have h := embed_ok (n := 5) hE chk5 k5_eq (by decide) (HT.out.under hA) ok5 (fun _ => need5)
    refine h.mono fun e w' hr => ?_
    have hl : lay 5 k5 = none := by
      have := lay5
      cases hh : lay 5 k5 with
      | none => rfl
      | some F => rw [hh] at this; cases this
    unfold EmbR at hr
    rw [hl] at hr
    obtain ⟨h1, x, rfl, hx⟩ := hr
    rcases hx.2 with ⟨_, e0⟩ | ⟨g, cap, cur, e, _⟩
    · rw [len5] at e0; cases e0
    · rw [len5] at e
      subst e
      exact ⟨_, _, rfl, h1⟩
  clear hE ht
  go_enter Tryz.func33, Tryz.ntmps33
  go_upto_region 1 with (fail)
  have t1 : Two ((w.alloc (Obj.cells #[.int .i64 5, .slice ao 10 cap] 24)).alloc (Obj.cells #[.slice none 0 0, .map none, .slice none 0 0] 64)) w.heap.size (.int .i64 5) (.slice ao 10 cap) 24 := two_alloc (two_new _ _ _ _) _
  have t2 : Box ((w.alloc (Obj.cells #[.int .i64 5, .slice ao 10 cap] 24)).alloc (Obj.cells #[.slice none 0 0, .map none, .slice none 0 0] 64)) (w.heap.size + 1) #[.slice none 0 0, .map none, .slice none 0 0] 64 := by
    have h := heap_alloc_new (w.alloc (Obj.cells #[.int .i64 5, .slice ao 10 cap] 24)) (Obj.cells #[.slice none 0 0, .map none, .slice none 0 0] 64)
    rw [show (w.alloc (Obj.cells #[.int .i64 5, .slice ao 10 cap] 24)).heap.size = w.heap.size + 1 by simp] at h
    exact h
  have hB0 : Below w.heap.size w ((w.alloc (Obj.cells #[.int .i64 5, .slice ao 10 cap] 24)).alloc (Obj.cells #[.slice none 0 0, .map none, .slice none 0 0] 64)) := below_alloc (below_alloc (Below.refl _ w) _) _
  obtain ⟨b1, hb1⟩ : ∃ b, b = w.heap.size := ⟨_, rfl⟩
  obtain ⟨b2, hb2⟩ : ∃ b, b = w.heap.size + 1 := ⟨_, rfl⟩
  rw [← hb2] at t2 ⊢
  rw [← hb1] at t1 ⊢
  generalize ((w.alloc (Obj.cells #[.int .i64 5, .slice ao 10 cap] 24)).alloc (Obj.cells #[.slice none 0 0, .map none, .slice none 0 0] 64)) = W1 at *
  have HW1 : Hid (∀ A, Below W1.heap.size W1 A → Box A b2 #[.slice none 0 0, .map none, .slice none 0 0] 64 ∧ Below w.heap.size w A) := fun A hA => ⟨(hA.block _ (lt_of_block t2)).trans t2, below_next hB0 hA⟩
  have HB2 : Hid (w.heap.size ≤ b2) := by show _ ≤ _; omega
  obtain ⟨c0, c1⟩ := cell_two t1
  clear t1 t2 hB0 hb1 hb2
  go_upto_region 2 with (first | (go_at_call 45; refine Calls.mono (C45.out _ (HW1.out _ (Below.refl _ _)).2) ?_; rintro e W2 ⟨⟨po, pc, rfl, hE2⟩, h2⟩) | fail)
  have t4 := two_new W2 (.int .i64 5) (.slice po 10 pc) 24
  have hB3 := below_alloc (Below.refl _ W2) (Obj.cells #[.int .i64 5, .slice po 10 pc] 24)
  have hE3 := hE2.below hB3
  generalize W2.heap.size = b4 at t4 ⊢
  generalize W2.alloc (Obj.cells #[.int .i64 5, .slice po 10 pc] 24) = W3 at *
  have HW3 : Hid (Below W1.heap.size W1 W3 ∧ EdgesAt W3 (.slice po 10 pc) (fullP 5)) := ⟨below_next h2 hB3, hE3⟩
  clear c0 c1 h2 hB3 hE2 hE3 C45
  obtain ⟨c0, c1⟩ := cell_two t4
  clear t4
  go_upto_region 3 with (first | (go_at_call 46; refine Calls.mono (C46.out _ _ (HW1.out _ HW3.out.1).2 HW3.out.2) ?_; rintro e W4 ⟨qo, qc, rfl, h4⟩) | fail)
  have hB5 := below_next h4 (below_alloc (Below.refl _ W4) (Obj.cells #[.int .i64 0, .int .i64 0] 28))
  generalize W4.heap.size = b7 at *
  generalize W4.alloc (Obj.cells #[.int .i64 0, .int .i64 0] 28) = W5 at *
  obtain ⟨z2, zB⟩ := HW1.out _ (below_next HW3.out.1 hB5)
  obtain ⟨s1, s2, s3, s4, s5, s6, s7, s8, s9⟩ := store3 z2 (.slice none 0 0) (.map none) (.slice none 0 0)
  have HZ : Hid (Below w.heap.size w W5) := zB
  clear h4 hB5 z2 zB c0 c1 C46
  go_wp2
  refine bodyPost_ret (v := .tuple #[.agg #[.slice none 0 0, .map none, .slice none 0 0], .bool false]) ?_ rfl ⟨rfl, ((HZ.out.setCell HB2.out _).setCell HB2.out _).setCell HB2.out _⟩
  simp [results, Tryz.results33, go_sem, s7, s8, s9]
set_option maxHeartbeats 4000000 in
theorem draw5_call {w : World} {ao : Option Addr} {cap : Nat} (hE : EdgesAt w (.slice ao 10 cap) (fullP 5)) (ht : T64 w) :
    Calls Tryz.prog 17 #[.agg #[.int .i64 5, .slice ao 10 cap]] w fun e w' => e = .returned (.tuple #[.slice none 0 0, .agg #[.int .i64 9, .int .i64 0]]) ∧ Below w.heap.size w w' := by
  have C12 : Hid (∀ A, Below w.heap.size w A → Calls Tryz.prog 12 #[.agg #[.int .i64 5, .slice ao 10 cap]] A fun e w' => e = .returned (.agg #[.int .i64 0, .int .i64 0]) ∧ Below A.heap.size A w') := fun A hA => by
    have h := check_any (5 : Nat) _ (fullP 5) A (hE.below hA)
    rw [(chk_good chk5).1] at h
    exact h
  have C33 : Hid (∀ A, Below w.heap.size w A → Calls Tryz.prog 33 #[.agg #[.int .i64 5, .slice ao 10 cap]] A fun e w' => e = .returned (.tuple #[.agg #[.slice none 0 0, .map none, .slice none 0 0], .bool false]) ∧ Below A.heap.size A w') := fun A hA => tile5_call (hE.below hA) (ht.under hA)
  clear hE ht
  go_enter Tryz.func17, Tryz.ntmps17
  go_upto_region 1 with (fail)
  have t1 : Two ((w.alloc (Obj.cells #[.int .i64 5, .slice ao 10 cap] 24)).alloc (Obj.cells #[.int .i64 0, .int .i64 0] 28)) w.heap.size (.int .i64 5) (.slice ao 10 cap) 24 := two_alloc (two_new _ _ _ _) _
  have t2 : Two ((w.alloc (Obj.cells #[.int .i64 5, .slice ao 10 cap] 24)).alloc (Obj.cells #[.int .i64 0, .int .i64 0] 28)) (w.heap.size + 1) (.int .i64 0) (.int .i64 0) 28 := two_nxt _ _ _ _ _
  have hB0 : Below w.heap.size w ((w.alloc (Obj.cells #[.int .i64 5, .slice ao 10 cap] 24)).alloc (Obj.cells #[.int .i64 0, .int .i64 0] 28)) := below_alloc (below_alloc (Below.refl _ w) _) _
  obtain ⟨b1, hb1⟩ : ∃ b, b = w.heap.size := ⟨_, rfl⟩
  obtain ⟨b2, hb2⟩ : ∃ b, b = w.heap.size + 1 := ⟨_, rfl⟩
  rw [← hb2] at t2 ⊢
  rw [← hb1] at t1 ⊢
  generalize ((w.alloc (Obj.cells #[.int .i64 5, .slice ao 10 cap] 24)).alloc (Obj.cells #[.int .i64 0, .int .i64 0] 28)) = W1 at *
  have HW1 : Hid (∀ A, Below W1.heap.size W1 A → Two A b1 (.int .i64 5) (.slice ao 10 cap) 24 ∧ Two A b2 (.int .i64 0) (.int .i64 0) 28 ∧ Below w.heap.size w A) := fun A hA => ⟨two_next t1 hA, two_next t2 hA, below_next hB0 hA⟩
  have HB2 : Hid (w.heap.size ≤ b2) := by show _ ≤ _; omega
  obtain ⟨c0, c1⟩ := cell_two t1
  clear t1 t2 hB0 hb1 hb2
  go_upto_region 2 with (first | (go_at_call 12; refine Calls.mono (C12.out _ (HW1.out _ (Below.refl _ _)).2.2) ?_; rintro e W2 ⟨rfl, h2⟩) | fail)
  have t4 := two_new W2 (.int .i64 0) (.int .i64 0) 28
  have hB3 := below_next h2 (below_alloc (Below.refl _ W2) (Obj.cells #[.int .i64 0, .int .i64 0] 28))
  generalize W2.heap.size = b4 at t4 ⊢
  generalize W2.alloc (Obj.cells #[.int .i64 0, .int .i64 0] 28) = W3 at *
  have HW3 : Hid (Below W1.heap.size W1 W3) := hB3
  obtain ⟨d0, d1⟩ := cell_two t4
  clear c0 c1 h2 hB3 t4 C12
  obtain ⟨c0, c1⟩ := cell_two (HW1.out _ HW3.out).1
  go_upto_region 9 with (first | (go_at_call 33; refine Calls.mono (C33.out _ (HW1.out _ HW3.out).2.2) ?_; rintro e W4 ⟨rfl, h4⟩) | fail)
  have hB5 := below_next h4 (below_alloc (Below.refl _ W4) (Obj.cells #[.slice none 0 0, .map none, .slice none 0 0] 64))
  generalize W4.heap.size = b5 at *
  generalize W4.alloc (Obj.cells #[.slice none 0 0, .map none, .slice none 0 0] 64) = W5 at *
  obtain ⟨_, z2, zB⟩ := HW1.out _ (below_next HW3.out hB5)
  obtain ⟨s1, s2, s3, s4, s5, s6⟩ := store_two' z2 (.int .i64 9) (.int .i64 0)
  have HZ : Hid (Below w.heap.size w W5) := zB
  clear h4 hB5 z2 zB c0 c1 d0 d1 C33
  go_wp2
  refine bodyPost_ret (v := .tuple #[.slice none 0 0, .agg #[.int .i64 9, .int .i64 0]]) ?_ rfl ⟨rfl, (HZ.out.setCell HB2.out _).setCell HB2.out _⟩
  simp [results, Tryz.results17, go_sem, s5, s6]
/-- The three points of the document's example. -/
def p3 (k : Nat) : Pt := [((0 : Int), (0 : Int)), (2, 0), (1, 1)].getD k (0, 0)
theorem clr3 : clrP 3 (fullP 3) 3 p3 = (0, 0) := by decide +kernel
theorem clear3 : clearB 3 (fullP 3) p3 = true := by decide +kernel
theorem len_3 : (fullP 3).length = 3 := by decide +kernel
end Go.Proofs.YtnboonhlffkimaaGreatDoor
