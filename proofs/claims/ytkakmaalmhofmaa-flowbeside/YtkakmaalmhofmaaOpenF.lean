/- openForm: the form of a graph, if it and two nodes are right. -/
import Derived.Test.YtkakmaalmhofmaaMostB
import Derived.Deep.Cut
import Derived.Deep.CutRange
namespace Go.Proofs.Ytkakmaalmhofmaa
open Go.RowKit Go.Maps
attribute [local go_sem ↓] Go.wp_at_zero Go.wp_at_succ

def openS (n : Int) (es : List Pair) (s t : Int) : Ans := if (formS n es).c ≠ 0 then ⟨0, [], (formS n es).c, (formS n es).pos⟩ else if (endsF (formS n es).n s t).1 ≠ 0 then ⟨0, [], (endsF (formS n es).n s t).1, (endsF (formS n es).n s t).2⟩ else ⟨(formS n es).n, (formS n es).es, 0, 0⟩

set_option maxRecDepth 4000 in
set_option maxHeartbeats 2000000 in
theorem openForm_call (n s t : Int) (v : Value) (es : List Pair) (w : World) (hE : EdgesAt w v es) : Tells 34 #[.agg #[.int .i64 n, v], .int .i64 s, .int .i64 t] w (openS n es s t) := by
  obtain ⟨A, hA⟩ : ∃ A, formS n es = A := ⟨_, rfl⟩
  obtain ⟨A2, hA2⟩ : ∃ A2, openS n es s t = A2 := ⟨_, rfl⟩
  rw [hA2]
  unfold openS at hA2
  rw [hA] at hA2
  obtain ⟨eo, ec, rfl⟩ := hE.form
  have h56 : ∀ W, Below w.heap.size w W → Tells 56 #[.agg #[.int .i64 n, .slice eo es.length ec]] W A := fun W hW => form_as (hE.below hW) hA
  have H56 : Hid (∀ W, Below w.heap.size w W → Tells 56 #[.agg #[.int .i64 n, .slice eo es.length ec]] W A) := h56
  clear h56 hE hA
  obtain ⟨an, aes, ac, ap⟩ := A
  obtain ⟨bn, bes, bc, bp⟩ := A2
  have HO : Hid ((if ac ≠ 0 then (⟨0, [], ac, ap⟩ : Ans) else if (endsF an s t).1 ≠ 0 then ⟨0, [], (endsF an s t).1, (endsF an s t).2⟩ else ⟨an, aes, 0, 0⟩) = ⟨bn, bes, bc, bp⟩) := hA2
  clear hA2
  unfold Tells
  simp only
  go_enter Try.func34, Try.ntmps34
  go_upto_region 1 with (fail)
  have t3 : Two (((w.alloc (Obj.cells #[.int .i64 n, .slice eo es.length ec] 40)).alloc (Obj.cells #[.int .i64 0, .slice none 0 0] 40)).alloc (Obj.cells #[.int .i64 0, .int .i64 0] 26)) w.heap.size (.int .i64 n) (.slice eo es.length ec) 40 := two_alloc (two_alloc (two_new w _ _ 40) _) _
  have t6 : Two (((w.alloc (Obj.cells #[.int .i64 n, .slice eo es.length ec] 40)).alloc (Obj.cells #[.int .i64 0, .slice none 0 0] 40)).alloc (Obj.cells #[.int .i64 0, .int .i64 0] 26)) (w.heap.size + 1) (.int .i64 0) (.slice none 0 0) 40 := by
    have := two_new (w.alloc (Obj.cells #[.int .i64 n, .slice eo es.length ec] 40)) (.int .i64 0) (.slice none 0 0) 40
    simp only [World.size_alloc] at this
    exact two_alloc this _
  have t7 : Two (((w.alloc (Obj.cells #[.int .i64 n, .slice eo es.length ec] 40)).alloc (Obj.cells #[.int .i64 0, .slice none 0 0] 40)).alloc (Obj.cells #[.int .i64 0, .int .i64 0] 26)) (w.heap.size + 1 + 1) (.int .i64 0) (.int .i64 0) 26 := by
    have := two_new ((w.alloc (Obj.cells #[.int .i64 n, .slice eo es.length ec] 40)).alloc (Obj.cells #[.int .i64 0, .slice none 0 0] 40)) (.int .i64 0) (.int .i64 0) 26
    simp only [World.size_alloc] at this
    exact this
  have hB0 : Below w.heap.size w (((w.alloc (Obj.cells #[.int .i64 n, .slice eo es.length ec] 40)).alloc (Obj.cells #[.int .i64 0, .slice none 0 0] 40)).alloc (Obj.cells #[.int .i64 0, .int .i64 0] 26)) := below_alloc (below_alloc (below_alloc (Below.refl _ w) _) _) _
  have hs0 : (((w.alloc (Obj.cells #[.int .i64 n, .slice eo es.length ec] 40)).alloc (Obj.cells #[.int .i64 0, .slice none 0 0] 40)).alloc (Obj.cells #[.int .i64 0, .int .i64 0] 26)).heap.size = w.heap.size + 3 := by simp
  generalize (((w.alloc (Obj.cells #[.int .i64 n, .slice eo es.length ec] 40)).alloc (Obj.cells #[.int .i64 0, .slice none 0 0] 40)).alloc (Obj.cells #[.int .i64 0, .int .i64 0] 26)) = W0 at t3 t6 t7 hB0 hs0 ⊢
  obtain ⟨b6, hb6⟩ : ∃ b, b = w.heap.size + 1 := ⟨_, rfl⟩
  obtain ⟨b7, hb7⟩ : ∃ b, b = w.heap.size + 1 + 1 := ⟨_, rfl⟩
  rw [← hb7] at t7 ⊢
  rw [← hb6] at t6 ⊢
  have hbb : w.heap.size ≤ b6 ∧ w.heap.size ≤ b7 ∧ b6 ≠ b7 ∧ b6 < W0.heap.size ∧ b7 < W0.heap.size := by omega
  clear hb6 hb7 hs0
  obtain ⟨q0, q1⟩ := cell_two t3
  have h56 := H56.out W0 hB0
  unfold Tells at h56
  simp only at h56
  have HC : Hid (Calls Try.prog 56 #[.agg #[.int .i64 n, .slice eo es.length ec]] W0 fun e w' => Below W0.heap.size W0 w' ∧ ∃ ao cap, e = .returned (.tuple #[.agg #[.int .i64 an, .slice ao aes.length cap], .agg #[.int .i64 ac, .int .i64 ap]]) ∧ EdgesAt w' (.slice ao aes.length cap) aes ∧ ∀ x, ao = some x → W0.heap.size ≤ x.block) := h56
  clear h56 H56
  go_upto_region 2 with (first | (go_at_call 56; refine Calls.mono HC.out ?_; rintro e W1 ⟨hb1, fo, fc, rfl, hE1, hfo⟩) | go_in)
  have hb2 := below_alloc (below_alloc hb1 (Obj.cells #[.int .i64 an, .slice fo aes.length fc] 40)) (Obj.cells #[.int .i64 ac, .int .i64 ap] 26)
  have hb2' := below_alloc (below_alloc (Below.refl _ W1) (Obj.cells #[.int .i64 an, .slice fo aes.length fc] 40)) (Obj.cells #[.int .i64 ac, .int .i64 ap] 26)
  have t8 : Two ((W1.alloc (Obj.cells #[.int .i64 an, .slice fo aes.length fc] 40)).alloc (Obj.cells #[.int .i64 ac, .int .i64 ap] 26)) W1.heap.size (.int .i64 an) (.slice fo aes.length fc) 40 := two_alloc (two_new W1 _ _ 40) _
  have t9 : Two ((W1.alloc (Obj.cells #[.int .i64 an, .slice fo aes.length fc] 40)).alloc (Obj.cells #[.int .i64 ac, .int .i64 ap] 26)) (W1.heap.size + 1) (.int .i64 ac) (.int .i64 ap) 26 := by
    have := two_new (W1.alloc (Obj.cells #[.int .i64 an, .slice fo aes.length fc] 40)) (.int .i64 ac) (.int .i64 ap) 26
    simp only [World.size_alloc] at this
    exact this
  have hE2 := hE1.below hb2'
  have u6 := two_next t6 hb2
  have u7 := two_next t7 hb2
  have hB2 := below_next hB0 hb2
  have hsz : W0.heap.size ≤ W1.heap.size := hb1.size
  generalize ((W1.alloc (Obj.cells #[.int .i64 an, .slice fo aes.length fc] 40)).alloc (Obj.cells #[.int .i64 ac, .int .i64 ap] 26)) = W2 at t8 t9 u6 u7 hB2 hE2 ⊢
  obtain ⟨b8, hb8⟩ : ∃ b, b = W1.heap.size := ⟨_, rfl⟩
  obtain ⟨b9, hb9⟩ : ∃ b, b = W1.heap.size + 1 := ⟨_, rfl⟩
  rw [← hb9] at t9 ⊢
  rw [← hb8] at t8 ⊢
  have hbn : b8 ≠ b6 ∧ b8 ≠ b7 ∧ b9 ≠ b6 ∧ b9 ≠ b7 ∧ w.heap.size ≤ W0.heap.size := by have := hB0.size; omega
  have hfo2 : ∀ x, fo = some x → w.heap.size ≤ x.block ∧ x.block ≠ b6 ∧ x.block ≠ b7 := fun x hx => by have := hfo x hx; omega
  have HFO : Hid (∀ x, fo = some x → w.heap.size ≤ x.block ∧ x.block ≠ b6 ∧ x.block ≠ b7) := hfo2
  have HE2 : Hid (EdgesAt W2 (.slice fo aes.length fc) aes) := hE2
  clear t3 t6 t7 hB0 q0 q1 hb1 hb2 hb2' hE1 hE2 hfo hfo2 hb8 hb9 hsz HC
  obtain ⟨r0, r1⟩ := cell_two t9
  obtain ⟨r6, r61⟩ := cell_two u6
  obtain ⟨r7, r71⟩ := cell_two u7
  have f6 := free_two u6
  have f7 := free_two u7
  by_cases hc : ac = 0
  · have k1 : (ac != 0) = false := by simp [hc]
    obtain ⟨r8, r81⟩ := cell_two t8
    have HCA : Hid (ac = 0) := hc
    clear hc
    obtain ⟨ec1, ed1, hed⟩ : ∃ a b, endsF an s t = (a, b) := ⟨_, _, rfl⟩
    have h30 : ∀ W, Calls Try.prog 30 #[.int .i64 an, .int .i64 s, .int .i64 t] W fun e w' => e = .returned (.agg #[.int .i64 ec1, .int .i64 ed1]) ∧ Below W.heap.size W w' := fun W => by have := ends30 an s t W; rw [hed] at this; exact this
    have H30 : Hid (∀ W, Calls Try.prog 30 #[.int .i64 an, .int .i64 s, .int .i64 t] W fun e w' => e = .returned (.agg #[.int .i64 ec1, .int .i64 ed1]) ∧ Below W.heap.size W w') := h30
    have HED : Hid (endsF an s t = (ec1, ed1)) := hed
    clear h30 hed
    go_upto_region 5 with (first | (go_at_call 30; refine (H30.out _).mono ?_; rintro e W3 ⟨rfl, hb3⟩) | go_in)
    have hb3a := below_alloc hb3 (Obj.cells #[.int .i64 ec1, .int .i64 ed1] 26)
    have t10 := two_new W3 (.int .i64 ec1) (.int .i64 ed1) 26
    have v6 := two_next u6 hb3a
    have v7 := two_next u7 hb3a
    have v8 := two_next t8 hb3a
    have hB3 := below_next hB2 hb3a
    have hE3 := EdgesAt.below HE2.out hb3a
    obtain ⟨b10, hb10⟩ : ∃ b, b = W3.heap.size := ⟨_, rfl⟩
    have hb10n : b10 ≠ b6 ∧ b10 ≠ b7 := by have := lt_of_block u6; have := lt_of_block u7; have := hb3.size; omega
    rw [← hb10] at t10 ⊢
    generalize W3.alloc (Obj.cells #[.int .i64 ec1, .int .i64 ed1] 26) = W4 at t10 v6 v7 v8 hB3 hE3 ⊢
    have HE3 : Hid (EdgesAt W4 (.slice fo aes.length fc) aes) := hE3
    clear t8 t9 u6 u7 hB2 r0 r1 r6 r61 r7 r71 r8 r81 f6 f7 hb3 hb3a hE3 hb10 HE2
    obtain ⟨r0, r1⟩ := cell_two t10
    obtain ⟨r6, r61⟩ := cell_two v6
    obtain ⟨r7, r71⟩ := cell_two v7
    obtain ⟨r8, r81⟩ := cell_two v8
    have f6 := free_two v6
    have f7 := free_two v7
    by_cases he : ec1 = 0
    · have k2 : (ec1 != 0) = false := by simp [he]
      have HEC : Hid (ec1 = 0) := he
      clear he
      go_wp2
      have ho := HO.out
      rw [HED.out] at ho
      simp only at ho
      rw [if_neg (by simpa using HCA.out), if_neg (by simpa using HEC.out)] at ho
      cases ho
      have y6 := two_far (b' := b7) (o := 1) (u := .int .i64 0) (two_far (b' := b7) (o := 0) (u := .int .i64 0) (two_setN (x' := .int .i64 an) (y' := .slice fo aes.length fc) v6) hbb.2.2.1) hbb.2.2.1
      have y7 := two_setN (x' := .int .i64 0) (y' := .int .i64 0) (two_far (b' := b6) (o := 1) (u := .slice fo aes.length fc) (two_far (b' := b6) (o := 0) (u := .int .i64 an) v7 hbb.2.2.1.symm) hbb.2.2.1.symm)
      have hE4 := (((EdgesAt.setCell (p := ⟨b6, 0, none⟩) HE3.out (fun x hx => (HFO.out x hx).2.1) (.int .i64 an)).setCell (p := ⟨b6, 1, none⟩) (fun x hx => (HFO.out x hx).2.1) (.slice fo aes.length fc)).setCell (p := ⟨b7, 0, none⟩) (fun x hx => (HFO.out x hx).2.2) (.int .i64 0)).setCell (p := ⟨b7, 1, none⟩) (fun x hx => (HFO.out x hx).2.2) (.int .i64 0)
      have hB4 := (((hB3.setCell (p := ⟨b6, 0, none⟩) hbb.1 (.int .i64 an)).setCell (p := ⟨b6, 1, none⟩) hbb.1 (.slice fo aes.length fc)).setCell (p := ⟨b7, 0, none⟩) hbb.2.1 (.int .i64 0)).setCell (p := ⟨b7, 1, none⟩) hbb.2.1 (.int .i64 0)
      generalize ((((W4.setCell ⟨b6, 0, none⟩ (.int .i64 an)).setCell ⟨b6, 1, none⟩ (.slice fo aes.length fc)).setCell ⟨b7, 0, none⟩ (.int .i64 0)).setCell ⟨b7, 1, none⟩ (.int .i64 0)) = WF at y6 y7 hE4 hB4 ⊢
      obtain ⟨m6, m61⟩ := cell_two y6
      obtain ⟨m7, m71⟩ := cell_two y7
      refine bodyPost_ret (v := .tuple #[.agg #[.int .i64 an, .slice fo aes.length fc], .agg #[.int .i64 0, .int .i64 0]]) ?_ rfl ⟨hB4, fo, fc, rfl, hE4, fun x hx => (HFO.out x hx).1⟩
      simp [results, Try.results34, go_sem, m6, m61, m7, m71]
    · have k2 : (ec1 != 0) = true := by simp [he]
      have HEC : Hid (ec1 ≠ 0) := he
      clear he
      have ho := HO.out
      rw [HED.out] at ho
      simp only at ho
      rw [if_neg (by simpa using HCA.out), if_pos (by simpa using HEC.out)] at ho
      cases ho
      go_upto_region 6 with (fail)
      go_region
      all_goals
        go_wp2
        have y6 := two_far (b' := b7) (o := 1) (u := .int .i64 bp) (two_far (b' := b7) (o := 0) (u := .int .i64 bc) (two_setN (x' := .int .i64 0) (y' := .slice none 0 0) v6) hbb.2.2.1) hbb.2.2.1
        have y7 := two_setN (x' := .int .i64 bc) (y' := .int .i64 bp) (two_far (b' := b6) (o := 1) (u := .slice none 0 0) (two_far (b' := b6) (o := 0) (u := .int .i64 0) v7 hbb.2.2.1.symm) hbb.2.2.1.symm)
        have hB4 := (((hB3.setCell (p := ⟨b6, 0, none⟩) hbb.1 (.int .i64 0)).setCell (p := ⟨b6, 1, none⟩) hbb.1 (.slice none 0 0)).setCell (p := ⟨b7, 0, none⟩) hbb.2.1 (.int .i64 bc)).setCell (p := ⟨b7, 1, none⟩) hbb.2.1 (.int .i64 bp)
        generalize ((((W4.setCell ⟨b6, 0, none⟩ (.int .i64 0)).setCell ⟨b6, 1, none⟩ (.slice none 0 0)).setCell ⟨b7, 0, none⟩ (.int .i64 bc)).setCell ⟨b7, 1, none⟩ (.int .i64 bp)) = WF at y6 y7 hB4 ⊢
        have z6 : Two WF.drew b6 (.int .i64 0) (.slice none 0 0) 40 := y6
        have z7 : Two WF.drew b7 (.int .i64 bc) (.int .i64 bp) 26 := y7
        obtain ⟨m6, m61⟩ := cell_two z6
        obtain ⟨m7, m71⟩ := cell_two z7
        refine bodyPost_ret (v := .tuple #[.agg #[.int .i64 0, .slice none 0 0], .agg #[.int .i64 bc, .int .i64 bp]]) ?_ rfl ⟨hB4.drew, none, 0, rfl, edgesAt_nil _, fun x hx => (by cases hx)⟩
        simp [results, Try.results34, go_sem, m6, m61, m7, m71]
  · have k1 : (ac != 0) = true := by simp [hc]
    have HCA : Hid (ac ≠ 0) := hc
    clear hc
    have ho := HO.out
    rw [if_pos (by simpa using HCA.out)] at ho
    cases ho
    go_upto_region 3 with (fail)
    go_region
    all_goals
      go_wp2
      have y6 := two_far (b' := b7) (o := 1) (u := .int .i64 ap) (two_far (b' := b7) (o := 0) (u := .int .i64 ac) (two_setN (x' := .int .i64 0) (y' := .slice none 0 0) u6) hbb.2.2.1) hbb.2.2.1
      have y7 := two_setN (x' := .int .i64 ac) (y' := .int .i64 ap) (two_far (b' := b6) (o := 1) (u := .slice none 0 0) (two_far (b' := b6) (o := 0) (u := .int .i64 0) u7 hbb.2.2.1.symm) hbb.2.2.1.symm)
      have hB4 := (((hB2.setCell (p := ⟨b6, 0, none⟩) hbb.1 (.int .i64 0)).setCell (p := ⟨b6, 1, none⟩) hbb.1 (.slice none 0 0)).setCell (p := ⟨b7, 0, none⟩) hbb.2.1 (.int .i64 ac)).setCell (p := ⟨b7, 1, none⟩) hbb.2.1 (.int .i64 ap)
      generalize ((((W2.setCell ⟨b6, 0, none⟩ (.int .i64 0)).setCell ⟨b6, 1, none⟩ (.slice none 0 0)).setCell ⟨b7, 0, none⟩ (.int .i64 ac)).setCell ⟨b7, 1, none⟩ (.int .i64 ap)) = WF at y6 y7 hB4 ⊢
      have z6 : Two WF.drew b6 (.int .i64 0) (.slice none 0 0) 40 := y6
      have z7 : Two WF.drew b7 (.int .i64 ac) (.int .i64 ap) 26 := y7
      obtain ⟨m6, m61⟩ := cell_two z6
      obtain ⟨m7, m71⟩ := cell_two z7
      refine bodyPost_ret (v := .tuple #[.agg #[.int .i64 0, .slice none 0 0], .agg #[.int .i64 ac, .int .i64 ap]]) ?_ rfl ⟨hB4.drew, none, 0, rfl, edgesAt_nil _, fun x hx => (by cases hx)⟩
      simp [results, Try.results34, go_sem, m6, m61, m7, m71]
end Go.Proofs.Ytkakmaalmhofmaa
