/- nearInBoth: two graphs looked at, the first one first. -/
import Derived.Test.YtmbhmahclfdgnaaCompl
namespace Go.Proofs.Ytmbhmahclfdgnaa
open Go.RowKit Go.Maps
attribute [local go_sem ↓] Go.wp_at_zero Go.wp_at_succ

/-- What is wrong with the first of two graphs, or with the second. -/
def chk2 (na : Int) (ea : List Pair) (nb : Int) (eb : List Pair) : Int × Int := if (chk na ea).1 = 0 then chk nb eb else chk na ea

theorem NearAt.put {w : World} {Bx : Nat} {es : List Pair} (h : NearAt w Bx es) {b : Nat} {cs : Array Value} {t : TypeId} (hb : w.heap[b]? = some (.cells cs t (0, 0))) (ht : t ≠ 59) (o : Nat) (u : Value) : NearAt (w.setCell ⟨b, o, none⟩ u) Bx es := by
  obtain ⟨m, n, h1, h2⟩ := h
  refine ⟨m, n, ?_, h2.block ?_⟩
  · rw [Below.heap_setCell _ _ _ _ (fun e => ?_)]
    · exact h1
    · simp at e
      rw [e, hb] at h1
      simp at h1
      exact ht h1.2
  · refine Below.heap_setCell _ _ _ _ (fun e => ?_)
    simp at e
    obtain ⟨D, ⟨es', clock, h3, _⟩, _⟩ := h2
    rw [e, hb] at h3
    simp at h3

theorem put_block {w : World} {b : Nat} {x y : Value} {t : TypeId} (hb : w.heap[b]? = some (.cells #[x, y] t (0, 0))) (u : Value) : (w.setCell ⟨b, 0, none⟩ u).heap[b]? = some (.cells #[u, y] t (0, 0)) := by
  simp [World.setCell, Array.getElem?_modify, hb]

theorem NearAt.put2 {w : World} {Bx : Nat} {es : List Pair} (h : NearAt w Bx es) {b : Nat} {x y : Value} {t : TypeId} (hb : w.heap[b]? = some (.cells #[x, y] t (0, 0))) (ht : t ≠ 59) (u v : Value) : NearAt ((w.setCell ⟨b, 0, none⟩ u).setCell ⟨b, 1, none⟩ v) Bx es :=
  (h.put hb ht 0 u).put (put_block hb u) ht 1 v

theorem put2_block {w : World} {b : Nat} {x y : Value} {t : TypeId} (hb : w.heap[b]? = some (.cells #[x, y] t (0, 0))) (u v : Value) : ((w.setCell ⟨b, 0, none⟩ u).setCell ⟨b, 1, none⟩ v).heap[b]? = some (.cells #[u, v] t (0, 0)) := by
  have := put_block hb u
  simp [World.setCell, Array.getElem?_modify, hb]

theorem third_block (w : World) (a b : Obj) (x y : Value) (t : TypeId) : (((w.alloc a).alloc b).alloc (Obj.cells #[x, y] t)).heap[w.heap.size + 1 + 1]? = some (.cells #[x, y] t (0, 0)) := by
  simpa using heap_alloc_new ((w.alloc a).alloc b) (Obj.cells #[x, y] t)

set_option maxHeartbeats 1000000 in
theorem nearBoth_any (na nb : Int) (va vb : Value) (ea eb : List Pair) (w : World) (hA : EdgesAt w va ea) (hB : EdgesAt w vb eb) :
    Calls Try.prog 41 #[.agg #[.int .i64 na, va], .agg #[.int .i64 nb, vb]] w fun e w' => Below w.heap.size w w' ∧
      (((chk2 na ea nb eb).1 ≠ 0 ∧ e = .returned (.tuple #[.nilFunc, .nilFunc, .agg #[.int .i64 (chk2 na ea nb eb).1, .int .i64 (chk2 na ea nb eb).2]])) ∨
       ((chk na ea).1 = 0 ∧ (chk nb eb).1 = 0 ∧ ∃ Ba Bb, e = .returned (.tuple #[.func (.func 44) #[] #[.pointer (some ⟨Ba, 0, none⟩)], .func (.func 44) #[] #[.pointer (some ⟨Bb, 0, none⟩)], .agg #[.int .i64 0, .int .i64 0]]) ∧ NearAt w' Ba ea ∧ NearAt w' Bb eb)) := by
  by_cases ha : (chk na ea).1 = 0
  · have e2 : chk2 na ea nb eb = chk nb eb := by unfold chk2; rw [if_pos ha]
    rw [e2]
    by_cases hb0 : (chk nb eb).1 = 0
    · have hb1 : ((chk nb eb).1 != 0) = false := by simpa using hb0
      go_enter Try.func41, Try.ntmps41
      go_wp2_with (first | (go_at_call_of 32 va; refine (nearIn_any na va ea _ ?_).mono ?_; exact hA.below (below3 _ _ _); rintro e w1 ⟨hb, ⟨hc, rfl⟩ | ⟨hc, Ba, rfl, hnA⟩⟩; exact absurd ha hc; have t1 := (hb.block _ (by simp)).trans (third_block w _ _ _ _ _); obtain ⟨bc, bf, bc1, bf1, bc2, bf2⟩ := bcell hb) | (go_at_call_of 32 vb; refine (nearIn_any nb vb eb _ ?_).mono ?_; exact hB.below (((below_next (below3 _ _ _) hb).setCell (by simp; omega) _).setCell (by simp; omega) _); rintro e w2 ⟨hbb, ⟨hc2, rfl⟩ | ⟨hc2, Bb, rfl, hnB⟩⟩; exact absurd hb0 hc2; have t2 := (hbb.block _ (lt_of_block (put2_block t1 _ _))).trans (put2_block t1 _ _); have x0 := (cell_two t2).1; have x1 := (cell_two t2).2; have y0 := free_two t2))
      refine bodyPost_ret (v := .tuple #[.func (.func 44) #[] #[.pointer (some ⟨Ba, 0, none⟩)], .func (.func 44) #[] #[.pointer (some ⟨Bb, 0, none⟩)], .agg #[.int .i64 0, .int .i64 0]]) ?_ rfl ⟨?_, Or.inr ⟨ha, hb0, Ba, Bb, rfl, ?_, ?_⟩⟩
      · have z := cell_two (put2_block (put2_block t2 (.int .i64 0) (.int .i64 0)) (.int .i64 0) (.int .i64 0))
        simp [results, Try.results41, go_sem, z.1, z.2]
      · exact below_set4 (below_next (((below_next (below3 _ _ _) hb).setCell (by simp; omega) _).setCell (by simp; omega) _) hbb) (by simp; omega) (by simp; omega) (by simp; omega) (by simp; omega)
      · exact (((hnA.put2 t1 (by decide) _ _).below hbb).put2 t2 (by decide) _ _).put2 (put2_block t2 _ _) (by decide) _ _
      · exact (hnB.put2 t2 (by decide) _ _).put2 (put2_block t2 _ _) (by decide) _ _
    · have hb1 : ((chk nb eb).1 != 0) = true := by simpa using hb0
      go_enter Try.func41, Try.ntmps41
      go_wp2_with (first | (go_at_call_of 32 va; refine (nearIn_any na va ea _ ?_).mono ?_; exact hA.below (below3 _ _ _); rintro e w1 ⟨hb, ⟨hc, rfl⟩ | ⟨hc, Ba, rfl, hnA⟩⟩; exact absurd ha hc; have t1 := (hb.block _ (by simp)).trans (third_block w _ _ _ _ _); obtain ⟨bc, bf, bc1, bf1, bc2, bf2⟩ := bcell hb) | (go_at_call_of 32 vb; refine (nearIn_any nb vb eb _ ?_).mono ?_; exact hB.below (((below_next (below3 _ _ _) hb).setCell (by simp; omega) _).setCell (by simp; omega) _); rintro e w2 ⟨hbb, ⟨hc2, rfl⟩ | ⟨hc2, Bb, rfl, hnB⟩⟩; rotate_left; exact absurd hc2 hb0; have t2 := (hbb.block _ (lt_of_block (put2_block t1 _ _))).trans (put2_block t1 _ _); have x0 := (cell_two t2).1; have x1 := (cell_two t2).2; have y0 := free_two t2))
      go_region
      go_wp2
      refine bodyPost_ret (v := .tuple #[.nilFunc, .nilFunc, .agg #[.int .i64 (chk nb eb).1, .int .i64 (chk nb eb).2]]) ?_ rfl ⟨?_, Or.inl ⟨hb0, rfl⟩⟩
      · have z := cell_two (put2_block (put2_block t2 (.int .i64 (chk nb eb).1) (.int .i64 (chk nb eb).2)) (.int .i64 (chk nb eb).1) (.int .i64 (chk nb eb).2))
        simp [results, Try.results41, go_sem, z.1, z.2]
      · exact (below_set4 (below_next (((below_next (below3 _ _ _) hb).setCell (by simp; omega) _).setCell (by simp; omega) _) hbb) (by simp; omega) (by simp; omega) (by simp; omega) (by simp; omega)).drew
  · have e2 : chk2 na ea nb eb = chk na ea := by unfold chk2; rw [if_neg ha]
    rw [e2]
    have hb1 : ((chk na ea).1 != 0) = true := by simpa using ha
    go_enter Try.func41, Try.ntmps41
    go_wp2_with (go_at_call 32; refine (nearIn_any na va ea _ ?_).mono ?_; exact hA.below (below3 _ _ _); rintro e w1 ⟨hb, ⟨hc, rfl⟩ | ⟨hc, Ba, rfl, hnA⟩⟩; rotate_left; exact absurd hc ha; obtain ⟨bc, bf, bc1, bf1, bc2, bf2⟩ := bcell hb)
    go_region
    go_wp2
    refine bodyPost_ret (v := .tuple #[.nilFunc, .nilFunc, .agg #[.int .i64 (chk na ea).1, .int .i64 (chk na ea).2]]) ?_ rfl ⟨?_, Or.inl ⟨ha, rfl⟩⟩
    · have t1 := (hb.block _ (by simp)).trans (third_block w _ _ _ _ _)
      have z := cell_two (put2_block (put2_block t1 (.int .i64 (chk na ea).1) (.int .i64 (chk na ea).2)) (.int .i64 (chk na ea).1) (.int .i64 (chk na ea).2))
      simp [results, Try.results41, go_sem, z.1, z.2]
    · exact (below_set4 (below_next (below3 _ _ _) hb) (by simp; omega) (by simp; omega) (by simp; omega) (by simp; omega)).drew
end Go.Proofs.Ytmbhmahclfdgnaa
