/- Induced: the named nodes with the edges between them. -/
import Derived.Test.YtmbhmahclfdgnaaMakeCalls
import Derived.Test.YtmbhmahclfdgnaaNamesAt
namespace Go.Proofs.Ytmbhmahclfdgnaa
open Go.RowKit Go.Maps
attribute [local go_sem ↓] Go.wp_at_zero Go.wp_at_succ

/-- What Induced answers. -/
def indS (n : Int) (es : List Pair) (l : List Int) : Ans :=
  if (chk n es).1 = 0 then (if (nmFrom n [] l).1 = 0 then buildS l.length (indP es l) else ⟨0, [], (nmFrom n [] l).1, (nmFrom n [] l).2⟩) else ⟨0, [], (chk n es).1, (chk n es).2⟩

theorem IntsAt.form {w : World} {v : Value} {l : List Int} (h : IntsAt w v l) : ∃ ao cap, v = .slice ao l.length cap := by
  obtain ⟨ao, cap, rfl, _⟩ := h
  exact ⟨ao, cap, rfl⟩

theorem below4m {w : World} (a b c d : Obj) : Below w.heap.size w ((((w.alloc a).alloc b).alloc c).alloc d) := below_alloc (below3 _ _ _) _

set_option maxHeartbeats 2000000 in
theorem ind_tells (n : Int) (v nv : Value) (es : List Pair) (l : List Int) (w : World) (hE : EdgesAt w v es) (hI : IntsAt w nv l) : Tells 21 #[.agg #[.int .i64 n, v], nv] w (indS n es l) := by
  unfold Tells
  obtain ⟨no, nc, rfl⟩ := hI.form
  have hll : l.length ≤ 17592186044416 := by obtain ⟨_, _, _, h, _⟩ := hI; exact h
  by_cases hc0 : (chk n es).1 = 0
  · obtain ⟨hck, hn0, hn1, hl, hgood⟩ := chk_good hc0
    obtain ⟨m, rfl⟩ : ∃ m : Nat, n = m := ⟨n.toNat, by omega⟩
    clear hgood hck
    by_cases hf0 : (nmFrom m [] l).1 = 0
    · have hf1 : ((nmFrom m [] l).1 != 0) = false := by simpa using hf0
      rw [show indS m es l = buildS l.length (indP es l) by unfold indS; rw [if_pos hc0, if_pos hf0]]
      go_enter Try.func21, Try.ntmps21
      go_wp2_with (first | (go_at_call 32; refine (nearIn_any _ v es _ ?_).mono ?_; exact hE.below (below4m _ _ _ _); rintro e w1 ⟨hb, ⟨hc, rfl⟩ | ⟨hc, Bx, rfl, hnear⟩⟩; exact absurd hc0 hc; obtain ⟨bc, bf, bc1, bf1, bc2, bf2⟩ := bcell hb; have hz := hb.size; simp at hz) | (go_at_call 38; refine (checkNames_any m _ l _ ?_ ?_).mono ?_; exact hI.below (below_next (below4m _ _ _ _) (below_alloc (below_alloc hb _) _)); omega; rintro e w2 ⟨rfl, hb2⟩; have hb3 := below_next (below_alloc (below_alloc hb _) _) hb2; obtain ⟨bd, bg, bd1, bg1, bd2, bg2⟩ := bcell hb3; have hz2 := hb2.size; simp at hz2) | (go_at_call 33; refine (build_tells l.length 39 #[.pointer (some ⟨w1.heap.size, 0, none⟩), .pointer (some ⟨w.heap.size + 1, 0, none⟩)] (indP es l) _ enter39 ?_).mono ?_; exact fun hm w' hw' u v h1 h2 => ind_call (By := w1.heap.size) (Bn := w.heap.size + 1) (Bx := Bx) (no := no) (nc := nc) (by rw [hw'.cell (by simp; omega)]; rw [(below_alloc hb2 _).cell (by simp; omega)]; exact all_alloc (cell_of_one (heap_alloc_new w1 _)) _) (by rw [hw'.cell (by simp; omega)]; rw [bd1 _ _ _ (by simp)]; exact all_alloc (all_alloc (cell_of_one (by simpa using heap_alloc_new (w.alloc _) _)) _) _) (((hnear.below (below2 _ _)).below (below_alloc hb2 _)).below hw') ((hI.below (below_next (below4m _ _ _ _) (below_alloc hb3 _))).below hw') (by omega) h2; rintro e w3 ⟨hb4, ao2, cap2, rfl, hE2, hfr⟩; have hb5 := below_next (below_alloc hb3 _) hb4; obtain ⟨be, bh, be1, bh1, be2, bh2⟩ := bcell hb5))
      refine bodyPost_ret (v := .tuple #[.agg #[.int .i64 (buildS l.length (indP es l)).n, .slice ao2 (buildS l.length (indP es l)).es.length cap2], .agg #[.int .i64 (buildS l.length (indP es l)).c, .int .i64 (buildS l.length (indP es l)).pos]]) ?_ rfl ⟨?_, ao2, cap2, rfl, ?_, ?_⟩
      · simp [results, Try.results21, go_sem, be]
      · exact below_set4 (below_next (below4m _ _ _ _) hb5) (by simp; omega) (by simp; omega) (by simp; omega) (by simp; omega)
      · have q : ∀ x, ao2 = some x → w.heap.size + 1 + 1 + 1 < x.block := fun x hx => by have := hfr x hx; simp at this; omega
        exact (((hE2.setCell (fun x hx => by have := q x hx; simp; omega) _).setCell (fun x hx => by have := q x hx; simp; omega) _).setCell (fun x hx => by have := q x hx; simp; omega) _).setCell (fun x hx => by have := q x hx; simp; omega) _
      · intro x hx; have := hfr x hx; simp at this; omega
    · have hf1 : ((nmFrom m [] l).1 != 0) = true := by simpa using hf0
      rw [show indS m es l = ⟨0, [], (nmFrom m [] l).1, (nmFrom m [] l).2⟩ by unfold indS; rw [if_pos hc0, if_neg hf0]]
      go_enter Try.func21, Try.ntmps21
      go_wp2_with (first | (go_at_call 32; refine (nearIn_any _ v es _ ?_).mono ?_; exact hE.below (below4m _ _ _ _); rintro e w1 ⟨hb, ⟨hc, rfl⟩ | ⟨hc, Bx, rfl, hnear⟩⟩; exact absurd hc0 hc; obtain ⟨bc, bf, bc1, bf1, bc2, bf2⟩ := bcell hb; have hz := hb.size; simp at hz) | (go_at_call 38; refine (checkNames_any m _ l _ ?_ ?_).mono ?_; exact hI.below (below_next (below4m _ _ _ _) (below_alloc (below_alloc hb _) _)); omega; rintro e w2 ⟨rfl, hb2⟩; have hb3 := below_next (below_alloc (below_alloc hb _) _) hb2; obtain ⟨bd, bg, bd1, bg1, bd2, bg2⟩ := bcell hb3; have hz2 := hb2.size; simp at hz2))
      go_region
      go_wp2
      refine bodyPost_ret (v := .tuple #[.agg #[.int .i64 0, .slice none 0 0], .agg #[.int .i64 (nmFrom m [] l).1, .int .i64 (nmFrom m [] l).2]]) ?_ rfl ⟨?_, none, 0, rfl, edgesAt_nil _, fun x h => by cases h⟩
      · simp [results, Try.results21, go_sem, bd1]
      · exact (below_set4 (below_alloc (below_next (below4m _ _ _ _) hb3) _) (by simp; omega) (by simp; omega) (by simp; omega) (by simp; omega)).drew
  · have hc1 : ((chk n es).1 != 0) = true := by simpa using hc0
    rw [show indS n es l = ⟨0, [], (chk n es).1, (chk n es).2⟩ by unfold indS; rw [if_neg hc0]]
    go_enter Try.func21, Try.ntmps21
    go_wp2_with (go_at_call 32; refine (nearIn_any n v es _ ?_).mono ?_; exact hE.below (below4m _ _ _ _); rintro e w1 ⟨hb, ⟨hc, rfl⟩ | ⟨hc, Bx, rfl, hnear⟩⟩; rotate_left; exact absurd hc hc0; obtain ⟨bc, bf, bc1, bf1, bc2, bf2⟩ := bcell hb; have hz := hb.size; simp at hz)
    go_region
    go_wp2
    refine bodyPost_ret (v := .tuple #[.agg #[.int .i64 0, .slice none 0 0], .agg #[.int .i64 (chk n es).1, .int .i64 (chk n es).2]]) ?_ rfl ⟨?_, none, 0, rfl, edgesAt_nil _, fun x h => by cases h⟩
    · simp [results, Try.results21, go_sem, bc2]
    · exact (below_set4 (below_alloc (below_alloc (below_next (below4m _ _ _ _) hb) _) _) (by simp; omega) (by simp; omega) (by simp; omega) (by simp; omega)).drew
end Go.Proofs.Ytmbhmahclfdgnaa
