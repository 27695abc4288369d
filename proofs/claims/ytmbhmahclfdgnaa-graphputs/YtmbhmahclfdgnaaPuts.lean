/- Join and Product. -/
import Derived.Test.YtmbhmahclfdgnaaPutCalls
import Derived.Test.YtmbhmahclfdgnaaParts
namespace Go.Proofs.Ytmbhmahclfdgnaa
open Go.RowKit Go.Maps
attribute [local go_sem ↓] Go.wp_at_zero Go.wp_at_succ

theorem below4 {w : World} (a b c d : Obj) : Below w.heap.size w ((((w.alloc a).alloc b).alloc c).alloc d) := below_alloc (below3 _ _ _) _

theorem bcell3 {W w1 : World} (hb : Below W.heap.size W w1) :
    (∀ b o o1 o2 o3, b < W.heap.size → (((w1.alloc o1).alloc o2).alloc o3).cell? ⟨b, o, none⟩ = W.cell? ⟨b, o, none⟩) ∧ (∀ b o o1 o2 o3, b < W.heap.size → (((w1.alloc o1).alloc o2).alloc o3).frozen? ⟨b, o, none⟩ = W.frozen? ⟨b, o, none⟩) :=
  ⟨fun b o _ _ _ h => (below_alloc (below_alloc (below_alloc hb _) _) _).cell (p := ⟨b, o, none⟩) h, fun b o _ _ _ h => (below_alloc (below_alloc (below_alloc hb _) _) _).frozen (p := ⟨b, o, none⟩) h⟩

theorem build_tells' {N : Int} (n : Nat) (hN : N = n) (F : FuncId) (caps : Array Value) (p : Int → Int → Bool) (w : World) (hF : ∀ args w', (callFunc F args).run Try.prog w' = .ok (.enter F args) w')
    (hnear : n ≤ 100 → ∀ w', Below w.heap.size w w' → ∀ u v : Nat, u < v → v < n → Calls Try.prog F (#[.int .i64 u, .int .i64 v] ++ caps) w' fun e w'' => e = .returned (.bool (p u v)) ∧ Below w'.heap.size w' w'') :
    Tells 33 #[.int .i64 N, .func (.func F) #[] caps] w (buildS n p) := by
  subst hN
  exact build_tells n F caps p w hF hnear

def joinS (na : Int) (ea : List Pair) (nb : Int) (eb : List Pair) : Ans := if (chk2 na ea nb eb).1 = 0 then buildS (na.toNat + nb.toNat) (joinP na.toNat ea eb) else ⟨0, [], (chk2 na ea nb eb).1, (chk2 na ea nb eb).2⟩
def prodS (na : Int) (ea : List Pair) (nb : Int) (eb : List Pair) : Ans := if (chk2 na ea nb eb).1 = 0 then buildS (na.toNat * nb.toNat) (prodP nb.toNat ea eb) else ⟨0, [], (chk2 na ea nb eb).1, (chk2 na ea nb eb).2⟩

theorem chk2_zero {na nb : Int} {ea eb : List Pair} (h : (chk2 na ea nb eb).1 = 0) : (chk na ea).1 = 0 ∧ (chk nb eb).1 = 0 := by
  unfold chk2 at h
  split at h
  · rename_i h0; exact ⟨h0, h⟩
  · rename_i h0; exact absurd h h0

set_option maxHeartbeats 2000000 in
theorem join_tells (na nb : Int) (va vb : Value) (ea eb : List Pair) (w : World) (hA : EdgesAt w va ea) (hB : EdgesAt w vb eb) : Tells 27 #[.agg #[.int .i64 na, va], .agg #[.int .i64 nb, vb]] w (joinS na ea nb eb) := by
  unfold Tells
  by_cases hc0 : (chk2 na ea nb eb).1 = 0
  · have hc1 : ((chk2 na ea nb eb).1 != 0) = false := by simpa using hc0
    obtain ⟨hca, hcb⟩ := chk2_zero hc0
    obtain ⟨_, hn0, hn1, _, _⟩ := chk_good hca
    obtain ⟨_, hm0, hm1, _, _⟩ := chk_good hcb
    obtain ⟨ma, rfl⟩ : ∃ m : Nat, na = m := ⟨na.toNat, by omega⟩
    obtain ⟨mb, rfl⟩ : ∃ m : Nat, nb = m := ⟨nb.toNat, by omega⟩
    rw [show joinS ma ea mb eb = buildS (ma + mb) (joinP ma ea eb) by unfold joinS; rw [if_pos hc0]; simp]
    go_enter Try.func27, Try.ntmps27
    go_wp2_with (first | (go_at_call 41; refine (nearBoth_any _ _ va vb ea eb _ ?_ ?_).mono ?_; exact hA.below (below4 _ _ _ _); exact hB.below (below4 _ _ _ _); rintro e w1 ⟨hb, ⟨hc, rfl⟩ | ⟨_, _, Ba, Bb, rfl, hnA, hnB⟩⟩; exact absurd hc0 hc; obtain ⟨bc1, bf1⟩ := bcell3 hb; have hz := hb.size; simp at hz) | (go_at_call 33; refine (build_tells' (ma + mb) ?_ 42 #[.pointer (some ⟨w.heap.size, 0, none⟩), .pointer (some ⟨w1.heap.size, 0, none⟩), .pointer (some ⟨w1.heap.size + 1, 0, none⟩)] (joinP ma ea eb) _ enter42 ?_).mono ?_; omega; exact fun hm w' hw' u v h1 h2 => join_call (Bg := w.heap.size) (By := w1.heap.size) (Bz := w1.heap.size + 1) (Bx := Ba) (Bw := Bb) (by omega) (by rw [hw'.cell (by simp; omega)]; rw [bc1 _ _ _ _ _ (by simp; omega)]; exact (cell_two (two_alloc (two_alloc (two_alloc (two_new w _ _ _) _) _) _)).1) (by rw [hw'.cell (by simp; omega)]; exact all_alloc (all_alloc (cell_of_one (heap_alloc_new w1 _)) _) _) (by rw [hw'.cell (by simp)]; exact all_alloc (cell_of_one (by simpa using heap_alloc_new (w1.alloc _) _)) _) ((hnA.below (below3 _ _ _)).below hw') ((hnB.below (below3 _ _ _)).below hw') (by omega) (by omega); rintro e w2 ⟨hb2, ao2, cap2, rfl, hE2, hfr⟩; have hb3 := below_next (below_alloc (below_alloc (below_alloc hb _) _) _) hb2; obtain ⟨bc3, bf3, bc4, bf4, bc5, bf5⟩ := bcell hb3))
    refine bodyPost_ret (v := .tuple #[.agg #[.int .i64 (buildS (ma + mb) (joinP ma ea eb)).n, .slice ao2 (buildS (ma + mb) (joinP ma ea eb)).es.length cap2], .agg #[.int .i64 (buildS (ma + mb) (joinP ma ea eb)).c, .int .i64 (buildS (ma + mb) (joinP ma ea eb)).pos]]) ?_ rfl ⟨?_, ao2, cap2, rfl, ?_, ?_⟩
    · simp [results, Try.results27, go_sem, bc3]
    · exact below_set4 (below_next (below4 _ _ _ _) hb3) (by simp; omega) (by simp; omega) (by simp; omega) (by simp; omega)
    · have q : ∀ x, ao2 = some x → w.heap.size + 1 + 1 + 1 < x.block := fun x hx => by have := hfr x hx; simp at this; omega
      exact (((hE2.setCell (fun x hx => by have := q x hx; simp; omega) _).setCell (fun x hx => by have := q x hx; simp; omega) _).setCell (fun x hx => by have := q x hx; simp; omega) _).setCell (fun x hx => by have := q x hx; simp; omega) _
    · intro x hx; have := hfr x hx; simp at this; omega
  · have hc1 : ((chk2 na ea nb eb).1 != 0) = true := by simpa using hc0
    rw [show joinS na ea nb eb = ⟨0, [], (chk2 na ea nb eb).1, (chk2 na ea nb eb).2⟩ by unfold joinS; rw [if_neg hc0]]
    go_enter Try.func27, Try.ntmps27
    go_wp2_with (go_at_call 41; refine (nearBoth_any _ _ va vb ea eb _ ?_ ?_).mono ?_; exact hA.below (below4 _ _ _ _); exact hB.below (below4 _ _ _ _); rintro e w1 ⟨hb, ⟨hc, rfl⟩ | ⟨h1, h2, Ba, Bb, rfl, hnA, hnB⟩⟩; rotate_left; exact absurd (by unfold chk2; rw [if_pos h1]; exact h2) hc0; obtain ⟨bc1, bf1⟩ := bcell3 hb; have hz := hb.size; simp at hz)
    go_region
    go_wp2
    refine bodyPost_ret (v := .tuple #[.agg #[.int .i64 0, .slice none 0 0], .agg #[.int .i64 (chk2 na ea nb eb).1, .int .i64 (chk2 na ea nb eb).2]]) ?_ rfl ⟨?_, none, 0, rfl, edgesAt_nil _, fun x h => by cases h⟩
    · simp [results, Try.results27, go_sem, bc1]
    · exact (below_set4 (below_alloc (below_alloc (below_alloc (below_next (below4 _ _ _ _) hb) _) _) _) (by simp; omega) (by simp; omega) (by simp; omega) (by simp; omega)).drew
theorem pos_of_mul {a b v : Nat} (h : v < a * b) : 0 < b := by
  rcases Nat.eq_zero_or_pos b with e | e
  · subst e; simp at h
  · exact e

set_option maxHeartbeats 2000000 in
theorem prod_tells (na nb : Int) (va vb : Value) (ea eb : List Pair) (w : World) (hA : EdgesAt w va ea) (hB : EdgesAt w vb eb) : Tells 28 #[.agg #[.int .i64 na, va], .agg #[.int .i64 nb, vb]] w (prodS na ea nb eb) := by
  unfold Tells
  by_cases hc0 : (chk2 na ea nb eb).1 = 0
  · have hc1 : ((chk2 na ea nb eb).1 != 0) = false := by simpa using hc0
    obtain ⟨hca, hcb⟩ := chk2_zero hc0
    obtain ⟨_, hn0, hn1, _, _⟩ := chk_good hca
    obtain ⟨_, hm0, hm1, _, _⟩ := chk_good hcb
    obtain ⟨ma, rfl⟩ : ∃ m : Nat, na = m := ⟨na.toNat, by omega⟩
    obtain ⟨mb, rfl⟩ : ∃ m : Nat, nb = m := ⟨nb.toNat, by omega⟩
    rw [show prodS ma ea mb eb = buildS (ma * mb) (prodP mb ea eb) by unfold prodS; rw [if_pos hc0]; simp]
    have hmul : (ma : Int) * mb ≤ 10000 := by have : ma * mb ≤ 100 * 100 := Nat.mul_le_mul (by omega) (by omega); rw [← Int.natCast_mul]; omega
    have hmul0 : 0 ≤ (ma : Int) * mb := Int.mul_nonneg (by omega) (by omega)
    go_enter Try.func28, Try.ntmps28
    go_wp2_with (first | (go_at_call 41; refine (nearBoth_any _ _ va vb ea eb _ ?_ ?_).mono ?_; exact hA.below (below4 _ _ _ _); exact hB.below (below4 _ _ _ _); rintro e w1 ⟨hb, ⟨hc, rfl⟩ | ⟨_, _, Ba, Bb, rfl, hnA, hnB⟩⟩; exact absurd hc0 hc; obtain ⟨bc1, bf1⟩ := bcell3 hb; have hz := hb.size; simp at hz) | (go_at_call 33; refine (build_tells' (ma * mb) ?_ 43 #[.pointer (some ⟨w.heap.size + 1, 0, none⟩), .pointer (some ⟨w1.heap.size + 1, 0, none⟩), .pointer (some ⟨w1.heap.size, 0, none⟩)] (prodP mb ea eb) _ enter43 ?_).mono ?_; exact (Int.natCast_mul ma mb).symm; exact fun hm w' hw' u v h1 h2 => prod_call (Bg := w.heap.size + 1) (By := w1.heap.size + 1) (Bz := w1.heap.size) (Bx := Bb) (Bw := Ba) (by omega) (pos_of_mul h2) (by rw [hw'.cell (by simp; omega)]; rw [bc1 _ _ _ _ _ (by simp)]; exact (cell_two (two_alloc (two_alloc (by simpa using two_new (w.alloc _) _ _ _) _) _)).1) (by rw [hw'.cell (by simp)]; exact all_alloc (cell_of_one (by simpa using heap_alloc_new (w1.alloc _) _)) _) (by rw [hw'.cell (by simp; omega)]; exact all_alloc (all_alloc (cell_of_one (heap_alloc_new w1 _)) _) _) ((hnB.below (below3 _ _ _)).below hw') ((hnA.below (below3 _ _ _)).below hw') (by omega) (by omega); rintro e w2 ⟨hb2, ao2, cap2, rfl, hE2, hfr⟩; have hb3 := below_next (below_alloc (below_alloc (below_alloc hb _) _) _) hb2; obtain ⟨bc3, bf3, bc4, bf4, bc5, bf5⟩ := bcell hb3))
    refine bodyPost_ret (v := .tuple #[.agg #[.int .i64 (buildS (ma * mb) (prodP mb ea eb)).n, .slice ao2 (buildS (ma * mb) (prodP mb ea eb)).es.length cap2], .agg #[.int .i64 (buildS (ma * mb) (prodP mb ea eb)).c, .int .i64 (buildS (ma * mb) (prodP mb ea eb)).pos]]) ?_ rfl ⟨?_, ao2, cap2, rfl, ?_, ?_⟩
    · simp [results, Try.results28, go_sem, bc3]
    · exact below_set4 (below_next (below4 _ _ _ _) hb3) (by simp; omega) (by simp; omega) (by simp; omega) (by simp; omega)
    · have q : ∀ x, ao2 = some x → w.heap.size + 1 + 1 + 1 < x.block := fun x hx => by have := hfr x hx; simp at this; omega
      exact (((hE2.setCell (fun x hx => by have := q x hx; simp; omega) _).setCell (fun x hx => by have := q x hx; simp; omega) _).setCell (fun x hx => by have := q x hx; simp; omega) _).setCell (fun x hx => by have := q x hx; simp; omega) _
    · intro x hx; have := hfr x hx; simp at this; omega
  · have hc1 : ((chk2 na ea nb eb).1 != 0) = true := by simpa using hc0
    rw [show prodS na ea nb eb = ⟨0, [], (chk2 na ea nb eb).1, (chk2 na ea nb eb).2⟩ by unfold prodS; rw [if_neg hc0]]
    go_enter Try.func28, Try.ntmps28
    go_wp2_with (go_at_call 41; refine (nearBoth_any _ _ va vb ea eb _ ?_ ?_).mono ?_; exact hA.below (below4 _ _ _ _); exact hB.below (below4 _ _ _ _); rintro e w1 ⟨hb, ⟨hc, rfl⟩ | ⟨h1, h2, Ba, Bb, rfl, hnA, hnB⟩⟩; rotate_left; exact absurd (by unfold chk2; rw [if_pos h1]; exact h2) hc0; obtain ⟨bc1, bf1⟩ := bcell3 hb; have hz := hb.size; simp at hz)
    go_region
    go_wp2
    refine bodyPost_ret (v := .tuple #[.agg #[.int .i64 0, .slice none 0 0], .agg #[.int .i64 (chk2 na ea nb eb).1, .int .i64 (chk2 na ea nb eb).2]]) ?_ rfl ⟨?_, none, 0, rfl, edgesAt_nil _, fun x h => by cases h⟩
    · simp [results, Try.results28, go_sem, bc1]
    · exact (below_set4 (below_alloc (below_alloc (below_alloc (below_next (below4 _ _ _ _) hb) _) _) _) (by simp; omega) (by simp; omega) (by simp; omega) (by simp; omega)).drew
end Go.Proofs.Ytmbhmahclfdgnaa
