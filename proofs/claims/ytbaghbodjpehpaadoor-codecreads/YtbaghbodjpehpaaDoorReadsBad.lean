/- The document's Reads. -/
import Derived.Test.YtbaghbodjpehpaaDoorOfNew
namespace Go.Proofs.YtbaghbodjpehpaaDoor
open Go.RowKit Go.Maps
attribute [local go_sem ↓] Go.wp_at_zero Go.wp_at_succ

theorem figure_yes (s : ByteArray) (k : Nat) (z : Int) (w : World) (hz : z = (k : Int)) (hs : s.size ≤ 20000) (hk : k ≤ s.size) (h : numOk s k (runEnd s k)) :
    Calls Tryd.prog 36 #[.string s, .int .i64 z] w fun e w' => e = .returned (.tuple #[.int .i64 (numAt s k), .int .i64 (runEnd s k)]) ∧ w' = w := by
  subst hz; exact figure_ok s k w hs hk h
theorem figure_not (s : ByteArray) (k : Nat) (z : Int) (w : World) (hz : z = (k : Int)) (hs : s.size ≤ 20000) (hk : k ≤ s.size) (h : ¬ numOk s k (runEnd s k)) :
    Calls Tryd.prog 36 #[.string s, .int .i64 z] w fun e w' => e = .returned (.tuple #[.int .i64 0, .int .i64 (-1)]) ∧ w' = w := by
  subst hz; exact figure_no s k w hs hk h

/-- Two boxes of results, written. -/
theorem ends {w W : World} {x y z u : Value} (t2 : Two W w.heap.size x y 24) (t3 : Two W (w.heap.size + 1) z u 27) (hb : Below w.heap.size w W) (x' y' z' u' : Value) :
    let V := (((W.setCell ⟨w.heap.size, 0, none⟩ x').setCell ⟨w.heap.size, 1, none⟩ y').setCell ⟨w.heap.size + 1, 0, none⟩ z').setCell ⟨w.heap.size + 1, 1, none⟩ u'
    (V.cell? ⟨w.heap.size, 0, none⟩ = some x' ∧ V.cell? ⟨w.heap.size, 1, none⟩ = some y' ∧ V.cell? ⟨w.heap.size + 1, 0, none⟩ = some z' ∧ V.cell? ⟨w.heap.size + 1, 1, none⟩ = some u') ∧ Below w.heap.size w V := by
  intro V
  obtain ⟨q1, q2⟩ := xu_block t2 t3 x' y' z' u'
  exact ⟨⟨(cell_two q1).1, (cell_two q1).2, (cell_two q2).1, (cell_two q2).2⟩, below_set4 hb (Nat.le_refl _) (Nat.le_refl _) (Nat.le_succ _) (Nat.le_succ _)⟩

set_option maxRecDepth 100000 in
set_option maxHeartbeats 1000000 in
theorem bad_any (p : Int) (w : World) : Calls Tryd.prog 35 #[.int .i64 p] w fun e w' => e = .returned (.tuple #[.agg #[.int .i64 0, .slice none 0 0], .agg #[.int .i64 1, .int .i64 p]]) ∧ Below w.heap.size w w' := by
  have t2 := two_alloc (two_new w (.int .i64 0) (.slice none 0 0) 24) (Obj.cells #[.int .i64 0, .int .i64 0] 27)
  have t3 := two_newb w (Obj.cells #[.int .i64 0, .slice none 0 0] 24) (.int .i64 0) (.int .i64 0) 27
  have hb0 := below2 (w := w) (Obj.cells #[.int .i64 0, .slice none 0 0] 24) (Obj.cells #[.int .i64 0, .int .i64 0] 27)
  go_enter Tryd.func35, Tryd.ntmps35
  go_upto_region 1 with fail
  generalize (w.alloc (Obj.cells #[.int .i64 0, .slice none 0 0] 24)).alloc (Obj.cells #[.int .i64 0, .int .i64 0] 27) = W at t2 t3 hb0 ⊢
  go_wp2_with (go_at_call 17; refine (refF_any 1 p _).mono ?_; rintro e w1 ⟨rfl, hb1⟩; obtain ⟨g0, g1, g2⟩ := kk (two_next t2 hb1); obtain ⟨m0, m1, m2⟩ := kapart (two_next t3 hb1) (show w.heap.size ≠ w.heap.size + 1 by omega))
  obtain ⟨⟨r3, r4, r5, r6⟩, hb2⟩ := ends (two_next t2 hb1) (two_next t3 hb1) (below_next hb0 hb1) (.int .i64 0) (.slice none 0 0) (.int .i64 1) (.int .i64 p)
  refine bodyPost_ret (v := .tuple _) (by simp [results, Tryd.results35, go_sem, r3, r4, r5, r6]) rfl ⟨rfl, hb2⟩

set_option maxRecDepth 100000 in
set_option maxHeartbeats 1000000 in
theorem reads_long (s : ByteArray) (w : World) (h : 20000 < s.size) : Tells 16 #[.string s] w ⟨0, [], 2, 0⟩ := by
  have t2 := two_alloc (two_new w (.int .i64 0) (.slice none 0 0) 24) (Obj.cells #[.int .i64 0, .int .i64 0] 27)
  have t3 := two_newb w (Obj.cells #[.int .i64 0, .slice none 0 0] 24) (.int .i64 0) (.int .i64 0) 27
  have hb0 := below2 (w := w) (Obj.cells #[.int .i64 0, .slice none 0 0] 24) (Obj.cells #[.int .i64 0, .int .i64 0] 27)
  have h1 : (20000 : Int) < (s.size : Int) := by omega
  unfold Tells
  go_enter Tryd.func16, Tryd.ntmps16
  go_upto_region 1 with fail
  generalize (w.alloc (Obj.cells #[.int .i64 0, .slice none 0 0] 24)).alloc (Obj.cells #[.int .i64 0, .int .i64 0] 27) = W at t2 t3 hb0 ⊢
  go_wp2_with (go_at_call 17; refine (refF_any 2 0 _).mono ?_; rintro e w1 ⟨rfl, hb1⟩; obtain ⟨g0, g1, g2⟩ := kk (two_next t2 hb1); obtain ⟨m0, m1, m2⟩ := kapart (two_next t3 hb1) (show w.heap.size ≠ w.heap.size + 1 by omega))
  obtain ⟨⟨r3, r4, r5, r6⟩, hb2⟩ := ends (two_next t2 hb1) (two_next t3 hb1) (below_next hb0 hb1) (.int .i64 0) (.slice none 0 0) (.int .i64 2) (.int .i64 0)
  refine bodyPost_ret (v := .tuple #[.agg #[.int .i64 0, .slice none 0 0], .agg #[.int .i64 2, .int .i64 0]]) (by simp [results, Tryd.results16, go_sem, r3, r4, r5, r6]) rfl ⟨hb2, none, 0, rfl, edgesAt_nil _, fun x h => by cases h⟩

structure RS (w wr : World) (N : Nat) (v : Value) (acc : List Pair) : Prop where
  r0 : Two wr w.heap.size (.int .i64 0) (.slice none 0 0) 24
  r1 : Two wr (w.heap.size + 1) (.int .i64 0) (.int .i64 0) 27
  gb : Two wr (w.heap.size + 2) (.int .i64 N) v 24
  own : wr.ownsRow (w.heap.size + 3) 39 2 v acc.length (flat acc)
  below : Below w.heap.size w wr

theorem RS.push {w wr w3 : World} {N : Nat} {v v' : Value} {acc : List Pair} {x y : Int} (h : RS w wr N v acc) (hown : w3.ownsRow (w.heap.size + 3) 39 2 v' (acc.length + 1) (flat acc ++ [.int .i64 x, .int .i64 y])) (hg : (wr.alloc (Obj.cells #[.int .i64 x, .int .i64 y] 39)).grownBy w3 v.ownBlock) :
    Two w3 (w.heap.size + 2) (.int .i64 N) v 24 ∧ RS w (w3.setCell ⟨w.heap.size + 2, 1, none⟩ v') N v' (acc ++ [(x, y)]) := by
  have hn : ∀ g, v.ownBlock = some g → w.heap.size + 3 ≤ g := fun g hgg => (h.own.lt g hgg).1
  have lg := lt_of_block h.gb
  have q : ∀ j, j < w.heap.size + 3 → w3.heap[j]? = wr.heap[j]? := fun j hj => by
    rw [hg.block j (by simp; omega) (fun e => by have := hn j e.symm; omega), Below.heap_alloc _ _ _ (by omega)]
  have hgb : Two w3 (w.heap.size + 2) (.int .i64 N) v 24 := (q _ (by omega)).trans h.gb
  have p : ∀ j, j ≠ w.heap.size + 2 → (w3.setCell ⟨w.heap.size + 2, 1, none⟩ v').heap[j]? = w3.heap[j]? := fun j hj => Below.heap_setCell _ _ _ _ (by simpa using hj)
  refine ⟨hgb, (p _ (by omega)).trans ((q _ (by omega)).trans h.r0), (p _ (by omega)).trans ((q _ (by omega)).trans h.r1), ?_, ?_, ?_⟩
  · simp [Two, World.setCell, Array.getElem?_modify, hgb]
  · have := ownsRow_setCell_below (a := ⟨w.heap.size + 2, 1, none⟩) hown (by simp) v'
    rw [flat_snoc]
    simpa using this
  · exact ((h.below.alloc h.below.size _).grown hg (by simp; omega) (fun k hk => by have := hn k hk; omega)).setCell (by simp) _

def ansOf : Got × Nat → Ans
  | (.fault p, _) => ⟨0, [], 1, p⟩
  | (.edges es _, n) => formS n es
theorem readS_eq {s : ByteArray} (h : s.size ≤ 20000) : readS s = ansOf (lineS s) := by
  unfold readS
  rw [if_neg (by omega)]
  cases lineS s with
  | mk a b => cases a <;> rfl

structure RS0 (w wr : World) : Prop where
  r0 : Two wr w.heap.size (.int .i64 0) (.slice none 0 0) 24
  r1 : Two wr (w.heap.size + 1) (.int .i64 0) (.int .i64 0) 27
  below : Below w.heap.size w wr
  size : wr.heap.size = w.heap.size + 2

theorem rs0 (w : World) : RS0 w ((w.alloc (Obj.cells #[.int .i64 0, .slice none 0 0] 24)).alloc (Obj.cells #[.int .i64 0, .int .i64 0] 27)) :=
  ⟨two_alloc (two_new w (.int .i64 0) (.slice none 0 0) 24) _, two_newb w _ _ _ _, below2 _ _, by simp⟩

set_option maxRecDepth 100000 in
set_option maxHeartbeats 4000000 in
theorem reads_bad0 (s : ByteArray) (w : World) (hs : s.size ≤ 20000) (h : ¬ numOk s 0 (runEnd s 0)) : Tells 16 #[.string s] w ⟨0, [], 1, 0⟩ := by
  have g0 := rs0 w
  have h1 : ¬ (20000 : Int) < (s.size : Int) := by omega
  unfold Tells
  go_enter Tryd.func16, Tryd.ntmps16
  go_upto_region 1 with fail
  generalize (w.alloc (Obj.cells #[.int .i64 0, .slice none 0 0] 24)).alloc (Obj.cells #[.int .i64 0, .int .i64 0] 27) = W at g0 ⊢
  have G := g0
  clear g0
  go_upto_region 6 with (go_at_call 36; refine (figure_not s 0 _ _ (by rfl) hs (Nat.zero_le _) h).mono ?_; rintro e w1 ⟨rfl, rfl⟩)
  go_wp2_with (go_at_call 35; refine (bad_any _ _).mono ?_; rintro e w9 ⟨rfl, hb9⟩; obtain ⟨g0, g1, g2⟩ := kk (two_next G.r0 hb9); obtain ⟨m0, m1, m2⟩ := kapart (two_next G.r1 hb9) (show w.heap.size ≠ w.heap.size + 1 by omega))
  obtain ⟨⟨r3, r4, r5, r6⟩, hb2⟩ := ends (two_next G.r0 hb9) (two_next G.r1 hb9) (below_next G.below hb9) (.int .i64 0) (.slice none 0 0) (.int .i64 1) (.int .i64 0)
  exact bodyPost_ret (v := .tuple #[.agg #[.int .i64 0, .slice none 0 0], .agg #[.int .i64 1, .int .i64 0]]) (by simp [results, Tryd.results16, go_sem, r3, r4, r5, r6]) rfl ⟨hb2, none, 0, rfl, edgesAt_nil _, fun x h => by cases h⟩

set_option maxRecDepth 100000 in
set_option maxHeartbeats 4000000 in
theorem reads_bad1 (s : ByteArray) (w : World) (hs : s.size ≤ 20000) (h : numOk s 0 (runEnd s 0)) {E : Nat} (hE : runEnd s 0 = E) (hc : ¬ (E < s.size ∧ byteAt s E = 58)) : Tells 16 #[.string s] w ⟨0, [], 1, E⟩ := by
  have g0 := rs0 w
  have h1 : ¬ (20000 : Int) < (s.size : Int) := by omega
  have hle := (run_at s 0 (Nat.zero_le _)).end_le
  rw [hE] at hle
  have HE : Hid _ := hE
  clear hE
  unfold Tells
  go_enter Tryd.func16, Tryd.ntmps16
  go_upto_region 1 with fail
  generalize (w.alloc (Obj.cells #[.int .i64 0, .slice none 0 0] 24)).alloc (Obj.cells #[.int .i64 0, .int .i64 0] 27) = W at g0 ⊢
  have G := g0
  clear g0
  go_upto_region 5 with (go_at_call 36; refine (figure_yes s 0 _ _ (by rfl) hs (Nat.zero_le _) h).mono ?_; rintro e w1 ⟨rfl, rfl⟩)
  rw [HE.out]
  have hm := miss hle hc
  clear hc h HE
  have k0 : ¬ (E : Int) < 0 := by omega
  have k1 : (0 : Int) ≤ (E : Int) := by omega
  rcases hm with hm | ⟨hlt, hm⟩
  · subst hm
    go_wp2_with (go_at_call 35; refine (bad_any _ _).mono ?_; rintro e w9 ⟨rfl, hb9⟩; obtain ⟨g0, g1, g2⟩ := kk (two_next G.r0 hb9); obtain ⟨m0, m1, m2⟩ := kapart (two_next G.r1 hb9) (show w.heap.size ≠ w.heap.size + 1 by omega))
    obtain ⟨⟨r3, r4, r5, r6⟩, hb2⟩ := ends (two_next G.r0 hb9) (two_next G.r1 hb9) (below_next G.below hb9) (.int .i64 0) (.slice none 0 0) (.int .i64 1) (.int .i64 s.size)
    exact bodyPost_ret (v := .tuple #[.agg #[.int .i64 0, .slice none 0 0], .agg #[.int .i64 1, .int .i64 s.size]]) (by simp [results, Tryd.results16, go_sem, r3, r4, r5, r6]) rfl ⟨hb2, none, 0, rfl, edgesAt_nil _, fun x h => by cases h⟩
  · have k2 : (E : Int) < (s.size : Int) := by omega
    have k3 : ((E : Int) == (s.size : Int)) = false := by simp; omega
    have k4 : ((s[E].toNat : Int) != 58) = true := by simp; omega
    go_wp2_with (go_at_call 35; refine (bad_any _ _).mono ?_; rintro e w9 ⟨rfl, hb9⟩; obtain ⟨g0, g1, g2⟩ := kk (two_next G.r0 hb9); obtain ⟨m0, m1, m2⟩ := kapart (two_next G.r1 hb9) (show w.heap.size ≠ w.heap.size + 1 by omega))
    obtain ⟨⟨r3, r4, r5, r6⟩, hb2⟩ := ends (two_next G.r0 hb9) (two_next G.r1 hb9) (below_next G.below hb9) (.int .i64 0) (.slice none 0 0) (.int .i64 1) (.int .i64 E)
    exact bodyPost_ret (v := .tuple #[.agg #[.int .i64 0, .slice none 0 0], .agg #[.int .i64 1, .int .i64 E]]) (by simp [results, Tryd.results16, go_sem, r3, r4, r5, r6]) rfl ⟨hb2, none, 0, rfl, edgesAt_nil _, fun x h => by cases h⟩

end Go.Proofs.YtbaghbodjpehpaaDoor
