/- Pack and Print of package codec. -/
import Derived.Test.YtbaghbodjpehpabDoorLine
import Derived.Test.YtbaghbodjpehpabDoorPackPairs
import Derived.Deep.Cut
namespace Go.Proofs.YtbaghbodjpehpabDoor
open Go.RowKit Go.Maps
attribute [local go_sem ↓] Go.wp_at_zero Go.wp_at_succ

def Says (F : FuncId) (args : Array Value) (w : World) (s : ByteArray) (c d : Int) : Prop :=
  Calls Tryd.prog F args w fun e w' => e = .returned (.tuple #[.string s, .agg #[.int .i64 c, .int .i64 d]]) ∧ Below w.heap.size w w'

theorem two_newb (w : World) (o : Obj) (x y : Value) (t : TypeId) : Two ((w.alloc o).alloc (Obj.cells #[x, y] t)) (w.heap.size + 1) x y t := by
  simpa [Two] using heap_alloc_new (w.alloc o) (Obj.cells #[x, y] t)
theorem two_far {w : World} {b c : Nat} {x y : Value} {t : TypeId} (h : Two w b x y t) (hne : c ≠ b) (x' y' : Value) : Two ((w.setCell ⟨c, 0, none⟩ x').setCell ⟨c, 1, none⟩ y') b x y t := by
  rw [Two, Below.heap_setCell _ _ _ _ (by simpa using hne.symm), Below.heap_setCell _ _ _ _ (by simpa using hne.symm)]; exact h
theorem kk {w : World} {b : Nat} {x y : Value} {t : TypeId} (h : Two w b x y t) :
    w.cell? ⟨b, 0, none⟩ = some x ∧ w.cell? ⟨b, 1, none⟩ = some y ∧ (∀ k, w.frozen? ⟨b, k, none⟩ = false) := ⟨(cell_two h).1, (cell_two h).2, free_two h⟩

/-- The world behind Form, in Pack and in Print. -/
structure FI (w W : World) (b4 : Nat) (n : Int) (v : Value) (c d : Int) : Prop where
  t3 : Two W (w.heap.size + 1) (.int .i64 0) (.int .i64 0) 27
  t4 : Two W b4 (.int .i64 n) v 24
  t5 : Two W (b4 + 1) (.int .i64 c) (.int .i64 d) 27
  lt : w.heap.size + 1 < b4
  bel : Below w.heap.size w W

theorem fi_make {w w1 : World} {n : Int} {v v0 : Value} {n0 c d : Int} (hb : Below ((w.alloc (Obj.cells #[.int .i64 n0, v0] 24)).alloc (Obj.cells #[.int .i64 0, .int .i64 0] 27)).heap.size ((w.alloc (Obj.cells #[.int .i64 n0, v0] 24)).alloc (Obj.cells #[.int .i64 0, .int .i64 0] 27)) w1) :
    FI w ((w1.alloc (Obj.cells #[.int .i64 n, v] 24)).alloc (Obj.cells #[.int .i64 c, .int .i64 d] 27)) w1.heap.size n v c d := by
  refine ⟨two_alloc (two_alloc (two_next (two_newb _ _ _ _ _) hb) _) _, two_alloc (two_new _ _ _ _) _, two_newb _ _ _ _ _, ?_, below_next (below_next (below2 _ _) hb) (below2 _ _)⟩
  have := hb.size
  simp at this
  omega

theorem below_end {w W w' : World} {b4 : Nat} {n : Int} {v : Value} {c d : Int} (h : FI w W b4 n v c d) (hb : Below W.heap.size W w') (x y : Value) : Below w.heap.size w ((w'.setCell ⟨w.heap.size + 1, 0, none⟩ x).setCell ⟨w.heap.size + 1, 1, none⟩ y) :=
  ((below_next h.bel hb).setCell (p := ⟨w.heap.size + 1, 0, none⟩) (Nat.le_succ _) _).setCell (p := ⟨w.heap.size + 1, 1, none⟩) (Nat.le_succ _) _

theorem kp1 {W w' : World} {b : Nat} {x y : Value} {t : TypeId} (h : Two W b x y t) (hb : Below W.heap.size W w') : w'.cell? ⟨b, 0, none⟩ = some x ∧ w'.cell? ⟨b, 1, none⟩ = some y := cell_two (two_next h hb)
theorem kp2 {W w' : World} {b c : Nat} {x y x' y' : Value} {t : TypeId} (h : Two W b x y t) (hne : c ≠ b) (hb : Below W.heap.size W w') : ((w'.setCell ⟨c, 0, none⟩ x').setCell ⟨c, 1, none⟩ y').cell? ⟨b, 0, none⟩ = some x ∧ ((w'.setCell ⟨c, 0, none⟩ x').setCell ⟨c, 1, none⟩ y').cell? ⟨b, 1, none⟩ = some y := cell_two (two_far (two_next h hb) hne _ _)

set_option maxRecDepth 100000 in
set_option maxHeartbeats 4000000 in
theorem pack_good (m : Nat) (v : Value) (es : List Pair) (w : World) (hE : EdgesAt w v es) (h0 : (chk m es).1 = 0) :
    Says 5 #[.agg #[.int .i64 m, v]] w (strOfNums (packB m (hasB es))) 0 0 := by
  obtain ⟨_, _, hm, hl, _⟩ := chk_good h0
  have hm' : m ≤ 100 := by omega
  have hal := Nat.le_trans (allP_has_le m es) hl
  have hfs := formS_good h0
  have HE : Hid _ := hE
  have HF : Hid _ := hfs
  clear hE hfs
  unfold Says
  go_enter Tryd.func5, Tryd.ntmps5
  go_upto_region 2 with (go_at_call 10; refine (form_as (EdgesAt.below HE.out (below2 _ _)) HF.out).mono ?_; rintro e w1 ⟨hb1, lo, lc, rfl, hL, _⟩)
  have fi := fi_make (n := m) (v := .slice lo (allP m (hasB es)).length lc) (c := 0) (d := 0) hb1
  have hLW := hL.below (below2 (Obj.cells #[.int .i64 m, .slice lo (allP m (hasB es)).length lc] 24) (Obj.cells #[.int .i64 0, .int .i64 0] 27))
  generalize (w1.alloc (Obj.cells #[.int .i64 m, .slice lo (allP m (hasB es)).length lc] 24)).alloc (Obj.cells #[.int .i64 0, .int .i64 0] 27) = W at fi hLW ⊢
  generalize w1.heap.size = b4 at fi ⊢
  clear hb1 hL HF
  have hal' : (allP m (hasB es)).length ≤ 1000 := hal
  have hpk : packB m (hasB es) = headB m ++ sixes (colsTo (hasB es) m) (nby m) := rfl
  have hz1 : (headB m).length ≤ 4 := by unfold headB; split <;> simp
  have hz2 : (sixes (colsTo (hasB es) m) (nby m)).length ≤ 1000 := by rw [sixes_len]; have := prs_le100 m hm'; unfold nby; omega
  have hsz : ¬ 9223372036854775807 < (strOfNums (headB m)).size + (strOfNums (sixes (colsTo (hasB es) m) (nby m))).size := by rw [strOfNums_size, strOfNums_size]; omega
  have happ : strOfNums (headB m) ++ strOfNums (sixes (colsTo (hasB es) m) (nby m)) = strOfNums (packB m (hasB es)) := by rw [hpk, strOfNums_append]
  have HA : Hid _ := happ
  clear happ hpk hz1 hz2
  obtain ⟨k0, k1, k2⟩ := kk fi.t3
  obtain ⟨l0, l1, l2⟩ := kk fi.t4
  obtain ⟨p0, p1, p2⟩ := kk fi.t5
  have hlt := fi.lt
  go_wp2
  go_region_held3 (fun w' => w'.cell? ⟨b4, 0, none⟩ = some (.int .i64 m) ∧ w'.cell? ⟨b4, 1, none⟩ = some (.slice lo (allP m (hasB es)).length lc))
    (first | exact ⟨l0, l1⟩ | exact kp1 fi.t4 hb2 | exact kp1 fi.t4 hb3 | exact kp2 fi.t4 (by omega) hb3)
    (first | (go_at_call 11; refine (packSize_any m _ hm').mono ?_; rintro e w2 ⟨rfl, hb2'⟩; have hb2 := below_next (Below.refl W.heap.size W).drew hb2'; clear hb2') | (go_at_call 12; refine (packPairs_any m (hasB es) _ _ (hLW.below hb2) hm' hal').mono ?_; rintro e w3 ⟨rfl, hb3'⟩; have hb3 := below_next hb2 hb3'; clear hb3'; obtain ⟨q0, q1, q2⟩ := kk (two_next fi.t3 hb3)))
  all_goals
    go_wp2
    refine bodyPost_ret (v := .tuple #[.string (strOfNums (packB m (hasB es))), .agg #[.int .i64 0, .int .i64 0]]) ?_ rfl ⟨rfl, below_end fi hb3 _ _⟩
    simp [results, Tryd.results5, go_sem, q0, q1, HA.out]

theorem form_bad {n : Int} {es : List Pair} (h : (chk n es).1 ≠ 0) : formS n es = ⟨0, [], (chk n es).1, (chk n es).2⟩ := by unfold formS; rw [if_neg h]

set_option maxRecDepth 100000 in
set_option maxHeartbeats 4000000 in
theorem pack_bad (n : Int) (v : Value) (es : List Pair) (w : World) (hE : EdgesAt w v es) {c d : Int} (hcd : chk n es = (c, d)) (h0 : c ≠ 0) :
    Says 5 #[.agg #[.int .i64 n, v]] w (ByteArray.mk #[]) c d := by
  have hfs : formS n es = ⟨0, [], c, d⟩ := by have := form_bad (n := n) (es := es) (by rw [hcd]; exact h0); rw [hcd] at this; exact this
  have HE : Hid _ := hE
  have HF : Hid _ := hfs
  have hc : (c != 0) = true := by simpa using h0
  clear hE hfs
  unfold Says
  go_enter Tryd.func5, Tryd.ntmps5
  go_upto_region 2 with (go_at_call 10; refine (form_as (EdgesAt.below HE.out (below2 _ _)) HF.out).mono ?_; rintro e w1 ⟨hb1, lo, lc, rfl, hL, _⟩)
  have fi := fi_make (n := 0) (v := .slice lo 0 lc) (c := c) (d := d) hb1
  generalize (w1.alloc (Obj.cells #[.int .i64 0, .slice lo 0 lc] 24)).alloc (Obj.cells #[.int .i64 c, .int .i64 d] 27) = W at fi ⊢
  generalize w1.heap.size = b4 at fi ⊢
  clear hb1 hL HF
  obtain ⟨k0, k1, k2⟩ := kk fi.t3
  obtain ⟨p0, p1, p2⟩ := kk fi.t5
  have hlt := fi.lt
  go_wp2
  go_region
  all_goals
    go_wp2
    refine bodyPost_ret (v := .tuple #[.string (ByteArray.mk #[]), .agg #[.int .i64 c, .int .i64 d]]) ?_ rfl ⟨rfl, (below_end fi (Below.refl _ _) _ _).drew⟩
    simp [results, Tryd.results5, go_sem, k0, k1]

set_option maxRecDepth 100000 in
set_option maxHeartbeats 4000000 in
theorem print_bad (n : Int) (v : Value) (es : List Pair) (w : World) (hE : EdgesAt w v es) {c d : Int} (hcd : chk n es = (c, d)) (h0 : c ≠ 0) :
    Says 6 #[.agg #[.int .i64 n, v]] w (ByteArray.mk #[]) c d := by
  have hfs : formS n es = ⟨0, [], c, d⟩ := by have := form_bad (n := n) (es := es) (by rw [hcd]; exact h0); rw [hcd] at this; exact this
  have HE : Hid _ := hE
  have HF : Hid _ := hfs
  have hc : (c != 0) = true := by simpa using h0
  clear hE hfs
  unfold Says
  go_enter Tryd.func6, Tryd.ntmps6
  go_upto_region 2 with (go_at_call 10; refine (form_as (EdgesAt.below HE.out (below2 _ _)) HF.out).mono ?_; rintro e w1 ⟨hb1, lo, lc, rfl, hL, _⟩)
  have fi := fi_make (n := 0) (v := .slice lo 0 lc) (c := c) (d := d) hb1
  generalize (w1.alloc (Obj.cells #[.int .i64 0, .slice lo 0 lc] 24)).alloc (Obj.cells #[.int .i64 c, .int .i64 d] 27) = W at fi ⊢
  generalize w1.heap.size = b4 at fi ⊢
  clear hb1 hL HF
  obtain ⟨k0, k1, k2⟩ := kk fi.t3
  obtain ⟨p0, p1, p2⟩ := kk fi.t5
  have hlt := fi.lt
  go_wp2
  go_region
  all_goals
    go_wp2
    refine bodyPost_ret (v := .tuple #[.string (ByteArray.mk #[]), .agg #[.int .i64 c, .int .i64 d]]) ?_ rfl ⟨rfl, (below_end fi (Below.refl _ _) _ _).drew⟩
    simp [results, Tryd.results6, go_sem, k0, k1]

set_option maxRecDepth 100000 in
set_option maxHeartbeats 4000000 in
theorem print_good (m : Nat) (v : Value) (es : List Pair) (w : World) (hE : EdgesAt w v es) (h0 : (chk m es).1 = 0) (hI : ItoaAt w m) :
    Says 6 #[.agg #[.int .i64 m, v]] w (strB (lineB m (allP m (hasB es)))) 0 0 := by
  obtain ⟨_, _, hm, hl, _⟩ := chk_good h0
  have hm' : m ≤ 100 := by omega
  have hal := Nat.le_trans (allP_has_le m es) hl
  have hfs := formS_good h0
  have HE : Hid _ := hE
  have HF : Hid _ := hfs
  have HI : Hid _ := hI
  clear hE hfs hI
  unfold Says
  go_enter Tryd.func6, Tryd.ntmps6
  go_upto_region 2 with (go_at_call 10; refine (form_as (EdgesAt.below HE.out (below2 _ _)) HF.out).mono ?_; rintro e w1 ⟨hb1, lo, lc, rfl, hL, _⟩)
  have fi := fi_make (n := m) (v := .slice lo (allP m (hasB es)).length lc) (c := 0) (d := 0) hb1
  have hLW := hL.below (below2 (Obj.cells #[.int .i64 m, .slice lo (allP m (hasB es)).length lc] 24) (Obj.cells #[.int .i64 0, .int .i64 0] 27))
  generalize (w1.alloc (Obj.cells #[.int .i64 m, .slice lo (allP m (hasB es)).length lc] 24)).alloc (Obj.cells #[.int .i64 0, .int .i64 0] 27) = W at fi hLW ⊢
  generalize w1.heap.size = b4 at fi ⊢
  clear hb1 hL HF
  obtain ⟨k0, k1, k2⟩ := kk fi.t3
  obtain ⟨l0, l1, l2⟩ := kk fi.t4
  obtain ⟨p0, p1, p2⟩ := kk fi.t5
  have hlt := fi.lt
  have hin : ∀ e ∈ allP m (hasB es), 0 ≤ e.1 ∧ 0 ≤ e.2 ∧ e.1 < m ∧ e.2 < m := fun e he => allP_in he
  have HIN : Hid _ := hin
  clear hin
  go_wp2_with (go_at_call 13; refine (line_any m _ (allP m (hasB es)) _ hLW hm' hal HIN.out (ItoaAt.below HI.out fi.bel)).mono ?_; rintro e w2 ⟨rfl, hb2⟩; obtain ⟨q0, q1, q2⟩ := kk (two_next fi.t3 hb2))
  refine bodyPost_ret (v := .tuple #[.string (strB (lineB m (allP m (hasB es)))), .agg #[.int .i64 0, .int .i64 0]]) ?_ rfl ⟨rfl, below_end fi hb2 _ _⟩
  simp [results, Tryd.results6, go_sem, q0, q1]
end Go.Proofs.YtbaghbodjpehpabDoor
