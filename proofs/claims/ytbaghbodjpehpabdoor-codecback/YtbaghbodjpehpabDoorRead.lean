/- Read of package codec. -/
import Derived.Test.YtbaghbodjpehpabDoorReaderGraph
namespace Go.Proofs.YtbaghbodjpehpabDoor
open Go.RowKit Go.Maps
attribute [local go_sem ↓] Go.wp_at_zero Go.wp_at_succ

set_option maxRecDepth 100000 in
set_option maxHeartbeats 1000000 in
theorem caught_panicking (b2 b3 : Nat) (c d : Int) (x : Value) (n : Int) (y : Int) (z : Int) (older : List PanicEntry) (w : World) (t2 : Two w b2 (.int .i64 n) x 24) (t3 : Two w b3 (.int .i64 y) (.int .i64 z) 27) (hne : b2 ≠ b3) :
    CallsD Tryd.prog 21 #[.pointer (some ⟨b2, 0, none⟩), .pointer (some ⟨b3, 0, none⟩)] (.panicking ({ v := .iface 65 (.agg #[.int .i64 c, .int .i64 d]), recovered := false } :: older)) w fun e u' w' =>
      e = .returned (.tuple #[]) ∧ u' = .panicking ({ v := .iface 65 (.agg #[.int .i64 c, .int .i64 d]), recovered := true } :: older) ∧ ∃ w1, Below w.heap.size w w1 ∧ w' = (((w1.setCell ⟨b2, 0, none⟩ (.int .i64 0)).setCell ⟨b2, 1, none⟩ (.slice none 0 0)).setCell ⟨b3, 0, none⟩ (.int .i64 c)).setCell ⟨b3, 1, none⟩ (.int .i64 d) := by
  refine callsD_of_wpS Tryd.func21 rfl fun c₀ cs hu => ?_
  have hq := neq_nil
  apply wpS_seq
  apply wpS_region
  simp [wpOpsS, go_sem, recoverD, hu, Tryd.ntmps21, Exit.thenS]
  refine wpS_of_wp ?_
  go_wp2_with (go_at_call 15; refine (faultOf_any c d _).mono ?_; rintro e w1 ⟨rfl, hb1⟩; obtain ⟨g0, g1, g2⟩ := kk (two_next t2 hb1); obtain ⟨m0, m1, m2⟩ := kapart (two_next t3 hb1) hne)
  simp [bodyPostS, results, Tryd.results21]
  exact ⟨w1, hb1, rfl⟩

set_option maxRecDepth 100000 in
set_option maxHeartbeats 1000000 in
theorem caught_idle (b2 b3 : Nat) (w : World) :
    CallsD Tryd.prog 21 #[.pointer (some ⟨b2, 0, none⟩), .pointer (some ⟨b3, 0, none⟩)] .returning w fun e u' w' => e = .returned (.tuple #[]) ∧ u' = .returning ∧ w' = w := by
  refine callsD_of_wpS Tryd.func21 rfl fun c₀ cs hu => ?_
  have hq := nil_nil
  apply wpS_seq
  apply wpS_region
  simp [wpOpsS, go_sem, recoverD, hu, Tryd.ntmps21, Exit.thenS]
  refine wpS_of_wp ?_
  go_wp2
  cases c₀
  simp_all [bodyPostS, results, Tryd.results21]
theorem below_grownBy {W V : World} {o : Obj} (hg : (W.alloc o).grownBy V (some W.heap.size)) : Below W.heap.size W V :=
  ⟨hg.os, hg.tape, hg.output, by have := hg.size; simp at this; omega, fun k hk => by rw [hg.block k (by simp; omega) (by simp; omega), Below.heap_alloc _ _ _ hk]⟩

set_option maxRecDepth 100000 in
set_option maxHeartbeats 2000000 in
theorem read_long (s : ByteArray) (w : World) (h : 20000 < s.size) : Tells 8 #[.string s] w ⟨0, [], 2, 0⟩ := by
  have hmf : ∀ (fn : Fn) (first cap : Array Value) (w : World), (Instr.makeFunc fn first cap).run Tryd.prog w = .ok (.func fn first cap) w := fun _ _ _ _ => rfl
  have t2 := two_alloc (two_new w (.int .i64 0) (.slice none 0 0) 24) (Obj.cells #[.int .i64 0, .int .i64 0] 27)
  have t3 := two_newb w (Obj.cells #[.int .i64 0, .slice none 0 0] 24) (.int .i64 0) (.int .i64 0) 27
  have hb0 := below2 (w := w) (Obj.cells #[.int .i64 0, .slice none 0 0] 24) (Obj.cells #[.int .i64 0, .int .i64 0] 27)
  unfold Tells
  go_enter_defers Tryd.func8, Tryd.ntmps8
  go_upto_region 2 with fail
  generalize (w.alloc (Obj.cells #[.int .i64 0, .slice none 0 0] 24)).alloc (Obj.cells #[.int .i64 0, .int .i64 0] 27) = W at t2 t3 hb0 ⊢
  go_wp2_with (go_at_call 16; refine (checkLength_no s _ h).mono ?_; rintro e w' ⟨rfl, rfl⟩)
  refine leaves_cons (f := 21) (args := #[.pointer (some ⟨w.heap.size, 0, none⟩), .pointer (some ⟨w.heap.size + 1, 0, none⟩)]) (by simp) (by simp [go_sem]) ?_
  refine (caught_panicking w.heap.size (w.heap.size + 1) (2) (0) _ _ _ _ [] _ t2 t3 (by omega)).mono ?_
  rintro e u' w'' ⟨rfl, rfl, w1, hb1, rfl⟩
  obtain ⟨r1, r2⟩ := xu_block (two_next t2 hb1) (two_next t3 hb1) (.int .i64 0) (.slice none 0 0) (.int .i64 (2)) (.int .i64 (0))
  obtain ⟨r3, r4⟩ := cell_two r1
  obtain ⟨r5, r6⟩ := cell_two r2
  have hb2 := below_set4 (below_next hb0 hb1) (a := ⟨w.heap.size, 0, none⟩) (b := ⟨w.heap.size, 1, none⟩) (c := ⟨w.heap.size + 1, 0, none⟩) (d := ⟨w.heap.size + 1, 1, none⟩) (Nat.le_refl _) (Nat.le_refl _) (Nat.le_succ _) (Nat.le_succ _) (x := .int .i64 0) (y := .slice none 0 0) (z := .int .i64 (2)) (u := .int .i64 (0))
  generalize (((w1.setCell ⟨w.heap.size, 0, none⟩ (.int .i64 0)).setCell ⟨w.heap.size, 1, none⟩ (.slice none 0 0)).setCell ⟨w.heap.size + 1, 0, none⟩ (.int .i64 (2))).setCell ⟨w.heap.size + 1, 1, none⟩ (.int .i64 (0)) = V at r1 r2 r3 r4 r5 r6 hb2 ⊢
  simp [Leaves, settle, results, Tryd.results8, go_sem, r3, r4, r5, r6]
  exact ⟨hb2, none, 0, ⟨rfl, rfl⟩, edgesAt_nil _, fun x h => by cases h⟩

set_option maxRecDepth 100000 in
set_option maxHeartbeats 2000000 in
theorem read_fault (s : ByteArray) (w : World) (h : s.size ≤ 20000) (p N : Nat) (hp : lineS s = (.fault p, N)) : Tells 8 #[.string s] w ⟨0, [], 1, p⟩ := by
  have hmf : ∀ (fn : Fn) (first cap : Array Value) (w : World), (Instr.makeFunc fn first cap).run Tryd.prog w = .ok (.func fn first cap) w := fun _ _ _ _ => rfl
  have t2 := two_alloc (two_new w (.int .i64 0) (.slice none 0 0) 24) (Obj.cells #[.int .i64 0, .int .i64 0] 27)
  have t3 := two_newb w (Obj.cells #[.int .i64 0, .slice none 0 0] 24) (.int .i64 0) (.int .i64 0) 27
  have hb0 := below2 (w := w) (Obj.cells #[.int .i64 0, .slice none 0 0] 24) (Obj.cells #[.int .i64 0, .int .i64 0] 27)
  have HP : Hid _ := hp
  clear hp
  unfold Tells
  go_enter_defers Tryd.func8, Tryd.ntmps8
  go_upto_region 2 with fail
  generalize (w.alloc (Obj.cells #[.int .i64 0, .slice none 0 0] 24)).alloc (Obj.cells #[.int .i64 0, .int .i64 0] 27) = W at t2 t3 hb0 ⊢
  go_upto_region 4 with (go_at_call 16; refine (checkLength_ok s _ h).mono ?_; rintro e w' ⟨rfl, rfl⟩)
  have tr := two_new w' (.string s) (.int .i64 0) 45
  have lt3 := lt_of_block t3
  go_wp2_with (go_at_call 22; refine (graph_any s w'.heap.size _ tr h).mono ?_; rintro e w3 ⟨hg, ⟨q, hq, rfl⟩ | ⟨es, k, ao, cap, hq, rfl, _⟩⟩; (rw [HP.out] at hq; cases hq); rotate_left; (rw [HP.out] at hq; cases hq))
  have hbg := below_grownBy hg
  replace t2 := two_next t2 hbg
  replace t3 := two_next t3 hbg
  replace hb0 := below_next hb0 hbg
  refine leaves_cons (f := 21) (args := #[.pointer (some ⟨w.heap.size, 0, none⟩), .pointer (some ⟨w.heap.size + 1, 0, none⟩)]) (by simp) (by simp [go_sem]) ?_
  refine (caught_panicking w.heap.size (w.heap.size + 1) (1) (p) _ _ _ _ [] _ t2 t3 (by omega)).mono ?_
  rintro e u' w'' ⟨rfl, rfl, w1, hb1, rfl⟩
  obtain ⟨r1, r2⟩ := xu_block (two_next t2 hb1) (two_next t3 hb1) (.int .i64 0) (.slice none 0 0) (.int .i64 (1)) (.int .i64 (p))
  obtain ⟨r3, r4⟩ := cell_two r1
  obtain ⟨r5, r6⟩ := cell_two r2
  have hb2 := below_set4 (below_next hb0 hb1) (a := ⟨w.heap.size, 0, none⟩) (b := ⟨w.heap.size, 1, none⟩) (c := ⟨w.heap.size + 1, 0, none⟩) (d := ⟨w.heap.size + 1, 1, none⟩) (Nat.le_refl _) (Nat.le_refl _) (Nat.le_succ _) (Nat.le_succ _) (x := .int .i64 0) (y := .slice none 0 0) (z := .int .i64 (1)) (u := .int .i64 (p))
  generalize (((w1.setCell ⟨w.heap.size, 0, none⟩ (.int .i64 0)).setCell ⟨w.heap.size, 1, none⟩ (.slice none 0 0)).setCell ⟨w.heap.size + 1, 0, none⟩ (.int .i64 (1))).setCell ⟨w.heap.size + 1, 1, none⟩ (.int .i64 (p)) = V at r1 r2 r3 r4 r5 r6 hb2 ⊢
  simp [Leaves, settle, results, Tryd.results8, go_sem, r3, r4, r5, r6]
  exact ⟨hb2, none, 0, ⟨rfl, rfl⟩, edgesAt_nil _, fun x h => by cases h⟩

set_option maxRecDepth 100000 in
set_option maxHeartbeats 2000000 in
theorem read_good (s : ByteArray) (w : World) (h : s.size ≤ 20000) (es : List Pair) (k N : Nat) (hp : lineS s = (.edges es k, N)) : Tells 8 #[.string s] w (formS N es) := by
  have hmf : ∀ (fn : Fn) (first cap : Array Value) (w : World), (Instr.makeFunc fn first cap).run Tryd.prog w = .ok (.func fn first cap) w := fun _ _ _ _ => rfl
  have t2 := two_alloc (two_new w (.int .i64 0) (.slice none 0 0) 24) (Obj.cells #[.int .i64 0, .int .i64 0] 27)
  have t3 := two_newb w (Obj.cells #[.int .i64 0, .slice none 0 0] 24) (.int .i64 0) (.int .i64 0) 27
  have hb0 := below2 (w := w) (Obj.cells #[.int .i64 0, .slice none 0 0] 24) (Obj.cells #[.int .i64 0, .int .i64 0] 27)
  have HP : Hid _ := hp
  clear hp
  unfold Tells
  go_enter_defers Tryd.func8, Tryd.ntmps8
  go_upto_region 2 with fail
  generalize (w.alloc (Obj.cells #[.int .i64 0, .slice none 0 0] 24)).alloc (Obj.cells #[.int .i64 0, .int .i64 0] 27) = W at t2 t3 hb0 ⊢
  go_upto_region 4 with (go_at_call 16; refine (checkLength_ok s _ h).mono ?_; rintro e w' ⟨rfl, rfl⟩)
  have tr := two_new w' (.string s) (.int .i64 0) 45
  have lt3 := lt_of_block t3
  go_wp2_with (first | (go_at_call 22; refine (graph_any s w'.heap.size _ tr h).mono ?_; rintro e w3 ⟨hg, ⟨q, hq, rfl⟩ | ⟨es', k', ao, cap, hq, rfl, hE, _⟩⟩; (rw [HP.out] at hq; cases hq); rw [HP.out] at hq ⊢; cases hq) | (go_at_call 10; refine (form_tells N _ es _ hE).mono ?_; rintro e w4 ⟨hb4, xo, xc, rfl, hX, hfr⟩; have hq := below_next (below_grownBy hg) hb4; obtain ⟨g0, g1, g2⟩ := kk (two_next t2 hq); obtain ⟨m0, m1, m2⟩ := kapart (two_next t3 hq) (show w.heap.size ≠ w.heap.size + 1 by omega)))
  refine leaves_cons (f := 21) (args := #[.pointer (some ⟨w.heap.size, 0, none⟩), .pointer (some ⟨w.heap.size + 1, 0, none⟩)]) (by simp) (by simp [go_sem]) ?_
  refine (caught_idle w.heap.size (w.heap.size + 1) _).mono ?_
  rintro e u' w'' ⟨rfl, rfl, rfl⟩
  generalize formS N es = A at hX hfr ⊢
  obtain ⟨r1, r2⟩ := xu_block (two_next t2 hq) (two_next t3 hq) (.int .i64 A.n) (.slice xo A.es.length xc) (.int .i64 A.c) (.int .i64 A.pos)
  obtain ⟨r3, r4⟩ := cell_two r1
  obtain ⟨r5, r6⟩ := cell_two r2
  have hb2 := below_set4 (below_next hb0 hq) (a := ⟨w.heap.size, 0, none⟩) (b := ⟨w.heap.size, 1, none⟩) (c := ⟨w.heap.size + 1, 0, none⟩) (d := ⟨w.heap.size + 1, 1, none⟩) (Nat.le_refl _) (Nat.le_refl _) (Nat.le_succ _) (Nat.le_succ _) (x := .int .i64 A.n) (y := .slice xo A.es.length xc) (z := .int .i64 A.c) (u := .int .i64 A.pos)
  have hfr2 : ∀ x, xo = some x → w.heap.size + 1 < x.block := fun x hx => by
    have h1 := hfr x hx
    have h2 := (below_grownBy hg).size
    have h4 := lt_of_block t3
    omega
  have hX2 : EdgesAt ((((w4.setCell ⟨w.heap.size, 0, none⟩ (.int .i64 A.n)).setCell ⟨w.heap.size, 1, none⟩ (.slice xo A.es.length xc)).setCell ⟨w.heap.size + 1, 0, none⟩ (.int .i64 A.c)).setCell ⟨w.heap.size + 1, 1, none⟩ (.int .i64 A.pos)) (.slice xo A.es.length xc) A.es :=
    (((hX.setCell (fun x hx => by have := hfr2 x hx; simp; omega) _).setCell (fun x hx => by have := hfr2 x hx; simp; omega) _).setCell (fun x hx => by have := hfr2 x hx; simp; omega) _).setCell (fun x hx => by have := hfr2 x hx; simp; omega) _
  generalize (((w4.setCell ⟨w.heap.size, 0, none⟩ (.int .i64 A.n)).setCell ⟨w.heap.size, 1, none⟩ (.slice xo A.es.length xc)).setCell ⟨w.heap.size + 1, 0, none⟩ (.int .i64 A.c)).setCell ⟨w.heap.size + 1, 1, none⟩ (.int .i64 A.pos) = V at r1 r2 r3 r4 r5 r6 hb2 hX2 ⊢
  simp [Leaves, settle, results, Tryd.results8, go_sem, r3, r4, r5, r6]
  exact ⟨hb2, xo, xc, ⟨rfl, rfl⟩, hX2, fun x hx => by have := hfr2 x hx; omega⟩
end Go.Proofs.YtbaghbodjpehpabDoor
