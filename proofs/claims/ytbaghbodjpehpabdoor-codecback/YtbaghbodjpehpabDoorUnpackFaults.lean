/- Unpack of package codec. -/
import Derived.Test.YtbaghbodjpehpabDoorCaught
namespace Go.Proofs.YtbaghbodjpehpabDoor
open Go.RowKit Go.Maps
attribute [local go_sem ↓] Go.wp_at_zero Go.wp_at_succ

theorem xu_block {w : World} {b : Nat} {x y z u : Value} (hx : Two w b x y 24) (hu : Two w (b + 1) z u 27) (x' y' z' u' : Value) :
    Two ((((w.setCell ⟨b, 0, none⟩ x').setCell ⟨b, 1, none⟩ y').setCell ⟨b + 1, 0, none⟩ z').setCell ⟨b + 1, 1, none⟩ u') b x' y' 24 ∧ Two ((((w.setCell ⟨b, 0, none⟩ x').setCell ⟨b, 1, none⟩ y').setCell ⟨b + 1, 0, none⟩ z').setCell ⟨b + 1, 1, none⟩ u') (b + 1) z' u' 27 := by
  constructor
  · rw [Two, Below.heap_setCell _ _ _ _ (by simp), Below.heap_setCell _ _ _ _ (by simp)]
    simp [World.setCell, Array.getElem?_modify, hx]
  · simp [Two, World.setCell, Array.getElem?_modify, hu]

set_option maxRecDepth 100000 in
set_option maxHeartbeats 1000000 in
theorem unpack_long (s : ByteArray) (w : World) (h : 20000 < s.size) : Tells 7 #[.string s] w ⟨0, [], 2, 0⟩ := by
  have hmf : ∀ (fn : Fn) (first cap : Array Value) (w : World), (Instr.makeFunc fn first cap).run Tryd.prog w = .ok (.func fn first cap) w := fun _ _ _ _ => rfl
  have t2 := two_alloc (two_new w (.int .i64 0) (.slice none 0 0) 24) (Obj.cells #[.int .i64 0, .int .i64 0] 27)
  have t3 := two_newb w (Obj.cells #[.int .i64 0, .slice none 0 0] 24) (.int .i64 0) (.int .i64 0) 27
  have hb0 := below2 (w := w) (Obj.cells #[.int .i64 0, .slice none 0 0] 24) (Obj.cells #[.int .i64 0, .int .i64 0] 27)
  unfold Tells
  go_enter_defers Tryd.func7, Tryd.ntmps7
  go_upto_region 2 with fail
  generalize (w.alloc (Obj.cells #[.int .i64 0, .slice none 0 0] 24)).alloc (Obj.cells #[.int .i64 0, .int .i64 0] 27) = W at t2 t3 hb0 ⊢
  go_wp2_with (go_at_call 16; refine (checkLength_no s _ h).mono ?_; rintro e w' ⟨rfl, rfl⟩)
  refine leaves_cons (f := 14) (args := #[.pointer (some ⟨w.heap.size, 0, none⟩), .pointer (some ⟨w.heap.size + 1, 0, none⟩)]) (by simp) (by simp [go_sem]) ?_
  refine (catch_panicking w.heap.size (w.heap.size + 1) (2) (0) _ _ _ _ [] _ t2 t3 (by omega)).mono ?_
  rintro e u' w'' ⟨rfl, rfl, w1, hb1, rfl⟩
  obtain ⟨r1, r2⟩ := xu_block (two_next t2 hb1) (two_next t3 hb1) (.int .i64 0) (.slice none 0 0) (.int .i64 (2)) (.int .i64 (0))
  obtain ⟨r3, r4⟩ := cell_two r1
  obtain ⟨r5, r6⟩ := cell_two r2
  have hb2 := below_set4 (below_next hb0 hb1) (a := ⟨w.heap.size, 0, none⟩) (b := ⟨w.heap.size, 1, none⟩) (c := ⟨w.heap.size + 1, 0, none⟩) (d := ⟨w.heap.size + 1, 1, none⟩) (Nat.le_refl _) (Nat.le_refl _) (Nat.le_succ _) (Nat.le_succ _) (x := .int .i64 0) (y := .slice none 0 0) (z := .int .i64 (2)) (u := .int .i64 (0))
  generalize (((w1.setCell ⟨w.heap.size, 0, none⟩ (.int .i64 0)).setCell ⟨w.heap.size, 1, none⟩ (.slice none 0 0)).setCell ⟨w.heap.size + 1, 0, none⟩ (.int .i64 (2))).setCell ⟨w.heap.size + 1, 1, none⟩ (.int .i64 (0)) = V at r1 r2 r3 r4 r5 r6 hb2 ⊢
  simp [Leaves, settle, results, Tryd.results7, go_sem, r3, r4, r5, r6]
  exact ⟨hb2, none, 0, ⟨rfl, rfl⟩, edgesAt_nil _, fun x h => by cases h⟩

set_option maxRecDepth 100000 in
set_option maxHeartbeats 1000000 in
theorem unpack_byte (s : ByteArray) (w : World) (h : s.size ≤ 20000) (K : Nat) (hK : ∀ i (h : i < s.size), i < K → goodB s[i] = true) (hlt : K < s.size) (hb : goodB s[K] = false) : Tells 7 #[.string s] w ⟨0, [], 1, K⟩ := by
  have hmf : ∀ (fn : Fn) (first cap : Array Value) (w : World), (Instr.makeFunc fn first cap).run Tryd.prog w = .ok (.func fn first cap) w := fun _ _ _ _ => rfl
  have t2 := two_alloc (two_new w (.int .i64 0) (.slice none 0 0) 24) (Obj.cells #[.int .i64 0, .int .i64 0] 27)
  have t3 := two_newb w (Obj.cells #[.int .i64 0, .slice none 0 0] 24) (.int .i64 0) (.int .i64 0) 27
  have hb0 := below2 (w := w) (Obj.cells #[.int .i64 0, .slice none 0 0] 24) (Obj.cells #[.int .i64 0, .int .i64 0] 27)
  have hC : ∀ w, Calls Tryd.prog 17 #[.string s] w fun e w' => e = gaveUp 1 K ∧ w' = w := fun w => by
    have := checkBytes_any s w h K hK (Or.inr ⟨hlt, hb⟩)
    rw [if_neg (by omega)] at this
    exact this
  have HC : Hid _ := hC
  clear hC hK hb
  unfold Tells
  go_enter_defers Tryd.func7, Tryd.ntmps7
  go_upto_region 2 with fail
  generalize (w.alloc (Obj.cells #[.int .i64 0, .slice none 0 0] 24)).alloc (Obj.cells #[.int .i64 0, .int .i64 0] 27) = W at t2 t3 hb0 ⊢
  go_wp2_with (first | (go_at_call 16; refine (checkLength_ok s _ h).mono ?_; rintro e w' ⟨rfl, rfl⟩) | (go_at_call 17; refine (HC.out _).mono ?_; rintro e w' ⟨rfl, rfl⟩))
  refine leaves_cons (f := 14) (args := #[.pointer (some ⟨w.heap.size, 0, none⟩), .pointer (some ⟨w.heap.size + 1, 0, none⟩)]) (by simp) (by simp [go_sem]) ?_
  refine (catch_panicking w.heap.size (w.heap.size + 1) (1) (K) _ _ _ _ [] _ t2 t3 (by omega)).mono ?_
  rintro e u' w'' ⟨rfl, rfl, w1, hb1, rfl⟩
  obtain ⟨r1, r2⟩ := xu_block (two_next t2 hb1) (two_next t3 hb1) (.int .i64 0) (.slice none 0 0) (.int .i64 (1)) (.int .i64 (K))
  obtain ⟨r3, r4⟩ := cell_two r1
  obtain ⟨r5, r6⟩ := cell_two r2
  have hb2 := below_set4 (below_next hb0 hb1) (a := ⟨w.heap.size, 0, none⟩) (b := ⟨w.heap.size, 1, none⟩) (c := ⟨w.heap.size + 1, 0, none⟩) (d := ⟨w.heap.size + 1, 1, none⟩) (Nat.le_refl _) (Nat.le_refl _) (Nat.le_succ _) (Nat.le_succ _) (x := .int .i64 0) (y := .slice none 0 0) (z := .int .i64 (1)) (u := .int .i64 (K))
  generalize (((w1.setCell ⟨w.heap.size, 0, none⟩ (.int .i64 0)).setCell ⟨w.heap.size, 1, none⟩ (.slice none 0 0)).setCell ⟨w.heap.size + 1, 0, none⟩ (.int .i64 (1))).setCell ⟨w.heap.size + 1, 1, none⟩ (.int .i64 (K)) = V at r1 r2 r3 r4 r5 r6 hb2 ⊢
  simp [Leaves, settle, results, Tryd.results7, go_sem, r3, r4, r5, r6]
  exact ⟨hb2, none, 0, ⟨rfl, rfl⟩, edgesAt_nil _, fun x h => by cases h⟩

set_option maxRecDepth 100000 in
set_option maxHeartbeats 1000000 in
theorem unpack_size (s : ByteArray) (w : World) (h : s.size ≤ 20000) (hg : ∀ i (h : i < s.size), goodB s[i] = true) (c d : Int) (hS : ∀ w, Calls Tryd.prog 18 #[.string s] w fun e w' => e = gaveUp c d ∧ w' = w) : Tells 7 #[.string s] w ⟨0, [], c, d⟩ := by
  have hmf : ∀ (fn : Fn) (first cap : Array Value) (w : World), (Instr.makeFunc fn first cap).run Tryd.prog w = .ok (.func fn first cap) w := fun _ _ _ _ => rfl
  have t2 := two_alloc (two_new w (.int .i64 0) (.slice none 0 0) 24) (Obj.cells #[.int .i64 0, .int .i64 0] 27)
  have t3 := two_newb w (Obj.cells #[.int .i64 0, .slice none 0 0] 24) (.int .i64 0) (.int .i64 0) 27
  have hb0 := below2 (w := w) (Obj.cells #[.int .i64 0, .slice none 0 0] 24) (Obj.cells #[.int .i64 0, .int .i64 0] 27)
  have hC : ∀ w, Calls Tryd.prog 17 #[.string s] w fun e w' => e = .returned (.tuple #[]) ∧ w' = w := fun w => by
    have := checkBytes_any s w h s.size (fun i hi _ => hg i hi) (Or.inl rfl)
    rw [if_pos rfl] at this
    exact this
  have HC : Hid _ := hC
  have HG : Hid _ := hg
  clear hC hg
  have HS : Hid _ := hS
  clear hS
  unfold Tells
  go_enter_defers Tryd.func7, Tryd.ntmps7
  go_upto_region 2 with fail
  generalize (w.alloc (Obj.cells #[.int .i64 0, .slice none 0 0] 24)).alloc (Obj.cells #[.int .i64 0, .int .i64 0] 27) = W at t2 t3 hb0 ⊢
  go_wp2_with (first | (go_at_call 16; refine (checkLength_ok s _ h).mono ?_; rintro e w' ⟨rfl, rfl⟩) | (go_at_call 17; refine (HC.out _).mono ?_; rintro e w' ⟨rfl, rfl⟩) | (go_at_call 18; refine (HS.out _).mono ?_; rintro e w' ⟨rfl, rfl⟩))
  refine leaves_cons (f := 14) (args := #[.pointer (some ⟨w.heap.size, 0, none⟩), .pointer (some ⟨w.heap.size + 1, 0, none⟩)]) (by simp) (by simp [go_sem]) ?_
  refine (catch_panicking w.heap.size (w.heap.size + 1) (c) (d) _ _ _ _ [] _ t2 t3 (by omega)).mono ?_
  rintro e u' w'' ⟨rfl, rfl, w1, hb1, rfl⟩
  obtain ⟨r1, r2⟩ := xu_block (two_next t2 hb1) (two_next t3 hb1) (.int .i64 0) (.slice none 0 0) (.int .i64 (c)) (.int .i64 (d))
  obtain ⟨r3, r4⟩ := cell_two r1
  obtain ⟨r5, r6⟩ := cell_two r2
  have hb2 := below_set4 (below_next hb0 hb1) (a := ⟨w.heap.size, 0, none⟩) (b := ⟨w.heap.size, 1, none⟩) (c := ⟨w.heap.size + 1, 0, none⟩) (d := ⟨w.heap.size + 1, 1, none⟩) (Nat.le_refl _) (Nat.le_refl _) (Nat.le_succ _) (Nat.le_succ _) (x := .int .i64 0) (y := .slice none 0 0) (z := .int .i64 (c)) (u := .int .i64 (d))
  generalize (((w1.setCell ⟨w.heap.size, 0, none⟩ (.int .i64 0)).setCell ⟨w.heap.size, 1, none⟩ (.slice none 0 0)).setCell ⟨w.heap.size + 1, 0, none⟩ (.int .i64 (c))).setCell ⟨w.heap.size + 1, 1, none⟩ (.int .i64 (d)) = V at r1 r2 r3 r4 r5 r6 hb2 ⊢
  simp [Leaves, settle, results, Tryd.results7, go_sem, r3, r4, r5, r6]
  exact ⟨hb2, none, 0, ⟨rfl, rfl⟩, edgesAt_nil _, fun x h => by cases h⟩

set_option maxRecDepth 100000 in
set_option maxHeartbeats 1000000 in
theorem unpack_pairs (s : ByteArray) (w : World) (h : s.size ≤ 20000) (hg : ∀ i (h : i < s.size), goodB s[i] = true) (n f : Nat) (hS : ∀ w, Calls Tryd.prog 18 #[.string s] w fun e w' => e = .returned (.tuple #[.int .i64 n, .int .i64 f]) ∧ w' = w) (c d : Int) (hP : ∀ w, Calls Tryd.prog 19 #[.string s, .int .i64 n, .int .i64 f] w fun e w' => e = gaveUp c d ∧ Below w.heap.size w w') : Tells 7 #[.string s] w ⟨0, [], c, d⟩ := by
  have hmf : ∀ (fn : Fn) (first cap : Array Value) (w : World), (Instr.makeFunc fn first cap).run Tryd.prog w = .ok (.func fn first cap) w := fun _ _ _ _ => rfl
  have t2 := two_alloc (two_new w (.int .i64 0) (.slice none 0 0) 24) (Obj.cells #[.int .i64 0, .int .i64 0] 27)
  have t3 := two_newb w (Obj.cells #[.int .i64 0, .slice none 0 0] 24) (.int .i64 0) (.int .i64 0) 27
  have hb0 := below2 (w := w) (Obj.cells #[.int .i64 0, .slice none 0 0] 24) (Obj.cells #[.int .i64 0, .int .i64 0] 27)
  have hC : ∀ w, Calls Tryd.prog 17 #[.string s] w fun e w' => e = .returned (.tuple #[]) ∧ w' = w := fun w => by
    have := checkBytes_any s w h s.size (fun i hi _ => hg i hi) (Or.inl rfl)
    rw [if_pos rfl] at this
    exact this
  have HC : Hid _ := hC
  have HG : Hid _ := hg
  clear hC hg
  have HS : Hid _ := hS
  have HP : Hid _ := hP
  clear hS hP
  unfold Tells
  go_enter_defers Tryd.func7, Tryd.ntmps7
  go_upto_region 2 with fail
  generalize (w.alloc (Obj.cells #[.int .i64 0, .slice none 0 0] 24)).alloc (Obj.cells #[.int .i64 0, .int .i64 0] 27) = W at t2 t3 hb0 ⊢
  go_wp2_with (first | (go_at_call 16; refine (checkLength_ok s _ h).mono ?_; rintro e w' ⟨rfl, rfl⟩) | (go_at_call 17; refine (HC.out _).mono ?_; rintro e w' ⟨rfl, rfl⟩) | (go_at_call 18; refine (HS.out _).mono ?_; rintro e w' ⟨rfl, rfl⟩) | (go_at_call 19; refine (HP.out _).mono ?_; rintro e w2 ⟨rfl, hbp⟩; replace t2 := two_next t2 hbp; replace t3 := two_next t3 hbp; replace hb0 := below_next hb0 hbp))
  refine leaves_cons (f := 14) (args := #[.pointer (some ⟨w.heap.size, 0, none⟩), .pointer (some ⟨w.heap.size + 1, 0, none⟩)]) (by simp) (by simp [go_sem]) ?_
  refine (catch_panicking w.heap.size (w.heap.size + 1) (c) (d) _ _ _ _ [] _ t2 t3 (by omega)).mono ?_
  rintro e u' w'' ⟨rfl, rfl, w1, hb1, rfl⟩
  obtain ⟨r1, r2⟩ := xu_block (two_next t2 hb1) (two_next t3 hb1) (.int .i64 0) (.slice none 0 0) (.int .i64 (c)) (.int .i64 (d))
  obtain ⟨r3, r4⟩ := cell_two r1
  obtain ⟨r5, r6⟩ := cell_two r2
  have hb2 := below_set4 (below_next hb0 hb1) (a := ⟨w.heap.size, 0, none⟩) (b := ⟨w.heap.size, 1, none⟩) (c := ⟨w.heap.size + 1, 0, none⟩) (d := ⟨w.heap.size + 1, 1, none⟩) (Nat.le_refl _) (Nat.le_refl _) (Nat.le_succ _) (Nat.le_succ _) (x := .int .i64 0) (y := .slice none 0 0) (z := .int .i64 (c)) (u := .int .i64 (d))
  generalize (((w1.setCell ⟨w.heap.size, 0, none⟩ (.int .i64 0)).setCell ⟨w.heap.size, 1, none⟩ (.slice none 0 0)).setCell ⟨w.heap.size + 1, 0, none⟩ (.int .i64 (c))).setCell ⟨w.heap.size + 1, 1, none⟩ (.int .i64 (d)) = V at r1 r2 r3 r4 r5 r6 hb2 ⊢
  simp [Leaves, settle, results, Tryd.results7, go_sem, r3, r4, r5, r6]
  exact ⟨hb2, none, 0, ⟨rfl, rfl⟩, edgesAt_nil _, fun x h => by cases h⟩

end Go.Proofs.YtbaghbodjpehpabDoor
