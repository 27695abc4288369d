/- Edge and Cut of a house. -/
import Derived.Test.YtfdlndljpmamgaaNodeW
namespace Go.Proofs.Ytfdlndljpmamgaa
set_option maxRecDepth 8000
open Go.RowKit Go.Maps
attribute [local go_sem ↓] Go.wp_at_zero Go.wp_at_succ
def W0 (w : World) (p : Hp) : World := (w.alloc (Obj.cells #[ptr p.b] 24)).alloc (Obj.cells #[.int .i64 0, .int .i64 0] 31)
def W3 (w2 : World) (u v c d : Int) : World := (w2.alloc (Obj.cells #[.int .i64 u, .int .i64 v] 59)).alloc (Obj.cells #[.int .i64 c, .int .i64 d] 31)
structure HeadAt (w W : World) (p : Hp) (b3 b6 b7 b8 : Nat) (u v c d : Int) : Prop where
  below : Below w.heap.size w W
  h3 : One W b3 (ptr p.b) 24
  h6 : Two W b6 (.int .i64 0) (.int .i64 0) 31
  h7 : Two W b7 (.int .i64 u) (.int .i64 v) 59
  h8 : Two W b8 (.int .i64 c) (.int .i64 d) 31
  lo6 : w.heap.size ≤ b6
  ne : b6 ≠ b8
theorem head_facts {w w2 : World} {p : Hp} (hB : Below (W0 w p).heap.size (W0 w p) w2) (u v c d : Int) : HeadAt w (W3 w2 u v c d) p w.heap.size (w.heap.size + 1) w2.heap.size (w2.heap.size + 1) u v c d := by
  have hB3 : Below (W0 w p).heap.size (W0 w p) (W3 w2 u v c d) := below_next hB (below2 _ _)
  have hsz : (W0 w p).heap.size = w.heap.size + 2 := by simp [W0]
  have hs2 := hB.size
  refine ⟨below_next (below2 _ _) hB3, (hB3.block _ (by omega)).trans (one_alloc (one_new w (ptr p.b) 24) _), two_next (two_nxt w _ _ _ 31) hB3, two_alloc (two_new w2 _ _ 59) _, two_nxt w2 _ _ _ 31, by omega, by omega⟩
/-- The last step: an answer is stored. -/
theorem chg_end {w w5 : World} {p : Hp} {L : List ByteArray} {E : Ed} {K : List Ck} {n b6 : Nat} (h : ChgQ w w5 p L E K n) (ht : Two w5 b6 (.int .i64 0) (.int .i64 0) 31) (hlo : w.heap.size ≤ b6) (c d : Int) :
    ChgQ w ((w5.setCell ⟨b6, 0, none⟩ (.int .i64 c)).setCell ⟨b6, 1, none⟩ (.int .i64 d)) p L E K n := h.after ((setCell_turns w5 b6 0 _).trans (setCell_turns _ b6 1 _)) hlo ht
theorem chg_same {w W : World} {p : Hp} {L : List ByteArray} {E : Ed} {K : List Ck} {n : Nat} (h : Hse w p L E K n) (hb : Below w.heap.size w W) : ChgQ w W p L E K n := ask_below h hb
abbrev pairAt (w : World) (p : Hp) (a b : ByteArray) (u v c d : Int) : Prop := Calls Try.prog 30 #[ptr p.b, .string a, .string b] (W0 w p) fun e w' => e = .returned (.tuple #[.agg #[.int .i64 u, .int .i64 v], fv c d]) ∧ Below (W0 w p).heap.size (W0 w p) w'
set_option maxHeartbeats 2000000 in
theorem edge_bad {w : World} {p : Hp} {L : List ByteArray} {E : Ed} {K : List Ck} {n : Nat} (h : Hse w p L E K n) {a b : ByteArray} {d : Int} (hp : pairAt w p a b 0 0 10 d) :
    Calls Try.prog 8 #[ptr p.b, .string a, .string b] w fun e w' => e = .returned (fv 10 d) ∧ ChgQ w w' p L E K n := by
  have HH := hid h
  have d2 : ∀ o, ((w.alloc (Obj.cells #[ptr p.b] 24)).alloc o).cell? ⟨w.heap.size, 0, none⟩ = some (ptr p.b) := fun o => box_cell (one_alloc (one_new w (ptr p.b) 24) o) rfl
  have CP := hid hp
  clear h hp
  go_enter Try.func8, Try.ntmps8
  go_upto_region 2 with (first | (go_at_call 30; refine Calls.mono CP.out ?_; rintro e w2 ⟨rfl, hB⟩) | go_in)
  have HF : Hid (HeadAt w ((w2.alloc (Obj.cells #[.int .i64 0, .int .i64 0] 59)).alloc (Obj.cells #[.int .i64 10, .int .i64 d] 31)) p w.heap.size (w.heap.size + 1) w2.heap.size (w2.heap.size + 1) 0 0 10 d) := head_facts hB 0 0 10 d
  clear CP hB d2
  generalize w.heap.size + 1 = b6 at *
  generalize w2.heap.size + 1 = b8 at *
  generalize w2.heap.size = b7 at *
  generalize w.heap.size = b3 at *
  generalize (w2.alloc (Obj.cells #[.int .i64 0, .int .i64 0] 59)).alloc (Obj.cells #[.int .i64 10, .int .i64 d] 31) = V at *
  have s0 := box_cell HF.out.h3 (i := 0) rfl
  obtain ⟨x0, x1⟩ := cell_two HF.out.h6
  have y0 := free_two HF.out.h6 0
  have y1 := free_two HF.out.h6 1
  obtain ⟨t0, t1⟩ := cell_two HF.out.h7
  obtain ⟨v0, v1⟩ := cell_two HF.out.h8
  go_wp2
  have hW := two_setN (x' := .int .i64 10) (y' := .int .i64 d) HF.out.h6
  have hQ := chg_end (chg_same HH.out HF.out.below) HF.out.h6 HF.out.lo6 10 d
  generalize (V.setCell ⟨b6, 0, none⟩ (.int .i64 10)).setCell ⟨b6, 1, none⟩ (.int .i64 d) = W6 at hW hQ ⊢
  obtain ⟨g0, g1⟩ := cell_two hW
  exact bodyPost_ret (v := fv 10 d) (by simp [results, Try.results8, go_sem, g0, g1]) rfl ⟨rfl, hQ⟩
set_option maxHeartbeats 2000000 in
theorem cut_bad {w : World} {p : Hp} {L : List ByteArray} {E : Ed} {K : List Ck} {n : Nat} (h : Hse w p L E K n) {a b : ByteArray} {d : Int} (hp : pairAt w p a b 0 0 10 d) :
    Calls Try.prog 9 #[ptr p.b, .string a, .string b] w fun e w' => e = .returned (fv 10 d) ∧ ChgQ w w' p L E K n := by
  have HH := hid h
  have d2 : ∀ o, ((w.alloc (Obj.cells #[ptr p.b] 24)).alloc o).cell? ⟨w.heap.size, 0, none⟩ = some (ptr p.b) := fun o => box_cell (one_alloc (one_new w (ptr p.b) 24) o) rfl
  have CP := hid hp
  clear h hp
  go_enter Try.func9, Try.ntmps9
  go_upto_region 2 with (first | (go_at_call 30; refine Calls.mono CP.out ?_; rintro e w2 ⟨rfl, hB⟩) | go_in)
  have HF : Hid (HeadAt w ((w2.alloc (Obj.cells #[.int .i64 0, .int .i64 0] 59)).alloc (Obj.cells #[.int .i64 10, .int .i64 d] 31)) p w.heap.size (w.heap.size + 1) w2.heap.size (w2.heap.size + 1) 0 0 10 d) := head_facts hB 0 0 10 d
  clear CP hB d2
  generalize w.heap.size + 1 = b6 at *
  generalize w2.heap.size + 1 = b8 at *
  generalize w2.heap.size = b7 at *
  generalize w.heap.size = b3 at *
  generalize (w2.alloc (Obj.cells #[.int .i64 0, .int .i64 0] 59)).alloc (Obj.cells #[.int .i64 10, .int .i64 d] 31) = V at *
  have s0 := box_cell HF.out.h3 (i := 0) rfl
  obtain ⟨x0, x1⟩ := cell_two HF.out.h6
  have y0 := free_two HF.out.h6 0
  have y1 := free_two HF.out.h6 1
  obtain ⟨t0, t1⟩ := cell_two HF.out.h7
  obtain ⟨v0, v1⟩ := cell_two HF.out.h8
  go_wp2
  have hW := two_setN (x' := .int .i64 10) (y' := .int .i64 d) HF.out.h6
  have hQ := chg_end (chg_same HH.out HF.out.below) HF.out.h6 HF.out.lo6 10 d
  generalize (V.setCell ⟨b6, 0, none⟩ (.int .i64 10)).setCell ⟨b6, 1, none⟩ (.int .i64 d) = W6 at hW hQ ⊢
  obtain ⟨g0, g1⟩ := cell_two hW
  exact bodyPost_ret (v := fv 10 d) (by simp [results, Try.results9, go_sem, g0, g1]) rfl ⟨rfl, hQ⟩
set_option maxHeartbeats 2000000 in
theorem edge_loop {w : World} {p : Hp} {L : List ByteArray} {E : Ed} {K : List Ck} {n : Nat} (h : Hse w p L E K n) {a b : ByteArray} {u : Nat} (hp : pairAt w p a b (u : Int) (u : Int) 0 0) :
    Calls Try.prog 8 #[ptr p.b, .string a, .string b] w fun e w' => e = .returned (fv 4 0) ∧ ChgQ w w' p L E K n := by
  have HH := hid h
  have d2 : ∀ o, ((w.alloc (Obj.cells #[ptr p.b] 24)).alloc o).cell? ⟨w.heap.size, 0, none⟩ = some (ptr p.b) := fun o => box_cell (one_alloc (one_new w (ptr p.b) 24) o) rfl
  have CP := hid hp
  clear h hp
  go_enter Try.func8, Try.ntmps8
  go_upto_region 2 with (first | (go_at_call 30; refine Calls.mono CP.out ?_; rintro e w2 ⟨rfl, hB⟩) | go_in)
  have HF : Hid (HeadAt w ((w2.alloc (Obj.cells #[.int .i64 (u : Int), .int .i64 (u : Int)] 59)).alloc (Obj.cells #[.int .i64 0, .int .i64 0] 31)) p w.heap.size (w.heap.size + 1) w2.heap.size (w2.heap.size + 1) (u : Int) (u : Int) 0 0) := head_facts hB (u : Int) (u : Int) 0 0
  clear CP hB d2
  generalize w.heap.size + 1 = b6 at *
  generalize w2.heap.size + 1 = b8 at *
  generalize w2.heap.size = b7 at *
  generalize w.heap.size = b3 at *
  generalize (w2.alloc (Obj.cells #[.int .i64 (u : Int), .int .i64 (u : Int)] 59)).alloc (Obj.cells #[.int .i64 0, .int .i64 0] 31) = V at *
  have s0 := box_cell HF.out.h3 (i := 0) rfl
  obtain ⟨x0, x1⟩ := cell_two HF.out.h6
  have y0 := free_two HF.out.h6 0
  have y1 := free_two HF.out.h6 1
  obtain ⟨t0, t1⟩ := cell_two HF.out.h7
  obtain ⟨v0, v1⟩ := cell_two HF.out.h8
  have z1 : ((u : Int) == (u : Int)) = true := by simp
  go_wp2
  have hW := two_setN (x' := .int .i64 4) (y' := .int .i64 0) HF.out.h6
  have hQ := chg_end (chg_same HH.out HF.out.below) HF.out.h6 HF.out.lo6 4 0
  generalize (V.setCell ⟨b6, 0, none⟩ (.int .i64 4)).setCell ⟨b6, 1, none⟩ (.int .i64 0) = W6 at hW hQ ⊢
  obtain ⟨g0, g1⟩ := cell_two hW
  exact bodyPost_ret (v := fv 4 0) (by simp [results, Try.results8, go_sem, g0, g1]) rfl ⟨rfl, hQ⟩
set_option maxHeartbeats 2000000 in
theorem edge_twice {w : World} {p : Hp} {L : List ByteArray} {E : Ed} {K : List Ck} {n : Nat} (h : Hse w p L E K n) {a b : ByteArray} {u v : Nat} (hu : u < 1000) (hv : v < 1000) (huv : u ≠ v) (hE : E u v = true) (hp : pairAt w p a b (u : Int) (v : Int) 0 0) :
    Calls Try.prog 8 #[ptr p.b, .string a, .string b] w fun e w' => e = .returned (fv 5 0) ∧ ChgQ w w' p L E K n := by
  have HH := hid h
  have d2 : ∀ o, ((w.alloc (Obj.cells #[ptr p.b] 24)).alloc o).cell? ⟨w.heap.size, 0, none⟩ = some (ptr p.b) := fun o => box_cell (one_alloc (one_new w (ptr p.b) 24) o) rfl
  have CP := hid hp
  clear h hp
  go_enter Try.func8, Try.ntmps8
  go_upto_region 2 with (first | (go_at_call 30; refine Calls.mono CP.out ?_; rintro e w2 ⟨rfl, hB⟩) | go_in)
  have HF : Hid (HeadAt w ((w2.alloc (Obj.cells #[.int .i64 (u : Int), .int .i64 (v : Int)] 59)).alloc (Obj.cells #[.int .i64 0, .int .i64 0] 31)) p w.heap.size (w.heap.size + 1) w2.heap.size (w2.heap.size + 1) (u : Int) (v : Int) 0 0) := head_facts hB (u : Int) (v : Int) 0 0
  clear CP hB d2
  generalize w.heap.size + 1 = b6 at *
  generalize w2.heap.size + 1 = b8 at *
  generalize w2.heap.size = b7 at *
  generalize w.heap.size = b3 at *
  generalize (w2.alloc (Obj.cells #[.int .i64 (u : Int), .int .i64 (v : Int)] 59)).alloc (Obj.cells #[.int .i64 0, .int .i64 0] 31) = V at *
  have s0 := box_cell HF.out.h3 (i := 0) rfl
  obtain ⟨x0, x1⟩ := cell_two HF.out.h6
  have y0 := free_two HF.out.h6 0
  have y1 := free_two HF.out.h6 1
  obtain ⟨t0, t1⟩ := cell_two HF.out.h7
  obtain ⟨v0, v1⟩ := cell_two HF.out.h8
  have z1 : ((u : Int) == (v : Int)) = false := by simp; omega
  have z2 : ¬ (u : Int) = (v : Int) := by omega
  have CH := hid (has_house (HH.out.below HF.out.below).1.box (HH.out.below HF.out.below).1.edges hu hv)
  rw [hE] at CH
  go_wp2_with (first | (go_at_call 31; refine Calls.mono CH.out ?_; rintro e w5 ⟨rfl, hB5⟩; obtain ⟨x0', x1'⟩ := cell_two (two_next HF.out.h6 hB5); have y0' := free_two (two_next HF.out.h6 hB5) 0; have y1' := free_two (two_next HF.out.h6 hB5) 1) | go_in)
  have hQ0 := chg_same HH.out (below_next HF.out.below hB5)
  have hW := two_setN (x' := .int .i64 5) (y' := .int .i64 0) (two_next HF.out.h6 hB5)
  have hQ := chg_end (hQ0) (two_next HF.out.h6 hB5) HF.out.lo6 5 0
  generalize (w5.setCell ⟨b6, 0, none⟩ (.int .i64 5)).setCell ⟨b6, 1, none⟩ (.int .i64 0) = W6 at hW hQ ⊢
  obtain ⟨g0, g1⟩ := cell_two hW
  exact bodyPost_ret (v := fv 5 0) (by simp [results, Try.results8, go_sem, g0, g1]) rfl ⟨rfl, hQ⟩
set_option maxHeartbeats 2000000 in
theorem cut_none {w : World} {p : Hp} {L : List ByteArray} {E : Ed} {K : List Ck} {n : Nat} (h : Hse w p L E K n) {a b : ByteArray} {u v : Nat} (hu : u < 1000) (hv : v < 1000) (hE : E u v = false) (hp : pairAt w p a b (u : Int) (v : Int) 0 0) :
    Calls Try.prog 9 #[ptr p.b, .string a, .string b] w fun e w' => e = .returned (fv 9 0) ∧ ChgQ w w' p L E K n := by
  have HH := hid h
  have d2 : ∀ o, ((w.alloc (Obj.cells #[ptr p.b] 24)).alloc o).cell? ⟨w.heap.size, 0, none⟩ = some (ptr p.b) := fun o => box_cell (one_alloc (one_new w (ptr p.b) 24) o) rfl
  have CP := hid hp
  clear h hp
  go_enter Try.func9, Try.ntmps9
  go_upto_region 2 with (first | (go_at_call 30; refine Calls.mono CP.out ?_; rintro e w2 ⟨rfl, hB⟩) | go_in)
  have HF : Hid (HeadAt w ((w2.alloc (Obj.cells #[.int .i64 (u : Int), .int .i64 (v : Int)] 59)).alloc (Obj.cells #[.int .i64 0, .int .i64 0] 31)) p w.heap.size (w.heap.size + 1) w2.heap.size (w2.heap.size + 1) (u : Int) (v : Int) 0 0) := head_facts hB (u : Int) (v : Int) 0 0
  clear CP hB d2
  generalize w.heap.size + 1 = b6 at *
  generalize w2.heap.size + 1 = b8 at *
  generalize w2.heap.size = b7 at *
  generalize w.heap.size = b3 at *
  generalize (w2.alloc (Obj.cells #[.int .i64 (u : Int), .int .i64 (v : Int)] 59)).alloc (Obj.cells #[.int .i64 0, .int .i64 0] 31) = V at *
  have s0 := box_cell HF.out.h3 (i := 0) rfl
  obtain ⟨x0, x1⟩ := cell_two HF.out.h6
  have y0 := free_two HF.out.h6 0
  have y1 := free_two HF.out.h6 1
  obtain ⟨t0, t1⟩ := cell_two HF.out.h7
  obtain ⟨v0, v1⟩ := cell_two HF.out.h8
  have CH := hid (has_house (HH.out.below HF.out.below).1.box (HH.out.below HF.out.below).1.edges hu hv)
  rw [hE] at CH
  go_wp2_with (first | (go_at_call 31; refine Calls.mono CH.out ?_; rintro e w5 ⟨rfl, hB5⟩; obtain ⟨x0', x1'⟩ := cell_two (two_next HF.out.h6 hB5); have y0' := free_two (two_next HF.out.h6 hB5) 0; have y1' := free_two (two_next HF.out.h6 hB5) 1) | go_in)
  have hQ0 := chg_same HH.out (below_next HF.out.below hB5)
  have hW := two_setN (x' := .int .i64 9) (y' := .int .i64 0) (two_next HF.out.h6 hB5)
  have hQ := chg_end (hQ0) (two_next HF.out.h6 hB5) HF.out.lo6 9 0
  generalize (w5.setCell ⟨b6, 0, none⟩ (.int .i64 9)).setCell ⟨b6, 1, none⟩ (.int .i64 0) = W6 at hW hQ ⊢
  obtain ⟨g0, g1⟩ := cell_two hW
  exact bodyPost_ret (v := fv 9 0) (by simp [results, Try.results9, go_sem, g0, g1]) rfl ⟨rfl, hQ⟩
theorem edges_hs {W w1 : World} {p : Hp} {L : List ByteArray} {E E' : Ed} {K : List Ck} {n n' : Nat} (h : Hs W p L E K n) (h1 : EdM w1 p.em n' E') (ht : Turns (fun k => k = p.em) W w1) (hn : n ≤ n') : Hs w1 p L E' K n' := by
  obtain ⟨a1, a2⟩ := h.apart
  have hty := h.types (x := p.em) (Or.inr (Or.inr (Or.inl rfl)))
  obtain ⟨b1, b2, b3, b4⟩ := h.bOff
  obtain ⟨g1, g2, g3, g4, g5, ks, g6, g7⟩ := h
  refine ⟨box_turns g1 ht b2, row_turns g2 ht (fun x hx => (a2 x hx).2.1), (g3.block (ht.block _ g3.lt g5)).mono hn, h1, g5, ks, row_turns g6 ht (fun x hx => (a1 x hx).2.1), fun i c hc => ?_⟩
  obtain ⟨v, hv, hcl⟩ := g7 i c hc
  exact ⟨v, hv, hcl.turns ht (fun x hx cs t hc => by have hx : x = p.em := hx; subst hx; exact hty cs t hc)⟩
theorem em_box {W : World} {p : Hp} {L : List ByteArray} {E : Ed} {K : List Ck} {n : Nat} (h : Hs W p L E K n) {x : Nat} {cs : Array Value} {t : TypeId} (hb : Box W x cs t) : ¬ x = p.em := fun e => by
  obtain ⟨es, c, h1⟩ := h.edges.obj
  have hb : W.heap[x]? = _ := hb
  rw [e, h1] at hb; cases hb
set_option maxHeartbeats 1000000 in
theorem putA_call {W : World} {p : Hp} {L : List ByteArray} {E : Ed} {K : List Ck} {n hb eb u v : Nat} (h : Hs W p L E K n) (hu : u < 1000) (hv : v < 1000) (hn : n < 1000000000) (hh : One W hb (ptr p.b) 24) (he : Two W eb (.int .i64 (u : Int)) (.int .i64 (v : Int)) 59) :
    Calls Try.prog 32 #[ptr hb, ptr eb] W fun e w1 => e = .returned (.tuple #[]) ∧ Hs w1 p L (updE E u v true) K (n + 1) ∧ One w1 hb (ptr p.b) 24 ∧ Two w1 eb (.int .i64 (u : Int)) (.int .i64 (v : Int)) 59 ∧ Turns (fun k => k = p.em) W w1 := by
  have d0 : W.cell? ⟨hb, 0, none⟩ = some (ptr p.b) := box_cell hh rfl
  obtain ⟨e0, e1⟩ := cell_two he
  have CS := hid (put_call h.box h.edges hu hv hn)
  have HH : Hid (Hs W p L E K n ∧ One W hb (ptr p.b) 24 ∧ Two W eb (.int .i64 (u : Int)) (.int .i64 (v : Int)) 59) := ⟨h, hh, he⟩
  clear h hh he
  go_enter Try.func32, Try.ntmps32
  go_wp2_with (first | (go_at_call 33; refine Calls.mono CS.out ?_; rintro e w2 ⟨rfl, h1, h2⟩) | go_in)
  go_end0
  exact ⟨rfl, edges_hs HH.out.1 h1 h2 (by omega), one_turns HH.out.2.1 h2 (em_box HH.out.1 HH.out.2.1), two_turns HH.out.2.2 h2 (em_box HH.out.1 HH.out.2.2), h2⟩
set_option maxHeartbeats 1000000 in
theorem takeA_call {W : World} {p : Hp} {L : List ByteArray} {E : Ed} {K : List Ck} {n hb eb u v : Nat} (h : Hs W p L E K n) (hu : u < 1000) (hv : v < 1000) (hh : One W hb (ptr p.b) 24) (he : Two W eb (.int .i64 (u : Int)) (.int .i64 (v : Int)) 59) :
    Calls Try.prog 34 #[ptr hb, ptr eb] W fun e w1 => e = .returned (.tuple #[]) ∧ Hs w1 p L (updE E u v false) K n ∧ One w1 hb (ptr p.b) 24 ∧ Two w1 eb (.int .i64 (u : Int)) (.int .i64 (v : Int)) 59 ∧ Turns (fun k => k = p.em) W w1 := by
  have d0 : W.cell? ⟨hb, 0, none⟩ = some (ptr p.b) := box_cell hh rfl
  obtain ⟨e0, e1⟩ := cell_two he
  have CS := hid (take_call h.box h.edges hu hv)
  have HH : Hid (Hs W p L E K n ∧ One W hb (ptr p.b) 24 ∧ Two W eb (.int .i64 (u : Int)) (.int .i64 (v : Int)) 59) := ⟨h, hh, he⟩
  clear h hh he
  go_enter Try.func34, Try.ntmps34
  go_wp2_with (first | (go_at_call 35; refine Calls.mono CS.out ?_; rintro e w2 ⟨rfl, h1, h2⟩) | go_in)
  go_end0
  exact ⟨rfl, edges_hs HH.out.1 h1 h2 (by omega), one_turns HH.out.2.1 h2 (em_box HH.out.1 HH.out.2.1), two_turns HH.out.2.2 h2 (em_box HH.out.1 HH.out.2.2), h2⟩
set_option maxHeartbeats 1000000 in
theorem takeB_call {W : World} {p : Hp} {L : List ByteArray} {E : Ed} {K : List Ck} {n hb eb u v : Nat} (h : Hs W p L E K n) (hu : u < 1000) (hv : v < 1000) (hh : One W hb (ptr p.b) 24) (he : Two W eb (.int .i64 (u : Int)) (.int .i64 (v : Int)) 59) :
    Calls Try.prog 36 #[ptr hb, ptr eb] W fun e w1 => e = .returned (.tuple #[]) ∧ Hs w1 p L (updE E u v false) K n ∧ One w1 hb (ptr p.b) 24 ∧ Two w1 eb (.int .i64 (u : Int)) (.int .i64 (v : Int)) 59 ∧ Turns (fun k => k = p.em) W w1 := by
  have d0 : W.cell? ⟨hb, 0, none⟩ = some (ptr p.b) := box_cell hh rfl
  obtain ⟨e0, e1⟩ := cell_two he
  have CS := hid (take_call h.box h.edges hu hv)
  have HH : Hid (Hs W p L E K n ∧ One W hb (ptr p.b) 24 ∧ Two W eb (.int .i64 (u : Int)) (.int .i64 (v : Int)) 59) := ⟨h, hh, he⟩
  clear h hh he
  go_enter Try.func36, Try.ntmps36
  go_wp2_with (first | (go_at_call 35; refine Calls.mono CS.out ?_; rintro e w2 ⟨rfl, h1, h2⟩) | go_in)
  go_end0
  exact ⟨rfl, edges_hs HH.out.1 h1 h2 (by omega), one_turns HH.out.2.1 h2 (em_box HH.out.1 HH.out.2.1), two_turns HH.out.2.2 h2 (em_box HH.out.1 HH.out.2.2), h2⟩
set_option maxHeartbeats 1000000 in
theorem putB_call {W : World} {p : Hp} {L : List ByteArray} {E : Ed} {K : List Ck} {n hb eb u v : Nat} (h : Hs W p L E K n) (hu : u < 1000) (hv : v < 1000) (hn : n < 1000000000) (hh : One W hb (ptr p.b) 24) (he : Two W eb (.int .i64 (u : Int)) (.int .i64 (v : Int)) 59) :
    Calls Try.prog 37 #[ptr hb, ptr eb] W fun e w1 => e = .returned (.tuple #[]) ∧ Hs w1 p L (updE E u v true) K (n + 1) ∧ One w1 hb (ptr p.b) 24 ∧ Two w1 eb (.int .i64 (u : Int)) (.int .i64 (v : Int)) 59 ∧ Turns (fun k => k = p.em) W w1 := by
  have d0 : W.cell? ⟨hb, 0, none⟩ = some (ptr p.b) := box_cell hh rfl
  obtain ⟨e0, e1⟩ := cell_two he
  have CS := hid (put_call h.box h.edges hu hv hn)
  have HH : Hid (Hs W p L E K n ∧ One W hb (ptr p.b) 24 ∧ Two W eb (.int .i64 (u : Int)) (.int .i64 (v : Int)) 59) := ⟨h, hh, he⟩
  clear h hh he
  go_enter Try.func37, Try.ntmps37
  go_wp2_with (first | (go_at_call 33; refine Calls.mono CS.out ?_; rintro e w2 ⟨rfl, h1, h2⟩) | go_in)
  go_end0
  exact ⟨rfl, edges_hs HH.out.1 h1 h2 (by omega), one_turns HH.out.2.1 h2 (em_box HH.out.1 HH.out.2.1), two_turns HH.out.2.2 h2 (em_box HH.out.1 HH.out.2.2), h2⟩
set_option maxHeartbeats 4000000 in
theorem edge_ok {w : World} {p : Hp} {L : List ByteArray} {E : Ed} {K : List Ck} {n : Nat} (h : Hse w p L E K n) {a b : ByteArray} {u v : Nat} (hu : u < 1000) (hv : v < 1000) (huv : u ≠ v) (hE : E u v = false) (hK : K.length ≤ 1000) (hn : n < 1000) (hp : pairAt w p a b (u : Int) (v : Int) 0 0) :
    Calls Try.prog 8 #[ptr p.b, .string a, .string b] w fun e w' => e = .returned (fv 0 0) ∧ ChgQ w w' p L (updE E u v true) (K ++ [some (true, u, v)]) (n + 1) := by
  have HH := hid h
  have hmf : ∀ (fn : Fn) (first cap : Array Value) (w : World), (Instr.makeFunc fn first cap).run Try.prog w = .ok (.func fn first cap) w := fun _ _ _ _ => rfl
  have hEF : ∀ args w, (callFunc 32 args).run Try.prog w = .ok (.enter 32 args) w := enters_of Try.func32 (by kernel_rfl) rfl
  have d2 : ∀ o, ((w.alloc (Obj.cells #[ptr p.b] 24)).alloc o).cell? ⟨w.heap.size, 0, none⟩ = some (ptr p.b) := fun o => box_cell (one_alloc (one_new w (ptr p.b) 24) o) rfl
  have CP := hid hp
  clear h hp
  go_enter Try.func8, Try.ntmps8
  go_upto_region 2 with (first | (go_at_call 30; refine Calls.mono CP.out ?_; rintro e w2 ⟨rfl, hB⟩) | go_in)
  have HF : Hid (HeadAt w ((w2.alloc (Obj.cells #[.int .i64 (u : Int), .int .i64 (v : Int)] 59)).alloc (Obj.cells #[.int .i64 0, .int .i64 0] 31)) p w.heap.size (w.heap.size + 1) w2.heap.size (w2.heap.size + 1) (u : Int) (v : Int) 0 0) := head_facts hB (u : Int) (v : Int) 0 0
  clear CP hB d2
  generalize w.heap.size + 1 = b6 at *
  generalize w2.heap.size + 1 = b8 at *
  generalize w2.heap.size = b7 at *
  generalize w.heap.size = b3 at *
  generalize (w2.alloc (Obj.cells #[.int .i64 (u : Int), .int .i64 (v : Int)] 59)).alloc (Obj.cells #[.int .i64 0, .int .i64 0] 31) = V at *
  have s0 := box_cell HF.out.h3 (i := 0) rfl
  obtain ⟨x0, x1⟩ := cell_two HF.out.h6
  have y0 := free_two HF.out.h6 0
  have y1 := free_two HF.out.h6 1
  obtain ⟨t0, t1⟩ := cell_two HF.out.h7
  obtain ⟨v0, v1⟩ := cell_two HF.out.h8
  have z1 : ((u : Int) == (v : Int)) = false := by simp; omega
  have z2 : ¬ (u : Int) = (v : Int) := by omega
  have CH := hid (has_house (HH.out.below HF.out.below).1.box (HH.out.below HF.out.below).1.edges hu hv)
  rw [hE] at CH
  go_upto_region 10 with (first | (go_at_call 31; refine Calls.mono CH.out ?_; rintro e w5 ⟨rfl, hB5⟩; have s0' : w5.cell? ⟨b3, 0, none⟩ = some (ptr p.b) := box_cell ((hB5.block _ (lt_of_block HF.out.h3)).trans HF.out.h3) rfl; have c2' : w5.cell? ⟨p.b, 2, none⟩ = some (.map (some p.em)) := (hbox_cells (HH.out.below (below_next HF.out.below hB5)).1.box).2.2.1; obtain ⟨m, hm, hlen⟩ := EdM.size (HH.out.below (below_next HF.out.below hB5)).1.edges 3; have z3 : ((m : Int) == 1000) = false := by { simp; omega }; have z4 : ¬ (m : Int) = 1000 := by omega) | go_in)
  have h5 := HH.out.below (below_next HF.out.below hB5)
  have hh3 : One w5 b3 (ptr p.b) 24 := (hB5.block _ (lt_of_block HF.out.h3)).trans HF.out.h3
  have t7 := two_next HF.out.h7 hB5
  have t6 := two_next HF.out.h6 hB5
  have s0' := box_cell hh3 (i := 0) rfl
  have CC := hid (change_call (w := w5) (b := p.b) (n := (n + 1)) (M := p.mine) (L := L) (E := updE E u v true) (K := K) (c := some (true, u, v)) (bk := .func (.func 34) #[] #[ptr b3, ptr b7]) hEF hK (Calls.mono (putA_call h5.1 hu hv (by omega) hh3 t7) (fun e w1 hq => ⟨hq.1, p, rfl, hq.2.1, ⟨b3, b7, rfl, hq.2.2.1, hq.2.2.2.1⟩, hq.2.2.2.2.mono (fun k _ e => by have e : k = p.em := e; subst e; exact Or.inr (Or.inr (Or.inl rfl))), fun x hx => Or.inl hx⟩)))
  have HB5 : Hid (Below w.heap.size w w5) := below_next HF.out.below hB5
  have HT6 := hid t6
  have HN6 : Hid (¬ p.mine b6) := h5.off t6 (by simp [OwnT])
  clear CH hB5 h5 hh3 t7 t6 s0 x0 x1 y0 y1 t0 t1 v0 v1
  go_upto_region 11 with (first | (go_at_call 24; refine Calls.mono CC.out ?_; rintro e w6 ⟨rfl, p2, q1, q2, q3, q4⟩) | go_in)
  have t6 := two_turns HT6.out q3 HN6.out
  have f0 := free_two t6 0
  have f1 := free_two t6 1
  obtain ⟨c0, c1⟩ := cell_two t6
  have HQ : Hid (ChgQ w5 w6 p L (updE E u v true) (K ++ [some (true, u, v)]) (n + 1)) := ⟨p2, q1, q2, q3, q4⟩
  have T6 := hid t6
  clear q1 q2 q3 q4 t6 CC s0'
  go_wp2
  have hW := two_setN (x' := .int .i64 0) (y' := .int .i64 0) T6.out
  have hQ := chg_end (ChgQ.next HB5.out HQ.out) T6.out HF.out.lo6 0 0
  generalize (w6.setCell ⟨b6, 0, none⟩ (.int .i64 0)).setCell ⟨b6, 1, none⟩ (.int .i64 0) = W6 at hW hQ ⊢
  obtain ⟨g0, g1⟩ := cell_two hW
  exact bodyPost_ret (v := fv 0 0) (by simp [results, Try.results8, go_sem, g0, g1]) rfl ⟨rfl, hQ⟩
set_option maxHeartbeats 4000000 in
theorem cut_ok {w : World} {p : Hp} {L : List ByteArray} {E : Ed} {K : List Ck} {n : Nat} (h : Hse w p L E K n) {a b : ByteArray} {u v : Nat} (hu : u < 1000) (hv : v < 1000) (hE : E u v = true) (hK : K.length ≤ 1000) (hp : pairAt w p a b (u : Int) (v : Int) 0 0) :
    Calls Try.prog 9 #[ptr p.b, .string a, .string b] w fun e w' => e = .returned (fv 0 0) ∧ ChgQ w w' p L (updE E u v false) (K ++ [some (false, u, v)]) n := by
  have HH := hid h
  have hmf : ∀ (fn : Fn) (first cap : Array Value) (w : World), (Instr.makeFunc fn first cap).run Try.prog w = .ok (.func fn first cap) w := fun _ _ _ _ => rfl
  have hEF : ∀ args w, (callFunc 36 args).run Try.prog w = .ok (.enter 36 args) w := enters_of Try.func36 (by kernel_rfl) rfl
  have d2 : ∀ o, ((w.alloc (Obj.cells #[ptr p.b] 24)).alloc o).cell? ⟨w.heap.size, 0, none⟩ = some (ptr p.b) := fun o => box_cell (one_alloc (one_new w (ptr p.b) 24) o) rfl
  have CP := hid hp
  clear h hp
  go_enter Try.func9, Try.ntmps9
  go_upto_region 2 with (first | (go_at_call 30; refine Calls.mono CP.out ?_; rintro e w2 ⟨rfl, hB⟩) | go_in)
  have HF : Hid (HeadAt w ((w2.alloc (Obj.cells #[.int .i64 (u : Int), .int .i64 (v : Int)] 59)).alloc (Obj.cells #[.int .i64 0, .int .i64 0] 31)) p w.heap.size (w.heap.size + 1) w2.heap.size (w2.heap.size + 1) (u : Int) (v : Int) 0 0) := head_facts hB (u : Int) (v : Int) 0 0
  clear CP hB d2
  generalize w.heap.size + 1 = b6 at *
  generalize w2.heap.size + 1 = b8 at *
  generalize w2.heap.size = b7 at *
  generalize w.heap.size = b3 at *
  generalize (w2.alloc (Obj.cells #[.int .i64 (u : Int), .int .i64 (v : Int)] 59)).alloc (Obj.cells #[.int .i64 0, .int .i64 0] 31) = V at *
  have s0 := box_cell HF.out.h3 (i := 0) rfl
  obtain ⟨x0, x1⟩ := cell_two HF.out.h6
  have y0 := free_two HF.out.h6 0
  have y1 := free_two HF.out.h6 1
  obtain ⟨t0, t1⟩ := cell_two HF.out.h7
  obtain ⟨v0, v1⟩ := cell_two HF.out.h8
  have CH := hid (has_house (HH.out.below HF.out.below).1.box (HH.out.below HF.out.below).1.edges hu hv)
  rw [hE] at CH
  go_upto_region 6 with (first | (go_at_call 31; refine Calls.mono CH.out ?_; rintro e w5 ⟨rfl, hB5⟩) | go_in)
  have h5 := HH.out.below (below_next HF.out.below hB5)
  have hh3 : One w5 b3 (ptr p.b) 24 := (hB5.block _ (lt_of_block HF.out.h3)).trans HF.out.h3
  have t7 := two_next HF.out.h7 hB5
  have t6 := two_next HF.out.h6 hB5
  have s0' := box_cell hh3 (i := 0) rfl
  have CC := hid (change_call (w := w5) (b := p.b) (n := n) (M := p.mine) (L := L) (E := updE E u v false) (K := K) (c := some (false, u, v)) (bk := .func (.func 37) #[] #[ptr b3, ptr b7]) hEF hK (Calls.mono (takeB_call h5.1 hu hv hh3 t7) (fun e w1 hq => ⟨hq.1, p, rfl, hq.2.1, ⟨b3, b7, rfl, hq.2.2.1, hq.2.2.2.1⟩, hq.2.2.2.2.mono (fun k _ e => by have e : k = p.em := e; subst e; exact Or.inr (Or.inr (Or.inl rfl))), fun x hx => Or.inl hx⟩)))
  have HB5 : Hid (Below w.heap.size w w5) := below_next HF.out.below hB5
  have HT6 := hid t6
  have HN6 : Hid (¬ p.mine b6) := h5.off t6 (by simp [OwnT])
  clear CH hB5 h5 hh3 t7 t6 s0 x0 x1 y0 y1 t0 t1 v0 v1
  go_upto_region 7 with (first | (go_at_call 24; refine Calls.mono CC.out ?_; rintro e w6 ⟨rfl, p2, q1, q2, q3, q4⟩) | go_in)
  have t6 := two_turns HT6.out q3 HN6.out
  have f0 := free_two t6 0
  have f1 := free_two t6 1
  obtain ⟨c0, c1⟩ := cell_two t6
  have HQ : Hid (ChgQ w5 w6 p L (updE E u v false) (K ++ [some (false, u, v)]) n) := ⟨p2, q1, q2, q3, q4⟩
  have T6 := hid t6
  clear q1 q2 q3 q4 t6 CC s0'
  go_wp2
  have hW := two_setN (x' := .int .i64 0) (y' := .int .i64 0) T6.out
  have hQ := chg_end (ChgQ.next HB5.out HQ.out) T6.out HF.out.lo6 0 0
  generalize (w6.setCell ⟨b6, 0, none⟩ (.int .i64 0)).setCell ⟨b6, 1, none⟩ (.int .i64 0) = W6 at hW hQ ⊢
  obtain ⟨g0, g1⟩ := cell_two hW
  exact bodyPost_ret (v := fv 0 0) (by simp [results, Try.results9, go_sem, g0, g1]) rfl ⟨rfl, hQ⟩
end Go.Proofs.Ytfdlndljpmamgaa
