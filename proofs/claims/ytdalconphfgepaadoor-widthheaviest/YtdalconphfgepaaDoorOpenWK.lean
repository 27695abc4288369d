/- The bags as sets, or the first thing that is wrong: width.open. width.open, where graph.Check tells no fault. -/
import Derived.Test.YtdalconphfgepaaDoorBagAW
import Derived.Test.YtdalconphfgepaaDoorTailM
import Derived.Test.YtdalconphfgepaaDoorNearM
namespace Go.Proofs.YtdalconphfgepaaDoor
set_option maxRecDepth 8000
open Go.RowKit Go.Maps
attribute [local go_sem ↓] Go.wp_at_zero Go.wp_at_succ
theorem EdgesAt.form' {w : World} {v : Value} {es : List Pair} (h : EdgesAt w v es) : ∃ ao cap, v = .slice ao es.length cap := by
  obtain ⟨ao, cap, h1, _⟩ := h
  exact ⟨ao, cap, h1⟩
set_option maxHeartbeats 2000000 in
theorem open_bad {w : World} {n : Int} {v : Value} {es : List Pair} {xo uo : Option Addr} {xl xc ul uc : Nat} (hE : EdgesAt w v es) (hc : (chk n es).1 ≠ 0) :
    Calls Tryd.prog 37 #[.agg #[.int .i64 n, v], .slice xo xl xc, .slice uo ul uc] w fun e w' => e = .returned (.tuple #[.slice none 0 0, .agg #[.int .i64 (chk n es).1, .int .i64 (chk n es).2]]) ∧ Below w.heap.size w w' := by
  obtain ⟨ao0, cap0, hv⟩ := hE.form'
  subst hv
  have C25 : Hid (∀ A, Below w.heap.size w A → Calls Tryd.prog 25 #[.agg #[.int .i64 n, .slice ao0 es.length cap0]] A fun e w' => e = .returned (.agg #[.int .i64 (chk n es).1, .int .i64 (chk n es).2]) ∧ Below A.heap.size A w') := fun A hA => check_any n _ es A (hE.below hA)
  generalize chk n es = ck at *
  generalize es.length = el at *
  obtain ⟨c, d⟩ := ck
  simp only at hc C25 ⊢
  clear hE
  go_enter Tryd.func37, Tryd.ntmps37
  go_upto_region 1 with (fail)
  have x2 := two_new w (.int .i64 n) (.slice ao0 el cap0) 24
  have hB2 : Below w.heap.size w ((w.alloc (Obj.cells #[.int .i64 n, .slice ao0 el cap0] 24)).alloc (Obj.cells #[.int .i64 0, .int .i64 0] 27)) := below_alloc (below_alloc (Below.refl _ w) _) _
  have y2 : Two ((w.alloc (Obj.cells #[.int .i64 n, .slice ao0 el cap0] 24)).alloc (Obj.cells #[.int .i64 0, .int .i64 0] 27)) w.heap.size (.int .i64 n) (.slice ao0 el cap0) 24 := two_alloc x2 _
  have y5 : Two ((w.alloc (Obj.cells #[.int .i64 n, .slice ao0 el cap0] 24)).alloc (Obj.cells #[.int .i64 0, .int .i64 0] 27)) (w.heap.size + 1) (.int .i64 0) (.int .i64 0) 27 := two_nxt _ _ _ _ _
  obtain ⟨q, hq⟩ : ∃ q, q = w.heap.size := ⟨_, rfl⟩
  rw [← hq] at y2 y5 ⊢
  generalize (w.alloc (Obj.cells #[.int .i64 n, .slice ao0 el cap0] 24)).alloc (Obj.cells #[.int .i64 0, .int .i64 0] 27) = W2 at *
  have HB2 : Hid (Below w.heap.size w W2 ∧ Two W2 (q + 1) (.int .i64 0) (.int .i64 0) 27 ∧ w.heap.size = q) := ⟨hB2, y5, hq.symm⟩
  obtain ⟨c0, c1⟩ := cell_two y2
  have C25' : Hid (Calls Tryd.prog 25 #[.agg #[.int .i64 n, .slice ao0 el cap0]] W2 fun e w' => e = .returned (.agg #[.int .i64 c, .int .i64 d]) ∧ Below W2.heap.size W2 w') := C25.out W2 hB2
  have hc1 : (c != 0) = true := by simpa using hc
  clear hq x2 hB2 y2 y5 C25
  go_upto_region 3 with (first | (go_at_call 25; refine Calls.mono C25'.out ?_; rintro e w3 ⟨rfl, h3⟩) | fail)
  have hB4 : Below W2.heap.size W2 (w3.alloc (Obj.cells #[.int .i64 c, .int .i64 d] 27)) := below_alloc h3 _
  have x6 := two_new w3 (.int .i64 c) (.int .i64 d) 27
  have x5 : Two (w3.alloc (Obj.cells #[.int .i64 c, .int .i64 d] 27)) (q + 1) (.int .i64 0) (.int .i64 0) 27 := two_next HB2.out.2.1 hB4
  generalize w3.alloc (Obj.cells #[.int .i64 c, .int .i64 d] 27) = w4 at *
  generalize w3.heap.size = b6 at *
  have HW4 : Hid (Below w.heap.size w w4 ∧ Two w4 (q + 1) (.int .i64 0) (.int .i64 0) 27) := ⟨below_next HB2.out.1 hB4, x5⟩
  obtain ⟨a0, a1⟩ := cell_two x6
  have g0 := cell_growD a0
  have g1 := cell_growD a1
  clear h3 hB4 C25' c0 c1 a0 a1 x6 x5
  refine wp_region_tailT 2 (by kernel_rfl) (by kernel_rfl) (by kernel_rfl) (by decide) ?_
  simp only [List.take_succ_cons, List.take_zero, List.drop_succ_cons, List.drop_zero]
  repeat (quiet_step (fail))
  refine wpQuiet_nil ?_
  rintro _ ⟨gp, rfl⟩
  have hB8 := growD_below w4 gp
  clear g0 g1
  generalize growD w4 gp = w8 at *
  have y5 := two_next HW4.out.2 hB8
  obtain ⟨k0, k1⟩ := cell_two y5
  have f0 := box_free y5 0
  have z6 := box_set y5 0 (.int .i64 c)
  have k2 := box_cell z6 (i := 1) rfl
  have f2 := box_free z6 1
  have y7 := two_setN (x' := .int .i64 c) (y' := .int .i64 d) y5
  obtain ⟨l0, l1⟩ := cell_two y7
  have HB8 : Hid (Below w.heap.size w w8) := below_next HW4.out.1 hB8
  clear hB8 y5 z6 y7
  go_wp2
  refine bodyPost_ret (v := .tuple #[.slice none 0 0, .agg #[.int .i64 c, .int .i64 d]]) ?_ rfl ?_
  · simp [results, Tryd.results37, go_sem, l0, l1]
  · have hq1 : w.heap.size ≤ q + 1 := by have := HB2.out.2.2; omega
    exact ⟨rfl, (HB8.out.setCell hq1 _).setCell hq1 _⟩
end Go.Proofs.YtdalconphfgepaaDoor

namespace Go.Proofs.YtdalconphfgepaaDoor
set_option maxRecDepth 8000
open Go.RowKit Go.Maps
attribute [local go_sem ↓] Go.wp_at_zero Go.wp_at_succ
/-- The first bag of which something is wrong. -/
def openR (N : Nat) : List (List Int) → Nat → Int × Int
  | [], _ => (0, 0)
  | b :: l, k => if (bagS N b 0).2 = 0 then openR N l (k + 1) else ((bagS N b 0).2, (k : Int))
def setsL (N : Nat) (ls : List (List Int)) : List Nat := ls.map fun b => (bagS N b 0).1
theorem bagS_lt {N : Nat} (hN : N ≤ 100) : ∀ (l : List Int) (s : Nat), s < 2 ^ 128 → (bagS N l s).1 < 2 ^ 128
  | [], s, h => h
  | v :: l, s, h => by
    unfold bagS
    split
    · decide
    · split
      · decide
      · exact bagS_lt hN l _ (sAdd_lt' h (by omega))
theorem setsAt_put {w : World} {b v t : Nat} {near : List Nat} (h : SetsAt w b near) (hv : v < near.length) (ht : t < 2 ^ 128) : SetsAt ((w.setCell ⟨b, v * 2, none⟩ (.int .u64 (lo64 t : Int))).setCell ⟨b, v * 2 + 1, none⟩ (.int .u64 (hi64 t : Int))) b (near.set v t) := by
  obtain ⟨⟨cur, h1, h2, h3⟩, hlt⟩ := h
  have hs : cur.size = near.length * 2 := h2
  refine ⟨⟨(cur.setIfInBounds (v * 2) (.int .u64 (lo64 t : Int))).setIfInBounds (v * 2 + 1) (.int .u64 (hi64 t : Int)), ?_, by simp [hs], fun u s hu => ?_⟩, fun s hm => ?_⟩
  · exact box_set (box_set h1 _ _) _ _
  · rw [List.getElem?_set] at hu
    by_cases e : v = u
    · subst e
      rw [if_pos rfl, if_pos hv] at hu
      obtain rfl := Option.some.inj hu
      simp [Array.getElem?_setIfInBounds]
      omega
    · rw [if_neg e] at hu
      obtain ⟨a1, a2⟩ := h3 u s hu
      simp only [Array.getElem?_setIfInBounds]
      rw [if_neg (by omega), if_neg (by omega), if_neg (by omega), if_neg (by omega)]
      exact ⟨a1, a2⟩
  · rcases List.mem_or_eq_of_mem_set hm with h | rfl
    · exact hlt s h
    · exact ht
theorem sets_second {w : World} {b v s : Nat} {near : List Nat} (h : SetsAt w b near) (hv : near[v]? = some s) (x : Value) : (w.setCell ⟨b, v * 2, none⟩ x).cell? ⟨b, v * 2 + 1, none⟩ = some (.int .u64 (hi64 s : Int)) ∧ (w.setCell ⟨b, v * 2, none⟩ x).frozen? ⟨b, v * 2 + 1, none⟩ = false := by
  obtain ⟨⟨cur, h1, h2, h3⟩, hlt⟩ := h
  have hb := box_set h1 (v * 2) x
  refine ⟨box_cell hb ?_, box_free hb _⟩
  rw [Array.getElem?_setIfInBounds_ne (by omega)]
  exact (h3 v s hv).2
theorem setsL_step {N k : Nat} {ls : List (List Int)} (hk : k < ls.length) : (setsL N (ls.take k) ++ List.replicate (ls.length - k) 0).set k (bagS N ls[k] 0).1 = setsL N (ls.take (k + 1)) ++ List.replicate (ls.length - (k + 1)) 0 := by
  have hl : (setsL N (ls.take k)).length = k := by simp [setsL]; omega
  obtain ⟨r, hr⟩ : ∃ r, ls.length - k = r + 1 := ⟨ls.length - k - 1, by omega⟩
  rw [hr, List.replicate_succ, List.set_append_right _ _ (by omega), hl, Nat.sub_self, List.set_cons_zero, List.take_succ_eq_append_getElem hk, show ls.length - (k + 1) = r by omega, show setsL N (ls.take k ++ [ls[k]]) = setsL N (ls.take k) ++ [(bagS N ls[k] 0).1] from by simp only [setsL, List.map_append, List.map_cons, List.map_nil], List.append_assoc]
  rfl
theorem setsL_at {N k : Nat} {ls : List (List Int)} (hk : k < ls.length) : (setsL N (ls.take k) ++ List.replicate (ls.length - k) 0)[k]? = some 0 := by
  have hl : (setsL N (ls.take k)).length = k := by simp [setsL]; omega
  rw [List.getElem?_append_right (by omega), hl, Nat.sub_self, List.getElem?_replicate, if_pos (by omega)]
theorem ints_numF {w : World} {v : Value} {l : List Int} (h : IntsAt w v l) : ∃ vo vc, v = .slice vo l.length vc ∧ NumF w vo l.length (fun i => l.getD i 0) ∧ l.length ≤ 17592186044416 := by
  obtain ⟨ao, cap, h1, h2, _, h4⟩ := h
  refine ⟨ao, cap, h1, fun j hj => ?_, h2⟩
  obtain ⟨b, off, e, hc⟩ := h4 j hj
  refine ⟨b, off, e, ?_⟩
  rw [hc]
  simp [List.getD_eq_getElem?_getD, List.getElem?_eq_getElem hj]
def OpenA (w w' : World) (e : Ending) (N : Nat) (ls : List (List Int)) (ul : Nat) : Prop := Below w.heap.size w w' ∧
  if 100 < ls.length then e = .returned (.tuple #[.slice none 0 0, .agg #[.int .i64 2, .int .i64 0]])
  else if ul ≠ ls.length then e = .returned (.tuple #[.slice none 0 0, .agg #[.int .i64 6, .int .i64 0]])
  else if (openR N ls 0).1 = 0 then ∃ b, e = .returned (.tuple #[sl b ls.length, .agg #[.int .i64 0, .int .i64 0]]) ∧ w.heap.size ≤ b ∧ SetsAt w' b (setsL N ls)
  else e = .returned (.tuple #[.slice none 0 0, .agg #[.int .i64 (openR N ls 0).1, .int .i64 (openR N ls 0).2]])
set_option maxHeartbeats 4000000 in
theorem open_ok {w : World} {n : Nat} {v x : Value} {es : List Pair} {ls : List (List Int)} {uo : Option Addr} {ul uc : Nat} (hE : EdgesAt w v es) (hx : RowsAt w x ls) (hck : chk n es = (0, 0)) (hn : n ≤ 100) :
    Calls Tryd.prog 37 #[.agg #[.int .i64 (n : Int), v], x, .slice uo ul uc] w fun e w' => OpenA w w' e n ls ul := by
  obtain ⟨ao0, cap0, hv⟩ := hE.form'
  subst hv
  have HX : Hid (RowsAt w x ls) := hx
  obtain ⟨xo, xc, hxe, hx9⟩ := hx
  clear hx9
  obtain ⟨xl, hxl⟩ : ∃ xl, xl = ls.length := ⟨_, rfl⟩
  have HXL : Hid (xl = ls.length) := hxl
  rw [← hxl] at hxe
  subst hxe
  have C25 : Hid (∀ A, Below w.heap.size w A → Calls Tryd.prog 25 #[.agg #[.int .i64 (n : Int), .slice ao0 es.length cap0]] A fun e w' => e = .returned (.agg #[.int .i64 0, .int .i64 0]) ∧ Below A.heap.size A w') := fun A hA => check_as (hE.below hA) hck
  generalize es.length = el at *
  clear hE hck hxl
  go_enter Tryd.func37, Tryd.ntmps37
  go_upto_region 1 with (fail)
  have x2 := two_new w (.int .i64 (n : Int)) (.slice ao0 el cap0) 24
  have hB2 : Below w.heap.size w ((w.alloc (Obj.cells #[.int .i64 (n : Int), .slice ao0 el cap0] 24)).alloc (Obj.cells #[.int .i64 0, .int .i64 0] 27)) := below_alloc (below_alloc (Below.refl _ w) _) _
  have y2 : Two ((w.alloc (Obj.cells #[.int .i64 (n : Int), .slice ao0 el cap0] 24)).alloc (Obj.cells #[.int .i64 0, .int .i64 0] 27)) w.heap.size (.int .i64 (n : Int)) (.slice ao0 el cap0) 24 := two_alloc x2 _
  have y5 : Two ((w.alloc (Obj.cells #[.int .i64 (n : Int), .slice ao0 el cap0] 24)).alloc (Obj.cells #[.int .i64 0, .int .i64 0] 27)) (w.heap.size + 1) (.int .i64 0) (.int .i64 0) 27 := two_nxt _ _ _ _ _
  obtain ⟨q, hq⟩ : ∃ q, q = w.heap.size := ⟨_, rfl⟩
  obtain ⟨b7, hb7⟩ : ∃ b7, b7 = w.heap.size + 1 := ⟨_, rfl⟩
  rw [← hb7] at y5 ⊢
  rw [← hq] at y2 ⊢
  generalize (w.alloc (Obj.cells #[.int .i64 (n : Int), .slice ao0 el cap0] 24)).alloc (Obj.cells #[.int .i64 0, .int .i64 0] 27) = W2 at *
  have HB2 : Hid (Below w.heap.size w W2 ∧ Two W2 b7 (.int .i64 0) (.int .i64 0) 27 ∧ w.heap.size ≤ b7 ∧ Two W2 q (.int .i64 (n : Int)) (.slice ao0 el cap0) 24 ∧ q ≠ b7) := ⟨hB2, y5, by omega, y2, by omega⟩
  obtain ⟨c0, c1⟩ := cell_two y2
  have C25' : Hid (Calls Tryd.prog 25 #[.agg #[.int .i64 (n : Int), .slice ao0 el cap0]] W2 fun e w' => e = .returned (.agg #[.int .i64 0, .int .i64 0]) ∧ Below W2.heap.size W2 w') := C25.out W2 hB2
  clear hq hb7 x2 hB2 y2 y5 C25
  go_upto_region 2 with (first | (go_at_call 25; refine Calls.mono C25'.out ?_; rintro e w3 ⟨rfl, h3⟩) | fail)
  have hB4 : Below W2.heap.size W2 (w3.alloc (Obj.cells #[.int .i64 0, .int .i64 0] 27)) := below_alloc h3 _
  have x6 := two_new w3 (.int .i64 0) (.int .i64 0) 27
  generalize w3.alloc (Obj.cells #[.int .i64 0, .int .i64 0] 27) = w4 at *
  generalize w3.heap.size = b6 at *
  obtain ⟨a0, a1⟩ := cell_two x6
  have HW4 : Hid (Below w.heap.size w w4 ∧ Two w4 b7 (.int .i64 0) (.int .i64 0) 27 ∧ Two w4 q (.int .i64 (n : Int)) (.slice ao0 el cap0) 24) := ⟨below_next HB2.out.1 hB4, two_next HB2.out.2.1 hB4, two_next HB2.out.2.2.2.1 hB4⟩
  clear h3 hB4 C25' c0 c1
  go_upto_region 4 with (fail)
  clear a0 a1 x6
  by_cases hmany : 100 < xl
  · have k1 : decide ((100 : Int) < (xl : Int)) = true := by simp; omega
    have k2 : (100 : Int) < (xl : Int) := by omega
    have h7 := HW4.out.2.1
    obtain ⟨z0, z1⟩ := cell_two h7
    have f0 := box_free h7 0
    have z6 := box_set h7 0 (.int .i64 2)
    have y1 := box_cell z6 (i := 1) rfl
    have f2 := box_free z6 1
    obtain ⟨l0, l1⟩ := cell_two (two_setN (x' := .int .i64 2) (y' := .int .i64 0) h7)
    clear h7 z6
    go_wp2
    refine bodyPost_ret (v := .tuple #[.slice none 0 0, .agg #[.int .i64 2, .int .i64 0]]) ?_ rfl ⟨(HW4.out.1.setCell HB2.out.2.2.1 _).setCell HB2.out.2.2.1 _, ?_⟩
    · simp [results, Tryd.results37, go_sem, l0, l1]
    · rw [if_pos (by rw [← HXL.out]; exact hmany)]
  · have k1 : decide ((100 : Int) < (xl : Int)) = false := by simp; omega
    have k2 : ¬ (100 : Int) < (xl : Int) := by omega
    by_cases hul : ul = xl
    · have k3 : ((ul : Int) != (xl : Int)) = false := by simp; omega
      have hmk := make56 xl (by omega)
      have HUL : Hid (ul = xl) := hul
      clear hul
      go_upto_region 10 with (fail)
      obtain ⟨b9, hb9⟩ : ∃ b, b = w4.heap.size := ⟨_, rfl⟩
      have s0 : SetsAt (w4.alloc (.cells (rep2 xl) 76)) b9 (List.replicate xl 0) := setsAt_made (by rw [hb9]; exact heap_alloc_new _ _)
      have hBa := below_alloc (Below.refl _ w4) (Obj.cells (rep2 xl) 76)
      have HNE : Hid (w.heap.size ≤ b9 ∧ b7 ≠ b9 ∧ q ≠ b9) := ⟨by rw [hb9]; exact HW4.out.1.size, by have := lt_of_block HW4.out.2.1; omega, by have := lt_of_block HW4.out.2.2; omega⟩
      rw [← hb9]
      generalize w4.alloc (.cells (rep2 xl) 76) = W5 at *
      have HW5 : Hid (SetsAt W5 b9 (List.replicate xl 0) ∧ Two W5 b7 (.int .i64 0) (.int .i64 0) 27 ∧ Two W5 q (.int .i64 (n : Int)) (.slice ao0 el cap0) 24 ∧ Below w.heap.size w W5) := ⟨s0, two_next HW4.out.2.1 hBa, two_next HW4.out.2.2 hBa, below_next HW4.out.1 hBa⟩
      clear s0 hBa hb9 hmk k1 k2 k3
      go_loopw [10, 11, 12, 13, 35] (fun _ _ _ _ s35 wz => ∃ k : Nat, k ≤ xl ∧ s35 = .int .i64 (k : Int) ∧ Hid (SetsAt wz b9 (setsL n (ls.take k) ++ List.replicate (ls.length - k) 0) ∧ Two wz b7 (.int .i64 0) (.int .i64 0) 27 ∧ Two wz q (.int .i64 (n : Int)) (.slice ao0 el cap0) 24 ∧ Below w.heap.size w wz ∧ openR n ls 0 = openR n (ls.drop k) k)) (fun _ _ _ _ s35 _ => xl - (numOf s35).toNat)
      case atStart => exact ⟨0, Nat.zero_le _, rfl, ⟨by have := HW5.out.1; rw [HXL.out] at this; exact this, HW5.out.2.1, HW5.out.2.2.1, HW5.out.2.2.2, rfl⟩⟩
      case round =>
        obtain ⟨k, hk, rfl, hJ⟩ := hrel
        by_cases hlt : k < xl
        · have hkl : k < ls.length := by rw [← HXL.out]; exact hlt
          obtain ⟨ao9, cap9, e', _, _, hr⟩ := HX.out.below hJ.out.2.2.2.1
          simp only [Value.slice.injEq] at e'
          obtain ⟨e1, e2, e3⟩ := e'
          clear e2 e3
          subst e1
          obtain ⟨rb, roff, rx, rfl, rc, hI⟩ := hr k hkl
          clear hr
          obtain ⟨vo, vc, rfl, hNF, hml⟩ := ints_numF hI
          have hop : openR n (ls.drop k) k = if (bagS n ls[k] 0).2 = 0 then openR n (ls.drop (k + 1)) (k + 1) else ((bagS n ls[k] 0).2, (k : Int)) := by
            rw [List.drop_eq_getElem_cons hkl]
            rfl
          have C57 : Hid (Calls Tryd.prog 57 #[.int .i64 (n : Int), .slice vo ls[k].length vc] wr fun e w' => BagA wr w' e (bagS n ls[k] 0)) := setOf_call hNF rfl (by omega) hn
          have HSt := setsL_step (N := n) hkl
          have hSl := bagS_lt hn ls[k] 0 (by decide)
          have HAt : Hid ((setsL n (ls.take k) ++ List.replicate (ls.length - k) 0)[k]? = some 0) := setsL_at hkl
          have HLn : Hid (k < (setsL n (ls.take k) ++ List.replicate (ls.length - k) 0).length) := by
            show _ < _
            simp [setsL]; omega
          generalize ls[k].length = ml at *
          generalize bagS n ls[k] 0 = BS at *
          obtain ⟨S, cd⟩ := BS
          simp only at hop HSt hSl
          have HC : Hid (S < 2 ^ 128) := hSl
          have HST : Hid _ := HSt
          have HOP : Hid _ := hop
          have i1 : (0 : Int) ≤ (k : Int) := by omega
          have i2 : (k : Int) < (xl : Int) := by omega
          clear hNF hI hml HSt hSl hop
          obtain ⟨p0, p1⟩ := cell_two hJ.out.2.2.1
          go_upto_region 13 with (first | (go_at_call 57; refine Calls.mono C57.out ?_; rintro e w6 ⟨rfl, h6⟩) | go_in)
          have hB7 : Below wr.heap.size wr (w6.alloc (Obj.cells #[.int .u64 (lo64 S : Int), .int .u64 (hi64 S : Int)] 76)) := below_alloc h6 _
          have t12 := two_new w6 (.int .u64 (lo64 S : Int)) (.int .u64 (hi64 S : Int)) 76
          generalize hb12 : w6.heap.size = b12 at t12 ⊢
          have hne12 : b12 ≠ b9 := by have := hJ.out.1.ltS; have := h6.size; omega
          generalize w6.alloc (Obj.cells #[.int .u64 (lo64 S : Int), .int .u64 (hi64 S : Int)] 76) = w7 at *
          have HJ7 : Hid (SetsAt w7 b9 (setsL n (ls.take k) ++ List.replicate (ls.length - k) 0) ∧ Two w7 b7 (.int .i64 0) (.int .i64 0) 27 ∧ Two w7 q (.int .i64 (n : Int)) (.slice ao0 el cap0) 24 ∧ Below w.heap.size w w7) := ⟨hJ.out.1.under hB7, two_next hJ.out.2.1 hB7, two_next hJ.out.2.2.1 hB7, below_next hJ.out.2.2.2.1 hB7⟩
          clear hb12 hB7 h6 p0 p1 rc
          by_cases hcd : cd = 0
          · subst hcd
            have HN : Hid (openR n ls 0 = openR n (ls.drop (k + 1)) (k + 1)) := by
              show _ = _
              rw [hJ.out.2.2.2.2, HOP.out, if_pos rfl]
            obtain ⟨c0, c1⟩ := cell_two t12
            obtain ⟨d0, d1⟩ := HJ7.out.1.cell HAt.out
            have e0 := HJ7.out.1.free (k * 2)
            have e1 := HJ7.out.1.free (k * 2 + 1)
            obtain ⟨g0, g1⟩ := sets_second HJ7.out.1 HAt.out (.int .u64 (lo64 S : Int))
            clear t12 hJ
            go_wp2
            go_roundw
            case rel => exact ⟨k + 1, by omega, by go_num, ⟨by rw [← HST.out]; exact setsAt_put HJ7.out.1 HLn.out HC.out, two_far (two_far HJ7.out.2.1 HNE.out.2.1) HNE.out.2.1, two_far (two_far HJ7.out.2.2.1 HNE.out.2.2) HNE.out.2.2, (HJ7.out.2.2.2.setCell HNE.out.1 _).setCell HNE.out.1 _, HN.out⟩⟩
            case measure => simp [numOf]; omega
          · have HN : Hid (openR n ls 0 = (cd, (k : Int))) := by
              show _ = _
              rw [hJ.out.2.2.2.2, HOP.out, if_neg hcd]
            have HCD : Hid (cd ≠ 0) := hcd
            have k1 : (cd != 0) = true := by simpa using hcd
            have h7 := HJ7.out.2.1
            obtain ⟨z0, z1⟩ := cell_two h7
            have f0 := box_free h7 0
            have z6 := box_set h7 0 (.int .i64 cd)
            have y1 := box_cell z6 (i := 1) rfl
            have f2 := box_free z6 1
            obtain ⟨l0, l1⟩ := cell_two (two_setN (x' := .int .i64 cd) (y' := .int .i64 (k : Int)) h7)
            clear h7 z6 hJ t12 hcd
            go_wp2
            refine bodyPost_ret (v := .tuple #[.slice none 0 0, .agg #[.int .i64 cd, .int .i64 (k : Int)]]) ?_ rfl ⟨(HJ7.out.2.2.2.setCell HB2.out.2.2.1 _).setCell HB2.out.2.2.1 _, ?_⟩
            · simp [results, Tryd.results37, go_sem, l0, l1]
            · rw [if_neg (by rw [← HXL.out]; exact hmany), if_neg (by rw [← HXL.out]; simpa using HUL.out), if_neg (by rw [HN.out]; exact HCD.out), HN.out]
        · obtain rfl : k = xl := by omega
          have HN : Hid (openR n ls 0 = (0, 0)) := by
            show _ = _
            rw [hJ.out.2.2.2.2, List.drop_of_length_le (by rw [HXL.out]; exact Nat.le_refl _)]
            rfl
          have hS : SetsAt wr b9 (setsL n ls) := by
            have := hJ.out.1
            rw [HXL.out, List.take_length, Nat.sub_self, List.replicate_zero, List.append_nil] at this
            exact this
          have h7 := hJ.out.2.1
          have HB : Hid (Below w.heap.size w wr) := hJ.out.2.2.2.1
          have HSS : Hid (SetsAt wr b9 (setsL n ls)) := hS
          obtain ⟨z0, z1⟩ := cell_two h7
          have f0 := box_free h7 0
          have z6 := box_set h7 0 (.int .i64 0)
          have y1 := box_cell z6 (i := 1) rfl
          have f2 := box_free z6 1
          obtain ⟨l0, l1⟩ := cell_two (two_setN (x' := .int .i64 0) (y' := .int .i64 0) h7)
          clear h7 z6 hJ hS
          go_wp2
          refine bodyPost_ret (v := .tuple #[sl b9 k, .agg #[.int .i64 0, .int .i64 0]]) ?_ rfl ⟨(HB.out.setCell HB2.out.2.2.1 _).setCell HB2.out.2.2.1 _, ?_⟩
          · simp [results, Tryd.results37, go_sem, l0, l1]
          · rw [if_neg (by rw [← HXL.out]; exact hmany), if_neg (by rw [← HXL.out]; simpa using HUL.out), if_pos (by rw [HN.out])]
            exact ⟨b9, by rw [← HXL.out], HNE.out.1, HSS.out.block ((Below.heap_setCell _ _ _ _ HNE.out.2.1.symm).trans (Below.heap_setCell _ _ _ _ HNE.out.2.1.symm))⟩
    · have k3 : ((ul : Int) != (xl : Int)) = true := by simp; omega
      have h7 := HW4.out.2.1
      obtain ⟨z0, z1⟩ := cell_two h7
      have f0 := box_free h7 0
      have z6 := box_set h7 0 (.int .i64 6)
      have y1 := box_cell z6 (i := 1) rfl
      have f2 := box_free z6 1
      obtain ⟨l0, l1⟩ := cell_two (two_setN (x' := .int .i64 6) (y' := .int .i64 0) h7)
      clear h7 z6
      go_wp2
      refine bodyPost_ret (v := .tuple #[.slice none 0 0, .agg #[.int .i64 6, .int .i64 0]]) ?_ rfl ⟨(HW4.out.1.setCell HB2.out.2.2.1 _).setCell HB2.out.2.2.1 _, ?_⟩
      · simp [results, Tryd.results37, go_sem, l0, l1]
      · rw [if_neg (by rw [← HXL.out]; exact hmany), if_pos (by rw [← HXL.out]; exact hul)]
end Go.Proofs.YtdalconphfgepaaDoor
