/- width.Least, with what its bags are; and its faults. width.Least where there is a fault; smallFault; mostOf. -/
import Derived.Test.YtdalconphfgepaaDoorBagsF
import Derived.Test.YtdalconphfgepaaDoorLiesF
namespace Go.Proofs.YtdalconphfgepaaDoor
set_option maxRecDepth 8000
open Go.RowKit Go.Maps
attribute [local go_sem ↓] Go.wp_at_zero Go.wp_at_succ
set_option maxHeartbeats 4000000 in
theorem least_full {w : World} {ao : Option Addr} {cap n : Nat} {es : List E2} (hE : EdgesAt w (.slice ao es.length cap) (pz es)) (hck : chk n (pz es) = (0, 0)) (hn : n ≤ 12) (hes : ∀ e ∈ es, e.1 < n ∧ e.2 < n) (hlen : es.length ≤ 1000000) (ht : T64 w) :
    Calls Tryd.prog 8 #[.agg #[.int .i64 (n : Int), .slice ao es.length cap]] w fun e w' => (∃ ba bc ua uc xs, e = .returned (.tuple #[.int .i64 (lastL (nearBy n es) (setOf (List.range n))).1, .slice ba n bc, .slice ua n uc, .agg #[.int .i64 0, .int .i64 0]]) ∧ w'.ownsRow w.heap.size 30 1 (.slice ba n bc) n xs ∧ w'.ownsRow w.heap.size 3 1 (.slice ua n uc) n (upsO (nearBy n es) (fun i => (ordL (nearBy n es) n).getD i 0) n n) ∧ BR w' w.heap.size (nearBy n es) (fun i => (ordL (nearBy n es) n).getD i 0) n xs (.slice ua n uc)) ∧ Below w.heap.size w w' := by
  have C25 : Hid (∀ A, Below w.heap.size w A → Calls Tryd.prog 25 #[.agg #[.int .i64 (n : Int), .slice ao es.length cap]] A fun e w' => e = .returned (.agg #[.int .i64 0, .int .i64 0]) ∧ Below A.heap.size A w') := fun A hA => check_as (hE.below hA) hck
  have C26 : Hid (∀ A, Below w.heap.size w A → Calls Tryd.prog 26 #[.agg #[.int .i64 (n : Int), .slice ao es.length cap]] A fun e w' => ∃ b, e = .returned (sl b n) ∧ SetsAt w' b (nearBy n es) ∧ A.heap.size ≤ b ∧ Below A.heap.size A w') := fun A hA => nearBy_call (hE.below hA) (by omega) hes hlen
  have hbit := nearBy_bit hes
  have hnl := nearBy_len n es
  generalize hNR : nearBy n es = near at *
  have C27 : Hid (∀ A b, SetsAt A b near → T64 A → Calls Tryd.prog 27 #[sl b n] A fun e w' => ∃ bo, e = .returned (.tuple #[.int .i64 (lastL near (setOf (List.range n))).1, .slice (some ⟨bo, 0, none⟩) n n]) ∧ A.heap.size ≤ bo ∧ RowV w' bo 3 n (fun i => .int .i64 ((ordL near n).getD i 0 : Int)) ∧ Below A.heap.size A w') := fun A b h1 h2 => order_call h1 hnl hn hbit h2
  have C28 : Hid (∀ A b bo, SetsAt A b near → T64 A → RowV A bo 3 n (fun i => .int .i64 ((ordL near n).getD i 0 : Int)) → Calls Tryd.prog 28 #[sl b n, .slice (some ⟨bo, 0, none⟩) n n] A fun e w' => (∃ ba bc ua uc xs, e = .returned (.tuple #[.slice ba n bc, .slice ua n uc]) ∧ w'.ownsRow A.heap.size 30 1 (.slice ba n bc) n xs ∧ w'.ownsRow A.heap.size 3 1 (.slice ua n uc) n (upsO near (fun i => (ordL near n).getD i 0) n n) ∧ BR w' A.heap.size near (fun i => (ordL near n).getD i 0) n xs (.slice ua n uc)) ∧ Below A.heap.size A w') := fun A b bo h1 h2 h3 => bags_full (f := fun i => (ordL near n).getD i 0) h1 hnl (by omega) hbit h2 (fun j hj => ⟨bo, 0, rfl, by rw [Nat.zero_add]; exact h3.cell hj⟩) (ordL_ord hnl h1.lt hn hbit).lt
  have HT : Hid (T64 w) := ht
  generalize (lastL near (setOf (List.range n))).1 = lw at *
  generalize es.length = el at *
  clear hE hck hes hNR ht
  go_enter Tryd.func8, Tryd.ntmps8
  go_upto_region 1 with (fail)
  have x1 := two_new w (.int .i64 (n : Int)) (.slice ao el cap) 24
  have hB2 : Below w.heap.size w ((w.alloc (Obj.cells #[.int .i64 (n : Int), .slice ao el cap] 24)).alloc (Obj.cells #[.int .i64 0, .int .i64 0] 27)) := below_alloc (below_alloc (Below.refl _ w) _) _
  have y1 : Two ((w.alloc (Obj.cells #[.int .i64 (n : Int), .slice ao el cap] 24)).alloc (Obj.cells #[.int .i64 0, .int .i64 0] 27)) w.heap.size (.int .i64 (n : Int)) (.slice ao el cap) 24 := two_alloc x1 _
  have y5 : Two ((w.alloc (Obj.cells #[.int .i64 (n : Int), .slice ao el cap] 24)).alloc (Obj.cells #[.int .i64 0, .int .i64 0] 27)) (w.heap.size + 1) (.int .i64 0) (.int .i64 0) 27 := two_nxt _ _ _ _ _
  obtain ⟨q, hq⟩ : ∃ q, q = w.heap.size := ⟨_, rfl⟩
  obtain ⟨b5, hb5⟩ : ∃ b5, b5 = w.heap.size + 1 := ⟨_, rfl⟩
  rw [← hb5] at y5 ⊢
  rw [← hq] at y1 ⊢
  generalize (w.alloc (Obj.cells #[.int .i64 (n : Int), .slice ao el cap] 24)).alloc (Obj.cells #[.int .i64 0, .int .i64 0] 27) = W2 at *
  have HB2 : Hid (Below w.heap.size w W2 ∧ Two W2 b5 (.int .i64 0) (.int .i64 0) 27 ∧ w.heap.size ≤ b5 ∧ Two W2 q (.int .i64 (n : Int)) (.slice ao el cap) 24) := ⟨hB2, y5, by omega, y1⟩
  obtain ⟨c0, c1⟩ := cell_two y1
  have C25' : Hid _ := C25.out W2 hB2
  clear hq hb5 x1 hB2 y1 y5 C25
  go_upto_region 2 with (first | (go_at_call 25; refine Calls.mono C25'.out ?_; rintro e w3 ⟨rfl, h3⟩) | fail)
  have hB4 : Below W2.heap.size W2 (w3.alloc (Obj.cells #[.int .i64 0, .int .i64 0] 27)) := below_alloc h3 _
  have x6 := two_new w3 (.int .i64 0) (.int .i64 0) 27
  generalize w3.alloc (Obj.cells #[.int .i64 0, .int .i64 0] 27) = w4 at *
  generalize w3.heap.size = b6 at *
  obtain ⟨a0, a1⟩ := cell_two x6
  have HW4 : Hid (Below w.heap.size w w4 ∧ Two w4 b5 (.int .i64 0) (.int .i64 0) 27 ∧ Two w4 q (.int .i64 (n : Int)) (.slice ao el cap) 24) := ⟨below_next HB2.out.1 hB4, two_next HB2.out.2.1 hB4, two_next HB2.out.2.2.2 hB4⟩
  obtain ⟨d0, d1⟩ := cell_two HW4.out.2.2
  have k1 : decide ((12 : Int) < (n : Int)) = false := by simp; omega
  have k2 : ¬ (12 : Int) < (n : Int) := by omega
  clear h3 hB4 C25' c0 c1 x6
  go_upto_region 7 with (first | (go_at_call 26; refine Calls.mono (C26.out _ HW4.out.1) ?_; rintro e w5 ⟨b7, rfl, s5, hb7, h5⟩) | fail)
  have hB5 := below_next HW4.out.1 h5
  have T5 := HT.out.under hB5
  go_upto_region 8 with (first | (go_at_call 27; refine Calls.mono (C27.out _ _ s5 T5) ?_; rintro e w6 ⟨bo, rfl, hbo, r6, h6⟩) | fail)
  have hB6 := below_next hB5 h6
  have T6 := HT.out.under hB6
  have s6 := s5.under h6
  go_upto_region 9 with (first | (go_at_call 28; refine Calls.mono (C28.out _ _ _ s6 T6 r6) ?_; rintro e w7 ⟨⟨ba, bc, ua, uc, xs, rfl, o7, p7, r7⟩, h7⟩) | fail)
  have hB7 := below_next hB6 h7
  have t5 := two_next (two_next (two_next HW4.out.2.1 h5) h6) h7
  obtain ⟨q1, q2, q3, q4, q5, q6⟩ := store_two' t5 (.int .i64 0) (.int .i64 0)
  have hg8 : w7.grownBy ((w7.setCell ⟨b5, 0, none⟩ (.int .i64 0)).setCell ⟨b5, 1, none⟩ (.int .i64 0)) (some b5) := ((setCell_turns w7 b5 0 _).trans (setCell_turns _ b5 1 _)).grown
  have hb56 : b5 < w6.heap.size := lt_of_block (two_next (two_next HW4.out.2.1 h5) h6)
  have hw6 : w.heap.size ≤ w6.heap.size := hB6.size
  have HBG : Hid (((w7.setCell ⟨b5, 0, none⟩ (.int .i64 0)).setCell ⟨b5, 1, none⟩ (.int .i64 0)).ownsRow w.heap.size 30 1 (.slice ba n bc) n xs ∧ ((w7.setCell ⟨b5, 0, none⟩ (.int .i64 0)).setCell ⟨b5, 1, none⟩ (.int .i64 0)).ownsRow w.heap.size 3 1 (.slice ua n uc) n (upsO near (fun i => (ordL near n).getD i 0) n n) ∧ BR ((w7.setCell ⟨b5, 0, none⟩ (.int .i64 0)).setCell ⟨b5, 1, none⟩ (.int .i64 0)) w.heap.size near (fun i => (ordL near n).getD i 0) n xs (.slice ua n uc)) := ⟨ownsRow_base (own_turns o7 hg8 (fun j hj e => by cases e; have := (o7.lt b5 hj).1; omega)) hw6, ownsRow_base (own_turns p7 hg8 (fun j hj e => by cases e; have := (p7.lt b5 hj).1; omega)) hw6, (r7.keep hg8 (fun j e h => by cases e; omega) (fun j hj => Or.inl hj)).base hw6⟩
  have HE : Hid (Below w.heap.size w ((w7.setCell ⟨b5, 0, none⟩ (.int .i64 0)).setCell ⟨b5, 1, none⟩ (.int .i64 0))) := (hB7.setCell HB2.out.2.2.1 _).setCell HB2.out.2.2.1 _
  clear o7 p7 r7 hg8 hb56 hw6 t5 hB7 hB6 hB5 T5 T6 s6 s5 r6 h5 h6 h7 a0 a1 d0 d1 k1 k2
  go_wp2
  refine bodyPost_ret (v := .tuple #[.int .i64 lw, .slice ba n bc, .slice ua n uc, .agg #[.int .i64 0, .int .i64 0]]) ?_ rfl ⟨⟨ba, bc, ua, uc, xs, rfl, HBG.out.1, HBG.out.2.1, HBG.out.2.2⟩, HE.out⟩
  simp [results, Tryd.results8, go_sem, q5, q6]
end Go.Proofs.YtdalconphfgepaaDoor

namespace Go.Proofs.YtdalconphfgepaaDoor
set_option maxRecDepth 8000
open Go.RowKit Go.Maps
attribute [local go_sem ↓] Go.wp_at_zero Go.wp_at_succ
def smallR (n : Int) (es : List Pair) : Int × Int := if (chk n es).1 = 0 ∧ 12 < n then (2, 0) else chk n es
set_option maxHeartbeats 4000000 in
theorem least_bad {w : World} {ao : Option Addr} {cap : Nat} {n : Int} {es : List Pair} (hE : EdgesAt w (.slice ao es.length cap) es) (hck : (smallR n es).1 ≠ 0) :
    Calls Tryd.prog 8 #[.agg #[.int .i64 n, .slice ao es.length cap]] w fun e w' => e = .returned (.tuple #[.int .i64 0, .slice none 0 0, .slice none 0 0, .agg #[.int .i64 (smallR n es).1, .int .i64 (smallR n es).2]]) ∧ Below w.heap.size w w' := by
  have C25 : Hid (∀ A, Below w.heap.size w A → Calls Tryd.prog 25 #[.agg #[.int .i64 n, .slice ao es.length cap]] A fun e w' => e = .returned (.agg #[.int .i64 (chk n es).1, .int .i64 (chk n es).2]) ∧ Below A.heap.size A w') := fun A hA => check_any n _ es A (hE.below hA)
  have HSR : Hid (smallR n es = if (chk n es).1 = 0 ∧ 12 < n then (2, 0) else chk n es) := rfl
  generalize smallR n es = SR at *
  generalize chk n es = CK at *
  obtain ⟨c, d⟩ := CK
  obtain ⟨rc, rd⟩ := SR
  generalize es.length = el at *
  simp only at hck C25 HSR ⊢
  have HCK : Hid (rc ≠ 0) := hck
  clear hE hck
  go_enter Tryd.func8, Tryd.ntmps8
  go_upto_region 1 with (fail)
  have x1 := two_new w (.int .i64 n) (.slice ao el cap) 24
  have hB2 : Below w.heap.size w ((w.alloc (Obj.cells #[.int .i64 n, .slice ao el cap] 24)).alloc (Obj.cells #[.int .i64 0, .int .i64 0] 27)) := below_alloc (below_alloc (Below.refl _ w) _) _
  have y1 : Two ((w.alloc (Obj.cells #[.int .i64 n, .slice ao el cap] 24)).alloc (Obj.cells #[.int .i64 0, .int .i64 0] 27)) w.heap.size (.int .i64 n) (.slice ao el cap) 24 := two_alloc x1 _
  have y5 : Two ((w.alloc (Obj.cells #[.int .i64 n, .slice ao el cap] 24)).alloc (Obj.cells #[.int .i64 0, .int .i64 0] 27)) (w.heap.size + 1) (.int .i64 0) (.int .i64 0) 27 := two_nxt _ _ _ _ _
  obtain ⟨q, hq⟩ : ∃ q, q = w.heap.size := ⟨_, rfl⟩
  obtain ⟨b5, hb5⟩ : ∃ b5, b5 = w.heap.size + 1 := ⟨_, rfl⟩
  rw [← hb5] at y5 ⊢
  rw [← hq] at y1 ⊢
  generalize (w.alloc (Obj.cells #[.int .i64 n, .slice ao el cap] 24)).alloc (Obj.cells #[.int .i64 0, .int .i64 0] 27) = W2 at *
  have HB2 : Hid (Below w.heap.size w W2 ∧ Two W2 b5 (.int .i64 0) (.int .i64 0) 27 ∧ w.heap.size ≤ b5 ∧ Two W2 q (.int .i64 n) (.slice ao el cap) 24) := ⟨hB2, y5, by omega, y1⟩
  obtain ⟨c0, c1⟩ := cell_two y1
  have C25' : Hid _ := C25.out W2 hB2
  clear hq hb5 x1 hB2 y1 y5 C25
  go_upto_region 2 with (first | (go_at_call 25; refine Calls.mono C25'.out ?_; rintro e w3 ⟨rfl, h3⟩) | fail)
  have hB4 : Below W2.heap.size W2 (w3.alloc (Obj.cells #[.int .i64 c, .int .i64 d] 27)) := below_alloc h3 _
  have x6 := two_new w3 (.int .i64 c) (.int .i64 d) 27
  generalize w3.alloc (Obj.cells #[.int .i64 c, .int .i64 d] 27) = w4 at *
  generalize w3.heap.size = b6 at *
  obtain ⟨a0, a1⟩ := cell_two x6
  have HW4 : Hid (Below w.heap.size w w4 ∧ Two w4 b5 (.int .i64 0) (.int .i64 0) 27 ∧ Two w4 q (.int .i64 n) (.slice ao el cap) 24) := ⟨below_next HB2.out.1 hB4, two_next HB2.out.2.1 hB4, two_next HB2.out.2.2.2 hB4⟩
  obtain ⟨d0, d1⟩ := cell_two HW4.out.2.2
  clear h3 hB4 C25' c0 c1 x6
  by_cases hc : c = 0
  · have kc : (c != 0) = false := by simpa using hc
    by_cases h12 : 12 < n
    · have k1 : decide ((12 : Int) < n) = true := by simpa using h12
      have HR : Hid ((rc, rd) = ((2 : Int), (0 : Int))) := HSR.out.trans (if_pos ⟨hc, h12⟩)
      obtain ⟨q1, q2, q3, q4, q5, q6⟩ := store_two' HW4.out.2.1 (.int .i64 2) (.int .i64 0)
      clear hc HSR
      go_wp2
      have e := HR.out
      simp only [Prod.mk.injEq] at e
      obtain ⟨rfl, rfl⟩ := e
      refine bodyPost_ret (v := .tuple #[.int .i64 0, .slice none 0 0, .slice none 0 0, .agg #[.int .i64 2, .int .i64 0]]) ?_ rfl ⟨rfl, (HW4.out.1.setCell HB2.out.2.2.1 _).setCell HB2.out.2.2.1 _⟩
      simp [results, Tryd.results8, go_sem, q5, q6]
    · have e := HSR.out
      rw [if_neg (fun h => h12 h.2)] at e
      simp only [Prod.mk.injEq] at e
      exact absurd (e.1.trans hc) HCK.out
  · have kc : (c != 0) = true := by simpa using hc
    have HR : Hid ((rc, rd) = (c, d)) := HSR.out.trans (if_neg (fun h => hc h.1))
    clear hc HSR d0 d1
    go_upto_region 3 with (fail)
    have g0 := cell_growD a0
    have g1 := cell_growD a1
    clear a0 a1
    refine wp_region_tailT 4 (by kernel_rfl) (by kernel_rfl) (by kernel_rfl) (by decide) ?_
    simp only [List.take_succ_cons, List.take_zero, List.drop_succ_cons, List.drop_zero]
    repeat (go_big_quiet_step (fail))
    refine wpQuiet_nil ?_
    rintro _ ⟨gp, rfl⟩
    have hB8 := growD_below w4 gp
    clear g0 g1
    generalize growD w4 gp = w8 at *
    obtain ⟨q1, q2, q3, q4, q5, q6⟩ := store_two' (two_next HW4.out.2.1 hB8) (.int .i64 c) (.int .i64 d)
    have HB8 : Hid (Below w.heap.size w w8) := below_next HW4.out.1 hB8
    clear hB8
    go_wp2
    have e := HR.out
    simp only [Prod.mk.injEq] at e
    obtain ⟨rfl, rfl⟩ := e
    refine bodyPost_ret (v := .tuple #[.int .i64 0, .slice none 0 0, .slice none 0 0, .agg #[.int .i64 rc, .int .i64 rd]]) ?_ rfl ⟨rfl, (HB8.out.setCell HB2.out.2.2.1 _).setCell HB2.out.2.2.1 _⟩
    simp [results, Tryd.results8, go_sem, q5, q6]
end Go.Proofs.YtdalconphfgepaaDoor
