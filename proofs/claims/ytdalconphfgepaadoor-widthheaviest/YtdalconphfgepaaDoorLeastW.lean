/- width.Least of a graph without fault of at most twelve nodes; and widthBegun. -/
import Derived.Test.YtdalconphfgepaaDoorBagsW
namespace Go.Proofs.YtdalconphfgepaaDoor
set_option maxRecDepth 8000
open Go.RowKit Go.Maps
attribute [local go_sem ↓] Go.wp_at_zero Go.wp_at_succ
theorem at_put (near : List Nat) (v t u : Nat) : at' (near.set v t) u = t ∨ at' (near.set v t) u = at' near u := by
  unfold at'
  rw [List.getD_eq_getElem?_getD, List.getD_eq_getElem?_getD, List.getElem?_set]
  by_cases e : v = u
  · subst e
    rw [if_pos rfl]
    by_cases h : v < near.length
    · rw [if_pos h]; exact Or.inl rfl
    · rw [if_neg h]
      right
      rw [List.getElem?_eq_none (by omega)]
  · rw [if_neg e]; exact Or.inr rfl
theorem bits_put {near : List Nat} {n v t : Nat} (h : ∀ u x, (at' near u).testBit x = true → x < n) (ht : ∀ x, t.testBit x = true → x < n) : ∀ u x, (at' (near.set v t) u).testBit x = true → x < n := fun u x hx => by
  rcases at_put near v t u with e | e
  · rw [e] at hx; exact ht x hx
  · rw [e] at hx; exact h u x hx
theorem bits_sadd {s v n : Nat} (hs : ∀ x, s.testBit x = true → x < n) (hv : v < n) : ∀ x, (sAdd s v).testBit x = true → x < n := fun x hx => by
  rw [bit_add] at hx
  rcases Bool.or_eq_true_iff.1 hx with h | h
  · exact hs x h
  · have := of_decide_eq_true h; omega
theorem nearBy_bits {n : Nat} : ∀ (es : List E2) (near : List Nat), (∀ e ∈ es, e.1 < n ∧ e.2 < n) → (∀ u x, (at' near u).testBit x = true → x < n) → ∀ u x, (at' (es.foldl nearStep near) u).testBit x = true → x < n
  | [], _, _, h => h
  | e :: es, near, he, h => nearBy_bits es _ (fun e' he' => he e' (by simp [he'])) (by
    have h1 := he e (by simp)
    have h2 := bits_put (v := e.1) h (bits_sadd (h e.1) h1.2)
    exact bits_put (v := e.2) h2 (bits_sadd (h2 e.2) h1.1))
theorem nearBy_bit {n : Nat} {es : List E2} (he : ∀ e ∈ es, e.1 < n ∧ e.2 < n) : ∀ u x, (at' (nearBy n es) u).testBit x = true → x < n := by
  rw [nearBy_eq]
  refine nearBy_bits es _ he fun u x hx => ?_
  unfold at' at hx
  rw [List.getD_eq_getElem?_getD, List.getElem?_replicate] at hx
  split at hx <;> simp at hx
set_option maxHeartbeats 4000000 in
theorem least_ok {w : World} {ao : Option Addr} {cap n : Nat} {es : List E2} (hE : EdgesAt w (.slice ao es.length cap) (pz es)) (hck : chk n (pz es) = (0, 0)) (hn : n ≤ 12) (hes : ∀ e ∈ es, e.1 < n ∧ e.2 < n) (hlen : es.length ≤ 1000000) (ht : T64 w) (hord : ∀ j, j < n → (ordL (nearBy n es) n).getD j 0 < n) :
    Calls Tryd.prog 8 #[.agg #[.int .i64 (n : Int), .slice ao es.length cap]] w fun e w' => (∃ bv uv, e = .returned (.tuple #[.int .i64 (lastL (nearBy n es) (setOf (List.range n))).1, bv, uv, .agg #[.int .i64 0, .int .i64 0]])) ∧ Below w.heap.size w w' := by
  have C25 : Hid (∀ A, Below w.heap.size w A → Calls Tryd.prog 25 #[.agg #[.int .i64 (n : Int), .slice ao es.length cap]] A fun e w' => e = .returned (.agg #[.int .i64 0, .int .i64 0]) ∧ Below A.heap.size A w') := fun A hA => check_as (hE.below hA) hck
  have C26 : Hid (∀ A, Below w.heap.size w A → Calls Tryd.prog 26 #[.agg #[.int .i64 (n : Int), .slice ao es.length cap]] A fun e w' => ∃ b, e = .returned (sl b n) ∧ SetsAt w' b (nearBy n es) ∧ A.heap.size ≤ b ∧ Below A.heap.size A w') := fun A hA => nearBy_call (hE.below hA) (by omega) hes hlen
  have hbit := nearBy_bit hes
  have hnl := nearBy_len n es
  generalize hNR : nearBy n es = near at *
  have C27 : Hid (∀ A b, SetsAt A b near → T64 A → Calls Tryd.prog 27 #[sl b n] A fun e w' => ∃ bo, e = .returned (.tuple #[.int .i64 (lastL near (setOf (List.range n))).1, .slice (some ⟨bo, 0, none⟩) n n]) ∧ A.heap.size ≤ bo ∧ RowV w' bo 3 n (fun i => .int .i64 ((ordL near n).getD i 0 : Int)) ∧ Below A.heap.size A w') := fun A b h1 h2 => order_call h1 hnl hn hbit h2
  have C28 : Hid (∀ A b bo, SetsAt A b near → T64 A → RowV A bo 3 n (fun i => .int .i64 ((ordL near n).getD i 0 : Int)) → Calls Tryd.prog 28 #[sl b n, .slice (some ⟨bo, 0, none⟩) n n] A fun e w' => (∃ bv uv, e = .returned (.tuple #[bv, uv])) ∧ Below A.heap.size A w') := fun A b bo h1 h2 h3 => bags_call (f := fun i => (ordL near n).getD i 0) h1 hnl (by omega) hbit h2 (fun j hj => ⟨bo, 0, rfl, by rw [Nat.zero_add]; exact h3.cell hj⟩) hord
  have HT : Hid (T64 w) := ht
  generalize (lastL near (setOf (List.range n))).1 = lw at *
  generalize es.length = el at *
  clear hE hck hes hord hNR ht
  go_enter Tryd.func8, Tryd.ntmps8
  go_upto_region 1 with (fail)
  have x1 := two_new w (.int .i64 (n : Int)) (.slice ao el cap) 24
  have hB2 : Below w.heap.size w ((w.alloc (Obj.cells #[.int .i64 (n : Int), .slice ao el cap] 24)).alloc (Obj.cells #[.int .i64 0, .int .i64 0] 27)) := below_alloc (below_alloc (Below.refl _ w) _) _
  have y1 : Two ((w.alloc (Obj.cells #[.int .i64 (n : Int), .slice ao el cap] 24)).alloc (Obj.cells #[.int .i64 0, .int .i64 0] 27)) w.heap.size (.int .i64 (n : Int)) (.slice ao el cap) 24 := two_alloc x1 _
  have y5 : Two ((w.alloc (Obj.cells #[.int .i64 (n : Int), .slice ao el cap] 24)).alloc (Obj.cells #[.int .i64 0, .int .i64 0] 27)) (w.heap.size + 1) (.int .i64 0) (.int .i64 0) 27 := two_nxt _ _ _ _ _
  obtain ⟨q, hq⟩ : ∃ q, q = w.heap.size := ⟨_, rfl⟩
  obtain ⟨b5, hb5⟩ : ∃ b5, b5 = w.heap.size + 1 := ⟨_, rfl⟩
  rw [← hb5] at y5 ⊢
  rw [← hq] at y1 ⊢
  generalize (w.alloc (Obj.cells #[.int .i64 (n : Int), .slice ao el cap] 24)).alloc (Obj.cells #[.int .i64 0, .int .i64 0] 27) = W2 at *
  have HB2 : Hid (Below w.heap.size w W2 ∧ Two W2 b5 (.int .i64 0) (.int .i64 0) 27 ∧ w.heap.size ≤ b5 ∧ Two W2 q (.int .i64 (n : Int)) (.slice ao el cap) 24) := ⟨hB2, y5, by omega, y1⟩
  obtain ⟨c0, c1⟩ := cell_two y1
  have C25' : Hid _ := C25.out W2 hB2
  clear hq hb5 x1 hB2 y1 y5 C25
  go_upto_region 2 with (first | (go_at_call 25; refine Calls.mono C25'.out ?_; rintro e w3 ⟨rfl, h3⟩) | fail)
  have hB4 : Below W2.heap.size W2 (w3.alloc (Obj.cells #[.int .i64 0, .int .i64 0] 27)) := below_alloc h3 _
  have x6 := two_new w3 (.int .i64 0) (.int .i64 0) 27
  generalize w3.alloc (Obj.cells #[.int .i64 0, .int .i64 0] 27) = w4 at *
  generalize w3.heap.size = b6 at *
  obtain ⟨a0, a1⟩ := cell_two x6
  have HW4 : Hid (Below w.heap.size w w4 ∧ Two w4 b5 (.int .i64 0) (.int .i64 0) 27 ∧ Two w4 q (.int .i64 (n : Int)) (.slice ao el cap) 24) := ⟨below_next HB2.out.1 hB4, two_next HB2.out.2.1 hB4, two_next HB2.out.2.2.2 hB4⟩
  obtain ⟨d0, d1⟩ := cell_two HW4.out.2.2
  have k1 : decide ((12 : Int) < (n : Int)) = false := by simp; omega
  have k2 : ¬ (12 : Int) < (n : Int) := by omega
  clear h3 hB4 C25' c0 c1 x6
  go_upto_region 7 with (first | (go_at_call 26; refine Calls.mono (C26.out _ HW4.out.1) ?_; rintro e w5 ⟨b7, rfl, s5, hb7, h5⟩) | fail)
  have hB5 := below_next HW4.out.1 h5
  have T5 := HT.out.under hB5
  go_upto_region 8 with (first | (go_at_call 27; refine Calls.mono (C27.out _ _ s5 T5) ?_; rintro e w6 ⟨bo, rfl, hbo, r6, h6⟩) | fail)
  have hB6 := below_next hB5 h6
  have T6 := HT.out.under hB6
  have s6 := s5.under h6
  go_upto_region 9 with (first | (go_at_call 28; refine Calls.mono (C28.out _ _ _ s6 T6 r6) ?_; rintro e w7 ⟨⟨bv, uv, rfl⟩, h7⟩) | fail)
  have hB7 := below_next hB6 h7
  have t5 := two_next (two_next (two_next HW4.out.2.1 h5) h6) h7
  obtain ⟨q1, q2, q3, q4, q5, q6⟩ := store_two' t5 (.int .i64 0) (.int .i64 0)
  have HE : Hid (Below w.heap.size w ((w7.setCell ⟨b5, 0, none⟩ (.int .i64 0)).setCell ⟨b5, 1, none⟩ (.int .i64 0))) := (hB7.setCell HB2.out.2.2.1 _).setCell HB2.out.2.2.1 _
  clear t5 hB7 hB6 hB5 T5 T6 s6 s5 r6 h5 h6 h7 a0 a1 d0 d1 k1 k2
  go_wp2
  refine bodyPost_ret (v := .tuple #[.int .i64 lw, bv, uv, .agg #[.int .i64 0, .int .i64 0]]) ?_ rfl ⟨⟨bv, uv, rfl⟩, HE.out⟩
  simp [results, Tryd.results8, go_sem, q5, q6]
end Go.Proofs.YtdalconphfgepaaDoor
