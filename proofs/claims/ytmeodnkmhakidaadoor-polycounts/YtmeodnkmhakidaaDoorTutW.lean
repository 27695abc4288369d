/- poly.check; Tutte. -/
import Derived.Test.YtmeodnkmhakidaaDoorExpW
import Derived.Test.YtmeodnkmhakidaaDoorKfW
namespace Go.Proofs.YtmeodnkmhakidaaDoor
set_option maxRecDepth 8000
open Go.RowKit Go.Maps
attribute [local go_sem ↓] Go.wp_at_zero Go.wp_at_succ
/-- What is wrong with a graph, or that there are too many. -/
def chkP (n : Int) (es : List Pair) (m : Nat) : Int × Int := if (chk n es).1 ≠ 0 then chk n es else if 12 < m then (2, 0) else (0, 0)
theorem store_two' {w : World} {b : Nat} {x y : Value} {t : TypeId} (h : Two w b x y t) (x' y' : Value) : w.cell? ⟨b, 0, none⟩ = some x ∧ w.frozen? ⟨b, 0, none⟩ = false ∧ (w.setCell ⟨b, 0, none⟩ x').cell? ⟨b, 1, none⟩ = some y ∧ (w.setCell ⟨b, 0, none⟩ x').frozen? ⟨b, 1, none⟩ = false ∧ ((w.setCell ⟨b, 0, none⟩ x').setCell ⟨b, 1, none⟩ y').cell? ⟨b, 0, none⟩ = some x' ∧ ((w.setCell ⟨b, 0, none⟩ x').setCell ⟨b, 1, none⟩ y').cell? ⟨b, 1, none⟩ = some y' :=
  ⟨(cell_two h).1, box_free h 0, box_cell (box_set h 0 x') (i := 1) rfl, box_free (box_set h 0 x') 1, (cell_two (two_setN h)).1, (cell_two (two_setN h)).2⟩
set_option maxHeartbeats 4000000 in
theorem check_call {w : World} {n : Int} {v : Value} {es : List Pair} {m : Nat} (hE : EdgesAt w v es) :
    Calls Tryd.prog 18 #[.agg #[.int .i64 n, v], .int .i64 (m : Int)] w fun e w' => e = .returned (.agg #[.int .i64 (chkP n es m).1, .int .i64 (chkP n es m).2]) ∧ Below w.heap.size w w' := by
  have C23 : Hid (∀ A, Below w.heap.size w A → Calls Tryd.prog 31 #[.agg #[.int .i64 n, v]] A fun e w' => e = .returned (.agg #[.int .i64 (chk n es).1, .int .i64 (chk n es).2]) ∧ Below A.heap.size A w') := fun A hA => check_any n v es A (hE.below hA)
  have HP : Hid (chkP n es m = if (chk n es).1 ≠ 0 then chk n es else if 12 < m then (2, 0) else (0, 0)) := rfl
  clear hE
  generalize chkP n es m = P at *
  generalize chk n es = Q at *
  obtain ⟨q1, q2⟩ := Q
  obtain ⟨p1, p2⟩ := P
  simp only at HP C23
  go_enter Tryd.func18, Tryd.ntmps18
  go_upto_region 1 with (fail)
  have t2 : Two ((w.alloc (Obj.cells #[.int .i64 n, v] 24)).alloc (Obj.cells #[.int .i64 0, .int .i64 0] 27)) w.heap.size (.int .i64 n) v 24 := two_alloc (two_new _ _ _ _) _
  have t4 : Two ((w.alloc (Obj.cells #[.int .i64 n, v] 24)).alloc (Obj.cells #[.int .i64 0, .int .i64 0] 27)) (w.heap.size + 1) (.int .i64 0) (.int .i64 0) 27 := by
    have := two_new (w.alloc (Obj.cells #[.int .i64 n, v] 24)) (.int .i64 0) (.int .i64 0) 27
    simpa using this
  have hB0 : Below w.heap.size w ((w.alloc (Obj.cells #[.int .i64 n, v] 24)).alloc (Obj.cells #[.int .i64 0, .int .i64 0] 27)) := below_alloc (below_alloc (Below.refl _ w) _) _
  obtain ⟨b2, hb2⟩ : ∃ b, b = w.heap.size := ⟨_, rfl⟩
  obtain ⟨b4, hb4⟩ : ∃ b, b = w.heap.size + 1 := ⟨_, rfl⟩
  rw [← hb4] at t4 ⊢
  rw [← hb2] at t2 ⊢
  generalize ((w.alloc (Obj.cells #[.int .i64 n, v] 24)).alloc (Obj.cells #[.int .i64 0, .int .i64 0] 27)) = W1 at *
  have HW1 : Hid (Two W1 b4 (.int .i64 0) (.int .i64 0) 27 ∧ Below w.heap.size w W1 ∧ w.heap.size ≤ b4) := ⟨t4, hB0, by omega⟩
  obtain ⟨c0, c1⟩ := cell_two t2
  clear t2 t4 hB0 hb2 hb4
  go_upto_region 2 with (first | (go_at_call 31; refine Calls.mono (C23.out _ HW1.out.2.1) ?_; rintro e W2 ⟨rfl, h2⟩) | fail)
  have x5 := two_new W2 (.int .i64 q1) (.int .i64 q2) 27
  have hB3 := below_alloc (Below.refl _ W2) (Obj.cells #[.int .i64 q1, .int .i64 q2] 27)
  generalize W2.heap.size = b5 at x5 ⊢
  generalize W2.alloc (Obj.cells #[.int .i64 q1, .int .i64 q2] 27) = W3 at *
  have HW3 : Hid (Two W3 b4 (.int .i64 0) (.int .i64 0) 27 ∧ Below w.heap.size w W3) := ⟨two_next HW1.out.1 (below_next h2 hB3), below_next HW1.out.2.1 (below_next h2 hB3)⟩
  obtain ⟨d0, d1⟩ := cell_two x5
  clear h2 hB3 x5 c0 c1
  by_cases h : q1 = 0
  · have k1 : (q1 != 0) = false := by simpa using h
    by_cases h12 : 12 < m
    · have k2 : decide ((12 : Int) < (m : Int)) = true := by simp; omega
      have hp : (p1, p2) = (2, 0) := by rw [HP.out, if_neg (by simpa using h), if_pos h12]
      simp only [Prod.mk.injEq] at hp
      obtain ⟨rfl, rfl⟩ := hp
      obtain ⟨s1, s2, s3, s4, s5, s6⟩ := store_two' HW3.out.1 (.int .i64 2) (.int .i64 0)
      clear h HP
      go_wp2
      refine bodyPost_ret (v := .agg #[.int .i64 2, .int .i64 0]) ?_ rfl ⟨rfl, (HW3.out.2.setCell HW1.out.2.2 _).setCell HW1.out.2.2 _⟩
      simp [results, Tryd.results18, go_sem, s5, s6]
    · have k2 : decide ((12 : Int) < (m : Int)) = false := by simp; omega
      have hp : (p1, p2) = (0, 0) := by rw [HP.out, if_neg (by simpa using h), if_neg h12]
      simp only [Prod.mk.injEq] at hp
      obtain ⟨rfl, rfl⟩ := hp
      obtain ⟨s1, s2, s3, s4, s5, s6⟩ := store_two' HW3.out.1 (.int .i64 0) (.int .i64 0)
      clear h HP
      go_wp2
      refine bodyPost_ret (v := .agg #[.int .i64 0, .int .i64 0]) ?_ rfl ⟨rfl, (HW3.out.2.setCell HW1.out.2.2 _).setCell HW1.out.2.2 _⟩
      simp [results, Tryd.results18, go_sem, s5, s6]
  · have k1 : (q1 != 0) = true := by simpa using h
    have hp : (p1, p2) = (q1, q2) := by rw [HP.out, if_pos h]
    simp only [Prod.mk.injEq] at hp
    obtain ⟨rfl, rfl⟩ := hp
    obtain ⟨s1, s2, s3, s4, s5, s6⟩ := store_two' HW3.out.1 (.int .i64 p1) (.int .i64 p2)
    clear h HP
    go_wp2
    refine bodyPost_ret (v := .agg #[.int .i64 p1, .int .i64 p2]) ?_ rfl ⟨rfl, (HW3.out.2.setCell HW1.out.2.2 _).setCell HW1.out.2.2 _⟩
    simp [results, Tryd.results18, go_sem, s5, s6]
/-- What Tutte answers. -/
def TutA (w' : World) (n : Int) (es : List Pair) (e : Ending) : Prop :=
  ((chkP n es es.length).1 ≠ 0 ∧ e = .returned (.tuple #[.slice none 0 0, .agg #[.int .i64 (chkP n es es.length).1, .int .i64 (chkP n es es.length).2]])) ∨
  (chkP n es es.length = (0, 0) ∧ ∃ (N : Nat) (es2 : List E2) (bt : Nat), n = N ∧ es = pzT es2 ∧ (∀ e ∈ es2, e.1 < N ∧ e.2 < N) ∧ es2.length ≤ 12 ∧ N ≤ 100 ∧ e = .returned (.tuple #[sl bt (N - kf N es2 + 1), .agg #[.int .i64 0, .int .i64 0]]) ∧ Tb w' bt (N - kf N es2 + 1) (kf N es2 + es2.length - N + 1) (tT N (kf N es2) es2))
theorem chkP_good {n : Int} {es : List Pair} {m : Nat} (h : (chkP n es m).1 = 0) : chkP n es m = (0, 0) ∧ (chk n es).1 = 0 ∧ m ≤ 12 := by
  unfold chkP at h ⊢
  by_cases h1 : (chk n es).1 ≠ 0
  · rw [if_pos h1] at h; exact absurd h h1
  · rw [if_neg h1] at h ⊢
    by_cases h2 : 12 < m
    · rw [if_pos h2] at h; cases h
    · rw [if_neg h2]; exact ⟨rfl, by simpa using h1, by omega⟩
theorem pzT_nat {N : Nat} : ∀ {es : List Pair}, (∀ e ∈ es, (0 ≤ e.1 ∧ e.1 < N ∧ 0 ≤ e.2 ∧ e.2 < N) ∧ e.1 ≠ e.2) → ∃ es' : List E2, es = pzT es' ∧ (∀ e ∈ es', e.1 < N ∧ e.2 < N)
  | [], _ => ⟨[], rfl, fun e he => by cases he⟩
  | e :: l, h => by
    obtain ⟨l', h1, hl⟩ := pzT_nat (N := N) (es := l) (fun e' he => h e' (by simp [he]))
    obtain ⟨⟨g1, g2, g3, g4⟩, _⟩ := h e (by simp)
    refine ⟨(e.1.toNat, e.2.toNat) :: l', ?_, fun e' he => ?_⟩
    · have e1 : ((e.1.toNat : Nat) : Int) = e.1 := by omega
      have e2 : ((e.2.toNat : Nat) : Int) = e.2 := by omega
      rw [h1]
      simp only [pzT, List.map_cons, e1, e2]
    · rcases List.mem_cons.1 he with rfl | he
      · constructor
        · show e.1.toNat < N; omega
        · show e.2.toNat < N; omega
      · exact hl e' he
def VT (N : Nat) (es2 : List E2) (ao : Option Addr) (cap : Nat) (v5 : Value) : Nat → Value → World → Prop
  | 0, x, _ => x = .agg #[.int .i64 (N : Int), .slice ao es2.length cap]
  | 1, x, _ => x = v5
  | 2, x, _ => x = .int .i64 (kf N es2 : Int)
  | 3, x, w => ∃ mb, x = .map (some mb) ∧ CntM w mb (2 ^ es2.length) (cntE N (kf N es2) es2)
  | 4, x, _ => x = .agg #[.int .i64 ((N - kf N es2 : Nat) : Int), .int .i64 ((kf N es2 + es2.length - N : Nat) : Int)]
  | 5, x, w => ∃ bt, x = sl bt (N - kf N es2 + 1) ∧ Tb w bt (N - kf N es2 + 1) (kf N es2 + es2.length - N + 1) (tT N (kf N es2) es2)
  | 6, x, _ => x = .agg #[.int .i64 0, .int .i64 0]
  | 7, x, w => ∃ bt, x = sl bt (N - kf N es2 + 1) ∧ Tb w bt (N - kf N es2 + 1) (kf N es2 + es2.length - N + 1) (tT N (kf N es2) es2)
  | _, _, _ => True
theorem VT_mono {N : Nat} {es2 : List E2} {ao : Option Addr} {cap : Nat} {v5 : Value} : ∀ i x w w', VT N es2 ao cap v5 i x w → Below w.heap.size w w' → VT N es2 ao cap v5 i x w' := fun i x w w' h hb => by
  match i with
  | 0 => exact h
  | 1 => exact h
  | 2 => exact h
  | 3 => obtain ⟨mb, h1, h2⟩ := h; exact ⟨mb, h1, h2.under hb⟩
  | 4 => exact h
  | 5 => obtain ⟨bt, h1, h2⟩ := h; exact ⟨bt, h1, h2.under hb⟩
  | 6 => exact h
  | 7 => obtain ⟨bt, h1, h2⟩ := h; exact ⟨bt, h1, h2.under hb⟩
  | n + 8 => exact h
theorem Tb.store {w w' : World} {bt R C b : Nat} {T : Nat → Nat → Int} {x y : Value} (h : Tb w bt R C T) (h2 : Two w b x y 27) (ht : Turns (fun k => k = b) w w') : Tb w' bt R C T := by
  have h2' : w.heap[b]? = some (.cells #[x, y] 27 (0, 0)) := h2
  refine ⟨h.tab.turns ht (fun e => ?_), fun i hi => (h.row i hi).turns ht (fun e => ?_)⟩
  · subst e
    obtain ⟨cur, q, _⟩ := h.tab
    rw [q] at h2'
    cases h2'
  · obtain ⟨cur, q, _⟩ := h.row i hi
    rw [e, h2'] at q
    cases q
/-- The whole of expand, of what powers counted. -/
theorem expand_powers {w : World} {mb N : Nat} {es : List E2} (hes : ∀ e ∈ es, e.1 < N ∧ e.2 < N) (hm : es.length ≤ 12) (hN : N ≤ 100) (hM : CntM w mb (2 ^ es.length) (cntE N (kf N es) es)) :
    Calls Tryd.prog 40 #[.map (some mb), .agg #[.int .i64 ((N - kf N es : Nat) : Int), .int .i64 ((kf N es + es.length - N : Nat) : Int)]] w fun e w' => (∃ bt, e = .returned (sl bt (N - kf N es + 1)) ∧ Tb w' bt (N - kf N es + 1) (kf N es + es.length - N + 1) (tT N (kf N es) es)) ∧ Below w.heap.size w w' := by
  have hk : ∀ k, cntE N (kf N es) es k ≠ none → k.1 ≤ N - kf N es ∧ k.2 ≤ kf N es + es.length - N ∧ k.1 ≤ 12 := fun k hk => by
    obtain ⟨B, hB, rfl⟩ := cntE_ne.1 hk
    have h1 := kf_sub hes hB
    obtain ⟨C, _, h2⟩ := sub_rest hB
    refine ⟨by show kf N B - kf N es ≤ _; omega, by show kf N B + B.length - N ≤ _; omega, ?_⟩
    have h3 := (kf_sub hes (sub_self es)).2.2.1
    show kf N B - kf N es ≤ 12
    omega
  have h0 := kf_le hes
  refine (expand_call hM (fun k h => ⟨(hk k h).1, (hk k h).2.1⟩) (by omega) (by omega) (fun k h => (hk k h).2.2) (fun V hV _ => cntE_sum hV hm)).mono ?_
  rintro e w' ⟨⟨bt, V, rfl, hV, hall, hT⟩, hB⟩
  exact ⟨⟨bt, rfl, hT.congr fun i j _ _ => tsum_tT hV hall i j⟩, hB⟩
set_option maxHeartbeats 16000000 in
theorem tutte_call {w : World} {n : Int} {ao : Option Addr} {cap : Nat} {es : List Pair} (hE : EdgesAt w (.slice ao es.length cap) es) :
    Calls Tryd.prog 24 #[.agg #[.int .i64 n, .slice ao es.length cap]] w fun e w' => TutA w' n es e ∧ Below w.heap.size w w' := by
  have C13 : Hid (∀ A, Below w.heap.size w A → Calls Tryd.prog 18 #[.agg #[.int .i64 n, .slice ao es.length cap], .int .i64 (es.length : Int)] A fun e w' => e = .returned (.agg #[.int .i64 (chkP n es es.length).1, .int .i64 (chkP n es es.length).2]) ∧ Below A.heap.size A w') := fun A hA => check_call (hE.below hA)
  have HE : Hid (EdgesAt w (.slice ao es.length cap) es) := hE
  obtain ⟨P, hP⟩ : ∃ P, P = chkP n es es.length := ⟨_, rfl⟩
  have HP : Hid (P = chkP n es es.length) := hP
  rw [← hP] at C13
  obtain ⟨p1, p2⟩ := P
  simp only at C13
  clear hE hP
  go_enter Tryd.func24, Tryd.ntmps24
  go_upto_region 1 with (fail)
  have t1 : Two ((w.alloc (Obj.cells #[.int .i64 n, .slice ao es.length cap] 24)).alloc (Obj.cells #[.int .i64 0, .int .i64 0] 27)) w.heap.size (.int .i64 n) (.slice ao es.length cap) 24 := two_alloc (two_new _ _ _ _) _
  have t3 : Two ((w.alloc (Obj.cells #[.int .i64 n, .slice ao es.length cap] 24)).alloc (Obj.cells #[.int .i64 0, .int .i64 0] 27)) (w.heap.size + 1) (.int .i64 0) (.int .i64 0) 27 := by
    have := two_new (w.alloc (Obj.cells #[.int .i64 n, .slice ao es.length cap] 24)) (.int .i64 0) (.int .i64 0) 27
    simpa using this
  have hB0 : Below w.heap.size w ((w.alloc (Obj.cells #[.int .i64 n, .slice ao es.length cap] 24)).alloc (Obj.cells #[.int .i64 0, .int .i64 0] 27)) := below_alloc (below_alloc (Below.refl _ w) _) _
  obtain ⟨b1, hb1⟩ : ∃ b, b = w.heap.size := ⟨_, rfl⟩
  obtain ⟨b3, hb3⟩ : ∃ b, b = w.heap.size + 1 := ⟨_, rfl⟩
  rw [← hb3] at t3 ⊢
  rw [← hb1] at t1 ⊢
  generalize ((w.alloc (Obj.cells #[.int .i64 n, .slice ao es.length cap] 24)).alloc (Obj.cells #[.int .i64 0, .int .i64 0] 27)) = W1 at *
  have HW1 : Hid (Two W1 b1 (.int .i64 n) (.slice ao es.length cap) 24 ∧ Two W1 b3 (.int .i64 0) (.int .i64 0) 27 ∧ Below w.heap.size w W1 ∧ w.heap.size ≤ b3) := ⟨t1, t3, hB0, by omega⟩
  obtain ⟨c0, c1⟩ := cell_two t1
  clear t1 t3 hB0 hb1 hb3
  go_upto_region 2 with (first | (go_at_call 18; refine Calls.mono (C13.out _ HW1.out.2.2.1) ?_; rintro e W2 ⟨rfl, h2⟩) | fail)
  have x4 := two_new W2 (.int .i64 p1) (.int .i64 p2) 27
  have hB3 := below_alloc (Below.refl _ W2) (Obj.cells #[.int .i64 p1, .int .i64 p2] 27)
  generalize W2.heap.size = b4 at x4 ⊢
  generalize W2.alloc (Obj.cells #[.int .i64 p1, .int .i64 p2] 27) = W3 at *
  have HW3 : Hid (Two W3 b1 (.int .i64 n) (.slice ao es.length cap) 24 ∧ Two W3 b3 (.int .i64 0) (.int .i64 0) 27 ∧ Below w.heap.size w W3) := ⟨two_next HW1.out.1 (below_next h2 hB3), two_next HW1.out.2.1 (below_next h2 hB3), below_next HW1.out.2.2.1 (below_next h2 hB3)⟩
  have HB3 : Hid (w.heap.size ≤ b3) := HW1.out.2.2.2
  obtain ⟨d0, d1⟩ := cell_two x4
  clear h2 hB3 x4 c0 c1 C13 HW1
  by_cases h : p1 = 0
  · have k1 : (p1 != 0) = false := by simpa using h
    have hP0 : (chkP n es es.length).1 = 0 := by rw [← HP.out]; exact h
    obtain ⟨g1, g2, g3⟩ := chkP_good hP0
    obtain ⟨hck, hn0, hn1, _, hgood⟩ := chk_good g2
    obtain ⟨N, rfl⟩ := Int.eq_ofNat_of_zero_le hn0
    obtain ⟨es2, rfl, hes⟩ := pzT_nat (N := N) hgood
    have hlen : (pzT es2).length = es2.length := by simp [pzT]
    rw [hlen] at HE HW3 g3 ⊢
    have hkl := kf_le hes
    have HN : Hid (chkP (N : Int) (pzT es2) (pzT es2).length = (0, 0) ∧ (∀ e ∈ es2, e.1 < N ∧ e.2 < N) ∧ es2.length ≤ 12 ∧ N ≤ 100 ∧ (chk (N : Int) (pzT es2)).1 = 0) := ⟨by rw [← hlen] at g3; exact g1, hes, g3, by omega, g2⟩
    obtain ⟨R, hR⟩ := ex2 (fun v x => Star (St N (bothB (pzT es2)) allB) v x)
    have C14 : Hid (∀ A, Below w.heap.size w A → Calls Tryd.prog 39 #[.agg #[.int .i64 (N : Int), .slice ao es2.length cap]] A fun r w' => (∃ vo vc, r = .returned (.tuple #[.slice vo (kf N es2) vc, .agg #[.int .i64 0, .int .i64 0]])) ∧ Below A.heap.size A w') := fun A hA => by
      have hE2 := HE.out.below hA
      rw [← hlen] at hE2 ⊢
      refine (components_ok N ao cap (pzT es2) A hE2 g2 R hR).mono ?_
      rintro r w' ⟨v', rfl, hL, hB⟩
      obtain ⟨vo, vc, rfl⟩ := hL.form
      rw [pieces_kf hes hR]
      exact ⟨⟨vo, vc, rfl⟩, hB⟩
    have C16 : Hid (∀ A, Below w.heap.size w A → Calls Tryd.prog 41 #[.agg #[.int .i64 (N : Int), .slice ao es2.length cap], .int .i64 (kf N es2 : Int)] A fun e w' => (∃ mb, e = .returned (.map (some mb)) ∧ A.heap.size ≤ mb ∧ CntM w' mb (2 ^ es2.length) (cntE N (kf N es2) es2)) ∧ Below A.heap.size A w') := fun A hA => powers_call (HE.out.below hA) hes g3 (by omega) rfl
    have ek1 : (N : Int) - (kf N es2 : Int) = ((N - kf N es2 : Nat) : Int) := by omega
    have ek2 : (kf N es2 : Int) + (es2.length : Int) - (N : Int) = ((kf N es2 + es2.length - N : Nat) : Int) := by omega
    obtain ⟨kk, hkk⟩ : ∃ kk, kk = kf N es2 := ⟨_, rfl⟩
    obtain ⟨rn, hrn⟩ : ∃ rn, rn = N - kf N es2 := ⟨_, rfl⟩
    obtain ⟨cnn, hcnn⟩ : ∃ cnn, cnn = kf N es2 + es2.length - N := ⟨_, rfl⟩
    have HKK : Hid (kk = kf N es2 ∧ rn = N - kf N es2 ∧ cnn = kf N es2 + es2.length - N) := ⟨hkk, hrn, hcnn⟩
    rw [← hrn, ← hkk] at ek1
    rw [← hcnn, ← hkk] at ek2
    rw [← hkk] at C14 C16 hkl
    obtain ⟨e0, e1⟩ := cell_two HW3.out.1
    have hml : es2.length ≤ 12 := g3
    clear h g1 g2 g3 hck hn0 hn1 hgood hlen hes hR hP0 hkk hrn hcnn
    go_upto_region 5 with (first | (go_at_call 39; refine Calls.mono (C14.out _ HW3.out.2.2) ?_; rintro e W4 ⟨⟨vo, vc, rfl⟩, h4⟩) | fail)
    have x6 := two_new W4 (.int .i64 0) (.int .i64 0) 27
    have hB5 := below_alloc (Below.refl _ W4) (Obj.cells #[.int .i64 0, .int .i64 0] 27)
    generalize W4.heap.size = b6 at x6 ⊢
    generalize W4.alloc (Obj.cells #[.int .i64 0, .int .i64 0] 27) = W5 at *
    have HW5 : Hid (Two W5 b1 (.int .i64 (N : Int)) (.slice ao es2.length cap) 24 ∧ Two W5 b3 (.int .i64 0) (.int .i64 0) 27 ∧ Below w.heap.size w W5) := ⟨two_next HW3.out.1 (below_next h4 hB5), two_next HW3.out.2.1 (below_next h4 hB5), below_next HW3.out.2.2 (below_next h4 hB5)⟩
    obtain ⟨f0, f1⟩ := cell_two HW5.out.1
    clear h4 hB5 x6 e0 e1 HW3 C14 d0 d1
    have hN100 : N ≤ 100 := HN.out.2.2.2.1
    have hkN : kk ≤ N := hkl.1
    have w1' : (kk : Int) + (es2.length : Int) < 9223372036854775808 := by omega
    have w2' : -9223372036854775808 ≤ (kk : Int) + (es2.length : Int) := by omega
    have w3' : (cnn : Int) < 9223372036854775808 := by have := HKK.out; omega
    go_upto_region 6 with (fail)
    have x7 := two_new W5 (.int .i64 (rn : Int)) (.int .i64 (cnn : Int)) 58
    have hB6 := below_alloc (Below.refl _ W5) (Obj.cells #[.int .i64 (rn : Int), .int .i64 (cnn : Int)] 58)
    generalize W5.heap.size = b7 at x7 ⊢
    generalize W5.alloc (Obj.cells #[.int .i64 (rn : Int), .int .i64 (cnn : Int)] 58) = W6 at *
    have HW6 : Hid (∀ A, Below W6.heap.size W6 A → Two A b1 (.int .i64 (N : Int)) (.slice ao es2.length cap) 24 ∧ Two A b3 (.int .i64 0) (.int .i64 0) 27 ∧ Below w.heap.size w A ∧ Two A b7 (.int .i64 (rn : Int)) (.int .i64 (cnn : Int)) 58) := fun A hA => by
      have hb := below_next hB6 hA
      exact ⟨two_next HW5.out.1 hb, two_next HW5.out.2.1 hb, below_next HW5.out.2.2 hb, two_next x7 hA⟩
    clear hB6 x7 HW5 f0 f1
    refine region_ext (J := SQ W6 8 (VT N es2 ao cap (.slice vo kk vc)) (fun f A => ∃ bt, f 7 = sl bt (N - kf N es2 + 1) ∧ Tb A bt (N - kf N es2 + 1) (kf N es2 + es2.length - N + 1) (tT N (kf N es2) es2) ∧ Two A b3 (.int .i64 0) (.int .i64 0) 27 ∧ Below w.heap.size w A)) (by kernel_rfl) (by kernel_rfl) (by kernel_rfl) SQ.start ?_ ?_
    · intro i o hi L xs a w1 hJ hL hd hcl hX
      match i, hi with
      | 0, hi =>
        cases hi
        have s1 := hX.out (s := 1) rfl
        obtain ⟨q0, q1⟩ := cell_two (HW6.out _ (hJ.early hL (by omega))).1
        refine wpOp_value rfl rfl (v := .agg #[.int .i64 (N : Int), .slice ao es2.length cap]) (w' := w1) ?_ ⟨_, rfl, hJ.put VT_mono hL (by omega) (Below.refl _ _) rfl⟩
        simp [go_sem, Act.eval, s1, q0, q1]
      | 1, hi =>
        cases hi
        have s5 := hX.out (s := 5) rfl
        refine wpOp_value rfl rfl (v := .slice vo kk vc) (w' := w1) ?_ ⟨_, rfl, hJ.put VT_mono hL (by omega) (Below.refl _ _) rfl⟩
        simp [go_sem, Act.eval, s5]
      | 2, hi =>
        cases hi
        have l1 := hd ⟨1, .data⟩ (by simp) rfl
        have r1 := (hX.rd 1 _ 38 rfl rfl l1).trans (hJ.tl (j := 1) hL (by omega) (by omega) l1)
        refine wpOp_value rfl rfl (v := .int .i64 (kk : Int)) (w' := w1) ?_ ⟨_, rfl, hJ.put VT_mono hL (by omega) (Below.refl _ _) (by rw [HKK.out.1]; rfl)⟩
        simp [go_sem, Act.eval, r1]
      | 3, hi =>
        cases hi
        have l0 := hd ⟨0, .data⟩ (by simp) rfl
        have l2 := hd ⟨2, .data⟩ (by simp) rfl
        have r0 := (hX.rd 0 _ 37 rfl rfl l0).trans (hJ.tl (j := 0) hL (by omega) (by omega) l0)
        have r2 := (hX.rd 2 _ 39 rfl rfl l2).trans (hJ.tl (j := 2) hL (by omega) (by omega) l2)
        rw [← HKK.out.1] at r2
        refine wpOp_call rfl rfl (f := 41) (args := #[.agg #[.int .i64 (N : Int), .slice ao es2.length cap], .int .i64 (kk : Int)]) (w' := w1) ?_ ?_
        · simp [go_sem, Act.eval, r0, r2]
        · refine Calls.mono (C16.out _ (HW6.out _ (hJ.early hL (by omega))).2.2.1) ?_
          rintro e w2 ⟨⟨mb, rfl, _, hM⟩, hB⟩
          rw [HKK.out.1] at hM
          exact ⟨_, rfl, _, rfl, hJ.put VT_mono hL (by omega) hB ⟨mb, rfl, hM⟩⟩
      | 4, hi =>
        cases hi
        have s7 := hX.out (s := 7) rfl
        obtain ⟨q0, q1⟩ := cell_two (HW6.out _ (hJ.early hL (by omega))).2.2.2
        refine wpOp_value rfl rfl (v := .agg #[.int .i64 (rn : Int), .int .i64 (cnn : Int)]) (w' := w1) ?_ ⟨_, rfl, hJ.put VT_mono hL (by omega) (Below.refl _ _) (by rw [HKK.out.2.1, HKK.out.2.2]; rfl)⟩
        simp [go_sem, Act.eval, s7, q0, q1]
      | 5, hi =>
        cases hi
        have l3 := hd ⟨3, .data⟩ (by simp) rfl
        have l4 := hd ⟨4, .data⟩ (by simp) rfl
        obtain ⟨mb, e3, hM⟩ := hJ.tl (j := 3) hL (by omega) (by omega) l3
        have r3 := (hX.rd 3 _ 40 rfl rfl l3).trans e3
        have r4 := (hX.rd 4 _ 41 rfl rfl l4).trans (hJ.tl (j := 4) hL (by omega) (by omega) l4)
        refine wpOp_call rfl rfl (f := 40) (args := #[.map (some mb), .agg #[.int .i64 ((N - kf N es2 : Nat) : Int), .int .i64 ((kf N es2 + es2.length - N : Nat) : Int)]]) (w' := w1) ?_ ?_
        · simp [go_sem, Act.eval, r3, r4]
        · refine Calls.mono (expand_powers HN.out.2.1 HN.out.2.2.1 HN.out.2.2.2.1 hM) ?_
          rintro e w2 ⟨⟨bt, rfl, hT⟩, hB⟩
          exact ⟨_, rfl, _, rfl, hJ.put VT_mono hL (by omega) hB ⟨bt, rfl, hT⟩⟩
      | 6, hi =>
        cases hi
        refine wpOp_value rfl rfl (v := .agg #[.int .i64 0, .int .i64 0]) (w' := w1) ?_ ⟨_, rfl, hJ.put VT_mono hL (by omega) (Below.refl _ _) rfl⟩
        simp [go_sem]
      | 7, hi =>
        cases hi
        have l5 := hd ⟨5, .data⟩ (by simp) rfl
        have v5 := hJ.tl (j := 5) hL (by omega) (by omega) l5
        have r5 := hX.rd 5 _ 42 rfl rfl l5
        refine wpOp_value rfl rfl (v := xs 5) (w' := w1) ?_ ⟨_, rfl, hJ.put VT_mono hL (by omega) (Below.refl _ _) v5⟩
        simp [go_sem, Act.eval, r5]
      | 8, hi =>
        cases hi
        have hall : ∀ j, j < 8 → L j = true := fun j hj => by
          have : j = 0 ∨ j = 1 ∨ j = 2 ∨ j = 3 ∨ j = 4 ∨ j = 5 ∨ j = 6 ∨ j = 7 := by omega
          rcases this with rfl | rfl | rfl | rfl | rfl | rfl | rfl | rfl
          · exact hd ⟨0, .phase⟩ (by simp) rfl
          · exact hd ⟨1, .phase⟩ (by simp) rfl
          · exact hd ⟨2, .phase⟩ (by simp) rfl
          · exact hd ⟨3, .phase⟩ (by simp) rfl
          · exact hd ⟨4, .phase⟩ (by simp) rfl
          · exact hd ⟨5, .phase⟩ (by simp) rfl
          · exact hd ⟨6, .phase⟩ (by simp) rfl
          · exact hd ⟨7, .phase⟩ (by simp) rfl
        have r6 := (hX.rd 6 _ 43 rfl rfl (hall 6 (by omega))).trans (hJ.told hL 6 (by omega) (hall 6 (by omega)))
        have s3 := hX.out (s := 3) rfl
        obtain ⟨bt, e7, hT⟩ := hJ.told hL 7 (by omega) (hall 7 (by omega))
        obtain ⟨_, t3, hBw, _⟩ := HW6.out _ (hJ.w0 hL)
        obtain ⟨q1, q2, q3, q4, _, _⟩ := store_two' t3 (.int .i64 0) (.int .i64 0)
        have htu := (setCell_turns w1 b3 0 (.int .i64 0)).trans (setCell_turns (w1.setCell ⟨b3, 0, none⟩ (.int .i64 0)) b3 1 (.int .i64 0))
        refine wpOp_skip rfl rfl (w' := (w1.setCell ⟨b3, 0, none⟩ (.int .i64 0)).setCell ⟨b3, 1, none⟩ (.int .i64 0)) ?_ ⟨undef, rfl, hJ.last hall ⟨bt, by rw [updV_ne _ _ (by omega)]; exact e7, hT.store t3 htu, two_setN t3, (hBw.setCell HB3.out _).setCell HB3.out _⟩⟩
        simp [go_sem, Act.eval, r6, s3, q1, q2, q3, q4]
      | m + 9, hi => cases hi
    · intro L0 xv w1 hJ hall
      obtain ⟨bt, e7, hT, t3, hBF⟩ := hJ.fin (hall 8 (by simp))
      simp only [puts, Act.put, e7, List.setIfInBounds_toArray, List.set_cons_succ, List.set_cons_zero]
      obtain ⟨r0, r1⟩ := cell_two t3
      have HF : Hid _ := And.intro hT hBF
      clear hJ hall hT hBF t3 e7
      generalize xv 0 = z0
      generalize xv 1 = z1
      generalize xv 2 = z2
      generalize xv 3 = z3
      generalize xv 4 = z4
      generalize xv 5 = z5
      generalize xv 6 = z6
      go_wp2
      refine bodyPost_ret (v := .tuple #[sl bt (N - kf N es2 + 1), .agg #[.int .i64 0, .int .i64 0]]) ?_ rfl ⟨?_, HF.out.2⟩
      · simp [results, Tryd.results24, go_sem, r0, r1]
      · unfold TutA
        exact Or.inr ⟨HN.out.1, N, es2, bt, rfl, rfl, HN.out.2.1, HN.out.2.2.1, HN.out.2.2.2.1, rfl, HF.out.1⟩
  · have k1 : (p1 != 0) = true := by simpa using h
    have HN : Hid (p1 ≠ 0) := h
    clear h
    go_upto_region 3 with (fail)
    have g0 := cell_growD d0
    have g1 := cell_growD d1
    clear d0 d1
    refine wp_region_tailT 2 (by kernel_rfl) (by kernel_rfl) (by kernel_rfl) (by decide) ?_
    simp only [List.take_succ_cons, List.take_zero, List.drop_succ_cons, List.drop_zero]
    repeat (go_big_quiet_step (fail))
    refine wpQuiet_nil ?_
    rintro _ ⟨gp, rfl⟩
    have hB8 := growD_below W3 gp
    clear g0 g1
    generalize growD W3 gp = w8 at *
    obtain ⟨q1, q2, q3, q4, q5, q6⟩ := store_two' (two_next HW3.out.2.1 hB8) (.int .i64 p1) (.int .i64 p2)
    have HB8 : Hid (Below w.heap.size w w8) := below_next HW3.out.2.2 hB8
    clear hB8
    go_wp2
    refine bodyPost_ret (v := .tuple #[.slice none 0 0, .agg #[.int .i64 p1, .int .i64 p2]]) ?_ rfl ⟨?_, (HB8.out.setCell HB3.out _).setCell HB3.out _⟩
    · simp [results, Tryd.results24, go_sem, q5, q6]
    · unfold TutA
      rw [← HP.out]
      exact Or.inl ⟨HN.out, rfl⟩
end Go.Proofs.YtmeodnkmhakidaaDoor
