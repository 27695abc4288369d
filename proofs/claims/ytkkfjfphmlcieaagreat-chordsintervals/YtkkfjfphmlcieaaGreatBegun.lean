/- The ring of four nodes: chordsBegun. -/
import Derived.BigQuiet
import Derived.Test.YtkkfjfphmlcieaaGreatCliqW
namespace Go.Proofs.YtkkfjfphmlcieaaGreat
open Go.RowKit Go.Maps
attribute [local go_sem ↓] Go.wp_at_zero Go.wp_at_succ
def ring4 : List Pair := [(0, 1), (1, 2), (2, 3), (0, 3)]
set_option maxRecDepth 10000 in
set_option maxHeartbeats 1000000 in
theorem ring4_call (w : World) : Calls Tryz.prog 24 #[] w fun e w' => ∃ (vo : Option Addr) (vc : Nat), e = .returned (.agg #[.int .i64 4, .slice vo ring4.length vc]) ∧ EdgesAt w' (.slice vo ring4.length vc) ring4 ∧ Below w.heap.size w w' := by
  go_enter Tryz.func24, Tryz.ntmps24
  go_wp2
  have t0 := two_alloc (two_new w (.int .i64 4) (.slice (some ⟨w.heap.size + 1, 0, none⟩) 4 4) 24) (Obj.cells #[.int .i64 0, .int .i64 1, .int .i64 1, .int .i64 2, .int .i64 2, .int .i64 3, .int .i64 0, .int .i64 3] 38)
  obtain ⟨s0, s1⟩ := cell_two t0
  refine bodyPost_ret (v := .agg #[.int .i64 4, .slice (some ⟨w.heap.size + 1, 0, none⟩) 4 4]) ?_ rfl ⟨_, _, rfl, ?_, below_alloc (below_alloc (Below.refl _ w) _) _⟩
  · simp [results, Tryz.results24, go_sem, s0, s1]
  · refine ⟨_, _, rfl, by decide, fun e he => ?_, fun k hk => ⟨_, _, rfl, ?_⟩⟩
    · simp [ring4] at he
      rcases he with rfl | rfl | rfl | rfl <;> simp [I64]
    · have h : ((w.alloc (Obj.cells #[.int .i64 4, .slice (some ⟨w.heap.size + 1, 0, none⟩) 4 4] 24)).alloc (Obj.cells #[.int .i64 0, .int .i64 1, .int .i64 1, .int .i64 2, .int .i64 2, .int .i64 3, .int .i64 0, .int .i64 3] 38)).heap[w.heap.size + 1]? = some (Obj.cells #[.int .i64 0, .int .i64 1, .int .i64 1, .int .i64 2, .int .i64 2, .int .i64 3, .int .i64 0, .int .i64 3] 38) := by
        have h := heap_alloc_new (w.alloc (Obj.cells #[.int .i64 4, .slice (some ⟨w.heap.size + 1, 0, none⟩) 4 4] 24)) (Obj.cells #[.int .i64 0, .int .i64 1, .int .i64 1, .int .i64 2, .int .i64 2, .int .i64 3, .int .i64 0, .int .i64 3] 38)
        have e : (w.alloc (Obj.cells #[.int .i64 4, .slice (some ⟨w.heap.size + 1, 0, none⟩) 4 4] 24)).heap.size = w.heap.size + 1 := by simp
        rw [e] at h
        exact h
      have hk' : k < 4 := hk
      match k, hk' with
      | 0, _ => exact ⟨box_cell h rfl, box_cell h rfl⟩
      | 1, _ => exact ⟨box_cell h rfl, box_cell h rfl⟩
      | 2, _ => exact ⟨box_cell h rfl, box_cell h rfl⟩
      | 3, _ => exact ⟨box_cell h rfl, box_cell h rfl⟩
theorem ring4_chk : (chk (4 : Nat) ring4).1 = 0 := by decide
def tab (a b : Nat) : Bool := (a + 1) % 4 == b || (b + 1) % 4 == a
theorem ring4_tab : ∀ a, a < 4 → ∀ b, b < 4 → bothB ring4 a b = tab a b := by decide
theorem ring4_ord {O : List Nat} (h : IsOrd 4 (bothB ring4) O) : False := by
  obtain ⟨h1, h2, h3, h4⟩ := h
  match O, h1 with
  | [a, b, c, d], _ =>
    have ha := h2 a (by simp)
    have hb := h2 b (by simp)
    have hc := h2 c (by simp)
    have hd := h2 d (by simp)
    have k1 := h4 0 2 1 (by omega) (by omega) (by omega)
    have k2 := h4 0 3 1 (by omega) (by omega) (by omega)
    have k3 := h4 0 3 2 (by omega) (by omega) (by omega)
    simp only [List.getD_cons_zero, List.getD_cons_succ] at k1 k2 k3
    rw [ring4_tab _ ha _ hc, ring4_tab _ ha _ hb, ring4_tab _ hc _ hb] at k1
    rw [ring4_tab _ ha _ hd, ring4_tab _ ha _ hb, ring4_tab _ hd _ hb] at k2
    rw [ring4_tab _ ha _ hd, ring4_tab _ ha _ hc, ring4_tab _ hd _ hc] at k3
    have n : a ≠ b ∧ a ≠ c ∧ a ≠ d ∧ b ≠ c ∧ b ≠ d ∧ c ≠ d := by
      simp at h3
      omega
    have key : ∀ a, a < 4 → ∀ b, b < 4 → ∀ c, c < 4 → ∀ d, d < 4 → (a != b && a != c && a != d && b != c && b != d && c != d && (!(tab a c) || !(tab a b) || tab c b) && (!(tab a d) || !(tab a b) || tab d b) && (!(tab a d) || !(tab a c) || tab d c)) = false := by decide
    have imp : ∀ p q r : Bool, (p = true → q = true → r = true) → (!p || !q || r) = true := by decide
    have := key a ha b hb c hc d hd
    rw [imp _ _ _ k1, imp _ _ _ k2, imp _ _ _ k3] at this
    simp [n] at this
theorem ring4_hole {h : List Nat} (hh : IsHole 4 (bothB ring4) h) : h.length = 4 := by
  have hn : h.Nodup := by
    rw [List.nodup_iff_pairwise_ne, List.pairwise_iff_getElem]
    intro i j hi hj hij
    have := hh.ne i j hij hj
    simpa [List.getD, List.getElem?_eq_getElem hi, List.getElem?_eq_getElem hj] using this
  have := nat_nodup_len h (List.range 4) hn (fun x hx => List.mem_range.2 (hh.lt x hx))
  have := hh.len
  simp at *
  omega
def chkM (K : Nat → Bool) : Bool := ((List.range 4).all fun x => (List.range 4).all fun y => !(K x) || !(K y) || x == y || tab x y) && ((List.range 4).all fun z => K z || (List.range 4).any fun x => K x && !(tab z x))
def sel (a b c d : Bool) : Nat → Bool
  | 0 => a
  | 1 => b
  | 2 => c
  | 3 => d
  | _ => false
def four : List (List Nat) := [[0, 1], [0, 3], [1, 2], [2, 3]]
theorem chkM_of {K : Nat → Bool} (h : MaxC 4 (bothB ring4) K) : chkM K = true := by
  unfold chkM
  rw [Bool.and_eq_true, List.all_eq_true, List.all_eq_true]
  refine ⟨fun x hx => ?_, fun z hz => ?_⟩
  · rw [List.all_eq_true]
    intro y hy
    have hx' := List.mem_range.1 hx
    have hy' := List.mem_range.1 hy
    have := h.clq x y hx' hy'
    rw [ring4_tab x hx' y hy'] at this
    cases e1 : K x <;> cases e2 : K y <;> simp
    by_cases e : x = y
    · exact Or.inl e
    · exact Or.inr (this e1 e2 e)
  · cases e1 : K z
    · obtain ⟨x, h1, h2, h3⟩ := h.top z (List.mem_range.1 hz) e1
      rw [ring4_tab z (List.mem_range.1 hz) x h1] at h3
      simp only [Bool.false_or, List.any_eq_true]
      exact ⟨x, List.mem_range.2 h1, by simp [h2, h3]⟩
    · rfl
theorem of_chkM {K : Nat → Bool} (h : chkM K = true) : MaxC 4 (bothB ring4) K := by
  unfold chkM at h
  rw [Bool.and_eq_true, List.all_eq_true, List.all_eq_true] at h
  obtain ⟨h1, h2⟩ := h
  refine ⟨fun x y hx hy e1 e2 hn => ?_, fun z hz e => ?_⟩
  · have := h1 x (List.mem_range.2 hx)
    rw [List.all_eq_true] at this
    have := this y (List.mem_range.2 hy)
    rw [ring4_tab x hx y hy]
    simpa [e1, e2, hn] using this
  · have := h2 z (List.mem_range.2 hz)
    rw [e, Bool.false_or, List.any_eq_true] at this
    obtain ⟨x, hx, hb⟩ := this
    rw [Bool.and_eq_true] at hb
    refine ⟨x, List.mem_range.1 hx, hb.1, ?_⟩
    rw [ring4_tab z hz x (List.mem_range.1 hx)]
    simpa using hb.2
theorem sel_all : ∀ a b c d, chkM (sel a b c d) = true → lsN 4 (sel a b c d) ∈ four := by decide
theorem ring4_four {L : List (List Nat)} (h : Lsts 4 L (MaxC 4 (bothB ring4))) : L.length = 4 := by
  have h1 := nodup_lenL L four h.1 (fun l hl => by
    obtain ⟨K, hK, rfl⟩ := (h.2 l).1 hl
    have he : ∀ x, x < 4 → K x = sel (K 0) (K 1) (K 2) (K 3) x := fun x hx => by
      match x, hx with
      | 0, _ => rfl
      | 1, _ => rfl
      | 2, _ => rfl
      | 3, _ => rfl
    rw [lsN_congr he]
    exact sel_all _ _ _ _ (chkM_of (hK.congr he)))
  have h2 := nodup_lenL four L (by decide) (fun l hl => by
    simp [four] at hl
    rcases hl with rfl | rfl | rfl | rfl
    · exact (h.2 _).2 ⟨sel true true false false, of_chkM (by decide), by decide⟩
    · exact (h.2 _).2 ⟨sel true false false true, of_chkM (by decide), by decide⟩
    · exact (h.2 _).2 ⟨sel false true true false, of_chkM (by decide), by decide⟩
    · exact (h.2 _).2 ⟨sel false false true true, of_chkM (by decide), by decide⟩)
  have : four.length = 4 := rfl
  omega
set_option maxRecDepth 10000 in
set_option maxHeartbeats 4000000 in
theorem begun_call (w : World) : Calls Tryz.prog 8 #[] w fun e w' => e = .returned (.bool true) ∧ Below w.heap.size w w' := by
  have H23 : Hid (∀ w, Calls Tryz.prog 24 #[] w fun e w' => ∃ (vo : Option Addr) (vc : Nat), e = .returned (.agg #[.int .i64 4, .slice vo ring4.length vc]) ∧ EdgesAt w' (.slice vo ring4.length vc) ring4 ∧ Below w.heap.size w w') := ring4_call
  have H7 : Hid (∀ (W : World) (vo : Option Addr) (vc : Nat), EdgesAt W (.slice vo ring4.length vc) ring4 → Calls Tryz.prog 21 #[.agg #[.int .i64 4, .slice vo ring4.length vc]] W fun r w' => ∃ (po : Option Addr) (pc : Nat), r = .returned (.tuple #[.slice none 0 0, .slice po 4 pc, .agg #[.int .i64 0, .int .i64 0]]) ∧ Below W.heap.size W w') := fun W vo vc h => by
    refine (order_ok (N := 4) h ring4_chk).mono ?_
    rintro r w' ⟨⟨O, oo, oc, rfl, _, ho⟩ | ⟨l, po, pc, rfl, _, ho⟩, hb⟩
    · exact (ring4_ord ho).elim
    · rw [ring4_hole ho]
      exact ⟨po, pc, rfl, hb⟩
  have H14 : Hid (∀ (W : World) (vo : Option Addr) (vc : Nat), EdgesAt W (.slice vo ring4.length vc) ring4 → Calls Tryz.prog 25 #[.agg #[.int .i64 4, .slice vo ring4.length vc]] W fun r w' => ∃ (po : Option Addr) (pc : Nat), r = .returned (.tuple #[.slice po 4 pc, .agg #[.int .i64 0, .int .i64 0]]) ∧ Below W.heap.size W w') := fun W vo vc h => by
    refine (cliq_ok (N := 4) h ring4_chk (by omega) (by omega)).mono ?_
    rintro r w' ⟨⟨v, rfl, v', Ls, L, e, h1, h2, _, h4⟩, hb⟩
    injection e with e
    subst e
    obtain ⟨po, pc, rfl⟩ := h1.form
    rw [h2.length_eq, ring4_four h4]
    exact ⟨po, pc, rfl, hb⟩
  go_enter Tryz.func8, Tryz.ntmps8
  go_upto_region 2 with (first | (go_at_call 24; refine Calls.mono (H23.out _) ?_; rintro e W1 ⟨vo, vc, rfl, he1, hb1⟩) | (go_at_call 21; refine Calls.mono (H7.out _ _ _ he1) ?_; rintro e W2 ⟨po, pc, rfl, hb2⟩) | go_in)
  have t3 := two_new W2 (.int .i64 0) (.int .i64 0) 27
  have hb3 := below_alloc (below_next hb1 hb2) (Obj.cells #[.int .i64 0, .int .i64 0] 27)
  obtain ⟨b3, hb3e⟩ : ∃ b, b = W2.heap.size := ⟨_, rfl⟩
  rw [← hb3e] at t3 ⊢
  generalize W2.alloc (Obj.cells #[.int .i64 0, .int .i64 0] 27) = W3 at t3 hb3 ⊢
  have HT3 : Hid (Two W3 b3 (.int .i64 0) (.int .i64 0) 27) := t3
  have HB3 : Hid (Below w.heap.size w W3) := hb3
  clear he1 hb1 hb2 hb3e t3 hb3 H7
  go_upto_region 3 with (first | (go_at_call 24; refine Calls.mono (H23.out _) ?_; rintro e W4 ⟨vo4, vc4, rfl, he4, hb4⟩) | (go_at_call 25; refine Calls.mono (H14.out _ _ _ he4) ?_; rintro e W5 ⟨po5, pc5, rfl, hb5⟩) | go_in)
  have t5 := two_new W5 (.int .i64 0) (.int .i64 0) 27
  have hb6 := below_alloc (below_next hb4 hb5) (Obj.cells #[.int .i64 0, .int .i64 0] 27)
  obtain ⟨b5, hb5e⟩ : ∃ b, b = W5.heap.size := ⟨_, rfl⟩
  rw [← hb5e] at t5 ⊢
  generalize W5.alloc (Obj.cells #[.int .i64 0, .int .i64 0] 27) = W6 at t5 hb6 ⊢
  have t3' := two_next HT3.out hb6
  have HB6 : Hid (Below w.heap.size w W6) := below_next HB3.out hb6
  clear he4 hb4 hb5 hb5e hb6 H14 H23
  obtain ⟨q0, q1⟩ := cell_two t3'
  obtain ⟨q2, q3⟩ := cell_two t5
  go_wp2
  go_ret
  exact ⟨rfl, HB6.out⟩
end Go.Proofs.YtkkfjfphmlcieaaGreat
