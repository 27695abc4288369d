/- Colourings one node behind the other, in which no colour comes ahead of a lesser one. openSmall: of each node the set of those that it has an edge with, as a number. Which nodes have a colour, as a number. -/
import Derived.Test.YtdnmoifbkojnlaaGreatRows
import Derived.Laws.BitsAllLaws
import Derived.Laws.Shifts
import Derived.Test.YtdnmoifbkojnlaaGreatKitC
namespace Go.Proofs.YtdnmoifbkojnlaaGreat

section
variable {σ : Type}
/-- May the next node have colour c? -/
def okC (adj : Nat → Nat → Bool) (L : List Nat) (c : Nat) : Bool := (List.range L.length).all fun w => !(adj L.length w && L.getD w 0 == c)
/-- The colours of one node, one behind the other. -/
def lpC (adj : Nat → Nat → Bool) (L : List Nat) (used : Nat) (go : List Nat → Nat → σ → Bool × σ) : List Nat → σ → Bool × σ
  | [], s => (false, s)
  | c :: cs, s => if okC adj L c then (if (go (L ++ [c]) (max used (c + 1)) s).1 then (true, (go (L ++ [c]) (max used (c + 1)) s).2) else lpC adj L used go cs (go (L ++ [c]) (max used (c + 1)) s).2) else lpC adj L used go cs s
/-- All colourings with at most k colours, until one is enough: r nodes are left. -/
def trC (k : Nat) (adj : Nat → Nat → Bool) (step : List Nat → Nat → σ → Bool × σ) : Nat → List Nat → Nat → σ → Bool × σ
  | 0, L, used, s => step L used s
  | r + 1, L, used, s => lpC adj L used (trC k adj step r) (List.range (min (used + 1) k)) s
theorem okC_iff {adj : Nat → Nat → Bool} {L : List Nat} {c : Nat} : okC adj L c = true ↔ ∀ w, w < L.length → adj L.length w = true → L.getD w 0 ≠ c := by
  unfold okC
  rw [List.all_eq_true]
  constructor
  · intro h w hw ha e
    have := h w (List.mem_range.2 hw)
    simp [ha] at this
    exact this (by simpa using e)
  · intro h w hw
    have := h w (List.mem_range.1 hw)
    cases ha : adj L.length w with
    | false => simp
    | true =>
      have := this ha
      simp
      simpa using this
/-- A list of colours below k, different where there are edges. -/
structure Prop' (k : Nat) (adj : Nat → Nat → Bool) (L : List Nat) : Prop where
  lt : ∀ i, i < L.length → L.getD i 0 < k
  ne : ∀ i j, i < L.length → j < i → adj i j = true → L.getD i 0 ≠ L.getD j 0
theorem getD_left {L : List Nat} {c i : Nat} (h : i < L.length) : (L ++ [c]).getD i 0 = L.getD i 0 := by
  simp [List.getD_eq_getElem?_getD, List.getElem?_append_left h]
theorem getD_last {L : List Nat} {c : Nat} : (L ++ [c]).getD L.length 0 = c := by
  simp [List.getD_eq_getElem?_getD]
theorem prop_nil (k : Nat) (adj : Nat → Nat → Bool) : Prop' k adj [] := ⟨fun _ h => absurd h (Nat.not_lt_zero _), fun _ _ h => absurd h (Nat.not_lt_zero _)⟩
theorem Prop'.snoc {k : Nat} {adj : Nat → Nat → Bool} {L : List Nat} {c : Nat} (h : Prop' k adj L) (hc : c < k) (ho : okC adj L c = true) : Prop' k adj (L ++ [c]) := by
  have hl : (L ++ [c]).length = L.length + 1 := by simp
  refine ⟨fun i hi => ?_, fun i j hi hj ha => ?_⟩
  · by_cases e : i = L.length
    · subst e; rw [getD_last]; exact hc
    · rw [getD_left (by omega)]; exact h.lt i (by omega)
  · by_cases e : i = L.length
    · subst e
      rw [getD_last, getD_left hj]
      exact fun e => okC_iff.1 ho j hj ha e.symm
    · rw [getD_left (by omega), getD_left (by omega)]
      exact h.ne i j (by omega) hj ha
/-- The state that takes the first colouring. -/
def stepF : List Nat → Nat → Option (List Nat) → Bool × Option (List Nat) := fun L _ _ => (true, some L)
theorem lpC_true {adj : Nat → Nat → Bool} {L : List Nat} {used : Nat} {go : List Nat → Nat → σ → Bool × σ} {P : σ → Prop} : ∀ (cs : List Nat) (s : σ), (∀ c ∈ cs, okC adj L c = true → ∀ s, (go (L ++ [c]) (max used (c + 1)) s).1 = true → P (go (L ++ [c]) (max used (c + 1)) s).2) → (lpC adj L used go cs s).1 = true → P (lpC adj L used go cs s).2
  | [], s, _, h => by simp [lpC] at h
  | c :: cs, s, hP, h => by
    unfold lpC at h ⊢
    by_cases ho : okC adj L c = true
    · rw [if_pos ho] at h ⊢
      by_cases hg : (go (L ++ [c]) (max used (c + 1)) s).1 = true
      · rw [if_pos hg]; exact hP c (List.mem_cons_self) ho s hg
      · rw [if_neg hg] at h ⊢
        exact lpC_true cs _ (fun c' hc' => hP c' (List.mem_cons_of_mem _ hc')) h
    · rw [if_neg ho] at h ⊢
      exact lpC_true cs _ (fun c' hc' => hP c' (List.mem_cons_of_mem _ hc')) h
theorem trC_proper {k n : Nat} {adj : Nat → Nat → Bool} : ∀ (r : Nat) (L : List Nat) (used : Nat) (s : Option (List Nat)), r + L.length = n → Prop' k adj L → (trC k adj stepF r L used s).1 = true → ∃ M, (trC k adj stepF r L used s).2 = some M ∧ M.length = n ∧ Prop' k adj M
  | 0, L, used, s, hr, hp, _ => ⟨L, rfl, by omega, hp⟩
  | r + 1, L, used, s, hr, hp, h => by
    unfold trC at h ⊢
    refine lpC_true (P := fun s => ∃ M, s = some M ∧ M.length = n ∧ Prop' k adj M) _ s (fun c hc ho s' h' => ?_) h
    have hc' : c < k := by have := List.mem_range.1 hc; omega
    exact trC_proper r (L ++ [c]) _ s' (by simp; omega) (hp.snoc hc' ho) h'
theorem lpC_some {adj : Nat → Nat → Bool} {L : List Nat} {used : Nat} {go : List Nat → Nat → σ → Bool × σ} : ∀ (cs : List Nat) (s : σ) (c : Nat), c ∈ cs → okC adj L c = true → (∀ s, (go (L ++ [c]) (max used (c + 1)) s).1 = true) → (lpC adj L used go cs s).1 = true
  | [], _, _, h, _, _ => by cases h
  | d :: cs, s, c, hc, ho, hg => by
    unfold lpC
    by_cases hd : okC adj L d = true
    · rw [if_pos hd]
      by_cases hg' : (go (L ++ [d]) (max used (d + 1)) s).1 = true
      · rw [if_pos hg']
      · rw [if_neg hg']
        rcases List.mem_cons.1 hc with rfl | hc
        · exact absurd (hg s) hg'
        · exact lpC_some cs _ c hc ho hg
    · rw [if_neg hd]
      rcases List.mem_cons.1 hc with rfl | hc
      · exact absurd ho hd
      · exact lpC_some cs _ c hc ho hg
/-- As many colours as there are nodes do. -/
theorem trC_all {k : Nat} {adj : Nat → Nat → Bool} : ∀ (r : Nat) (L : List Nat) (used : Nat) (s : Option (List Nat)), (∀ i, i < L.length → L.getD i 0 < used) → used + r ≤ k → (trC k adj stepF r L used s).1 = true
  | 0, _, _, _, _, _ => rfl
  | r + 1, L, used, s, hl, hk => by
    unfold trC
    refine lpC_some _ s used (List.mem_range.2 (by omega)) (okC_iff.2 (fun w hw _ e => by have := hl w hw; omega)) (fun s' => ?_)
    have hm : max used (used + 1) = used + 1 := by omega
    rw [hm]
    refine trC_all r (L ++ [used]) (used + 1) s' (fun i hi => ?_) (by omega)
    have hll : (L ++ [used]).length = L.length + 1 := by simp
    by_cases e : i = L.length
    · subst e; rw [getD_last]; omega
    · rw [getD_left (by omega)]; have := hl i (by omega); omega
end
end Go.Proofs.YtdnmoifbkojnlaaGreat

namespace Go.Proofs.YtdnmoifbkojnlaaGreat
open Go.RowKit Go.Maps
attribute [local go_sem ↓] Go.wp_at_zero Go.wp_at_succ

def nearStep (v : Nat) (a : Nat) (e : Pair) : Nat := if e.1 = v then a ||| 2 ^ e.2.toNat else if e.2 = v then a ||| 2 ^ e.1.toNat else a
def nearN (L : List Pair) (v : Nat) : Nat := L.foldl (nearStep v) 0
theorem nearN_snoc (L : List Pair) (e : Pair) (v : Nat) : nearN (L ++ [e]) v = nearStep v (nearN L v) e := by simp [nearN, List.foldl_append]
theorem hasB_snoc2 (L : List Pair) (e : Pair) (u v : Int) : hasB (L ++ [e]) u v = (hasB L u v || ((e.1 == u && e.2 == v) || (e.1 == v && e.2 == u))) := by simp [hasB, List.any_append]
theorem snoc_ind {α : Type} {P : List α → Prop} (h0 : P []) (h1 : ∀ l a, P l → P (l ++ [a])) : ∀ l, P l := fun l => by
  have key : ∀ r : List α, P r.reverse := fun r => by
    induction r with
    | nil => exact h0
    | cons a r ih => rw [List.reverse_cons]; exact h1 _ _ ih
  have := key l.reverse
  rwa [List.reverse_reverse] at this
theorem nearN_bit {N : Nat} (v : Nat) : ∀ (L : List Pair), (∀ e ∈ L, (0 ≤ e.1 ∧ e.1 < (N : Int) ∧ 0 ≤ e.2 ∧ e.2 < (N : Int)) ∧ e.1 ≠ e.2) → ∀ z : Nat, (nearN L v).testBit z = hasB L v z := fun L => by
  refine snoc_ind (P := fun L => (∀ e ∈ L, (0 ≤ e.1 ∧ e.1 < (N : Int) ∧ 0 ≤ e.2 ∧ e.2 < (N : Int)) ∧ e.1 ≠ e.2) → ∀ z : Nat, (nearN L v).testBit z = hasB L v z) ?_ ?_ L
  · intro _ z; simp [nearN, hasB]
  · intro L e ih hg z
    have ih' := ih (fun e' he' => hg e' (by simp [he'])) z
    obtain ⟨⟨g1, g2, g3, g4⟩, g5⟩ := hg e (by simp)
    rw [nearN_snoc, hasB_snoc2, ← ih']
    unfold nearStep
    by_cases e1 : e.1 = v
    · have e2 : ¬ e.2 = v := fun h => g5 (e1.trans h.symm)
      rw [if_pos e1, Nat.testBit_or, Nat.testBit_two_pow]
      have b1 : (e.1 == (v : Int)) = true := by simpa using e1
      have b2 : (e.2 == (v : Int)) = false := by simpa using e2
      rw [b1, b2]
      congr 1
      rw [Bool.eq_iff_iff]
      simp
      omega
    · have b1 : (e.1 == (v : Int)) = false := by simpa using e1
      rw [if_neg e1, b1]
      by_cases e2 : e.2 = v
      · have b2 : (e.2 == (v : Int)) = true := by simpa using e2
        rw [if_pos e2, b2, Nat.testBit_or, Nat.testBit_two_pow]
        congr 1
        rw [Bool.eq_iff_iff]
        simp
        omega
      · have b2 : (e.2 == (v : Int)) = false := by simpa using e2
        rw [if_neg e2, b2]
        simp
theorem nearN_lt {N : Nat} (v : Nat) {L : List Pair} (hg : ∀ e ∈ L, (0 ≤ e.1 ∧ e.1 < (N : Int) ∧ 0 ≤ e.2 ∧ e.2 < (N : Int)) ∧ e.1 ≠ e.2) : nearN L v < 2 ^ N := by
  refine Nat.lt_pow_two_of_testBit _ fun z hz => ?_
  rw [nearN_bit v L hg z]
  cases h : hasB L v z with
  | false => rfl
  | true =>
    exfalso
    unfold hasB at h
    obtain ⟨e, he, hh⟩ := List.any_eq_true.1 h
    obtain ⟨⟨g1, g2, g3, g4⟩, g5⟩ := hg e he
    simp at hh
    omega
theorem Tryz.info115 : (Tryz.prog.info? 115).map (fun i => (i.zero, i.size, i.bytes)) = some (some (.int .u32 0), 1, 4) := by kernel_rfl
theorem make83 (N : Nat) (hN : N ≤ 1000) (w : World) : (Instr.makeSlice 83 (.int .i64 (N : Int)) (.int .i64 (N : Int))).run Tryz.prog w = .ok (.slice (some ⟨w.heap.size, 0, none⟩) N N) (w.alloc (.cells (rep N (.int .u32 0)) 115)) := by
  obtain ⟨i3, hi3, hy0, hy1, hy2⟩ := info_parts Tryz.info115
  have hr := run_make (P := Tryz.prog) w 83 115 i3 (.int .u32 0) Tryz.underlying83 hi3 hy0 .i64 .i64 N N (by omega) (Int.le_refl _) (by rw [hy2]; omega) (by omega)
  simpa [hy1, Value.cells] using hr
theorem pow_lt32 {v : Nat} (h : v < 32) : 2 ^ v < 4294967296 := by
  have : 2 ^ v < 2 ^ 32 := Nat.pow_lt_pow_right (by omega) h
  simpa using this
set_option maxHeartbeats 400000 in
theorem only_call {w : World} {v : Nat} (hv : v < 32) : Calls Tryz.prog 73 #[.int .i64 (v : Int)] w fun e w' => e = .returned (.int .u32 ((2 ^ v : Nat) : Int)) ∧ w' = w := by
  have hp := pow_lt32 hv
  have e : (2 : Int) ^ v % 4294967296 = ((2 ^ v : Nat) : Int) := by
    have e2 : (2 : Int) ^ v = ((2 ^ v : Nat) : Int) := by push_cast; rfl
    rw [e2]
    generalize 2 ^ v = P at hp ⊢
    omega
  have HE : Hid ((2 : Int) ^ v % 4294967296 = ((2 ^ v : Nat) : Int)) := e
  clear e hp
  go_enter Tryz.func73, Tryz.ntmps73
  go_wp2
  go_ret
  exact ⟨by rw [← HE.out]; rfl, rfl⟩
/-- What openSmall tells. -/
def smallF (n : Int) (es : List Pair) (most : Int) : Int × Int := if (chk n es).1 = 0 then (if n > most then (2, 0) else (0, 0)) else chk n es
theorem rowV_next {w w' : World} {b n : Nat} {t : TypeId} {f : Nat → Value} (h : RowV w b t n f) (hb : Below w.heap.size w w') : RowV w' b t n f := h.block (hb.block _ h.lt)

set_option maxRecDepth 4000 in
set_option maxHeartbeats 4000000 in
theorem openSmall_bad {w : World} {v : Value} {n : Int} {es : List Pair} {most : Nat} (hE : EdgesAt w v es) {c d : Int} (hs : smallF n es most = (c, d)) (hc : c ≠ 0) :
    Calls Tryz.prog 45 #[.agg #[.int .i64 n, v], .int .i64 (most : Int)] w fun e w' => e = .returned (.tuple #[.slice none 0 0, .agg #[.int .i64 c, .int .i64 d]]) ∧ Below w.heap.size w w' := by
  obtain ⟨vo, vc, rfl⟩ := hE.form
  have HE : Hid (EdgesAt w (.slice vo es.length vc) es) := hE
  obtain ⟨p, q, hpq⟩ : ∃ p q, chk n es = (p, q) := ⟨_, _, rfl⟩
  have H40 : Hid (∀ W, Below w.heap.size w W → Calls Tryz.prog 30 #[.agg #[.int .i64 n, .slice vo es.length vc]] W fun e w' => e = .returned (.agg #[.int .i64 p, .int .i64 q]) ∧ Below W.heap.size W w') := fun W hW => check_as (hE.below hW) hpq
  unfold smallF at hs
  rw [hpq] at hs
  clear hE hpq
  go_enter Tryz.func45, Tryz.ntmps45
  go_upto_region 1 with (fail)
  have t2 : Two ((w.alloc (Obj.cells #[.int .i64 n, .slice vo es.length vc] 24)).alloc (Obj.cells #[.int .i64 0, .int .i64 0] 27)) w.heap.size (.int .i64 n) (.slice vo es.length vc) 24 := two_alloc (two_new w _ _ _) _
  have t5 : Two ((w.alloc (Obj.cells #[.int .i64 n, .slice vo es.length vc] 24)).alloc (Obj.cells #[.int .i64 0, .int .i64 0] 27)) (w.heap.size + 1) (.int .i64 0) (.int .i64 0) 27 := two_nxt _ _ _ _ _
  have hB0 : Below w.heap.size w ((w.alloc (Obj.cells #[.int .i64 n, .slice vo es.length vc] 24)).alloc (Obj.cells #[.int .i64 0, .int .i64 0] 27)) := below2 _ _
  obtain ⟨b2, hb2⟩ : ∃ b, b = w.heap.size := ⟨_, rfl⟩
  obtain ⟨b5, hb5⟩ : ∃ b, b = w.heap.size + 1 := ⟨_, rfl⟩
  rw [← hb2] at t2
  rw [← hb5] at t5
  rw [← hb5, ← hb2]
  generalize ((w.alloc (Obj.cells #[.int .i64 n, .slice vo es.length vc] 24)).alloc (Obj.cells #[.int .i64 0, .int .i64 0] 27)) = W0 at t2 t5 hB0 ⊢
  have hlow : w.heap.size ≤ b5 := by omega
  obtain ⟨q0, q1⟩ := cell_two t2
  clear hb2 hb5
  go_upto_region 2 with (first | (go_at_call 30; refine (H40.out _ hB0).mono ?_; rintro e W1 ⟨rfl, hb1⟩) | go_in)
  clear q0 q1
  have hb1a := below_alloc hb1 (Obj.cells #[.int .i64 p, .int .i64 q] 27)
  have t6 := two_new W1 (.int .i64 p) (.int .i64 q) 27
  have t51 := two_next t5 hb1a
  have t21 := two_next t2 hb1a
  have hB1 := below_next hB0 hb1a
  obtain ⟨b6, hb6⟩ : ∃ b, b = W1.heap.size := ⟨_, rfl⟩
  rw [← hb6] at t6 ⊢
  generalize W1.alloc (Obj.cells #[.int .i64 p, .int .i64 q] 27) = W2 at t6 t51 t21 hB1 ⊢
  obtain ⟨q0, q1⟩ := cell_two t6
  obtain ⟨q2, q3⟩ := cell_two t51
  obtain ⟨q4, q5⟩ := cell_two t21
  have ff := free_two t51
  clear hb1 hb1a hb6 t2 t5 hB0 H40
  by_cases hp : p = 0
  · rw [if_pos hp] at hs
    have k1 : (p != 0) = false := by simp [hp]
    have hm : n > (most : Int) := by
      apply Classical.byContradiction
      intro h
      rw [if_neg h] at hs
      cases hs
      exact hc rfl
    rw [if_pos hm] at hs
    cases hs
    clear hp
    go_wp2
    have x9 := two_setN (x' := .int .i64 2) (y' := .int .i64 0) t51
    have hB9 := (hB1.setCell (p := ⟨b5, 0, none⟩) hlow (.int .i64 2)).setCell (p := ⟨b5, 1, none⟩) hlow (.int .i64 0)
    generalize ((W2.setCell ⟨b5, 0, none⟩ (.int .i64 2)).setCell ⟨b5, 1, none⟩ (.int .i64 0)) = W9 at x9 hB9 ⊢
    obtain ⟨n8, n81⟩ := cell_two x9
    refine bodyPost_ret (v := .tuple #[.slice none 0 0, .agg #[.int .i64 2, .int .i64 0]]) ?_ rfl ⟨rfl, hB9⟩
    simp [results, Tryz.results45, go_sem, n8, n81]
  · rw [if_neg hp] at hs
    cases hs
    have k1 : (c != 0) = true := by simp [hp]
    clear hp hc
    go_upto_region 3 with (fail)
    go_region
    all_goals
      go_wp2
      have x9 := two_setN (x' := .int .i64 c) (y' := .int .i64 d) t51
      have hB9 := (hB1.setCell (p := ⟨b5, 0, none⟩) hlow (.int .i64 c)).setCell (p := ⟨b5, 1, none⟩) hlow (.int .i64 d)
      generalize ((W2.setCell ⟨b5, 0, none⟩ (.int .i64 c)).setCell ⟨b5, 1, none⟩ (.int .i64 d)) = W9 at x9 hB9 ⊢
      have z9 : Two W9.drew b5 (.int .i64 c) (.int .i64 d) 27 := x9
      obtain ⟨n8, n81⟩ := cell_two z9
      refine bodyPost_ret (v := .tuple #[.slice none 0 0, .agg #[.int .i64 c, .int .i64 d]]) ?_ rfl ⟨rfl, hB9.drew⟩
      simp [results, Tryz.results45, go_sem, n8, n81]

set_option maxRecDepth 4000 in
set_option maxHeartbeats 4000000 in
theorem openSmall_ok {w : World} {v : Value} {N : Nat} {es : List Pair} {most : Nat} (hE : EdgesAt w v es) (hs : (chk N es).1 = 0) (hN : N ≤ most) (h24 : N ≤ 24) :
    Calls Tryz.prog 45 #[.agg #[.int .i64 (N : Int), v], .int .i64 (most : Int)] w fun e w' => ∃ gn, e = .returned (.tuple #[sl gn N, .agg #[.int .i64 0, .int .i64 0]]) ∧ w.heap.size ≤ gn ∧ RowV w' gn 115 N (fun i => .int .u32 ((nearN es i : Nat) : Int)) ∧ Below w.heap.size w w' := by
  obtain ⟨vo, vc, rfl⟩ := hE.form
  obtain ⟨hchk, _, _, hl, hg⟩ := chk_good hs
  have H40 : Hid (∀ W, Below w.heap.size w W → Calls Tryz.prog 30 #[.agg #[.int .i64 (N : Int), .slice vo es.length vc]] W fun e w' => e = .returned (.agg #[.int .i64 0, .int .i64 0]) ∧ Below W.heap.size W w') := fun W hW => check_as (hE.below hW) hchk
  have hEc : ∀ k x y : Nat, es[k]? = some ((x : Int), (y : Int)) → ∃ b off, vo = some ⟨b, off, none⟩ ∧ w.cell? ⟨b, off + k * 2, none⟩ = some (.int .i64 (x : Int)) ∧ w.cell? ⟨b, off + k * 2 + 1, none⟩ = some (.int .i64 (y : Int)) := fun k x y hk => by
    obtain ⟨ao, cap, e, _, _, hc⟩ := hE
    cases e
    obtain ⟨h1, h2⟩ := List.getElem?_eq_some_iff.1 hk
    obtain ⟨b, off, e1, c0, c1⟩ := hc k h1
    rw [h2] at c0 c1
    exact ⟨b, off, e1, c0, c1⟩
  have HEC : Hid (∀ k x y : Nat, es[k]? = some ((x : Int), (y : Int)) → ∃ b off, vo = some ⟨b, off, none⟩ ∧ w.cell? ⟨b, off + k * 2, none⟩ = some (.int .i64 (x : Int)) ∧ w.cell? ⟨b, off + k * 2 + 1, none⟩ = some (.int .i64 (y : Int))) := hEc
  have HG : Hid (∀ e ∈ es, (0 ≤ e.1 ∧ e.1 < (N : Int) ∧ 0 ≤ e.2 ∧ e.2 < (N : Int)) ∧ e.1 ≠ e.2) := hg
  have hm : ¬ (N : Int) > (most : Int) := by omega
  have hmk := make83 N (by omega)
  clear hE hEc hg hs hchk
  go_enter Tryz.func45, Tryz.ntmps45
  go_upto_region 1 with (fail)
  have t2 : Two ((w.alloc (Obj.cells #[.int .i64 (N : Int), .slice vo es.length vc] 24)).alloc (Obj.cells #[.int .i64 0, .int .i64 0] 27)) w.heap.size (.int .i64 (N : Int)) (.slice vo es.length vc) 24 := two_alloc (two_new w _ _ _) _
  have t5 : Two ((w.alloc (Obj.cells #[.int .i64 (N : Int), .slice vo es.length vc] 24)).alloc (Obj.cells #[.int .i64 0, .int .i64 0] 27)) (w.heap.size + 1) (.int .i64 0) (.int .i64 0) 27 := two_nxt _ _ _ _ _
  have hB0 : Below w.heap.size w ((w.alloc (Obj.cells #[.int .i64 (N : Int), .slice vo es.length vc] 24)).alloc (Obj.cells #[.int .i64 0, .int .i64 0] 27)) := below2 _ _
  obtain ⟨b2, hb2⟩ : ∃ b, b = w.heap.size := ⟨_, rfl⟩
  obtain ⟨b5, hb5⟩ : ∃ b, b = w.heap.size + 1 := ⟨_, rfl⟩
  rw [← hb2] at t2
  rw [← hb5] at t5
  rw [← hb5, ← hb2]
  generalize ((w.alloc (Obj.cells #[.int .i64 (N : Int), .slice vo es.length vc] 24)).alloc (Obj.cells #[.int .i64 0, .int .i64 0] 27)) = W0 at t2 t5 hB0 ⊢
  have hlow : w.heap.size ≤ b5 := by omega
  obtain ⟨q0, q1⟩ := cell_two t2
  clear hb2 hb5
  go_upto_region 2 with (first | (go_at_call 30; refine (H40.out _ hB0).mono ?_; rintro e W1 ⟨rfl, hb1⟩) | go_in)
  clear q0 q1
  have hb1a := below_alloc hb1 (Obj.cells #[.int .i64 0, .int .i64 0] 27)
  have t6 := two_new W1 (.int .i64 0) (.int .i64 0) 27
  have t51 := two_next t5 hb1a
  have t21 := two_next t2 hb1a
  have hB1 := below_next hB0 hb1a
  obtain ⟨b6, hb6⟩ : ∃ b, b = W1.heap.size := ⟨_, rfl⟩
  rw [← hb6] at t6 ⊢
  generalize W1.alloc (Obj.cells #[.int .i64 0, .int .i64 0] 27) = W2 at t6 t51 t21 hB1 ⊢
  obtain ⟨q0, q1⟩ := cell_two t6
  obtain ⟨q4, q5⟩ := cell_two t21
  clear hb1 hb1a hb6 t2 t5 hB0 H40
  go_upto_region 7 with (fail)
  have hdm : decide (most < N) = false := by simp; omega
  rw [hdm]
  obtain ⟨gn, hgn⟩ : ∃ g, g = W2.heap.size := ⟨_, rfl⟩
  have hr0 : RowV (W2.alloc (Obj.cells (rep N (.int .u32 0)) 115)) gn 115 N (fun _ => .int .u32 0) := by rw [hgn]; exact rowV_rep (heap_alloc_new _ _)
  have hb2a : Below W2.heap.size W2 (W2.alloc (Obj.cells (rep N (.int .u32 0)) 115)) := below_alloc (Below.refl _ _) _
  have t22 := two_next t21 hb2a
  have t52 := two_next t51 hb2a
  have hB2 := below_next hB1 hb2a
  have hgn1 : w.heap.size ≤ gn := by have := hB1.size; omega
  have hgn5 : b5 ≠ gn := by have := lt_of_block t51; omega
  rw [← hgn]
  generalize W2.alloc (Obj.cells (rep N (.int .u32 0)) 115) = W3 at hr0 hb2a t22 t52 hB2 ⊢
  have HR0 : Hid (RowV W3 gn 115 N (fun _ => .int .u32 0)) := hr0
  have HT5 : Hid (Two W3 b5 (.int .i64 0) (.int .i64 0) 27) := t52
  have hb53 := lt_of_block t52
  have hg3 := hr0.lt
  obtain ⟨q4, q5⟩ := cell_two t22
  clear t6 t51 t21 q0 q1 hmk hgn hb2a t52 hr0 t22 hB1
  go_wp2
  clear q4 q5
  go_loopw [27] (fun i wr => ∃ k : Nat, k ≤ es.length ∧ i = .int .i64 (k : Int) ∧ RowV wr gn 115 N (fun i => .int .u32 ((nearN (es.take k) i : Nat) : Int)) ∧ Turns (fun x => x = gn) W3 wr) (fun i _ => es.length - (numOf i).toNat)
  case atStart => exact ⟨0, by omega, rfl, HR0.out.congr (fun j _ => by simp [nearN]), Turns.refl _ _⟩
  case round =>
    clear HR0
    obtain ⟨k, hk, rfl, hrow, ht⟩ := hrel
    have hB : Below w.heap.size w wr := Turns.below hB2 ht hB2.size (fun x hx => by omega)
    by_cases hkl : k < es.length
    · obtain ⟨⟨g1, g2, g3, g4⟩, g5⟩ := HG.out es[k] (List.getElem_mem hkl)
      obtain ⟨x, hx⟩ : ∃ x : Nat, es[k].1 = x := ⟨es[k].1.toNat, by omega⟩
      obtain ⟨y, hy⟩ : ∃ y : Nat, es[k].2 = y := ⟨es[k].2.toNat, by omega⟩
      have hxN : x < N := by omega
      have hyN : y < N := by omega
      have hxy : x ≠ y := fun e => g5 (by rw [hx, hy, e])
      have hek : es[k]? = some ((x : Int), (y : Int)) := by rw [List.getElem?_eq_getElem hkl, ← hx, ← hy]
      obtain ⟨b, off, rfl, cx0, cy0⟩ := HEC.out k x y hek
      have cx := (hB.cell (by exact World.block_lt_of_cell? w _ cx0)).trans cx0
      have cy := (hB.cell (by exact World.block_lt_of_cell? w _ cy0)).trans cy0
      obtain ⟨a, ha⟩ : ∃ a, a = nearN (es.take k) x := ⟨_, rfl⟩
      obtain ⟨c, hc⟩ : ∃ c, c = nearN (es.take k) y := ⟨_, rfl⟩
      have hgt : ∀ e ∈ es.take k, (0 ≤ e.1 ∧ e.1 < (N : Int) ∧ 0 ≤ e.2 ∧ e.2 < (N : Int)) ∧ e.1 ≠ e.2 := fun e he => HG.out e (List.mem_of_mem_take he)
      have p24 : 2 ^ N ≤ 16777216 := by have : 2 ^ N ≤ 2 ^ 24 := Nat.pow_le_pow_right (by omega) h24; simpa using this
      have hal : a < 4294967296 := by have := nearN_lt x hgt; rw [← ha] at this; omega
      have hcl : c < 4294967296 := by have := nearN_lt y hgt; rw [← hc] at this; omega
      have hpx := pow_lt32 (v := x) (by omega)
      have hpy := pow_lt32 (v := y) (by omega)
      have i1 : (0 : Int) ≤ (k : Int) := by omega
      have i2 : (k : Int) < (es.length : Int) := by omega
      have j1 : (0 : Int) ≤ (x : Int) := by omega
      have j2 : (x : Int) < (N : Int) := by omega
      have j3 : (0 : Int) ≤ (y : Int) := by omega
      have j4 : (y : Int) < (N : Int) := by omega
      obtain ⟨a1, ha1⟩ : ∃ a1, a1 = a ||| 2 ^ y := ⟨_, rfl⟩
      obtain ⟨c1, hc1⟩ : ∃ c1, c1 = c ||| 2 ^ x := ⟨_, rfl⟩
      have q1 : bits BinOp.or IntKind.u32 (a : Int) ((2 ^ y : Nat) : Int) = (a1 : Int) := by rw [u32_or_nat a _ hal hpy, ha1]
      have q2 : bits BinOp.or IntKind.u32 (c : Int) ((2 ^ x : Nat) : Int) = (c1 : Int) := by rw [u32_or_nat c _ hcl hpx, hc1]
      obtain ⟨py, hpyd⟩ : ∃ p, p = 2 ^ y := ⟨_, rfl⟩
      obtain ⟨px, hpxd⟩ : ∃ p, p = 2 ^ x := ⟨_, rfl⟩
      rw [← hpyd] at q1
      rw [← hpxd] at q2
      have H41y : Hid (∀ W, Calls Tryz.prog 73 #[.int .i64 (y : Int)] W fun e w' => e = .returned (.int .u32 (py : Int)) ∧ w' = W) := fun W => by rw [hpyd]; exact only_call (by omega)
      have H41x : Hid (∀ W, Calls Tryz.prog 73 #[.int .i64 (x : Int)] W fun e w' => e = .returned (.int .u32 (px : Int)) ∧ w' = W) := fun W => by rw [hpxd]; exact only_call (by omega)
      have hnext : ∀ W, RowV W gn 115 N (fun i => .int .u32 ((nearN (es.take k) i : Nat) : Int)) → ∀ W', W' = (W.setCell ⟨gn, x, none⟩ (.int .u32 (a1 : Int))) → RowV W' gn 115 N (fun i => if i = x then .int .u32 (a1 : Int) else .int .u32 ((nearN (es.take k) i : Nat) : Int)) := fun W h W' e => by rw [e]; exact h.set x _
      have hlast : ∀ W, RowV W gn 115 N (fun i => if i = x then .int .u32 (a1 : Int) else .int .u32 ((nearN (es.take k) i : Nat) : Int)) → RowV (W.setCell ⟨gn, y, none⟩ (.int .u32 (c1 : Int))) gn 115 N (fun i => .int .u32 ((nearN (es.take (k + 1)) i : Nat) : Int)) := fun W h => (h.set y (.int .u32 (c1 : Int))).congr (fun j hj => by
        rw [List.take_succ_eq_append_getElem hkl, nearN_snoc]
        unfold nearStep
        rw [hx, hy]
        by_cases e1 : j = y
        · subst e1
          have : ¬ (x : Int) = (j : Int) := by omega
          rw [if_neg this, if_pos rfl]
          simp [hc1, hc]
        · by_cases e2 : j = x
          · subst e2
            rw [if_pos rfl]
            simp [e1, ha1, ha]
          · have n1 : ¬ (x : Int) = (j : Int) := by omega
            have n2 : ¬ (y : Int) = (j : Int) := by omega
            rw [if_neg n1, if_neg n2]
            simp [e1, e2])
      have HNEXT : Hid (∀ W, RowV W gn 115 N (fun i => .int .u32 ((nearN (es.take k) i : Nat) : Int)) → ∀ W', W' = (W.setCell ⟨gn, x, none⟩ (.int .u32 (a1 : Int))) → RowV W' gn 115 N (fun i => if i = x then .int .u32 (a1 : Int) else .int .u32 ((nearN (es.take k) i : Nat) : Int))) := hnext
      have HLAST : Hid (∀ W, RowV W gn 115 N (fun i => if i = x then .int .u32 (a1 : Int) else .int .u32 ((nearN (es.take k) i : Nat) : Int)) → RowV (W.setCell ⟨gn, y, none⟩ (.int .u32 (c1 : Int))) gn 115 N (fun i => .int .u32 ((nearN (es.take (k + 1)) i : Nat) : Int))) := hlast
      have HAC : Hid (a = nearN (es.take k) x ∧ c = nearN (es.take k) y) := ⟨ha, hc⟩
      have HXY : Hid (x ≠ y) := hxy
      clear hnext hlast ha hc hgt hek hx hy cx0 cy0 ha1 hc1 hal hcl hpx hpy p24 hpyd hpxd g1 g2 g3 g4 g5 hxy
      go_upto_region 10 with (fail)
      have tb := two_new wr (.int .i64 (x : Int)) (.int .i64 (y : Int)) 42
      have hbA : Below wr.heap.size wr (wr.alloc (Obj.cells #[.int .i64 (x : Int), .int .i64 (y : Int)] 42)) := below_alloc (Below.refl _ _) _
      obtain ⟨be, hbe⟩ : ∃ b, b = wr.heap.size := ⟨_, rfl⟩
      have hrA := rowV_next hrow hbA
      have hbeg : be ≠ gn := by have := hrow.lt; omega
      rw [← hbe] at tb ⊢
      generalize wr.alloc (Obj.cells #[.int .i64 (x : Int), .int .i64 (y : Int)] 42) = WA at tb hbA hrA ⊢
      have htA := ht.trans (Turns.of_below hbA _)
      obtain ⟨e0, e1⟩ := cell_two tb
      have r1 := hrA.cell hxN
      have f1 := hrA.free x
      rw [← HAC.out.1] at r1
      have HRA : Hid (RowV WA gn 115 N (fun i => .int .u32 ((nearN (es.take k) i : Nat) : Int))) := hrA
      clear cx cy hrow ht hbA hbe hrA hB
      go_cut [] from 31 to 40 (fun wd => RowV wd gn 115 N (fun i => if i = x then .int .u32 (a1 : Int) else .int .u32 ((nearN (es.take k) i : Nat) : Int)) ∧ Turns (fun x => x = gn) WA wd)
      case first =>
        go_region_with ((go_at_call 73; (with_reducible refine Calls.mono (H41y.out _) ?_); rintro e Wx ⟨rfl, hWx⟩; rw [hWx]; clear hWx))
        all_goals
          go_wp2_with fail
          go_meet
          case rel => exact ⟨id (HNEXT.out WA HRA.out (WA.setCell ⟨gn, x, none⟩ (.int .u32 (a1 : Int))) rfl), (setCell_turns WA gn x _).trans (Turns.of_below (Below.refl _ _).drew _)⟩
      case rest =>
        obtain ⟨hrB, htB⟩ := hcut
        have tbB := two_turns tb htB hbeg
        obtain ⟨e0, e1⟩ := cell_two tbB
        have r2 := hrB.cell hyN
        have f2 := hrB.free y
        have hyx : ¬ y = x := fun e => HXY.out e.symm
        rw [if_neg hyx, ← HAC.out.2] at r2
        have HRB : Hid (RowV wc gn 115 N (fun i => if i = x then .int .u32 (a1 : Int) else .int .u32 ((nearN (es.take k) i : Nat) : Int))) := hrB
        have htC := htA.trans htB
        clear e0 r1 f1 HRA hrB htA tb q1
        obtain ⟨e0, _⟩ := cell_two tbB
        go_upto_region 11 with (fail)
        have hrC := HLAST.out wc HRB.out
        have HRC : Hid (RowV (wc.setCell ⟨gn, y, none⟩ (.int .u32 (c1 : Int))).drew gn 115 N (fun i => .int .u32 ((nearN (es.take (k + 1)) i : Nat) : Int))) := hrC
        have htE : Turns (fun x => x = gn) W3 (wc.setCell ⟨gn, y, none⟩ (.int .u32 (c1 : Int))).drew := (htC.trans (setCell_turns wc gn y _)).trans (Turns.of_below (Below.refl _ _).drew _)
        clear hrC
        go_region_with ((go_at_call 73; (with_reducible refine Calls.mono (H41x.out _) ?_); rintro e Wx ⟨rfl, hWx⟩; rw [hWx]; clear hWx))
        all_goals
          go_wp2
          go_roundw
          case rel => exact ⟨k + 1, by omega, by go_num, HRC.out, htE⟩
          case measure => simp [numOf]; omega
    · have hke : es.length = k := by omega
      have i2 : ¬ (k : Int) < (es.length : Int) := by omega
      have HR : Hid (RowV wr gn 115 N (fun i => .int .u32 ((nearN es i : Nat) : Int))) := hrow.congr (fun j _ => by rw [← hke, List.take_length])
      have t5r := two_turns HT5.out ht (fun e => hgn5 e)
      have ff := free_two t5r
      obtain ⟨q0, q1⟩ := cell_two t5r
      clear hrow hke
      go_wp2
      have x9 := two_setN (x' := .int .i64 0) (y' := .int .i64 0) t5r
      have hB9 := (hB.setCell (p := ⟨b5, 0, none⟩) hlow (.int .i64 0)).setCell (p := ⟨b5, 1, none⟩) hlow (.int .i64 0)
      have T9 := (setCell_turns wr b5 0 (.int .i64 0)).trans (setCell_turns (wr.setCell ⟨b5, 0, none⟩ (.int .i64 0)) b5 1 (.int .i64 0))
      have r9 := HR.out.turns T9 (fun e => hgn5 e.symm)
      clear T9
      generalize ((wr.setCell ⟨b5, 0, none⟩ (.int .i64 0)).setCell ⟨b5, 1, none⟩ (.int .i64 0)) = W9 at x9 hB9 r9 ⊢
      obtain ⟨n8, n81⟩ := cell_two x9
      refine bodyPost_ret (v := .tuple #[sl gn N, .agg #[.int .i64 0, .int .i64 0]]) ?_ rfl ⟨gn, rfl, hgn1, r9, hB9⟩
      simp [results, Tryz.results45, go_sem, n8, n81]
end Go.Proofs.YtdnmoifbkojnlaaGreat

namespace Go.Proofs.YtdnmoifbkojnlaaGreat
open Go.RowKit Go.Maps

/-- The nodes of colour c, as a number. -/
def wmTo (L : List Nat) (c : Nat) : Nat → Nat
  | 0 => 0
  | z + 1 => if L.getD z 0 = c then wmTo L c z ||| 2 ^ z else wmTo L c z
def wm (L : List Nat) (c : Nat) : Nat := wmTo L c L.length
theorem wmTo_bit (L : List Nat) (c : Nat) : ∀ (m z : Nat), (wmTo L c m).testBit z = (decide (z < m) && decide (L.getD z 0 = c))
  | 0, z => by simp [wmTo]
  | m + 1, z => by
    unfold wmTo
    by_cases h : L.getD m 0 = c
    · rw [if_pos h, Nat.testBit_or, wmTo_bit L c m z, Nat.testBit_two_pow]
      by_cases e : z = m
      · subst e
        have : decide (L.getD z 0 = c) = true := decide_eq_true h
        rw [this]; simp
      · have e' : ¬ m = z := fun h => e h.symm
        have : (z < m + 1) ↔ z < m := by omega
        simp [e', this]
    · rw [if_neg h, wmTo_bit L c m z]
      by_cases e : z = m
      · subst e
        have : decide (L.getD z 0 = c) = false := by simpa using h
        rw [this]; simp
      · have : (z < m + 1) ↔ z < m := by omega
        simp [this]
theorem wm_bit (L : List Nat) (c z : Nat) : (wm L c).testBit z = (decide (z < L.length) && decide (L.getD z 0 = c)) := wmTo_bit L c L.length z
theorem wmTo_lt (L : List Nat) (c : Nat) : ∀ m, wmTo L c m < 2 ^ m
  | 0 => by simp [wmTo]
  | m + 1 => by
    have h := wmTo_lt L c m
    have e : 2 ^ (m + 1) = 2 ^ m + 2 ^ m := by rw [Nat.pow_succ]; omega
    unfold wmTo
    split
    · exact Nat.or_lt_two_pow (by omega) (by rw [e]; have := Nat.two_pow_pos m; omega)
    · omega
theorem wm_lt {L : List Nat} (c : Nat) (h : L.length ≤ 24) : wm L c < 16777216 := by
  have h1 := wmTo_lt L c L.length
  have h2 : 2 ^ L.length ≤ 2 ^ 24 := Nat.pow_le_pow_right (by omega) h
  have e : (2 : Nat) ^ 24 = 16777216 := rfl
  unfold wm
  omega
theorem wm_snoc_self (L : List Nat) (c : Nat) : wm (L ++ [c]) c = wm L c ||| 2 ^ L.length := by
  apply Nat.eq_of_testBit_eq
  intro z
  rw [Nat.testBit_or, wm_bit, wm_bit, Nat.testBit_two_pow]
  have hl : (L ++ [c]).length = L.length + 1 := by simp
  rw [hl]
  by_cases e : z = L.length
  · subst e
    rw [getD_last]; simp
  · by_cases h : z < L.length
    · rw [getD_left h]
      have e' : ¬ L.length = z := fun h => e h.symm
      simp [e', h, show z < L.length + 1 by omega]
    · have e' : ¬ L.length = z := fun h => e h.symm
      simp [e', h, show ¬ z < L.length + 1 by omega]
theorem wm_snoc_ne (L : List Nat) {c d : Nat} (hne : d ≠ c) : wm (L ++ [c]) d = wm L d := by
  apply Nat.eq_of_testBit_eq
  intro z
  rw [wm_bit, wm_bit]
  have hl : (L ++ [c]).length = L.length + 1 := by simp
  rw [hl]
  by_cases e : z = L.length
  · subst e
    rw [getD_last]
    simp
    exact fun e => hne e.symm
  · by_cases h : z < L.length
    · rw [getD_left h]
      simp [h, show z < L.length + 1 by omega]
    · simp [h, show ¬ z < L.length + 1 by omega]
theorem wm_back (L : List Nat) (c : Nat) (h : L.length ≤ 24) : (wm (L ++ [c]) c) &&& (4294967295 - 2 ^ L.length) = wm L c := by
  apply Nat.eq_of_testBit_eq
  intro z
  have hp : 2 ^ L.length < 2 ^ 32 := Nat.pow_lt_pow_right (by omega) (by omega)
  have e : 4294967295 - 2 ^ L.length = 2 ^ 32 - (2 ^ L.length + 1) := by
    have : (2 : Nat) ^ 32 = 4294967296 := rfl
    omega
  rw [Nat.testBit_and, e, Nat.testBit_two_pow_sub_succ hp, wm_snoc_self, Nat.testBit_or, Nat.testBit_two_pow, wm_bit]
  by_cases e : z = L.length
  · subst e; simp
  · have e' : ¬ L.length = z := fun h => e h.symm
    by_cases h2 : z < L.length
    · simp [e', h2, show z < 32 by omega]
    · simp [e', h2]
theorem mask_ok {adj : Nat → Nat → Bool} {L : List Nat} {c m : Nat} (hm : ∀ z, m.testBit z = adj L.length z) : (wm L c &&& m = 0) ↔ okC adj L c = true := by
  rw [okC_iff]
  constructor
  · intro h w hw ha e
    have h1 : (wm L c &&& m).testBit w = true := by rw [Nat.testBit_and, wm_bit, hm, ha, decide_eq_true hw, decide_eq_true e]; rfl
    rw [h] at h1
    simp at h1
  · intro h
    apply Nat.eq_of_testBit_eq
    intro z
    rw [Nat.testBit_and, wm_bit, hm, Nat.zero_testBit]
    by_cases hz : z < L.length
    · cases ha : adj L.length z with
      | false => simp
      | true =>
        rw [decide_eq_false (h z hz ha)]; simp
    · simp [hz]
end Go.Proofs.YtdnmoifbkojnlaaGreat
