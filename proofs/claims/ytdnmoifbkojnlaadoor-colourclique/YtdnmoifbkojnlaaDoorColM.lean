/- Colourings one node behind the other, in which no colour comes ahead of a lesser one. -/
import Derived.Test.YtdnmoifbkojnlaaDoorRows
namespace Go.Proofs.YtdnmoifbkojnlaaDoor

section
variable {σ : Type}
/-- May the next node have colour c? -/
def okC (adj : Nat → Nat → Bool) (L : List Nat) (c : Nat) : Bool := (List.range L.length).all fun w => !(adj L.length w && L.getD w 0 == c)
/-- The colours of one node, one behind the other. -/
def lpC (adj : Nat → Nat → Bool) (L : List Nat) (used : Nat) (go : List Nat → Nat → σ → Bool × σ) : List Nat → σ → Bool × σ
  | [], s => (false, s)
  | c :: cs, s => if okC adj L c then (if (go (L ++ [c]) (max used (c + 1)) s).1 then (true, (go (L ++ [c]) (max used (c + 1)) s).2) else lpC adj L used go cs (go (L ++ [c]) (max used (c + 1)) s).2) else lpC adj L used go cs s
/-- All colourings with at most k colours, until one is enough: r nodes are left. -/
def trC (k : Nat) (adj : Nat → Nat → Bool) (step : List Nat → Nat → σ → Bool × σ) : Nat → List Nat → Nat → σ → Bool × σ
  | 0, L, used, s => step L used s
  | r + 1, L, used, s => lpC adj L used (trC k adj step r) (List.range (min (used + 1) k)) s
theorem okC_iff {adj : Nat → Nat → Bool} {L : List Nat} {c : Nat} : okC adj L c = true ↔ ∀ w, w < L.length → adj L.length w = true → L.getD w 0 ≠ c := by
  unfold okC
  rw [List.all_eq_true]
  constructor
  · intro h w hw ha e
    have := h w (List.mem_range.2 hw)
    simp [ha] at this
    exact this (by simpa using e)
  · intro h w hw
    have := h w (List.mem_range.1 hw)
    cases ha : adj L.length w with
    | false => simp
    | true =>
      have := this ha
      simp
      simpa using this
/-- A list of colours below k, different where there are edges. -/
structure Prop' (k : Nat) (adj : Nat → Nat → Bool) (L : List Nat) : Prop where
  lt : ∀ i, i < L.length → L.getD i 0 < k
  ne : ∀ i j, i < L.length → j < i → adj i j = true → L.getD i 0 ≠ L.getD j 0
theorem getD_left {L : List Nat} {c i : Nat} (h : i < L.length) : (L ++ [c]).getD i 0 = L.getD i 0 := by
  simp [List.getD_eq_getElem?_getD, List.getElem?_append_left h]
theorem getD_last {L : List Nat} {c : Nat} : (L ++ [c]).getD L.length 0 = c := by
  simp [List.getD_eq_getElem?_getD]
theorem prop_nil (k : Nat) (adj : Nat → Nat → Bool) : Prop' k adj [] := ⟨fun _ h => absurd h (Nat.not_lt_zero _), fun _ _ h => absurd h (Nat.not_lt_zero _)⟩
theorem Prop'.snoc {k : Nat} {adj : Nat → Nat → Bool} {L : List Nat} {c : Nat} (h : Prop' k adj L) (hc : c < k) (ho : okC adj L c = true) : Prop' k adj (L ++ [c]) := by
  have hl : (L ++ [c]).length = L.length + 1 := by simp
  refine ⟨fun i hi => ?_, fun i j hi hj ha => ?_⟩
  · by_cases e : i = L.length
    · subst e; rw [getD_last]; exact hc
    · rw [getD_left (by omega)]; exact h.lt i (by omega)
  · by_cases e : i = L.length
    · subst e
      rw [getD_last, getD_left hj]
      exact fun e => okC_iff.1 ho j hj ha e.symm
    · rw [getD_left (by omega), getD_left (by omega)]
      exact h.ne i j (by omega) hj ha
/-- The state that takes the first colouring. -/
def stepF : List Nat → Nat → Option (List Nat) → Bool × Option (List Nat) := fun L _ _ => (true, some L)
theorem lpC_true {adj : Nat → Nat → Bool} {L : List Nat} {used : Nat} {go : List Nat → Nat → σ → Bool × σ} {P : σ → Prop} : ∀ (cs : List Nat) (s : σ), (∀ c ∈ cs, okC adj L c = true → ∀ s, (go (L ++ [c]) (max used (c + 1)) s).1 = true → P (go (L ++ [c]) (max used (c + 1)) s).2) → (lpC adj L used go cs s).1 = true → P (lpC adj L used go cs s).2
  | [], s, _, h => by simp [lpC] at h
  | c :: cs, s, hP, h => by
    unfold lpC at h ⊢
    by_cases ho : okC adj L c = true
    · rw [if_pos ho] at h ⊢
      by_cases hg : (go (L ++ [c]) (max used (c + 1)) s).1 = true
      · rw [if_pos hg]; exact hP c (List.mem_cons_self) ho s hg
      · rw [if_neg hg] at h ⊢
        exact lpC_true cs _ (fun c' hc' => hP c' (List.mem_cons_of_mem _ hc')) h
    · rw [if_neg ho] at h ⊢
      exact lpC_true cs _ (fun c' hc' => hP c' (List.mem_cons_of_mem _ hc')) h
theorem trC_proper {k n : Nat} {adj : Nat → Nat → Bool} : ∀ (r : Nat) (L : List Nat) (used : Nat) (s : Option (List Nat)), r + L.length = n → Prop' k adj L → (trC k adj stepF r L used s).1 = true → ∃ M, (trC k adj stepF r L used s).2 = some M ∧ M.length = n ∧ Prop' k adj M
  | 0, L, used, s, hr, hp, _ => ⟨L, rfl, by omega, hp⟩
  | r + 1, L, used, s, hr, hp, h => by
    unfold trC at h ⊢
    refine lpC_true (P := fun s => ∃ M, s = some M ∧ M.length = n ∧ Prop' k adj M) _ s (fun c hc ho s' h' => ?_) h
    have hc' : c < k := by have := List.mem_range.1 hc; omega
    exact trC_proper r (L ++ [c]) _ s' (by simp; omega) (hp.snoc hc' ho) h'
theorem lpC_some {adj : Nat → Nat → Bool} {L : List Nat} {used : Nat} {go : List Nat → Nat → σ → Bool × σ} : ∀ (cs : List Nat) (s : σ) (c : Nat), c ∈ cs → okC adj L c = true → (∀ s, (go (L ++ [c]) (max used (c + 1)) s).1 = true) → (lpC adj L used go cs s).1 = true
  | [], _, _, h, _, _ => by cases h
  | d :: cs, s, c, hc, ho, hg => by
    unfold lpC
    by_cases hd : okC adj L d = true
    · rw [if_pos hd]
      by_cases hg' : (go (L ++ [d]) (max used (d + 1)) s).1 = true
      · rw [if_pos hg']
      · rw [if_neg hg']
        rcases List.mem_cons.1 hc with rfl | hc
        · exact absurd (hg s) hg'
        · exact lpC_some cs _ c hc ho hg
    · rw [if_neg hd]
      rcases List.mem_cons.1 hc with rfl | hc
      · exact absurd ho hd
      · exact lpC_some cs _ c hc ho hg
/-- As many colours as there are nodes do. -/
theorem trC_all {k : Nat} {adj : Nat → Nat → Bool} : ∀ (r : Nat) (L : List Nat) (used : Nat) (s : Option (List Nat)), (∀ i, i < L.length → L.getD i 0 < used) → used + r ≤ k → (trC k adj stepF r L used s).1 = true
  | 0, _, _, _, _, _ => rfl
  | r + 1, L, used, s, hl, hk => by
    unfold trC
    refine lpC_some _ s used (List.mem_range.2 (by omega)) (okC_iff.2 (fun w hw _ e => by have := hl w hw; omega)) (fun s' => ?_)
    have hm : max used (used + 1) = used + 1 := by omega
    rw [hm]
    refine trC_all r (L ++ [used]) (used + 1) s' (fun i hi => ?_) (by omega)
    have hll : (L ++ [used]).length = L.length + 1 := by simp
    by_cases e : i = L.length
    · subst e; rw [getD_last]; omega
    · rw [getD_left (by omega)]; have := hl i (by omega); omega
end
end Go.Proofs.YtdnmoifbkojnlaaDoor
