/- What FlowApart looks at: no edge twice, a cut in order, none reached behind it. -/
import Derived.Test.YtkakmaalmhofmaaTab
namespace Go.Proofs.Ytkakmaalmhofmaa
open Go.RowKit Go.Maps

/-- The step from a to b, or back, was taken by a way ahead. -/
def Took (ls : List (List Nat)) (i k a b : Nat) : Prop :=
  ∃ (j m : Nat) (l : List Nat) (x y : Nat), ls[j]? = some l ∧ l[m]? = some x ∧ l[m + 1]? = some y ∧ ((a = x ∧ b = y) ∨ (a = y ∧ b = x)) ∧ (j < i ∨ (j = i ∧ m + 1 < k))
theorem Took.next {ls : List (List Nat)} {i k a b : Nat} (h : Took ls i k a b) : Took ls i (k + 1) a b := by
  obtain ⟨j, m, l, x, y, h1, h2, h3, h4, h5⟩ := h
  exact ⟨j, m, l, x, y, h1, h2, h3, h4, h5.imp id (fun h => ⟨h.1, by omega⟩)⟩
theorem Took.over {ls : List (List Nat)} {i k a b : Nat} (h : Took ls i k a b) : Took ls (i + 1) 1 a b := by
  obtain ⟨j, m, l, x, y, h1, h2, h3, h4, h5⟩ := h
  exact ⟨j, m, l, x, y, h1, h2, h3, h4, Or.inl (by omega)⟩
section
variable {N s t : Nat} {e e' : Nat → Nat → Bool} {ls : List (List Nat)}
theorem Ways.chain {es : Nat → Nat → Nat → Bool} (h2 : ∀ (i : Nat) l, ls[i]? = some l → WayTo N (es i) (es (i + 1)) s t l) : ∀ (n i : Nat), i + n ≤ ls.length → ∀ a b, es (i + n) a b = true → es i a b = true
  | 0, _, _, _, _, h => h
  | n + 1, i, hi, a, b, h => by
    have hl : i + n < ls.length := by omega
    exact Ways.chain h2 n i (by omega) a b ((h2 (i + n) ls[i + n] (List.getElem?_eq_getElem hl)).le a b h)
theorem Ways.fresh (h : Ways N s t e e' ls) (ha : ∀ a b, e a b = true → e b a = false) {i m x y : Nat} {l : List Nat} (hl : ls[i]? = some l) (hx : l[m]? = some x) (hy : l[m + 1]? = some y) : ¬ Took ls i (m + 1) x y := by
  obtain ⟨es, h0, h1, h2⟩ := h
  rintro ⟨j, m', l', x', y', g1, g2, g3, g4, g5⟩
  have hi := (List.getElem?_eq_some_iff.1 hl).1
  have hj := (List.getElem?_eq_some_iff.1 g1).1
  have w1 := h2 i l hl
  have w2 := h2 j l' g1
  have t1 := w1.took m x y hx hy
  have t2 := w2.took m' x' y' g2 g3
  have c1 : e x y = true := by
    have := Ways.chain h2 i 0 (by omega) x y (by rw [Nat.zero_add]; exact t1.1)
    rwa [h0] at this
  have c2 : e x' y' = true := by
    have := Ways.chain h2 j 0 (by omega) x' y' (by rw [Nat.zero_add]; exact t2.1)
    rwa [h0] at this
  rcases g4 with ⟨rfl, rfl⟩ | ⟨rfl, rfl⟩
  · rcases g5 with g5 | ⟨rfl, g5⟩
    · have := Ways.chain h2 (i - (j + 1)) (j + 1) (by omega) x y (by rw [show j + 1 + (i - (j + 1)) = i by omega]; exact t1.1)
      rw [t2.2] at this
      cases this
    · rw [hl] at g1; cases g1
      obtain ⟨p1, p2⟩ := List.getElem?_eq_some_iff.1 hx
      obtain ⟨p3, p4⟩ := List.getElem?_eq_some_iff.1 g2
      exact List.pairwise_iff_getElem.1 w1.nodup m' m p3 p1 (by omega) (by rw [p2, p4])
  · rw [ha _ _ c1] at c2
    cases c2
theorem Ways.way (h : Ways N s t e e' ls) {i : Nat} {l : List Nat} (hl : ls[i]? = some l) : ∃ e1 e2, WayTo N e1 e2 s t l ∧ ∀ a b, e1 a b = true → e a b = true := by
  obtain ⟨es, h0, h1, h2⟩ := h
  have hi := (List.getElem?_eq_some_iff.1 hl).1
  refine ⟨es i, es (i + 1), h2 i l hl, fun a b hab => ?_⟩
  have := Ways.chain h2 i 0 (by omega) a b (by rw [Nat.zero_add]; exact hab)
  rwa [h0] at this
end
theorem WayTo.two {N : Nat} {e e' : Nat → Nat → Bool} {s t : Nat} {L : List Nat} (h : WayTo N e e' s t L) (hst : s ≠ t) : 2 ≤ L.length := by
  have h1 := h.pos
  have h2 := h.head
  have h3 := h.last
  by_cases e : L.length = 1
  · rw [e] at h3
    rw [h2] at h3
    simp at h3
    exact absurd h3 hst
  · omega
theorem WayTo.le_len {N : Nat} {e e' : Nat → Nat → Bool} {s t : Nat} {L : List Nat} (h : WayTo N e e' s t L) : L.length ≤ N := by
  have := nat_nodup_len L (List.range N) h.nodup (fun a ha => by simpa using h.lt a ha)
  simpa using this
theorem ListsAt.at {w : World} {base : Nat} {ao : Option Addr} {n cap : Nat} {ls : List (List Nat)} (h : ListsAt w base (.slice ao n cap) ls) {i : Nat} {l : List Nat} (hl : ls[i]? = some l) : ∃ g lo lc, ao = some ⟨g, 0, none⟩ ∧ w.cell? ⟨g, i, none⟩ = some (.slice lo l.length lc) ∧ NumsAt w lo l := by
  obtain ⟨vs, h1, h2, h3⟩ := h
  have hi := (List.getElem?_eq_some_iff.1 hl).1
  obtain ⟨x, hx⟩ : ∃ x, vs[i]? = some x := ⟨vs[i]'(by omega), List.getElem?_eq_getElem (by omega)⟩
  have hr := h3 i x l hx hl
  obtain ⟨lo, lc, rfl⟩ := form_row hr
  rcases h2.2 with ⟨_, h5⟩ | ⟨g, c, cur, h5, _⟩
  · omega
  · cases h5
    refine ⟨g, lo, lc, rfl, ?_, numsAt_own hr⟩
    have := h2.cells (g := g) rfl i _ hx
    rwa [add_none] at this
theorem ListsAt.below {w w' : World} {base : Nat} {v : Value} {ls : List (List Nat)} (h : ListsAt w base v ls) (hb : Below w.heap.size w w') : ListsAt w' base v ls := h.turns (M := fun _ => False) (Turns.of_below hb _) (fun _ h => h.elim)
/-- Pairs in order. -/
def lexP (a b : Pair) : Prop := a.1 < b.1 ∨ (a.1 = b.1 ∧ a.2 < b.2)
theorem allP_lex (n : Nat) (p : Int → Int → Bool) : (allP n p).Pairwise lexP := by
  unfold allP rowsTo
  rw [List.pairwise_flatMap]
  constructor
  · intro u _
    unfold rowTo
    refine List.Pairwise.map _ (R := fun a b => a < b) (fun a b h => Or.inr ⟨rfl, by simp; omega⟩) (List.Pairwise.filter _ List.pairwise_lt_range)
  · refine List.Pairwise.imp (fun {a b} (h : a < b) => ?_) List.pairwise_lt_range
    intro x hx y hy
    simp [rowTo] at hx hy
    obtain ⟨_, _, rfl⟩ := hx
    obtain ⟨_, _, rfl⟩ := hy
    exact Or.inl (by simp; omega)
/-- What is left of the table when i pairs of a list are taken out. -/
structure LeftI (N : Nat) (es cs : List Pair) (i : Nat) (p : Int → Int → Bool) : Prop where
  sym : ∀ a b : Nat, a < N → b < N → p a b = p b a
  irr : ∀ a : Nat, a < N → p a a = false
  iff : ∀ a b : Nat, a < b → b < N → (p a b = true ↔ hasB es a b = true ∧ ((a : Int), (b : Int)) ∉ cs.take i)
theorem hasB_sym (es : List Pair) (a b : Int) : hasB es a b = hasB es b a := by
  unfold hasB
  congr 1
  funext e
  exact Bool.or_comm _ _
theorem LeftI.start {N : Nat} {es cs : List Pair} (hg : ∀ e ∈ es, e.1 ≠ e.2) : LeftI N es cs 0 (hasB es) where
  sym := fun a b _ _ => hasB_sym es a b
  irr := fun a _ => by
    cases h : hasB es (a : Int) (a : Int)
    · rfl
    · simp only [hasB, List.any_eq_true] at h
      obtain ⟨e, he, h⟩ := h
      simp at h
      have := hg e he
      omega
  iff := fun a b _ _ => by simp
theorem hasB_less {N : Nat} {p : Int → Int → Bool} {c : Pair} {a b : Nat} : hasB (lessL (allP N p) c) a b = true ↔ ∃ u v : Nat, u < v ∧ v < N ∧ p u v = true ∧ ((u : Int), (v : Int)) ≠ c ∧ ((a = u ∧ b = v) ∨ (a = v ∧ b = u)) := by
  unfold hasB lessL
  simp only [List.any_eq_true, List.mem_filter, decide_eq_true_eq, Bool.or_eq_true, Bool.and_eq_true, beq_iff_eq]
  constructor
  · rintro ⟨e, ⟨he, hne⟩, h⟩
    obtain ⟨u, v, h1, h2, h3, rfl⟩ := allP_mem.1 he
    refine ⟨u, v, h1, h2, h3, hne, ?_⟩
    simp at h
    omega
  · rintro ⟨u, v, h1, h2, h3, h4, h5⟩
    refine ⟨((u : Int), (v : Int)), ⟨allP_mem.2 ⟨u, v, h1, h2, h3, rfl⟩, h4⟩, ?_⟩
    simp
    omega
theorem LeftI.step {N : Nat} {es cs : List Pair} {i : Nat} {p : Int → Int → Bool} {c : Pair} (h : LeftI N es cs i p) (hc : cs[i]? = some c) : LeftI N es cs (i + 1) (hasB (lessL (allP N p) c)) where
  sym := fun a b _ _ => hasB_sym _ _ _
  irr := fun a _ => by
    cases hq : hasB (lessL (allP N p) c) (a : Int) (a : Int)
    · rfl
    · obtain ⟨u, v, h1, _, _, _, h5⟩ := hasB_less.1 hq
      omega
  iff := fun a b hab hb => by
    obtain ⟨g1, g2⟩ := List.getElem?_eq_some_iff.1 hc
    rw [hasB_less, List.take_succ_eq_append_getElem g1, g2]
    constructor
    · rintro ⟨u, v, h1, h2, h3, h4, h5⟩
      have e1 : u = a ∧ v = b := by omega
      obtain ⟨rfl, rfl⟩ := e1
      have h6 := (h.iff u v h1 h2).1 h3
      refine ⟨h6.1, fun hm => ?_⟩
      rcases List.mem_append.1 hm with hm | hm
      · exact h6.2 hm
      · simp at hm; exact h4 hm
    · rintro ⟨h1, h2⟩
      refine ⟨a, b, hab, hb, (h.iff a b hab hb).2 ⟨h1, fun hm => h2 (List.mem_append.2 (Or.inl hm))⟩, fun e => h2 (List.mem_append.2 (Or.inr (by simp [e]))), Or.inl ⟨rfl, rfl⟩⟩
theorem LeftI.len {N : Nat} {es cs : List Pair} {i : Nat} {p : Int → Int → Bool} (h : LeftI N es cs i p) : (allP N p).length ≤ es.length := by
  refine Nat.le_trans (nodup_len (allP N p) (allP N (hasB es)) (allP_nodup N p) (fun e he => ?_)) (allP_has_le N es)
  obtain ⟨u, v, h1, h2, h3, rfl⟩ := allP_mem.1 he
  exact allP_mem.2 ⟨u, v, h1, h2, ((h.iff u v h1 h2).1 h3).1, rfl⟩
/-- Behind the cut nothing is reached. -/
theorem LeftI.shut {N s t : Nat} {es : List Pair} {F : Nat → Int} {p : Int → Int → Bool} {n : Nat} (h : LeftI N es (cutL F (allP N (hasB es))) n p) (hn : (cutL F (allP N (hasB es))).length ≤ n) (hs : s < N) (h0 : F s = 0) (ht : F t = -1) : ¬ Star (St N (pn p) (openB (fun _ => false))) s t := by
  intro hst
  have key := Star.closed (e := St N (pn p) (openB (fun _ => false))) (P := fun v => v < N ∧ F v ≠ -1) (fun a b ha hab => by
    refine ⟨hab.1, ?_⟩
    have hp : p a b = true := hab.2.1
    have hb := hab.1
    have hcut : ∀ u v : Nat, u < v → v < N → p u v = true → (F u = -1 ↔ F v = -1) := fun u v h1 h2 h3 => by
      obtain ⟨g1, g2⟩ := (h.iff u v h1 h2).1 h3
      rw [List.take_of_length_le hn] at g2
      have hm : ((u : Int), (v : Int)) ∈ allP N (hasB es) := allP_mem.2 ⟨u, v, h1, h2, g1, rfl⟩
      have hc : cutB F ((u : Int), (v : Int)) = false := by
        cases hq : cutB F ((u : Int), (v : Int))
        · rfl
        · exact absurd (List.mem_filter.2 ⟨hm, hq⟩) g2
      simp [cutB] at hc
      exact hc
    rcases Nat.lt_trichotomy a b with hlt | rfl | hlt
    · exact fun hF => ha.2 ((hcut a b hlt hb hp).2 hF)
    · exact ha.2
    · have hp' : p b a = true := by rw [h.sym b a hb ha.1]; exact hp
      exact fun hF => ha.2 ((hcut b a hlt ha.1 hp').1 hF)) hst ⟨hs, by rw [h0]; omega⟩
  exact key.2 ht
end Go.Proofs.Ytkakmaalmhofmaa
