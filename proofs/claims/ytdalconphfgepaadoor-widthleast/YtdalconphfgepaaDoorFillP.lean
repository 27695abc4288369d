/- The two inner loops of R.Width's literal: all pairs of a list, one after another. -/
import Derived.Test.YtdalconphfgepaaDoorBestM
namespace Go.Proofs.YtdalconphfgepaaDoor
open Classical in
/-- The table with those pairs of the list that the loops have passed at (a, b). -/
noncomputable def fillP (q : Nat → Nat → Bool) (l : List Nat) (a b x y : Nat) : Bool := q x y || decide (∃ i j, j < i ∧ (i < a ∨ (i = a ∧ j < b)) ∧ ((l.getD i 0 = x ∧ l.getD j 0 = y) ∨ (l.getD j 0 = x ∧ l.getD i 0 = y)))
theorem fillP_iff {q : Nat → Nat → Bool} {l : List Nat} {a b x y : Nat} : fillP q l a b x y = true ↔ q x y = true ∨ ∃ i j, j < i ∧ (i < a ∨ (i = a ∧ j < b)) ∧ ((l.getD i 0 = x ∧ l.getD j 0 = y) ∨ (l.getD j 0 = x ∧ l.getD i 0 = y)) := by
  unfold fillP
  rw [Bool.or_eq_true]
  exact or_congr Iff.rfl (@decide_eq_true_iff _ (Classical.propDecidable _))
theorem fillP_zero (q : Nat → Nat → Bool) (l : List Nat) (x y : Nat) : fillP q l 0 0 x y = q x y := by
  rw [Bool.eq_iff_iff, fillP_iff]
  constructor
  · rintro (h | ⟨i, j, h1, h2, _⟩)
    · exact h
    · omega
  · exact Or.inl
theorem fillP_next (q : Nat → Nat → Bool) (l : List Nat) (a x y : Nat) : fillP q l a a x y = fillP q l (a + 1) 0 x y := by
  rw [Bool.eq_iff_iff, fillP_iff, fillP_iff]
  constructor
  · rintro (h | ⟨i, j, h1, h2, h3⟩)
    · exact Or.inl h
    · exact Or.inr ⟨i, j, h1, by omega, h3⟩
  · rintro (h | ⟨i, j, h1, h2, h3⟩)
    · exact Or.inl h
    · exact Or.inr ⟨i, j, h1, by omega, h3⟩
theorem fillP_step (q : Nat → Nat → Bool) (l : List Nat) {a b : Nat} (hb : b < a) (x y : Nat) : (if x = l.getD b 0 ∧ y = l.getD a 0 then true else if x = l.getD a 0 ∧ y = l.getD b 0 then true else fillP q l a b x y) = fillP q l a (b + 1) x y := by
  rw [Bool.eq_iff_iff]
  rw [fillP_iff (b := b + 1)]
  constructor
  · intro h
    split at h
    · rename_i e
      exact Or.inr ⟨a, b, hb, by omega, Or.inr ⟨e.1.symm, e.2.symm⟩⟩
    · split at h
      · rename_i e
        exact Or.inr ⟨a, b, hb, by omega, Or.inl ⟨e.1.symm, e.2.symm⟩⟩
      · rcases fillP_iff.1 h with h | ⟨i, j, h1, h2, h3⟩
        · exact Or.inl h
        · exact Or.inr ⟨i, j, h1, by omega, h3⟩
  · intro h
    split
    · rfl
    · split
      · rfl
      · rename_i n1 n2
        rw [fillP_iff]
        rcases h with h | ⟨i, j, h1, h2, h3⟩
        · exact Or.inl h
        · refine Or.inr ⟨i, j, h1, ?_, h3⟩
          rcases h2 with h2 | ⟨rfl, h2⟩
          · exact Or.inl h2
          · by_cases e : j = b
            · subst e
              rcases h3 with h3 | h3
              · exact absurd ⟨h3.1.symm, h3.2.symm⟩ n2
              · exact absurd ⟨h3.1.symm, h3.2.symm⟩ n1
            · exact Or.inr ⟨rfl, by omega⟩
theorem fillP_end (q : Nat → Nat → Bool) {l : List Nat} (hnd : l.Nodup) (x y : Nat) : fillP q l l.length 0 x y = fillQ q l x y := by
  have hg : ∀ i (h : i < l.length), l.getD i 0 = l[i] := fun i h => by simp [List.getD_eq_getElem?_getD, List.getElem?_eq_getElem h]
  have hne : ∀ i j, j < i → i < l.length → l.getD j 0 ≠ l.getD i 0 := fun i j h1 h2 => by
    rw [hg i h2, hg j (by omega)]
    exact List.pairwise_iff_getElem.1 hnd j i (by omega) h2 h1
  have hin : ∀ i, i < l.length → l.getD i 0 ∈ l := fun i h => by rw [hg i h]; exact List.getElem_mem _
  rw [Bool.eq_iff_iff, fillP_iff]
  unfold fillQ
  simp only [Bool.or_eq_true, Bool.and_eq_true, decide_eq_true_eq]
  constructor
  · rintro (h | ⟨i, j, h1, h2, h3⟩)
    · exact Or.inl h
    · have hi : i < l.length := by omega
      refine Or.inr ?_
      rcases h3 with ⟨rfl, rfl⟩ | ⟨rfl, rfl⟩
      · exact ⟨⟨fun e => hne i j h1 hi e.symm, hin i hi⟩, hin j (by omega)⟩
      · exact ⟨⟨fun e => hne i j h1 hi e, hin j (by omega)⟩, hin i hi⟩
  · rintro (h | ⟨⟨h1, h2⟩, h3⟩)
    · exact Or.inl h
    · obtain ⟨i, hi, e1⟩ := List.getElem_of_mem h2
      obtain ⟨j, hj, e2⟩ := List.getElem_of_mem h3
      have hij : i ≠ j := fun e => h1 (by subst e; rw [← e1, ← e2])
      rw [← hg i hi] at e1
      rw [← hg j hj] at e2
      refine Or.inr ?_
      by_cases hl : j < i
      · exact ⟨i, j, hl, Or.inl hi, Or.inl ⟨e1, e2⟩⟩
      · exact ⟨j, i, by omega, Or.inl hj, Or.inr ⟨e1, e2⟩⟩
/-- The list of those near, as its loop makes it. -/
def nlT (q : Nat → Nat → Bool) (o : Nat → Nat) (i j : Nat) : List Nat := ((List.range' (i + 1) (j - (i + 1))).filter fun k => q (o i) (o k)).map o
theorem nlT_zero (q : Nat → Nat → Bool) (o : Nat → Nat) (i : Nat) : nlT q o i (i + 1) = [] := by simp [nlT]
theorem nlT_end (q : Nat → Nat → Bool) (o : Nat → Nat) (i N : Nat) : nlT q o i N = nlO q o N i := rfl
theorem nlT_step (q : Nat → Nat → Bool) (o : Nat → Nat) {i j : Nat} (h : i < j) : nlT q o i (j + 1) = nlT q o i j ++ (if q (o i) (o j) = true then [o j] else []) := by
  unfold nlT
  have e : j + 1 - (i + 1) = (j - (i + 1)) + 1 := by omega
  rw [e, List.range'_1_concat, List.filter_append, List.map_append]
  have e2 : i + 1 + (j - (i + 1)) = j := by omega
  rw [e2]
  congr 1
  by_cases hq : q (o i) (o j) = true <;> simp [hq]
end Go.Proofs.YtdalconphfgepaaDoor
