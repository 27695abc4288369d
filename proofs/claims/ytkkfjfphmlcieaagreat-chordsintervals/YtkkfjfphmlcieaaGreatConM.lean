/- Ways through a set of nodes, and how many nodes a set has. -/
import Derived.Test.YtkkfjfphmlcieaaGreatRows
namespace Go.Proofs.YtkkfjfphmlcieaaGreat

/-- A way from x to y through nodes of S. -/
inductive Cn (e : Nat → Nat → Prop) (S : Nat → Prop) (x : Nat) : Nat → Prop
  | refl : S x → Cn e S x x
  | step {y z : Nat} : Cn e S x y → e y z → S z → Cn e S x z
section
variable {e : Nat → Nat → Prop} {S S' : Nat → Prop} {x y z : Nat}
theorem Cn.left (h : Cn e S x y) : S x := by
  induction h with
  | refl h => exact h
  | step _ _ _ ih => exact ih
theorem Cn.right (h : Cn e S x y) : S y := by
  cases h with
  | refl h => exact h
  | step _ _ h => exact h
theorem Cn.trans (h : Cn e S x y) (k : Cn e S y z) : Cn e S x z := by
  induction k with
  | refl _ => exact h
  | step _ h1 h2 ih => exact Cn.step ih h1 h2
theorem Cn.symm (hs : ∀ a b, e a b → e b a) (h : Cn e S x y) : Cn e S y x := by
  induction h with
  | refl h => exact Cn.refl h
  | step h1 h2 h3 ih => exact Cn.trans (Cn.step (Cn.refl h3) (hs _ _ h2) h1.right) ih
theorem Cn.mono (hm : ∀ a, S a → S' a) (h : Cn e S x y) : Cn e S' x y := by
  induction h with
  | refl h => exact Cn.refl (hm _ h)
  | step _ h2 h3 ih => exact Cn.step ih h2 (hm _ h3)
/-- A way keeps off c, or it comes to it. -/
theorem Cn.off {c : Nat} (h : Cn e S x y) (hx : x ≠ c) : Cn e (fun a => S a ∧ a ≠ c) x y ∨ ∃ u, Cn e (fun a => S a ∧ a ≠ c) x u ∧ e u c := by
  induction h with
  | refl h => exact Or.inl (Cn.refl ⟨h, hx⟩)
  | @step y z h1 h2 h3 ih =>
    rcases ih with ih | ih
    · by_cases hz : z = c
      · subst hz; exact Or.inr ⟨y, ih, h2⟩
      · exact Or.inl (Cn.step ih h2 ⟨h3, hz⟩)
    · exact Or.inr ih
theorem Cn.to {c : Nat} (h : Cn e S x c) (hx : x ≠ c) : ∃ u, Cn e (fun a => S a ∧ a ≠ c) x u ∧ e u c := by
  rcases h.off hx with h | h
  · exact absurd rfl h.right.2
  · exact h
/-- The same way, where all of it is in another set too. -/
theorem Cn.also (h : Cn e S x y) (hm : ∀ u, Cn e S x u → S' u) : Cn e (fun a => S a ∧ S' a) x y := by
  induction h with
  | refl h => exact Cn.refl ⟨h, hm _ (Cn.refl h)⟩
  | step h1 h2 h3 ih => exact Cn.step ih h2 ⟨h3, hm _ (Cn.step h1 h2 h3)⟩
end
/-- All of S hangs together. -/
def Hang (e : Nat → Nat → Prop) (S : Nat → Prop) : Prop := ∀ x y, S x → S y → Cn e S x y
noncomputable def szOf (N : Nat) (K : Nat → Prop) : Nat := by
  classical
  exact ((List.range N).filter (fun z => decide (K z))).length
theorem filter_ltB {p q : Nat → Bool} : ∀ (l : List Nat), (∀ z, p z = true → q z = true) → (∃ z, z ∈ l ∧ q z = true ∧ p z = false) → (l.filter p).length < (l.filter q).length
  | [], _, h => by obtain ⟨z, hz, _⟩ := h; simp at hz
  | a :: l, hm, h => by
    obtain ⟨z, hz, h1, h2⟩ := h
    have hle : (l.filter p).length ≤ (l.filter q).length := by
      clear hz h1 h2
      induction l with
      | nil => simp
      | cons b l ih =>
        rw [List.filter_cons, List.filter_cons]
        cases hp : p b with
        | true =>
          rw [hm b hp]
          simp only [if_true, List.length_cons]
          omega
        | false =>
          simp only [Bool.false_eq_true, if_false]
          split
          · simp only [List.length_cons]; omega
          · exact ih
    rw [List.filter_cons, List.filter_cons]
    by_cases hza : z = a
    · subst hza
      rw [h1, h2]
      simp only [if_true, Bool.false_eq_true, if_false, List.length_cons]
      omega
    · have hzl : z ∈ l := by
        rcases List.mem_cons.1 hz with h | h
        · exact absurd h hza
        · exact h
      have ih := filter_ltB l hm ⟨z, hzl, h1, h2⟩
      cases hp : p a with
      | true =>
        rw [hm a hp]
        simp only [if_true, List.length_cons]
        omega
      | false =>
        simp only [Bool.false_eq_true, if_false]
        split
        · simp only [List.length_cons]; omega
        · exact ih
theorem szOf_lt {N : Nat} {K K' : Nat → Prop} (hm : ∀ z, K' z → K z) {z : Nat} (hz : z < N) (h1 : K z) (h2 : ¬ K' z) : szOf N K' < szOf N K := by
  classical
  unfold szOf
  refine filter_ltB _ (fun z hp => ?_) ⟨z, List.mem_range.2 hz, ?_, ?_⟩
  · simp only [decide_eq_true_eq] at hp ⊢
    exact hm z hp
  · simpa using h1
  · simpa using h2
end Go.Proofs.YtkkfjfphmlcieaaGreat
