/- drawnTogether: the table. -/
import Derived.Test.YthjkjanibkpgiaaDoorAnyW
namespace Go.Proofs.YthjkjanibkpgiaaDoor
set_option maxRecDepth 8000
open Go.RowKit Go.Maps
attribute [local go_sem ↓] Go.wp_at_zero Go.wp_at_succ
/-- The pieces below m but i that 'about' meets. -/
def drw (ps : Nat → Nat) (about i : Nat) : Nat → Nat
  | 0 => 0
  | j + 1 => drw ps about i j ||| (if j ≠ i ∧ about &&& ps j ≠ 0 then 2 ^ j else 0)
theorem drw_lt (ps : Nat → Nat) (about i : Nat) : ∀ m, drw ps about i m < 2 ^ m
  | 0 => by simp [drw]
  | j + 1 => by
    rw [drw]
    have h1 := drw_lt ps about i j
    have h2 : (2 : Nat) ^ j < 2 ^ (j + 1) := Nat.pow_lt_pow_right (by decide) (by omega)
    refine Nat.or_lt_two_pow (by omega) ?_
    split
    · exact h2
    · exact Nat.two_pow_pos _
/-- The table when row i has been filled in up to j. -/
def drT (near ps : Nat → Nat) (N K i j : Nat) : Nat → Nat := fun v => if v < i then drw ps (anyN near N (ps v)) v K else if v = i then drw ps (anyN near N (ps i)) i j else 0
def drA (near ps : Nat → Nat) (N K : Nat) : Nat → Nat := fun v => drw ps (anyN near N (ps v)) v K
theorem drT_next (near ps : Nat → Nat) (N K i : Nat) : drT near ps N K i K = drT near ps N K (i + 1) 0 := by
  funext v
  unfold drT
  by_cases h : v < i
  · rw [if_pos h, if_pos (by omega)]
  · rw [if_neg h]
    by_cases e : v = i
    · subst e; rw [if_pos rfl, if_pos (by omega)]
    · rw [if_neg e, if_neg (by omega)]
      by_cases e2 : v = i + 1
      · rw [if_pos e2]; rfl
      · rw [if_neg e2]
theorem drT_lt (near ps : Nat → Nat) {N K i j : Nat} (hj : j ≤ K) (v : Nat) : drT near ps N K i j v < 2 ^ K := by
  unfold drT
  split
  · exact drw_lt _ _ _ _
  · split
    · exact Nat.lt_of_lt_of_le (drw_lt _ _ _ _) (Nat.pow_le_pow_right (by decide) hj)
    · exact Nat.two_pow_pos _
theorem drT_skip {near ps : Nat → Nat} {N K i j : Nat} (h : ¬ (j ≠ i ∧ anyN near N (ps i) &&& ps j ≠ 0)) : drT near ps N K i (j + 1) = drT near ps N K i j := by
  funext v
  unfold drT
  rw [drw, if_neg h, Nat.or_zero]
theorem drT_put {near ps : Nat → Nat} {N K i j : Nat} (h : j ≠ i ∧ anyN near N (ps i) &&& ps j ≠ 0) : drT near ps N K i (j + 1) = fun v => if v = i then drT near ps N K i j i ||| 2 ^ j else drT near ps N K i j v := by
  funext v
  unfold drT
  by_cases e : v = i
  · subst e
    rw [if_neg (by omega), if_pos rfl, if_pos rfl, if_neg (by omega), if_pos rfl, drw, if_pos h]
  · rw [if_neg e, if_neg e, if_neg e]
end Go.Proofs.YthjkjanibkpgiaaDoor
