/- Which nodes have a colour, as a number. -/
import Derived.Test.YtdnmoifbkojnlaaDoorSmall
namespace Go.Proofs.YtdnmoifbkojnlaaDoor
open Go.RowKit Go.Maps

/-- The nodes of colour c, as a number. -/
def wmTo (L : List Nat) (c : Nat) : Nat → Nat
  | 0 => 0
  | z + 1 => if L.getD z 0 = c then wmTo L c z ||| 2 ^ z else wmTo L c z
def wm (L : List Nat) (c : Nat) : Nat := wmTo L c L.length
theorem wmTo_bit (L : List Nat) (c : Nat) : ∀ (m z : Nat), (wmTo L c m).testBit z = (decide (z < m) && decide (L.getD z 0 = c))
  | 0, z => by simp [wmTo]
  | m + 1, z => by
    unfold wmTo
    by_cases h : L.getD m 0 = c
    · rw [if_pos h, Nat.testBit_or, wmTo_bit L c m z, Nat.testBit_two_pow]
      by_cases e : z = m
      · subst e
        have : decide (L.getD z 0 = c) = true := decide_eq_true h
        rw [this]; simp
      · have e' : ¬ m = z := fun h => e h.symm
        have : (z < m + 1) ↔ z < m := by omega
        simp [e', this]
    · rw [if_neg h, wmTo_bit L c m z]
      by_cases e : z = m
      · subst e
        have : decide (L.getD z 0 = c) = false := by simpa using h
        rw [this]; simp
      · have : (z < m + 1) ↔ z < m := by omega
        simp [this]
theorem wm_bit (L : List Nat) (c z : Nat) : (wm L c).testBit z = (decide (z < L.length) && decide (L.getD z 0 = c)) := wmTo_bit L c L.length z
theorem wmTo_lt (L : List Nat) (c : Nat) : ∀ m, wmTo L c m < 2 ^ m
  | 0 => by simp [wmTo]
  | m + 1 => by
    have h := wmTo_lt L c m
    have e : 2 ^ (m + 1) = 2 ^ m + 2 ^ m := by rw [Nat.pow_succ]; omega
    unfold wmTo
    split
    · exact Nat.or_lt_two_pow (by omega) (by rw [e]; have := Nat.two_pow_pos m; omega)
    · omega
theorem wm_lt {L : List Nat} (c : Nat) (h : L.length ≤ 24) : wm L c < 16777216 := by
  have h1 := wmTo_lt L c L.length
  have h2 : 2 ^ L.length ≤ 2 ^ 24 := Nat.pow_le_pow_right (by omega) h
  have e : (2 : Nat) ^ 24 = 16777216 := rfl
  unfold wm
  omega
theorem wm_snoc_self (L : List Nat) (c : Nat) : wm (L ++ [c]) c = wm L c ||| 2 ^ L.length := by
  apply Nat.eq_of_testBit_eq
  intro z
  rw [Nat.testBit_or, wm_bit, wm_bit, Nat.testBit_two_pow]
  have hl : (L ++ [c]).length = L.length + 1 := by simp
  rw [hl]
  by_cases e : z = L.length
  · subst e
    rw [getD_last]; simp
  · by_cases h : z < L.length
    · rw [getD_left h]
      have e' : ¬ L.length = z := fun h => e h.symm
      simp [e', h, show z < L.length + 1 by omega]
    · have e' : ¬ L.length = z := fun h => e h.symm
      simp [e', h, show ¬ z < L.length + 1 by omega]
theorem wm_snoc_ne (L : List Nat) {c d : Nat} (hne : d ≠ c) : wm (L ++ [c]) d = wm L d := by
  apply Nat.eq_of_testBit_eq
  intro z
  rw [wm_bit, wm_bit]
  have hl : (L ++ [c]).length = L.length + 1 := by simp
  rw [hl]
  by_cases e : z = L.length
  · subst e
    rw [getD_last]
    simp
    exact fun e => hne e.symm
  · by_cases h : z < L.length
    · rw [getD_left h]
      simp [h, show z < L.length + 1 by omega]
    · simp [h, show ¬ z < L.length + 1 by omega]
theorem wm_back (L : List Nat) (c : Nat) (h : L.length ≤ 24) : (wm (L ++ [c]) c) &&& (4294967295 - 2 ^ L.length) = wm L c := by
  apply Nat.eq_of_testBit_eq
  intro z
  have hp : 2 ^ L.length < 2 ^ 32 := Nat.pow_lt_pow_right (by omega) (by omega)
  have e : 4294967295 - 2 ^ L.length = 2 ^ 32 - (2 ^ L.length + 1) := by
    have : (2 : Nat) ^ 32 = 4294967296 := rfl
    omega
  rw [Nat.testBit_and, e, Nat.testBit_two_pow_sub_succ hp, wm_snoc_self, Nat.testBit_or, Nat.testBit_two_pow, wm_bit]
  by_cases e : z = L.length
  · subst e; simp
  · have e' : ¬ L.length = z := fun h => e h.symm
    by_cases h2 : z < L.length
    · simp [e', h2, show z < 32 by omega]
    · simp [e', h2]
theorem mask_ok {adj : Nat → Nat → Bool} {L : List Nat} {c m : Nat} (hm : ∀ z, m.testBit z = adj L.length z) : (wm L c &&& m = 0) ↔ okC adj L c = true := by
  rw [okC_iff]
  constructor
  · intro h w hw ha e
    have h1 : (wm L c &&& m).testBit w = true := by rw [Nat.testBit_and, wm_bit, hm, ha, decide_eq_true hw, decide_eq_true e]; rfl
    rw [h] at h1
    simp at h1
  · intro h
    apply Nat.eq_of_testBit_eq
    intro z
    rw [Nat.testBit_and, wm_bit, hm, Nat.zero_testBit]
    by_cases hz : z < L.length
    · cases ha : adj L.length z with
      | false => simp
      | true =>
        rw [decide_eq_false (h z hz ha)]; simp
    · simp [hz]
end Go.Proofs.YtdnmoifbkojnlaaDoor
