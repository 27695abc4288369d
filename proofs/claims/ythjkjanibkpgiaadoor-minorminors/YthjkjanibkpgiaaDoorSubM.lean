/- All sets of nodes of a set, in the order in which parts goes through them. -/
import Derived.Test.YthjkjanibkpgiaaDoorBitsP
namespace Go.Proofs.YthjkjanibkpgiaaDoor
/-- The sets whose nodes are nodes of S, rising as numbers. -/
def subsR : Nat → Nat → List Nat
  | 0, _ => [0]
  | k + 1, S => if S % 2 = 1 then (subsR k (S / 2)).flatMap (fun y => [2 * y, 2 * y + 1]) else (subsR k (S / 2)).map (fun y => 2 * y)
/-- What comes behind x. -/
def nxt (S x : Nat) : Nat := ((x + 4294967296 - S) % 4294967296) &&& S
def chainB (S : Nat) : List Nat → Bool
  | [] => false
  | [x] => x == S
  | x :: y :: l => x != S && y == nxt S x && decide (x < y) && chainB S (y :: l)
def goodS (S : Nat) : Bool := chainB S (subsR 10 S) && (subsR 10 S).head? == some 0
theorem goodS_all : ∀ S : Fin 1024, goodS S.val = true := by decide +kernel
theorem subsR_bits : ∀ (k S x : Nat), S < 2 ^ k → (x ∈ subsR k S ↔ x < 2 ^ k ∧ ∀ i, x.testBit i = true → S.testBit i = true)
  | 0, S, x, hS => by
    have h0 : S = 0 := by simpa using hS
    subst h0
    simp only [subsR, List.mem_singleton, Nat.pow_zero]
    constructor
    · rintro rfl; exact ⟨by omega, fun i hi => hi⟩
    · rintro ⟨h, _⟩; omega
  | k + 1, S, x, hS => by
    have hS2 : S / 2 < 2 ^ k := by rw [Nat.pow_succ] at hS; omega
    have ih := fun y => subsR_bits k (S / 2) y hS2
    have bit0 : ∀ n : Nat, n.testBit 0 = decide (n % 2 = 1) := fun n => by simp
    have bits : ∀ n i : Nat, n.testBit (i + 1) = (n / 2).testBit i := fun n i => by simp [Nat.testBit_succ]
    have hx2 : x < 2 ^ (k + 1) ↔ x / 2 < 2 ^ k := by rw [Nat.pow_succ]; omega
    have key : (∀ i, x.testBit i = true → S.testBit i = true) ↔ ((x % 2 = 1 → S % 2 = 1) ∧ ∀ i, (x / 2).testBit i = true → (S / 2).testBit i = true) := by
      constructor
      · intro h
        refine ⟨fun h1 => ?_, fun i hi => ?_⟩
        · have := h 0 (by rw [bit0]; simpa using h1)
          rw [bit0] at this; simpa using this
        · have := h (i + 1) (by rw [bits]; exact hi)
          rwa [bits] at this
      · rintro ⟨h1, h2⟩ i hi
        cases i with
        | zero => rw [bit0] at hi ⊢; simp at hi ⊢; exact h1 hi
        | succ i => rw [bits] at hi ⊢; exact h2 i hi
    rw [key, hx2]
    unfold subsR
    by_cases hs : S % 2 = 1
    · rw [if_pos hs]
      simp only [List.mem_flatMap, List.mem_cons, List.not_mem_nil, or_false]
      constructor
      · rintro ⟨y, hy, h | h⟩
        · have e : x / 2 = y := by omega
          rw [e]; exact ⟨((ih y).1 hy).1, fun _ => hs, ((ih y).1 hy).2⟩
        · have e : x / 2 = y := by omega
          rw [e]; exact ⟨((ih y).1 hy).1, fun _ => hs, ((ih y).1 hy).2⟩
      · rintro ⟨h1, _, h3⟩
        exact ⟨x / 2, (ih _).2 ⟨h1, h3⟩, by omega⟩
    · rw [if_neg hs]
      simp only [List.mem_map]
      constructor
      · rintro ⟨y, hy, h⟩
        have e : x / 2 = y := by omega
        rw [e]; exact ⟨((ih y).1 hy).1, fun h1 => by omega, ((ih y).1 hy).2⟩
      · rintro ⟨h1, h2, h3⟩
        exact ⟨x / 2, (ih _).2 ⟨h1, h3⟩, by have := fun h => hs (h2 h); omega⟩
theorem subsR_mem {S x : Nat} (hS : S < 1024) : x ∈ subsR 10 S ↔ ∀ i, x.testBit i = true → S.testBit i = true := by
  rw [subsR_bits 10 S x hS]
  refine ⟨fun h => h.2, fun h => ⟨?_, h⟩⟩
  apply Nat.lt_pow_two_of_testBit
  intro i hi
  cases e : x.testBit i with
  | false => rfl
  | true =>
    have := h i e
    rw [Nat.testBit_lt_two_pow (Nat.lt_of_lt_of_le hS (show (2 : Nat) ^ 10 ≤ 2 ^ i from Nat.pow_le_pow_right (by decide) hi))] at this
    cases this
theorem chainB_at {S : Nat} : ∀ {pre post : List Nat} {x : Nat}, chainB S (pre ++ x :: post) = true → (x = S ∧ post = []) ∨ (x ≠ S ∧ ∃ post', post = nxt S x :: post' ∧ x < nxt S x)
  | [], [], x, h => by
    simp [chainB] at h
    exact Or.inl ⟨h, rfl⟩
  | [], y :: l, x, h => by
    simp only [List.nil_append, chainB, Bool.and_eq_true, bne_iff_ne, ne_eq, beq_iff_eq, decide_eq_true_eq] at h
    obtain ⟨⟨⟨h1, h2⟩, h3⟩, _⟩ := h
    exact Or.inr ⟨h1, l, by rw [h2], by rw [← h2]; exact h3⟩
  | p :: pre, post, x, h => by
    have : chainB S (pre ++ x :: post) = true := by
      cases pre with
      | nil =>
        simp only [List.cons_append, List.nil_append, chainB, Bool.and_eq_true] at h
        exact h.2
      | cons q pre =>
        simp only [List.cons_append, chainB, Bool.and_eq_true] at h
        exact h.2
    exact chainB_at this
theorem subs_at {S : Nat} (hS : S < 1024) {pre post : List Nat} {x : Nat} (h : subsR 10 S = pre ++ x :: post) : (x = S ∧ post = []) ∨ (x ≠ S ∧ ∃ post', post = nxt S x :: post' ∧ x < nxt S x) := by
  have hg := goodS_all ⟨S, hS⟩
  unfold goodS at hg
  rw [Bool.and_eq_true] at hg
  have := hg.1
  simp only at this
  rw [h] at this
  exact chainB_at this
theorem subs_head {S : Nat} (hS : S < 1024) : ∃ post, subsR 10 S = 0 :: post := by
  have hg := goodS_all ⟨S, hS⟩
  unfold goodS at hg
  rw [Bool.and_eq_true] at hg
  have := hg.2
  simp only at this
  cases e : subsR 10 S with
  | nil => rw [e] at this; cases this
  | cons y l => rw [e] at this; simp at this; exact ⟨l, by rw [this]⟩
theorem sub_lt {S x : Nat} (hS : S < 1024) (hx : x ∈ subsR 10 S) : x < 1024 := ((subsR_bits 10 S x hS).1 hx).1
end Go.Proofs.YthjkjanibkpgiaaDoor
