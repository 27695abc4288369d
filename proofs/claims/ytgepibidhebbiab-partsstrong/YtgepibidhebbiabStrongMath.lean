/- The strong parts in their order: each is that of the least head of what is left. -/
import Derived.Test.YtgepibidhebbiabFirstPart
namespace Go.Proofs.Ytgepibidhebbiab

section
variable {R : Nat → Nat → Bool} {N : Nat} (hr : ∀ i, R i i = true) (ht : ∀ i j k, R i j = true → R j k = true → R i k = true)
include hr ht
theorem head_from {L : Nat → Bool} : ∀ (n v : Nat), ((List.range N).filter fun u => L u && R u v).length ≤ n → v < N → L v = true → ∃ u, u < N ∧ Heads R N L u := by
  intro n
  induction n with
  | zero =>
    intro v h hv hL
    have : v ∈ (List.range N).filter fun u => L u && R u v := List.mem_filter.2 ⟨by simpa using hv, by simp [hL, hr v]⟩
    have := List.length_pos_of_mem this
    omega
  | succ n ih =>
    intro v h hv hL
    by_cases hh : Heads R N L v
    · exact ⟨v, hv, hh⟩
    · have hno : ¬ ∀ u, u < N → L u = true → R u v = true → R v u = true := fun h' => hh ⟨hL, h'⟩
      obtain ⟨u, hu⟩ := Classical.not_forall.1 hno
      have h1 : u < N ∧ L u = true ∧ R u v = true ∧ R v u = false := by
        refine ⟨?_, ?_, ?_, ?_⟩
        · exact Classical.byContradiction fun h' => hu fun a => absurd a h'
        · exact Classical.byContradiction fun h' => hu fun _ a => absurd a h'
        · exact Classical.byContradiction fun h' => hu fun _ _ a => absurd a h'
        · cases h' : R v u
          · rfl
          · exact absurd (fun _ _ _ => h') hu
      obtain ⟨a1, a2, a3, a4⟩ := h1
      refine ih u ?_ a1 a2
      have := filter_lt (l := List.range N) (p := fun x => L x && R x u) (q := fun x => L x && R x v) (fun x _ hx => by
        simp only [Bool.and_eq_true] at hx ⊢
        exact ⟨hx.1, ht _ _ _ hx.2 a3⟩) (y := v) (by simpa using hv) (by simp [a4]) (by simp [hL, hr v])
      omega
/-- While a node is left, there is a least head. -/
theorem head_least {L : Nat → Bool} {v : Nat} (hv : v < N) (hL : L v = true) : ∃ u, u < N ∧ Heads R N L u ∧ ∀ x, x < u → ¬ Heads R N L x := by
  obtain ⟨u, hu, hh⟩ := head_from hr ht _ v (Nat.le_refl _) hv hL
  obtain ⟨x, hx, h1, h2⟩ := least_ex (P := fun x => Heads R N L x) hh
  exact ⟨x, by omega, h1, h2⟩
end

/-- From L on, the parts ls come off, and L' is left. -/
def StrongTo (R : Nat → Nat → Bool) (N : Nat) : (Nat → Bool) → List (List Nat) → (Nat → Bool) → Prop
  | L, [], L' => ∀ x, x < N → L x = L' x
  | L, l :: ls, L' => ∃ v, v < N ∧ Heads R N L v ∧ (∀ u, u < v → ¬ Heads R N L u) ∧ l = mutTo R v N ∧ StrongTo R N (fun x => L x && !decide (x ∈ l)) ls L'

theorem heads_congr {R : Nat → Nat → Bool} {N : Nat} {L L' : Nat → Bool} (h : ∀ x, x < N → L x = L' x) {v : Nat} (hv : v < N) : Heads R N L v ↔ Heads R N L' v := by
  unfold Heads
  rw [h v hv]
  constructor
  · rintro ⟨h1, h2⟩; exact ⟨h1, fun u hu hL => h2 u hu (by rw [h u hu]; exact hL)⟩
  · rintro ⟨h1, h2⟩; exact ⟨h1, fun u hu hL => h2 u hu (by rw [← h u hu]; exact hL)⟩

theorem strongTo_snoc {R : Nat → Nat → Bool} {N v : Nat} {L' : Nat → Bool} (hv : v < N) (hh : Heads R N L' v) (hl : ∀ u, u < v → ¬ Heads R N L' u) {L'' : Nat → Bool} (he : ∀ x, x < N → (L' x && !decide (x ∈ mutTo R v N)) = L'' x) : ∀ (ls : List (List Nat)) (L : Nat → Bool), StrongTo R N L ls L' → StrongTo R N L (ls ++ [mutTo R v N]) L''
  | [], L, h => by
    have h' : ∀ x, x < N → L x = L' x := h
    refine ⟨v, hv, (heads_congr h' hv).2 hh, fun u hu hx => hl u hu ((heads_congr h' (by omega)).1 hx), rfl, fun x hx => ?_⟩
    show (L x && !decide (x ∈ mutTo R v N)) = L'' x
    rw [h' x hx]; exact he x hx
  | l :: ls, L, h => by
    obtain ⟨u, h1, h2, h3, h4, h5⟩ := h
    exact ⟨u, h1, h2, h3, h4, strongTo_snoc hv hh hl he ls _ h5⟩
end Go.Proofs.Ytgepibidhebbiab
