/- How far the peeling has come. -/
import Derived.Test.YtkkfjfphmlcieaaGreatPeelL
import Derived.Test.YtkkfjfphmlcieaaGreatHoleMN
namespace Go.Proofs.YtkkfjfphmlcieaaGreat
/-- The edges between nodes that are not in O. -/
def offV (adj : Nat → Nat → Bool) (O : List Nat) : Nat → Nat → Bool := fun x y => adj x y && !O.contains x && !O.contains y
theorem offV_true {adj : Nat → Nat → Bool} {O : List Nat} {x y : Nat} : offV adj O x y = true ↔ adj x y = true ∧ x ∉ O ∧ y ∉ O := by
  simp [offV, and_assoc]
theorem offV_sym {adj : Nat → Nat → Bool} (hs : ∀ x y, adj x y = adj y x) (O : List Nat) (x y : Nat) : offV adj O x y = offV adj O y x := by
  rw [Bool.eq_iff_iff, offV_true, offV_true, hs x y]
  constructor
  · rintro ⟨a, b, c⟩; exact ⟨a, c, b⟩
  · rintro ⟨a, b, c⟩; exact ⟨a, c, b⟩
/-- .. of which those from v to some nodes have been taken away too. -/
def offU (e : Nat → Nat → Bool) (v : Nat) (U : List Nat) : Nat → Nat → Bool := fun x y => e x y && !((x == v && U.contains y) || (y == v && U.contains x))
theorem offU_nil (e : Nat → Nat → Bool) (v : Nat) : offU e v [] = e := by funext x y; simp [offU]
theorem offU_snoc (e : Nat → Nat → Bool) (v u : Nat) (U : List Nat) : offE (offU e v U) u v = offU e v (U ++ [u]) := by
  funext x y
  unfold offE offU
  rw [Bool.eq_iff_iff]
  simp only [Bool.and_eq_true, Bool.not_eq_true', Bool.or_eq_false_iff, Bool.and_eq_false_iff, beq_eq_false_iff_ne, List.contains_eq_mem, decide_eq_false_iff_not, List.mem_append, List.mem_singleton, not_or]
  constructor
  · rintro ⟨⟨⟨h1, h2, h3⟩, h4⟩, h5⟩
    refine ⟨h1, ?_, ?_⟩
    · rcases h2 with h2 | h2
      · exact Or.inl h2
      · by_cases e1 : x = v
        · right
          refine ⟨h2, fun e2 => ?_⟩
          rcases h5 with h5 | h5
          · exact h5 e1
          · exact h5 e2
        · exact Or.inl e1
    · rcases h3 with h3 | h3
      · exact Or.inl h3
      · by_cases e1 : y = v
        · right
          refine ⟨h3, fun e2 => ?_⟩
          rcases h4 with h4 | h4
          · exact h4 e2
          · exact h4 e1
        · exact Or.inl e1
  · rintro ⟨h1, h2, h3⟩
    refine ⟨⟨⟨h1, ?_, ?_⟩, ?_⟩, ?_⟩
    · rcases h2 with h2 | h2
      · exact Or.inl h2
      · exact Or.inr h2.1
    · rcases h3 with h3 | h3
      · exact Or.inl h3
      · exact Or.inr h3.1
    · rcases h3 with h3 | h3
      · exact Or.inr h3
      · exact Or.inl h3.2
    · rcases h2 with h2 | h2
      · exact Or.inl h2
      · exact Or.inr h2.2
theorem offU_all {N : Nat} {adj : Nat → Nat → Bool} (hs : ∀ x y, adj x y = adj y x) {O : List Nat} {v : Nat} {U : List Nat} (hU : ∀ x, x < N → (x ∈ U ↔ offV adj O v x = true)) {x y : Nat} (hx : x < N) (hy : y < N) : offU (offV adj O) v U x y = offV adj (O ++ [v]) x y := by
  rw [Bool.eq_iff_iff, offV_true]
  unfold offU
  simp only [Bool.and_eq_true, Bool.not_eq_true', Bool.or_eq_false_iff, Bool.and_eq_false_iff, beq_eq_false_iff_ne, List.contains_eq_mem, decide_eq_false_iff_not, List.mem_append, List.mem_singleton, not_or, offV_true]
  constructor
  · rintro ⟨⟨h1, h2, h3⟩, h4, h5⟩
    refine ⟨h1, ⟨h2, fun e => ?_⟩, h3, fun e => ?_⟩
    · rcases h4 with h4 | h4
      · exact h4 e
      · exact h4 ((hU y hy).2 (offV_true.2 ⟨e ▸ h1, e ▸ h2, h3⟩))
    · rcases h5 with h5 | h5
      · exact h5 e
      · exact h5 ((hU x hx).2 (offV_true.2 ⟨by rw [hs]; exact e ▸ h1, e ▸ h3, h2⟩))
  · rintro ⟨h1, ⟨h2, h3⟩, h4, h5⟩
    exact ⟨⟨h1, h2, h4⟩, Or.inl h3, Or.inl h5⟩
/-- O has gone, in this order; L is left. -/
structure PeelI (N : Nat) (adj : Nat → Nat → Bool) (O L : List Nat) : Prop where
  nd : O.Nodup
  lt : ∀ x ∈ O, x < N
  ndL : L.Nodup
  ltL : ∀ x ∈ L, x < N
  left : ∀ x, x < N → (x ∈ L ↔ x ∉ O)
  ok : ∀ i, i < O.length → ∀ a b, a < N → b < N → a ∉ O.take (i + 1) → b ∉ O.take (i + 1) → adj (O.getD i 0) a = true → adj (O.getD i 0) b = true → a ≠ b → adj a b = true
theorem PeelI.start (N : Nat) (adj : Nat → Nat → Bool) : PeelI N adj [] (List.range N) :=
  ⟨by simp, fun x h => by simp at h, List.nodup_range, fun x h => List.mem_range.1 h, fun x hx => by simp [hx], fun i h => by simp at h⟩
theorem PeelI.step {N : Nat} {adj : Nat → Nat → Bool} {O L : List Nat} (h : PeelI N adj O L) {t : Nat} (ht : t < L.length) (hc : clqB N (offV adj O) (offV adj O (L.getD t 0)) = true) : PeelI N adj (O ++ [L.getD t 0]) (L.eraseIdx t) := by
  have hm := getD_memC ht
  have hvN := h.ltL _ hm
  have hvO := (h.left _ hvN).1 hm
  generalize hv : L.getD t 0 = v at *
  have hget : L[t] = v := by rw [← hv]; simp [List.getD, List.getElem?_eq_getElem ht]
  have her : ∀ x, x ∈ L.eraseIdx t ↔ x ∈ L ∧ x ≠ v := fun x => by
    rw [← hget]
    rw [List.mem_eraseIdx_iff_getElem]
    constructor
    · rintro ⟨i, hi', hne, rfl⟩
      refine ⟨List.getElem_mem _, fun e => ?_⟩
      rcases Nat.lt_trichotomy i t with h1 | h1 | h1
      · exact List.pairwise_iff_getElem.1 h.ndL i t hi' ht h1 e
      · exact hne h1
      · exact List.pairwise_iff_getElem.1 h.ndL t i ht hi' h1 e.symm
    · rintro ⟨hx, hne⟩
      obtain ⟨i, hi', rfl⟩ := List.getElem_of_mem hx
      exact ⟨i, hi', fun e => hne (by subst e; rfl), rfl⟩
  refine ⟨?_, fun x hx => ?_, h.ndL.eraseIdx t, fun x hx => h.ltL x ((her x).1 hx).1, fun x hx => ?_, fun i hil a b ha hb hna hnb h1 h2 hab => ?_⟩
  · rw [List.nodup_append]
    exact ⟨h.nd, by simp, fun x hx y hy e => by rw [List.mem_singleton.1 hy] at e; exact hvO (e ▸ hx)⟩
  · rcases List.mem_append.1 hx with h1 | h1
    · exact h.lt x h1
    · rw [List.mem_singleton.1 h1]; exact hvN
  · rw [her, h.left x hx]
    simp
  · by_cases e : i < O.length
    · rw [getD_pushC e] at h1 h2
      rw [List.take_append_of_le_length (by omega)] at hna hnb
      exact h.ok i e a b ha hb hna hnb h1 h2 hab
    · have hie : i = O.length := by simp at hil; omega
      subst hie
      rw [getD_lastC] at h1 h2
      rw [List.take_of_length_le (by simp)] at hna hnb
      simp only [List.mem_append, List.mem_singleton, not_or] at hna hnb
      have := clqB_true.1 hc a b ha hb (offV_true.2 ⟨h1, hvO, hna.1⟩) (offV_true.2 ⟨h2, hvO, hnb.1⟩) hab
      exact (offV_true.1 this).1
end Go.Proofs.YtkkfjfphmlcieaaGreat
