/- Warshall's table, by the nodes that ways go through. -/
import Derived.Test.YtgepibidhebbiabSetLen
namespace Go.Proofs.Ytgepibidhebbiab

/-- A way leads from a to b through nodes below k. -/
def via (e : Nat → Nat → Bool) : Nat → Nat → Nat → Bool
  | 0, a, b => e a b
  | k + 1, a, b => via e k a b || (via e k a k && via e k k b)
theorem via_up {e : Nat → Nat → Bool} {a b : Nat} (h : e a b = true) : ∀ k, via e k a b = true
  | 0 => h
  | k + 1 => by simp [via, via_up h k]
theorem via_trans {e : Nat → Nat → Bool} : ∀ (k c : Nat), c < k → ∀ a b, via e k a c = true → via e k c b = true → via e k a b = true
  | 0, c, hc, _, _, _, _ => by omega
  | k + 1, c, hc, a, b, h1, h2 => by
    have ih := via_trans (e := e) k
    simp only [via, Bool.or_eq_true, Bool.and_eq_true] at h1 h2 ⊢
    by_cases e1 : c = k
    · subst e1
      have g1 : via e c a c = true := h1.elim id (fun h => h.1)
      have g2 : via e c c b = true := h2.elim id (fun h => h.2)
      exact Or.inr ⟨g1, g2⟩
    · have hk : c < k := by omega
      rcases h1 with h1 | h1
      · rcases h2 with h2 | h2
        · exact Or.inl (ih c hk a b h1 h2)
        · exact Or.inr ⟨ih c hk a k h1 h2.1, h2.2⟩
      · rcases h2 with h2 | h2
        · exact Or.inr ⟨h1.1, ih c hk k b h1.2 h2⟩
        · exact Or.inr ⟨h1.1, h2.2⟩

/-- The table G in round k, in row i, ahead of column j. -/
structure War (N : Nat) (e R G : Nat → Nat → Bool) (k i j : Nat) : Prop where
  sound : ∀ a b, a < N → b < N → G a b = true → R a b = true
  comp : ∀ a b, a < N → b < N → via e k a b = true → G a b = true
  rows : ∀ a b, a < i → a < N → b < N → via e (k + 1) a b = true → G a b = true
  part : ∀ b, b < j → b < N → i < N → via e (k + 1) i b = true → G i b = true

theorem War.start {N : Nat} {e R G : Nat → Nat → Bool} (h : ∀ a b, a < N → b < N → e a b = true → R a b = true) (hg : ∀ a b, a < N → b < N → G a b = e a b) : War N e R G 0 0 0 :=
  ⟨fun a b ha hb hG => h a b ha hb (by rw [← hg a b ha hb]; exact hG), fun a b ha hb hv => by rw [hg a b ha hb]; exact hv, fun a b h => by omega, fun b h => by omega⟩
theorem War.set {N : Nat} {e R G G' : Nat → Nat → Bool} {k i j : Nat} (h : War N e R G k i j) (ht : ∀ i j k, R i j = true → R j k = true → R i k = true) (hk : k < N) (hi : i < N) (hj : j < N)
    (hG : ∀ a b, G' a b = if a = i ∧ b = j then (G i j || (G i k && G k j)) else G a b) : War N e R G' k i (j + 1) := by
  have up : ∀ a b, G a b = true → G' a b = true := fun a b h1 => by
    rw [hG]
    by_cases c : a = i ∧ b = j
    · obtain ⟨rfl, rfl⟩ := c
      simp [h1]
    · rw [if_neg c]; exact h1
  refine ⟨fun a b ha hb h1 => ?_, fun a b ha hb hv => up _ _ (h.comp a b ha hb hv), fun a b h1 ha hb hv => up _ _ (h.rows a b h1 ha hb hv), fun b h1 hb _ hv => ?_⟩
  · rw [hG] at h1
    by_cases c : a = i ∧ b = j
    · rw [if_pos c] at h1
      obtain ⟨rfl, rfl⟩ := c
      simp only [Bool.or_eq_true, Bool.and_eq_true] at h1
      rcases h1 with h1 | h1
      · exact h.sound _ _ ha hb h1
      · exact ht _ _ _ (h.sound _ _ ha hk h1.1) (h.sound _ _ hk hb h1.2)
    · rw [if_neg c] at h1
      exact h.sound _ _ ha hb h1
  · by_cases c : b = j
    · subst c
      rw [hG, if_pos ⟨rfl, rfl⟩]
      simp only [via, Bool.or_eq_true, Bool.and_eq_true] at hv ⊢
      rcases hv with hv | hv
      · exact Or.inl (h.comp _ _ hi hj hv)
      · exact Or.inr ⟨h.comp _ _ hi hk hv.1, h.comp _ _ hk hj hv.2⟩
    · exact up _ _ (h.part b (by omega) hb hi hv)
theorem War.row {N : Nat} {e R G : Nat → Nat → Bool} {k i : Nat} (h : War N e R G k i N) : War N e R G k (i + 1) 0 :=
  ⟨h.sound, h.comp, fun a b h1 ha hb hv => by
    by_cases c : a = i
    · subst c; exact h.part b hb hb ha hv
    · exact h.rows a b (by omega) ha hb hv, fun b h1 => by omega⟩
theorem War.next {N : Nat} {e R G : Nat → Nat → Bool} {k : Nat} (h : War N e R G k N 0) : War N e R G (k + 1) 0 0 :=
  ⟨h.sound, fun a b ha hb hv => h.rows a b ha ha hb hv, fun a b h1 => by omega, fun b h1 => by omega⟩
theorem War.done {N : Nat} {e R G : Nat → Nat → Bool} (h : War N e R G N 0 0) (hd : ∀ a, a < N → e a a = true) {f : Nat → Nat → Bool} (he : ∀ a b, f a b = true → e a b = true) (hR : ∀ v x, R v x = true ↔ Star (St N f allB) v x) {a b : Nat} (ha : a < N) (hb : b < N) : G a b = R a b := by
  rw [Bool.eq_iff_iff]
  refine ⟨h.sound a b ha hb, fun hr => h.comp a b ha hb ?_⟩
  have key : b < N ∧ via e N a b = true := Star.ind (P := fun x => x < N ∧ via e N a x = true) ⟨ha, via_up (hd a ha) N⟩ (fun x y _ hs ih => ⟨hs.1, via_trans N x ih.1 a y ih.2 (via_up (he _ _ hs.2.1) N)⟩) ((hR a b).1 hr)
  exact key.2
end Go.Proofs.Ytgepibidhebbiab
