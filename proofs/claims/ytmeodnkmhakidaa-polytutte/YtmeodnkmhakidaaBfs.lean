/- Going through a graph from a node, level by level: plain mathematics. -/
import Derived.Test.YtmeodnkmhakidaaBlocks
namespace Go.Proofs.Ytmeodnkmhakidaa

/-- A step to a node that is still left. -/
def St (N : Nat) (e : Nat → Nat → Bool) (L : Nat → Bool) (a b : Nat) : Prop := b < N ∧ e a b = true ∧ L b = true

/-- The queue Q, of which the first k have been gone through, and how far each is. -/
structure Bfs (N : Nat) (e : Nat → Nat → Bool) (L : Nat → Bool) (v : Nat) (Q : List Nat) (d : Nat → Nat) (k : Nat) : Prop where
  q0 : Q[0]? = some v
  nd : Q.Nodup
  lt : ∀ q, q ∈ Q → q < N
  star : ∀ q, q ∈ Q → Star (St N e L) v q
  d0 : d v = 0
  par : ∀ q, q ∈ Q → q = v ∨ ∃ p, p ∈ Q ∧ e p q = true ∧ L q = true ∧ d q = d p + 1
  mono : ∀ (i j a b : Nat), i ≤ j → Q[i]? = some a → Q[j]? = some b → d a ≤ d b
  near : ∀ (a b : Nat), Q[k]? = some a → b ∈ Q → d b ≤ d a + 1
  done : ∀ (i a w : Nat), i < k → Q[i]? = some a → w < N → e a w = true → L w = true → w ∈ Q ∧ d w ≤ d a + 1

theorem bfs_start {N : Nat} {e : Nat → Nat → Bool} {L : Nat → Bool} {v : Nat} (hv : v < N) : Bfs N e L v [v] (fun _ => 0) 0 where
  q0 := rfl
  nd := by simp
  lt := by simp; exact hv
  star := by simp; exact .refl _
  d0 := rfl
  par := by simp
  mono := by intros; exact Nat.le_refl _
  near := by intros; omega
  done := by intros; omega

theorem Bfs.push {N : Nat} {e : Nat → Nat → Bool} {L : Nat → Bool} {v : Nat} {Q : List Nat} {d : Nat → Nat} {k u w : Nat} (h : Bfs N e L v Q d k) (hu : Q[k]? = some u) (hw : w < N) (he : e u w = true) (hL : L w = true) (hn : w ∉ Q) :
    Bfs N e L v (Q ++ [w]) (fun x => if x = w then d u + 1 else d x) k := by
  have hk : k < Q.length := (List.getElem?_eq_some_iff.1 hu).1
  have huQ : u ∈ Q := List.mem_of_getElem? hu
  have ne : ∀ x, x ∈ Q → x ≠ w := fun x hx e => hn (e ▸ hx)
  have hvQ : v ∈ Q := List.mem_of_getElem? h.q0
  have old : ∀ x, x ∈ Q → (if x = w then d u + 1 else d x) = d x := fun x hx => if_neg (ne x hx)
  have at_old : ∀ i a, (Q ++ [w])[i]? = some a → (a ∈ Q ∧ Q[i]? = some a) ∨ (a = w ∧ i = Q.length) := by
    intro i a hi
    by_cases hl : i < Q.length
    · rw [List.getElem?_append_left hl] at hi
      exact Or.inl ⟨List.mem_of_getElem? hi, hi⟩
    · rw [List.getElem?_append_right (by omega)] at hi
      by_cases h0 : i - Q.length = 0
      · rw [h0] at hi; simp at hi; exact Or.inr ⟨hi.symm, by omega⟩
      · rw [List.getElem?_eq_none (by simp; omega)] at hi; cases hi
  refine ⟨?_, ?_, ?_, ?_, ?_, ?_, ?_, ?_, ?_⟩
  · rw [List.getElem?_append_left (by omega)]; exact h.q0
  · exact List.nodup_append.2 ⟨h.nd, by simp, fun a ha b hb => by simp at hb; subst hb; exact ne a ha⟩
  · intro q hq; rcases List.mem_append.1 hq with hq | hq
    · exact h.lt q hq
    · simp at hq; subst hq; exact hw
  · intro q hq; rcases List.mem_append.1 hq with hq | hq
    · exact h.star q hq
    · simp at hq; subst hq; exact (h.star u huQ).step ⟨hw, he, hL⟩
  · rw [if_neg (ne v hvQ)]; exact h.d0
  · intro q hq; rcases List.mem_append.1 hq with hq | hq
    · rcases h.par q hq with h1 | ⟨p, h1, h2, h3, h4⟩
      · exact Or.inl h1
      · exact Or.inr ⟨p, by simp [h1], h2, h3, by rw [old q hq, old p h1]; exact h4⟩
    · simp at hq; subst hq
      exact Or.inr ⟨u, by simp [huQ], he, hL, by rw [if_pos rfl, old u huQ]⟩
  · intro i j a b hij hi hj
    rcases at_old i a hi with ⟨ha, ha2⟩ | ⟨rfl, hi2⟩
    · rcases at_old j b hj with ⟨hb, hb2⟩ | ⟨rfl, hj2⟩
      · rw [old a ha, old b hb]; exact h.mono i j a b hij ha2 hb2
      · rw [old a ha, if_pos rfl]; exact h.near u a hu ha
    · rcases at_old j b hj with ⟨hb, hb2⟩ | ⟨rfl, hj2⟩
      · have := (List.getElem?_eq_some_iff.1 hb2).1; omega
      · exact Nat.le_refl _
  · intro a b ha hb
    rw [List.getElem?_append_left hk, hu] at ha
    simp at ha; subst ha
    rw [old u huQ]
    rcases List.mem_append.1 hb with hb | hb
    · rw [old b hb]; exact h.near u b hu hb
    · simp at hb; subst hb; rw [if_pos rfl]; exact Nat.le_refl _
  · intro i a x hi ha hx hex hLx
    rw [List.getElem?_append_left (by omega)] at ha
    have := h.done i a x hi ha hx hex hLx
    exact ⟨by simp [this.1], by rw [old x this.1, old a (List.mem_of_getElem? ha)]; exact this.2⟩

theorem Bfs.next {N : Nat} {e : Nat → Nat → Bool} {L : Nat → Bool} {v : Nat} {Q : List Nat} {d : Nat → Nat} {k u : Nat} (h : Bfs N e L v Q d k) (hu : Q[k]? = some u) (hd : ∀ w, w < N → e u w = true → L w = true → w ∈ Q ∧ d w ≤ d u + 1) : Bfs N e L v Q d (k + 1) := by
  refine ⟨h.q0, h.nd, h.lt, h.star, h.d0, h.par, h.mono, ?_, ?_⟩
  · intro a b ha hb
    have h1 := h.mono k (k + 1) u a (by omega) hu ha
    have h2 := h.near u b hu hb
    omega
  · intro i a w hi ha hw he hL
    by_cases e1 : i = k
    · subst e1; rw [hu] at ha; simp at ha; subst ha; exact hd w hw he hL
    · exact h.done i a w (by omega) ha hw he hL

/-- At the end the queue has just what can be reached. -/
theorem Bfs.reach {N : Nat} {e : Nat → Nat → Bool} {L : Nat → Bool} {v : Nat} {Q : List Nat} {d : Nat → Nat} (h : Bfs N e L v Q d Q.length) (q : Nat) : q ∈ Q ↔ Star (St N e L) v q := by
  refine ⟨h.star q, fun hs => ?_⟩
  refine Star.closed (P := fun x => x ∈ Q) (fun a b ha hab => ?_) hs (List.mem_of_getElem? h.q0)
  obtain ⟨i, hi⟩ := List.mem_iff_getElem?.1 ha
  exact (h.done i a b (List.getElem?_eq_some_iff.1 hi).1 hi hab.1 hab.2.1 hab.2.2).1
theorem Bfs.tri {N : Nat} {e : Nat → Nat → Bool} {L : Nat → Bool} {v : Nat} {Q : List Nat} {d : Nat → Nat} (h : Bfs N e L v Q d Q.length) {a b : Nat} (ha : a ∈ Q) (hab : St N e L a b) : d b ≤ d a + 1 := by
  obtain ⟨i, hi⟩ := List.mem_iff_getElem?.1 ha
  exact (h.done i a b (List.getElem?_eq_some_iff.1 hi).1 hi hab.1 hab.2.1 hab.2.2).2
theorem Bfs.len {N : Nat} {e : Nat → Nat → Bool} {L : Nat → Bool} {v : Nat} {Q : List Nat} {d : Nat → Nat} {k : Nat} (h : Bfs N e L v Q d k) : Q.length ≤ N := by
  have := nat_nodup_len Q (List.range N) h.nd (fun x hx => by simpa using h.lt x hx)
  simpa using this
/-- How far: not farther than there are nodes ahead in the queue. -/
theorem Bfs.far {N : Nat} {e : Nat → Nat → Bool} {L : Nat → Bool} {v : Nat} {Q : List Nat} {d : Nat → Nat} {k : Nat} (h : Bfs N e L v Q d k) : ∀ q, q ∈ Q → d q < N := by
  -- every level up to d q is taken by some node
  have key : ∀ m q, q ∈ Q → d q = m → ∀ j, j ≤ m → ∃ p, p ∈ Q ∧ d p = j := by
    intro m
    induction m with
    | zero => intro q hq hd j hj; exact ⟨q, hq, by omega⟩
    | succ m ih =>
      intro q hq hd j hj
      by_cases e : j = m + 1
      · exact ⟨q, hq, by omega⟩
      · rcases h.par q hq with rfl | ⟨p, hp, _, _, h4⟩
        · rw [h.d0] at hd; omega
        · exact ih p hp (by omega) j (by omega)
  intro q hq
  have h1 := nat_nodup_len (List.range (d q + 1)) (Q.map d) List.nodup_range (fun j hj => by
    obtain ⟨p, hp, e⟩ := key (d q) q hq rfl j (by simp at hj; omega)
    exact List.mem_map.2 ⟨p, hp, e⟩)
  have h2 := h.len
  simp at h1
  omega
end Go.Proofs.Ytmeodnkmhakidaa
