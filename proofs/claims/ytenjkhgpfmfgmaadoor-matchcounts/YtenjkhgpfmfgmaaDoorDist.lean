/- How far nodes are from one: what tells it, and that only one table does. -/
import Derived.Test.YtenjkhgpfmfgmaaDoorWalk0
import Derived.Test.YtenjkhgpfmfgmaaDoorKeys
namespace Go.Proofs.YtenjkhgpfmfgmaaDoor

/-- o tells how far each node is from v; none: no walk leads there. -/
structure Dist (N : Nat) (e : Nat → Nat → Bool) (v : Nat) (o : Nat → Option Nat) : Prop where
  base : o v = some 0
  par : ∀ x d, x < N → o x = some d → (x = v ∧ d = 0) ∨ ∃ p d', p < N ∧ e p x = true ∧ o p = some d' ∧ d = d' + 1
  tri : ∀ a b d, a < N → b < N → e a b = true → o a = some d → ∃ d', o b = some d' ∧ d' ≤ d + 1

section
variable {N : Nat} {e : Nat → Nat → Bool} {v : Nat} {o o' : Nat → Option Nat}
theorem Dist.le (h : Dist N e v o) (h' : Dist N e v o') : ∀ d x, x < N → o x = some d → ∃ d', o' x = some d' ∧ d' ≤ d := by
  intro d
  induction d with
  | zero =>
    intro x hx hd
    rcases h.par x 0 hx hd with ⟨rfl, _⟩ | ⟨_, _, _, _, _, h0⟩
    · exact ⟨0, h'.base, Nat.le_refl _⟩
    · omega
  | succ d ih =>
    intro x hx hd
    rcases h.par x _ hx hd with ⟨rfl, h0⟩ | ⟨p, d', hp, he, ho, h0⟩
    · omega
    · have : d' = d := by omega
      subst this
      obtain ⟨dp, h1, h2⟩ := ih p hp ho
      obtain ⟨dx, h3, h4⟩ := h'.tri p x dp hp hx he h1
      exact ⟨dx, h3, by omega⟩
/-- There is one such table alone. -/
theorem Dist.same (h : Dist N e v o) (h' : Dist N e v o') {x : Nat} (hx : x < N) : o x = o' x := by
  cases h1 : o x with
  | none =>
    cases h2 : o' x with
    | none => rfl
    | some d =>
      obtain ⟨d', h3, _⟩ := h'.le h d x hx h2
      rw [h1] at h3; cases h3
  | some d =>
    obtain ⟨d', h3, h4⟩ := h.le h' d x hx h1
    obtain ⟨d2, h5, h6⟩ := h'.le h d' x hx h3
    rw [h1] at h5
    cases h5
    rw [h3]
    congr 1
    omega
theorem Dist.star (h : Dist N e v o) : ∀ d x, x < N → o x = some d → Star (St N e allB) v x := by
  intro d
  induction d with
  | zero =>
    intro x hx hd
    rcases h.par x 0 hx hd with ⟨rfl, _⟩ | ⟨_, _, _, _, _, h0⟩
    · exact .refl _
    · omega
  | succ d ih =>
    intro x hx hd
    rcases h.par x _ hx hd with ⟨rfl, h0⟩ | ⟨p, d', hp, he, ho, h0⟩
    · omega
    · have : d' = d := by omega
      subst this
      exact (ih p hp ho).step ⟨hx, he, rfl⟩
theorem Dist.some (h : Dist N e v o) (hv : v < N) {x : Nat} (hs : Star (St N e allB) v x) : ∃ d, o x = some d := by
  have key : x < N ∧ ∃ d, o x = .some d := Star.ind (P := fun y => y < N ∧ ∃ d, o y = .some d) ⟨hv, 0, h.base⟩ (fun a b _ hab ih => by
    obtain ⟨ha, d, hd⟩ := ih
    obtain ⟨d', h1, _⟩ := h.tri a b d ha hab.1 hab.2.1 hd
    exact ⟨hab.1, d', h1⟩) hs
  exact key.2
/-- No node is farther than there are nodes. -/
theorem Dist.lt' (hp : ∀ x d, x < N → o x = .some d → (x = v ∧ d = 0) ∨ ∃ p d', p < N ∧ e p x = true ∧ o p = .some d' ∧ d = d' + 1) {x d : Nat} (hx : x < N) (hd : o x = .some d) : d < N := by
  have key : ∀ d x, x < N → o x = .some d → ∀ j, j ≤ d → ∃ p, p < N ∧ o p = .some j := by
    intro d
    induction d with
    | zero => intro x hx hd j hj; exact ⟨x, hx, by rw [hd]; congr 1; omega⟩
    | succ d ih =>
      intro x hx hd j hj
      by_cases e1 : j = d + 1
      · exact ⟨x, hx, by rw [hd, e1]⟩
      · rcases hp x _ hx hd with ⟨_, h0⟩ | ⟨p, d', h1, _, h2, h3⟩
        · omega
        · have : d' = d := by omega
          subst this
          exact ih p h1 h2 j (by omega)
  have h1 := nat_nodup_len (List.range (d + 1)) ((List.range N).map fun p => (o p).getD 0) List.nodup_range (fun j hj => by
    obtain ⟨p, h2, h3⟩ := key d x hx hd j (by simp at hj; omega)
    exact List.mem_map.2 ⟨p, by simpa using h2, by simp [h3]⟩)
  simp at h1
  omega
theorem Dist.lt (h : Dist N e v o) {x d : Nat} (hx : x < N) (hd : o x = .some d) : d < N := Dist.lt' h.par hx hd
end

/-- The table o while the document's Far goes on: level d, row i, ahead of column j. -/
structure Lev (N : Nat) (e : Nat → Nat → Bool) (v : Nat) (o : Nat → Option Nat) (d i j : Nat) : Prop where
  base : o v = some 0
  par : ∀ x d, x < N → o x = some d → (x = v ∧ d = 0) ∨ ∃ p d', p < N ∧ e p x = true ∧ o p = some d' ∧ d = d' + 1
  top : ∀ x d', x < N → o x = some d' → d' ≤ d + 1
  low : i = 0 → j = 0 → ∀ x d', x < N → o x = some d' → d' ≤ d
  done : ∀ a b d', a < N → b < N → e a b = true → o a = some d' → (d' < d ∨ (d' = d ∧ (a < i ∨ (a = i ∧ b < j)))) → ∃ db, o b = some db ∧ db ≤ d' + 1

section
variable {N : Nat} {e : Nat → Nat → Bool} {v : Nat} {o : Nat → Option Nat} {d i j : Nat}
theorem Lev.start (h : ∀ x, o x = if x = v then some 0 else none) : Lev N e v o 0 0 0 where
  base := by rw [h, if_pos rfl]
  par x d hx hd := by
    rw [h] at hd
    by_cases c : x = v
    · rw [if_pos c] at hd; cases hd; exact Or.inl ⟨c, rfl⟩
    · rw [if_neg c] at hd; cases hd
  top x d hx hd := by
    rw [h] at hd
    by_cases c : x = v
    · rw [if_pos c] at hd; cases hd; omega
    · rw [if_neg c] at hd; cases hd
  low _ _ x d hx hd := by
    rw [h] at hd
    by_cases c : x = v
    · rw [if_pos c] at hd; cases hd; omega
    · rw [if_neg c] at hd; cases hd
  done a b d' _ _ _ _ h1 := by omega
/-- A node is found. -/
theorem Lev.put (h : Lev N e v o d i j) (hi : i < N) (hj : j < N) (ho : o i = some d) (he : e i j = true) (hn : o j = none) {o' : Nat → Option Nat} (h' : ∀ x, o' x = if x = j then some (d + 1) else o x) : Lev N e v o' d i (j + 1) := by
  have up : ∀ x k, o x = some k → o' x = some k := fun x k hx => by
    rw [h']
    by_cases c : x = j
    · subst c; rw [hn] at hx; cases hx
    · rw [if_neg c]; exact hx
  have dn : ∀ x k, o' x = some k → (x = j ∧ k = d + 1) ∨ o x = some k := fun x k hx => by
    rw [h'] at hx
    by_cases c : x = j
    · rw [if_pos c] at hx; cases hx; exact Or.inl ⟨c, rfl⟩
    · rw [if_neg c] at hx; exact Or.inr hx
  refine ⟨up _ _ h.base, fun x k hx hk => ?_, fun x k hx hk => ?_, fun _ h0 => by omega, fun a b k ha hb hab hk hd => ?_⟩
  · rcases dn x k hk with ⟨rfl, rfl⟩ | hk
    · exact Or.inr ⟨i, d, hi, he, up _ _ ho, rfl⟩
    · rcases h.par x k hx hk with h1 | ⟨p, d', h1, h2, h3, h4⟩
      · exact Or.inl h1
      · exact Or.inr ⟨p, d', h1, h2, up _ _ h3, h4⟩
  · rcases dn x k hk with ⟨_, rfl⟩ | hk
    · omega
    · exact h.top x k hx hk
  · rcases dn a k hk with ⟨_, rfl⟩ | hk
    · omega
    · by_cases c : a = i ∧ b = j
      · obtain ⟨rfl, rfl⟩ := c
        rw [ho] at hk
        cases hk
        exact ⟨d + 1, by rw [h', if_pos rfl], Nat.le_refl _⟩
      · obtain ⟨db, h1, h2⟩ := h.done a b k ha hb hab hk (by omega)
        exact ⟨db, up _ _ h1, h2⟩
/-- Nothing is found. -/
theorem Lev.skip (h : Lev N e v o d i j) (hn : o i = some d → e i j = true → o j ≠ none) : Lev N e v o d i (j + 1) := by
  refine ⟨h.base, h.par, h.top, fun _ h0 => by omega, fun a b k ha hb hab hk hd => ?_⟩
  by_cases c : a = i ∧ b = j ∧ k = d
  · obtain ⟨rfl, rfl, rfl⟩ := c
    cases hx : o b with
    | none => exact absurd hx (hn hk hab)
    | some db => exact ⟨db, rfl, h.top b db hb hx⟩
  · exact h.done a b k ha hb hab hk (by omega)
theorem Lev.row (h : Lev N e v o d i N) : Lev N e v o d (i + 1) 0 :=
  ⟨h.base, h.par, h.top, fun h0 => by omega, fun a b k ha hb hab hk hd => h.done a b k ha hb hab hk (by omega)⟩
theorem Lev.next (h : Lev N e v o d N 0) : Lev N e v o (d + 1) 0 0 :=
  ⟨h.base, h.par, fun x k hx hk => by have := h.top x k hx hk; omega, fun _ _ x k hx hk => h.top x k hx hk, fun a b k ha hb hab hk hd => h.done a b k ha hb hab hk (by omega)⟩
theorem Lev.fin (h : Lev N e v o N 0 0) : Dist N e v o :=
  ⟨h.base, h.par, fun a b k ha hb hab hk => h.done a b k ha hb hab hk (Or.inl (Dist.lt' h.par ha hk))⟩
end
end Go.Proofs.YtenjkhgpfmfgmaaDoor
