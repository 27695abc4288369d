/- Gale's and Shapley's method: who asks, who keeps. -/
import Derived.Test.YtmbnaegcichoeaaKuhnM
namespace Go.Proofs.Ytmbnaegcichoeaa

section
variable {n : Nat} {A P : Nat → Nat → Nat} {has : Nat → Int} {ask : Nat → Nat}
/-- The lists: each names each of n once; P tells at which place. -/
structure Lst (n : Nat) (A P : Nat → Nat → Nat) : Prop where
  lt : ∀ x k, x < n → k < n → A x k < n
  inj : ∀ x k k', x < n → k < n → k' < n → A x k = A x k' → k = k'
  pinj : ∀ j x y, j < n → x < n → y < n → P j x = P j y → x = y
/-- Those below m have begun to ask; free is the one that is sent away now, or n. -/
structure Gs (n m free : Nat) (A P : Nat → Nat → Nat) (has : Nat → Int) (ask : Nat → Nat) : Prop where
  held : ∀ j, j < n → has j = -1 ∨ ∃ x, x < m ∧ x ≠ free ∧ has j = (x : Int) ∧ 0 < ask x ∧ A x (ask x - 1) = j
  did : ∀ x k, x < n → k < ask x → ∃ y, y < n ∧ has (A x k) = (y : Int) ∧ P (A x k) y ≤ P (A x k) x
  kept : ∀ x, x < m → x ≠ free → ∃ j, j < n ∧ has j = (x : Int)
  new : ∀ x, m ≤ x → ask x = 0
  top : ∀ x, x < n → ask x ≤ n
theorem Gs.start (n : Nat) (A P : Nat → Nat → Nat) : Gs n 0 n A P (fun _ => -1) (fun _ => 0) where
  held := fun _ _ => Or.inl rfl
  did := fun _ _ _ h => absurd h (Nat.not_lt_zero _)
  kept := fun _ h => absurd h (Nat.not_lt_zero _)
  new := fun _ _ => rfl
  top := fun _ _ => Nat.zero_le _
/-- The next one begins. -/
theorem Gs.begin {m : Nat} (h : Gs n m n A P has ask) (hm : m < n) : Gs n (m + 1) m A P has ask where
  held := fun j hj => by
    rcases h.held j hj with h1 | ⟨x, h1, h2, h3⟩
    · exact Or.inl h1
    · exact Or.inr ⟨x, by omega, by omega, h3⟩
  did := h.did
  kept := fun x hx hne => h.kept x (by omega) (by omega)
  new := fun x hx => h.new x (by omega)
  top := h.top
/-- Who is free has one left to ask. -/
theorem Gs.left {m free : Nat} (h : Gs n m free A P has ask) (hL : Lst n A P) (hm : m ≤ n) (hf : free < m) : ask free < n := by
  apply Classical.byContradiction
  intro hno
  have hall : ∀ j, j < n → has j ≠ -1 := by
    intro j hj e
    have hnm : ∀ k, k < n → A free k ≠ j := fun k hk e2 => by
      obtain ⟨y, _, h2, _⟩ := h.did free k (by omega) (by omega)
      rw [e2, e] at h2
      omega
    have h2 := nodup_le (j :: (List.range n).map (A free)) n (by
      rw [List.nodup_cons]
      refine ⟨fun hmem => ?_, ?_⟩
      · obtain ⟨k, hk, e2⟩ := List.mem_map.1 hmem
        exact hnm k (by simpa using hk) e2
      · rw [List.Nodup, List.pairwise_map]
        refine List.Pairwise.imp_of_mem (fun {a b} ha hb hab e => hab (hL.inj free a b (by omega) (by simpa using ha) (by simpa using hb) e)) List.nodup_range) (fun a ha => by
      rcases List.mem_cons.1 ha with rfl | ha
      · exact hj
      · obtain ⟨k, hk, rfl⟩ := List.mem_map.1 ha
        exact hL.lt free k (by omega) (by simpa using hk))
    rw [List.length_cons, List.length_map, List.length_range] at h2
    omega
  have h3 := nodup_le (free :: (List.range n).map (fun j => (has j).toNat)) n (by
    rw [List.nodup_cons]
    refine ⟨fun hmem => ?_, ?_⟩
    · obtain ⟨j, hj, e⟩ := List.mem_map.1 hmem
      obtain ⟨x, _, h2, h3, _⟩ := (h.held j (by simpa using hj)).resolve_left (hall j (by simpa using hj))
      rw [h3] at e
      omega
    · rw [List.Nodup, List.pairwise_map]
      refine List.Pairwise.imp_of_mem (fun {a b} ha hb hab e => ?_) List.nodup_range
      obtain ⟨x, _, _, h3, _, h4⟩ := (h.held a (by simpa using ha)).resolve_left (hall a (by simpa using ha))
      obtain ⟨y, _, _, h5, _, h6⟩ := (h.held b (by simpa using hb)).resolve_left (hall b (by simpa using hb))
      rw [h3, h5] at e
      have : x = y := by omega
      subst this
      exact hab (by rw [← h4, ← h6])) (fun a ha => by
    rcases List.mem_cons.1 ha with rfl | ha
    · omega
    · obtain ⟨j, hj, rfl⟩ := List.mem_map.1 ha
      obtain ⟨x, h1, _, h3, _⟩ := (h.held j (by simpa using hj)).resolve_left (hall j (by simpa using hj))
      rw [h3]; omega)
  rw [List.length_cons, List.length_map, List.length_range] at h3
  omega
def askS (ask : Nat → Nat) (x : Nat) : Nat → Nat := fun z => if z = x then ask x + 1 else ask z
def hasS (has : Nat → Int) (j x : Nat) : Nat → Int := fun k => if k = j then (x : Int) else has k
theorem askS_at (ask : Nat → Nat) (x : Nat) : askS ask x x = ask x + 1 := if_pos rfl
theorem askS_ne (ask : Nat → Nat) {x z : Nat} (h : z ≠ x) : askS ask x z = ask z := if_neg h
theorem hasS_at (has : Nat → Int) (j x : Nat) : hasS has j x j = (x : Int) := if_pos rfl
theorem hasS_ne (has : Nat → Int) {j x k : Nat} (h : k ≠ j) : hasS has j x k = has k := if_neg h
/-- Who is asked sends the asker away. -/
theorem Gs.stay {m x y : Nat} (h : Gs n m x A P has ask) (hx : x < m) (ha : ask x < n) (hy : y < n) (ho : has (A x (ask x)) = (y : Int)) (hp : P (A x (ask x)) y ≤ P (A x (ask x)) x) : Gs n m x A P has (askS ask x) where
  held := fun k hk => by
    rcases h.held k hk with h1 | ⟨z, h1, h2, h3, h4, h5⟩
    · exact Or.inl h1
    · exact Or.inr ⟨z, h1, h2, h3, by rw [askS_ne ask h2]; exact h4, by rw [askS_ne ask h2]; exact h5⟩
  did := fun z k hz hk => by
    by_cases e : z = x
    · subst e
      rw [askS_at] at hk
      by_cases e2 : k = ask z
      · subst e2; exact ⟨y, hy, ho, hp⟩
      · exact h.did z k hz (by omega)
    · rw [askS_ne ask e] at hk; exact h.did z k hz hk
  kept := h.kept
  new := fun z hz => by rw [askS_ne ask (by omega)]; exact h.new z hz
  top := fun z hz => by
    by_cases e : z = x
    · subst e; rw [askS_at]; omega
    · rw [askS_ne ask e]; exact h.top z hz
/-- Who is asked keeps the asker; whom it had, if any, is free then. -/
theorem Gs.take {m x f : Nat} (h : Gs n m x A P has ask) (hL : Lst n A P) (hm : m ≤ n) (hx : x < m) (ha : ask x < n)
    (hc : (has (A x (ask x)) = -1 ∧ f = n) ∨ (has (A x (ask x)) = (f : Int) ∧ P (A x (ask x)) x < P (A x (ask x)) f)) : Gs n m f A P (hasS has (A x (ask x)) x) (askS ask x) := by
  have hj : A x (ask x) < n := hL.lt x _ (by omega) ha
  have hfx : f ≠ x := by
    rcases hc with ⟨_, rfl⟩ | ⟨h1, _⟩
    · omega
    · rcases h.held _ hj with h2 | ⟨z, _, h3, h4, _⟩
      · omega
      · intro e; subst e; omega
  refine ⟨fun k hk => ?_, fun z k hz hk => ?_, fun z hz hne => ?_, fun z hz => ?_, fun z hz => ?_⟩
  · by_cases e : k = A x (ask x)
    · subst e
      exact Or.inr ⟨x, hx, fun e => hfx e.symm, hasS_at _ _ _, by rw [askS_at]; omega, by rw [askS_at]; rfl⟩
    · rw [hasS_ne has e]
      rcases h.held k hk with h1 | ⟨z, h1, h2, h3, h4, h5⟩
      · exact Or.inl h1
      · refine Or.inr ⟨z, h1, fun ef => ?_, h3, by rw [askS_ne ask h2]; exact h4, by rw [askS_ne ask h2]; exact h5⟩
        subst ef
        rcases hc with ⟨_, rfl⟩ | ⟨h6, _⟩
        · omega
        · rcases h.held _ hj with h7 | ⟨z', _, _, h8, _, h9⟩
          · omega
          · have : z' = z := by omega
            subst this
            exact e (by rw [← h5, h9])
  · have hold : k < ask z → ∃ y, y < n ∧ hasS has (A x (ask x)) x (A z k) = (y : Int) ∧ P (A z k) y ≤ P (A z k) z := fun hk' => by
      obtain ⟨y, h1, h2, h3⟩ := h.did z k hz hk'
      by_cases e : A z k = A x (ask x)
      · rw [e] at h2 h3 ⊢
        refine ⟨x, by omega, hasS_at _ _ _, ?_⟩
        rcases hc with ⟨h4, _⟩ | ⟨h4, h5⟩
        · omega
        · have : y = f := by omega
          subst this
          omega
      · exact ⟨y, h1, by rw [hasS_ne has e]; exact h2, h3⟩
    by_cases e : z = x
    · subst e
      rw [askS_at] at hk
      by_cases e2 : k = ask z
      · subst e2; exact ⟨z, hz, hasS_at _ _ _, Nat.le_refl _⟩
      · exact hold (by omega)
    · rw [askS_ne ask e] at hk; exact hold hk
  · by_cases e : z = x
    · subst e; exact ⟨_, hj, hasS_at _ _ _⟩
    · obtain ⟨k, hk, h1⟩ := h.kept z hz e
      have hkj : k ≠ A x (ask x) := fun e2 => by
        rw [e2] at h1
        rcases hc with ⟨h4, _⟩ | ⟨h4, _⟩
        · omega
        · exact hne (by omega)
      exact ⟨k, hk, by rw [hasS_ne has hkj]; exact h1⟩
  · rw [askS_ne ask (by omega)]; exact h.new z hz
  · by_cases e : z = x
    · subst e; rw [askS_at]; omega
    · rw [askS_ne ask e]; exact h.top z hz
/-- A stable answer M: k tells at which place of its list each has its own. -/
structure Stb (n : Nat) (A P : Nat → Nat → Nat) (M K : Nat → Nat) : Prop where
  at' : ∀ x, x < n → K x < n ∧ A x (K x) = M x
  inj : ∀ x y, x < n → y < n → M x = M y → x = y
  stable : ∀ x k y, x < n → k < K x → y < n → M y = A x k → P (A x k) y ≤ P (A x k) x
/-- Nobody was sent away by one whom it has in a stable answer. -/
def Opt (n : Nat) (A P : Nat → Nat → Nat) (has : Nat → Int) (ask : Nat → Nat) : Prop :=
  ∀ M K, Stb n A P M K → ∀ x k, x < n → k < ask x → has (A x k) ≠ (x : Int) → M x ≠ A x k
/-- y is not had by j in a stable answer where j has a better one that asked it last. -/
theorem not_had {M K : Nat → Nat} {x y k : Nat} (hS : Stb n A P M K) (_hL : Lst n A P) (hx : x < n) (hy : y < n) (hxy : x ≠ y) (_hk : k < n) (hp : P (A x k) x < P (A x k) y) (hprev : ∀ k', k' < k → M x ≠ A x k') : M y ≠ A x k := fun e => by
  obtain ⟨h1, h2⟩ := hS.at' x hx
  have h3 : k < K x := by
    rcases Nat.lt_trichotomy (K x) k with h | h | h
    · exact absurd h2.symm (hprev (K x) h)
    · rw [h] at h2
      exact absurd (hS.inj x y hx hy (by rw [← h2, e])) hxy
    · exact h
  have := hS.stable x k y hx h3 hy e
  omega
theorem Opt.start (n : Nat) (A P : Nat → Nat → Nat) : Opt n A P (fun _ => -1) (fun _ => 0) := fun _ _ _ _ _ _ h => absurd h (Nat.not_lt_zero _)
theorem Gs.prev {m f : Nat} (h : Gs n m f A P has ask) (hL : Lst n A P) {x k : Nat} (hx : x < n) (hk : k + 1 < ask x) (ha : ask x ≤ n) : has (A x k) ≠ (x : Int) := fun e => by
  rcases h.held (A x k) (hL.lt x k hx (by omega)) with h1 | ⟨z, h1, h2, h3, h4, h5⟩
  · omega
  · have : z = x := by omega
    subst this
    have := hL.inj z (ask z - 1) k hx (by omega) (by omega) h5
    omega
theorem Opt.stay {m x y : Nat} (ho : Opt n A P has ask) (h : Gs n m x A P has ask) (hL : Lst n A P) (hm : m ≤ n) (hx : x < m) (ha : ask x < n) (hh : has (A x (ask x)) = (y : Int)) (hp : P (A x (ask x)) y ≤ P (A x (ask x)) x) : Opt n A P has (askS ask x) := by
  have hj : A x (ask x) < n := hL.lt x _ (by omega) ha
  intro M K hS z k hz hk hne
  by_cases e : z = x
  · subst e
    rw [askS_at] at hk
    by_cases e2 : k = ask z
    · subst e2
      rcases h.held _ hj with h1 | ⟨y', g1, g2, g3, g4, g5⟩
      · omega
      · have : y' = y := by omega
        subst this
        have hpl : P (A z (ask z)) y' < P (A z (ask z)) z := by
          rcases Nat.lt_or_ge (P (A z (ask z)) y') (P (A z (ask z)) z) with h | h
          · exact h
          · exact absurd (hL.pinj _ _ _ hj (by omega) hz (Nat.le_antisymm hp h)) g2
        have := not_had (x := y') (y := z) (k := ask y' - 1) hS hL (by omega) hz g2 (by have := h.top y' (by omega); omega) (by rw [g5]; exact hpl) (fun k' hk' => ho M K hS y' k' (by omega) (by omega) (h.prev hL (by omega) (by omega) (h.top y' (by omega))))
        rwa [g5] at this
    · exact ho M K hS z k hz (by omega) hne
  · rw [askS_ne ask e] at hk
    exact ho M K hS z k hz hk hne
theorem Opt.take {m x f : Nat} (ho : Opt n A P has ask) (h : Gs n m x A P has ask) (hL : Lst n A P) (hm : m ≤ n) (hx : x < m) (ha : ask x < n)
    (hc : (has (A x (ask x)) = -1 ∧ f = n) ∨ (has (A x (ask x)) = (f : Int) ∧ P (A x (ask x)) x < P (A x (ask x)) f)) : Opt n A P (hasS has (A x (ask x)) x) (askS ask x) := by
  have hj : A x (ask x) < n := hL.lt x _ (by omega) ha
  intro M K hS z k hz hk hne
  by_cases e : z = x
  · subst e
    rw [askS_at] at hk
    by_cases e2 : k = ask z
    · subst e2
      rw [hasS_at] at hne
      exact absurd rfl hne
    · refine ho M K hS z k hz (by omega) (fun e3 => ?_)
      rcases h.held (A z k) (hL.lt z k hz (by omega)) with h1 | ⟨z', _, h2, h3, _⟩
      · omega
      · omega
  · rw [askS_ne ask e] at hk
    by_cases e2 : A z k = A x (ask x)
    · by_cases e3 : has (A z k) = (z : Int)
      · rcases hc with ⟨h4, _⟩ | ⟨h4, h5⟩
        · rw [e2] at e3; omega
        · have : f = z := by rw [e2] at e3; omega
          subst this
          rw [e2]
          exact not_had (x := x) (y := f) (k := ask x) hS hL (by omega) hz (fun e' => e e'.symm) ha h5 (fun k' hk' => ho M K hS x k' (by omega) hk' (fun e4 => by
            rcases h.held (A x k') (hL.lt x k' (by omega) (by omega)) with h1 | ⟨z', _, h2, h3, _⟩
            · omega
            · omega))
      · exact ho M K hS z k hz hk e3
    · rw [hasS_ne has e2] at hne
      exact ho M K hS z k hz hk hne
theorem Gs.done (h : Gs n n n A P has ask) {x : Nat} (hx : x < n) : 0 < ask x ∧ A x (ask x - 1) < n ∧ has (A x (ask x - 1)) = (x : Int) := by
  obtain ⟨j, hj, h1⟩ := h.kept x hx (by omega)
  rcases h.held j hj with h2 | ⟨z, _, _, h3, h4, h5⟩
  · omega
  · have : z = x := by omega
    subst this
    exact ⟨h4, by rw [h5]; exact hj, by rw [h5]; exact h1⟩
/-- In the end the answer is stable. -/
theorem Gs.stable (h : Gs n n n A P has ask) : Stb n A P (fun x => A x (ask x - 1)) (fun x => ask x - 1) where
  at' := fun x hx => ⟨by have := (h.done hx).1; have := h.top x hx; omega, rfl⟩
  inj := fun x y hx hy e => by
    have h1 := (h.done hx).2.2
    have h2 := (h.done hy).2.2
    have e' : A x (ask x - 1) = A y (ask y - 1) := e
    rw [e'] at h1
    omega
  stable := fun x k y hx hk hy e => by
    obtain ⟨y', _, h1, h2⟩ := h.did x k hx (by omega)
    have h3 := (h.done hy).2.2
    have e' : A y (ask y - 1) = A x k := e
    rw [e'] at h3
    have : y' = y := by omega
    subst this
    exact h2
/-- And no stable answer is better for any of a. -/
theorem Opt.best (ho : Opt n A P has ask) (h : Gs n n n A P has ask) (hL : Lst n A P) {M K : Nat → Nat} (hS : Stb n A P M K) {x : Nat} (hx : x < n) : ask x - 1 ≤ K x := by
  apply Classical.byContradiction
  intro hno
  have h1 := hS.at' x hx
  exact ho M K hS x (K x) hx (by omega) (h.prev hL hx (by omega) (h.top x hx)) h1.2.symm
end
end Go.Proofs.Ytmbnaegcichoeaa
