/- The shortest ring: by ways out and back, and by edges that are taken away. -/
import Derived.Test.YtkbgcbbloogdjacGirth
namespace Go.Proofs.Ytkbgcbbloogdjac

/-- A walk of k steps from v to x. -/
def Wk (N : Nat) (e : Nat → Nat → Bool) (v : Nat) : Nat → Nat → Prop
  | 0, x => x = v
  | k + 1, x => x < N ∧ ∃ p, p < N ∧ Wk N e v k p ∧ e p x = true

section
variable {N : Nat} {e : Nat → Nat → Bool}
theorem Wk.trans {v x : Nat} {k : Nat} (h : Wk N e v k x) : ∀ {l : Nat} {y : Nat}, Wk N e x l y → Wk N e v (k + l) y
  | 0, y, h2 => by have h2' : y = x := h2; subst h2'; exact h
  | l + 1, y, h2 => by
    obtain ⟨h3, p, h4, h5, h6⟩ := h2
    exact ⟨h3, p, h4, Wk.trans h h5, h6⟩
theorem Wk.one {x y : Nat} (hx : x < N) (hy : y < N) (h : e x y = true) : Wk N e x 1 y := ⟨hy, x, hx, rfl, h⟩
theorem Wk.symm (hs : ∀ a b, a < N → b < N → e a b = true → e b a = true) {v : Nat} (hv : v < N) : ∀ {k : Nat} {x : Nat}, Wk N e v k x → Wk N e x k v
  | 0, x, h => by have h' : x = v := h; subst h'; rfl
  | k + 1, x, h => by
    obtain ⟨hx, p, hp, h1, h2⟩ := h
    have h3 := Wk.trans (Wk.one hx hp (hs p x hp hx h2)) (Wk.symm hs hv h1)
    rw [Nat.add_comm] at h3
    exact h3
theorem Wk.lt {v : Nat} (hv : v < N) : ∀ {k : Nat} {x : Nat}, Wk N e v k x → x < N
  | 0, x, h => by have h' : x = v := h; subst h'; exact hv
  | _ + 1, _, h => h.1
/-- What is a walk of k steps away is at most k far. -/
theorem dist_near {v : Nat} {o : Nat → Option Nat} (h : Dist N e v o) (hv : v < N) : ∀ {k x : Nat}, Wk N e v k x → ∃ d, o x = some d ∧ d ≤ k
  | 0, x, hw => by have h' : x = v := hw; subst h'; exact ⟨0, h.base, Nat.le_refl _⟩
  | k + 1, x, hw => by
    obtain ⟨hx, p, hp, h1, h2⟩ := hw
    obtain ⟨d, h3, h4⟩ := dist_near h hv h1
    obtain ⟨d', h5, h6⟩ := h.tri p x d hp hx h2 h3
    exact ⟨d', h5, by omega⟩
/-- A shortest walk, along edges that e' still has. -/
theorem dist_walk {v : Nat} {o : Nat → Option Nat} (h : Dist N e v o) {e' : Nat → Nat → Bool} : ∀ {d x : Nat}, x < N → o x = some d → (∀ p y k, p < N → y < N → o p = some k → o y = some (k + 1) → k < d → e p y = true → (k + 1 = d → y = x) → e' p y = true) → Wk N e' v d x
  | 0, x, hx, hd, _ => by
    rcases h.par x 0 hx hd with ⟨h1, _⟩ | ⟨_, _, _, _, _, h1⟩
    · exact h1
    · omega
  | d + 1, x, hx, hd, hk => by
    rcases h.par x _ hx hd with ⟨_, h1⟩ | ⟨p, d', hp, h1, h2, h3⟩
    · omega
    · have : d' = d := by omega
      subst this
      refine ⟨hx, p, hp, dist_walk h hp h2 (fun q y k hq hy h4 h5 h6 h7 h8 => hk q y k hq hy h4 h5 (by omega) h7 (fun h9 => by omega)), hk p x d' hp hx h2 hd (by omega) h1 (fun _ => rfl)⟩
/-- There is a table of distances. -/
theorem dist_ex {v : Nat} : ∃ o, Dist N e v o := by
  classical
  have hl : ∀ x, (∃ k, Wk N e v k x) → ∃ k, Wk N e v k x ∧ ∀ j, j < k → ¬ Wk N e v j x := fun x ⟨k, hk⟩ => by
    obtain ⟨k', _, h1, h2⟩ := least_ex (P := fun k => Wk N e v k x) hk
    exact ⟨k', h1, h2⟩
  refine ⟨fun x => if h : ∃ k, Wk N e v k x then some (Classical.choose (hl x h)) else none, ?_, fun x d hx hd => ?_, fun a b d ha hb hab hd => ?_⟩
  · have h0 : ∃ k, Wk N e v k v := ⟨0, rfl⟩
    rw [dif_pos h0]
    congr 1
    have := (Classical.choose_spec (hl v h0)).2 0
    rcases Nat.eq_zero_or_pos (Classical.choose (hl v h0)) with h | h
    · exact h
    · exact absurd rfl (this h)
  · by_cases h : ∃ k, Wk N e v k x
    · rw [dif_pos h] at hd
      have hs := Classical.choose_spec (hl x h)
      have hd' : Classical.choose (hl x h) = d := Option.some.inj hd
      rw [hd'] at hs
      cases d with
      | zero => exact Or.inl ⟨hs.1, rfl⟩
      | succ d =>
        obtain ⟨_, p, hp, h1, h2⟩ := hs.1
        have hp' : ∃ k, Wk N e v k p := ⟨d, h1⟩
        have hsp := Classical.choose_spec (hl p hp')
        refine Or.inr ⟨p, Classical.choose (hl p hp'), hp, h2, by rw [dif_pos hp'], ?_⟩
        have l1 : Classical.choose (hl p hp') ≤ d := by
          rcases Nat.lt_or_ge d (Classical.choose (hl p hp')) with h3 | h3
          · exact absurd h1 (hsp.2 d h3)
          · exact h3
        have l2 : ¬ Classical.choose (hl p hp') < d := fun h3 => hs.2 (Classical.choose (hl p hp') + 1) (by omega) ⟨hx, p, hp, hsp.1, h2⟩
        omega
    · rw [dif_neg h] at hd; cases hd
  · by_cases h : ∃ k, Wk N e v k a
    · rw [dif_pos h] at hd
      have hs := Classical.choose_spec (hl a h)
      have hd' : Classical.choose (hl a h) = d := Option.some.inj hd
      rw [hd'] at hs
      have hb' : ∃ k, Wk N e v k b := ⟨d + 1, hb, a, ha, hs.1, hab⟩
      have hsb := Classical.choose_spec (hl b hb')
      refine ⟨Classical.choose (hl b hb'), by rw [dif_pos hb'], ?_⟩
      rcases Nat.lt_or_ge (d + 1) (Classical.choose (hl b hb')) with h3 | h3
      · exact absurd ⟨hb, a, ha, hs.1, hab⟩ (hsb.2 (d + 1) h3)
      · exact h3
    · rw [dif_neg h] at hd; cases hd
end

theorem two_of {l : List Nat} (hn : l.Nodup) (h : 1 < l.length) : ∃ x y, x ∈ l ∧ y ∈ l ∧ x ≠ y := by
  match l, hn, h with
  | x :: y :: l, hn, _ =>
    refine ⟨x, y, by simp, by simp, fun e => ?_⟩
    have := (List.nodup_cons.1 hn).1
    exact this (by simp [e])
theorem two_le {l : List Nat} {x y : Nat} (hx : x ∈ l) (hy : y ∈ l) (h : x ≠ y) : 1 < l.length := by
  match l, hx, hy with
  | [a], hx, hy => simp at hx hy; omega
  | a :: b :: l, _, _ => simp

/-- The edge a-b is taken away. -/
def lessB (e : Nat → Nat → Bool) (a b x y : Nat) : Bool := e x y && !((x == a && y == b) || (x == b && y == a))
theorem lessB_iff {e : Nat → Nat → Bool} {a b x y : Nat} : lessB e a b x y = true ↔ e x y = true ∧ ¬ ((x = a ∧ y = b) ∨ (x = b ∧ y = a)) := by
  unfold lessB
  simp
  intro _
  omega
theorem lessB_symm {N : Nat} {e : Nat → Nat → Bool} (hs : ∀ a b, a < N → b < N → e a b = true → e b a = true) (a b : Nat) : ∀ x y, x < N → y < N → lessB e a b x y = true → lessB e a b y x = true := fun x y hx hy h => by
  rw [lessB_iff] at h ⊢
  exact ⟨hs x y hx hy h.1, by omega⟩

section
variable {N : Nat} {e : Nat → Nat → Bool} {v u : Nat} {o : Nat → Option Nat}
/-- From a walk out and back an edge and a way round it. -/
theorem closed_edge (hs : ∀ a b, a < N → b < N → e a b = true → e b a = true) (hd : Dist N e v o) (hv : v < N) (hu : u < N) (l : List Nat) (hmem : ∀ x, x ∈ l ↔ (x < N ∧ e u x = true)) (hnd : l.Nodup) {c : Nat} (hc : closedS o l u = c) (h0 : 0 < c) :
    ∃ x, x < N ∧ e u x = true ∧ ∃ k, k + 1 ≤ c ∧ Wk N (lessB e u x) u k x := by
  unfold closedS at hc
  cases hou : o u with
  | none => rw [hou] at hc; simp at hc; omega
  | some d =>
    rw [hou] at hc
    simp only at hc
    have sy := fun x => lessB_symm hs u x
    by_cases k1 : 1 < cntD o l ((d : Int) - 1)
    · rw [if_pos k1] at hc
      obtain ⟨x, y, hx, hy, hxy⟩ := two_of (List.Pairwise.filter _ hnd) k1
      have hx' := List.mem_filter.1 hx
      have hy' := List.mem_filter.1 hy
      obtain ⟨hxN, hex⟩ := (hmem x).1 hx'.1
      obtain ⟨hyN, hey⟩ := (hmem y).1 hy'.1
      have zx : farZ (o x) = (d : Int) - 1 := by simpa using hx'.2
      have zy : farZ (o y) = (d : Int) - 1 := by simpa using hy'.2
      obtain ⟨d', rfl⟩ : ∃ d', d = d' + 1 := by
        cases d with
        | zero => omega
        | succ d' => exact ⟨d', rfl⟩
      have ox : o x = some d' := farZ_eq.1 (by rw [zx]; omega)
      have oy : o y = some d' := farZ_eq.1 (by rw [zy]; omega)
      have key : ∀ z, z < N → o z = some d' → Wk N (lessB e u x) v d' z := fun z hz hoz => dist_walk hd hz hoz (fun p q k hp hq h1 h2 h3 h4 _ => by
        rw [lessB_iff]
        refine ⟨h4, fun h => ?_⟩
        rcases h with ⟨rfl, rfl⟩ | ⟨rfl, rfl⟩
        · rw [hou] at h1; cases h1; omega
        · rw [hou] at h2; cases h2; omega)
      refine ⟨x, hxN, hex, 1 + d' + d', by omega, ?_⟩
      have w1 : Wk N (lessB e u x) u 1 y := Wk.one hu hyN (by
        rw [lessB_iff]
        exact ⟨hey, fun h => by rcases h with ⟨_, h⟩ | ⟨h, h'⟩; exact hxy h.symm; exact hxy (h.symm.trans h'.symm)⟩)
      exact (w1.trans (Wk.symm (sy x) hv (key y hyN oy))).trans (key x hxN ox)
    · rw [if_neg k1] at hc
      by_cases k2 : 0 < cntD o l (d : Int)
      · rw [if_pos k2] at hc
        obtain ⟨x, hx⟩ := List.exists_mem_of_length_pos k2
        have hx' := List.mem_filter.1 hx
        obtain ⟨hxN, hex⟩ := (hmem x).1 hx'.1
        have zx : farZ (o x) = (d : Int) := by simpa using hx'.2
        have ox : o x = some d := farZ_eq.1 zx
        have key : ∀ z, z < N → o z = some d → Wk N (lessB e u x) v d z := fun z hz hoz => dist_walk hd hz hoz (fun p q k hp hq h1 h2 h3 h4 _ => by
          rw [lessB_iff]
          refine ⟨h4, fun h => ?_⟩
          rcases h with ⟨rfl, rfl⟩ | ⟨rfl, rfl⟩
          · rw [hou] at h1; cases h1; omega
          · rw [ox] at h1; cases h1; omega)
        exact ⟨x, hxN, hex, d + d, by omega, (Wk.symm (sy x) hv (key u hu hou)).trans (key x hxN ox)⟩
      · rw [if_neg k2] at hc; omega
end

/-- A shortest way, node by node. -/
theorem dist_path {N : Nat} {e : Nat → Nat → Bool} {a : Nat} {o : Nat → Option Nat} (h : Dist N e a o) : ∀ {k x : Nat}, x < N → o x = some k → ∃ p : Nat → Nat, p 0 = a ∧ p k = x ∧ (∀ j, j ≤ k → p j < N ∧ o (p j) = some j) ∧ ∀ j, j < k → e (p j) (p (j + 1)) = true
  | 0, x, hx, hd => by
    have hxa : x = a := by
      rcases h.par x 0 hx hd with ⟨h1, _⟩ | ⟨_, _, _, _, _, h1⟩
      · exact h1
      · omega
    refine ⟨fun _ => x, hxa, rfl, fun j hj => ?_, fun j hj => by omega⟩
    have : j = 0 := by omega
    subst this
    exact ⟨hx, hd⟩
  | k + 1, x, hx, hd => by
    rcases h.par x _ hx hd with ⟨_, h1⟩ | ⟨q, d', hq, h1, h2, h3⟩
    · omega
    · have : d' = k := by omega
      subst this
      obtain ⟨p, p0, pk, pj, pe⟩ := dist_path h hq h2
      refine ⟨fun j => if j ≤ d' then p j else x, by simp [p0], if_neg (by omega), fun j hj => ?_, fun j hj => ?_⟩
      · by_cases c : j ≤ d'
        · simp only [if_pos c]; exact pj j c
        · have : j = d' + 1 := by omega
          subst this
          simp only [if_neg c]; exact ⟨hx, hd⟩
      · by_cases c : j < d'
        · simp only [if_pos (show j ≤ d' by omega), if_pos (show j + 1 ≤ d' by omega)]; exact pe j c
        · have : j = d' := by omega
          subst this
          simp only [if_pos (Nat.le_refl j), if_neg (show ¬ j + 1 ≤ j by omega), pk]; exact h1

/-- From an edge and a way round it a walk out and back. -/
theorem edge_closed {N : Nat} {e : Nat → Nat → Bool} (hs : ∀ a b, a < N → b < N → e a b = true → e b a = true) {a b : Nat} (ha : a < N) (hb : b < N) (hne : a ≠ b) (hab : e a b = true) {o' o : Nat → Option Nat} (hd' : Dist N (lessB e a b) a o') {k : Nat} (hk : o' b = some k) (hd : Dist N e a o) (nb : Nat → List Nat) (hmem : ∀ u x, u < N → (x ∈ nb u ↔ (x < N ∧ e u x = true))) :
    ∃ u, u < N ∧ 0 < closedS o (nb u) u ∧ closedS o (nb u) u ≤ k + 1 := by
  obtain ⟨p, p0, pk, pj, pe⟩ := dist_path hd' hb hk
  have pee : ∀ j, j < k → e (p j) (p (j + 1)) = true := fun j hj => (lessB_iff.1 (pe j hj)).1
  have hk2 : 2 ≤ k := by
    rcases Nat.lt_or_ge k 2 with h | h
    · exfalso
      match k, h with
      | 0, _ => exact hne (p0.symm.trans pk)
      | 1, _ =>
        have := (lessB_iff.1 (pe 0 (by omega))).2
        rw [p0] at this
        exact this (Or.inl ⟨rfl, pk⟩)
    · exact h
  have wk1 : ∀ j, j ≤ k → Wk N e a j (p j) := fun j => by
    induction j with
    | zero => intro _; exact p0
    | succ j ih => intro hj; exact ⟨(pj (j + 1) hj).1, p j, (pj j (by omega)).1, ih (by omega), pee j (by omega)⟩
  have wk2 : ∀ i, i ≤ k → Wk N e b i (p (k - i)) := fun i => by
    induction i with
    | zero => intro _; exact pk
    | succ i ih =>
      intro hi
      have e1 : k - (i + 1) + 1 = k - i := by omega
      have h1 := pee (k - (i + 1)) (by omega)
      rw [e1] at h1
      exact ⟨(pj _ (by omega)).1, p (k - i), (pj _ (by omega)).1, ih (by omega), hs _ _ (pj _ (by omega)).1 (pj _ (by omega)).1 h1⟩
  have hq : ∀ j, j ≤ k → ∃ q, o (p j) = some q ∧ q ≤ j ∧ q ≤ k + 1 - j := fun j hj => by
    obtain ⟨q, h1, h2⟩ := dist_near hd ha (wk1 j hj)
    have w := Wk.trans (Wk.one ha hb hab) (wk2 (k - j) (by omega))
    have e1 : k - (k - j) = j := by omega
    rw [e1] at w
    obtain ⟨q', h3, h4⟩ := dist_near hd ha w
    rw [h1] at h3
    cases h3
    exact ⟨q, h1, h2, by omega⟩
  -- the first node that is nearer than its place on the way
  obtain ⟨j, _, ⟨hj1, hj2, hj3⟩, hjl⟩ := least_ex (P := fun j => 1 ≤ j ∧ j ≤ k ∧ o (p j) ≠ some j) (show 1 ≤ k ∧ k ≤ k ∧ o (p k) ≠ some k from ⟨by omega, Nat.le_refl _, fun h => by
    obtain ⟨q, h1, _, h3⟩ := hq k (Nat.le_refl _)
    rw [h] at h1
    cases h1
    omega⟩)
  obtain ⟨i, rfl⟩ : ∃ i, j = i + 1 := ⟨j - 1, by omega⟩
  have hi : o (p i) = some i := by
    rcases Nat.eq_zero_or_pos i with h | h
    · subst h; rw [p0]; exact hd.base
    · exact Classical.byContradiction fun hn => hjl i (by omega) ⟨h, by omega, hn⟩
  obtain ⟨q, hq1, hq2, hq3⟩ := hq (i + 1) hj2
  have hqi : q ≤ i := by
    rcases Nat.lt_or_ge i q with h | h
    · exfalso
      have : q = i + 1 := by omega
      exact hj3 (this ▸ hq1)
    · exact h
  have hi0 : 0 < i := by
    rcases Nat.eq_zero_or_pos i with h | h
    · exfalso
      subst h
      have hq0 : q = 0 := by omega
      subst hq0
      have : p 1 = a := by
        rcases hd.par (p 1) 0 (pj 1 hj2).1 hq1 with ⟨h1, _⟩ | ⟨_, _, _, _, _, h1⟩
        · exact h1
        · omega
      have h2 := (pj 1 hj2).2
      rw [this, hd'.base] at h2
      cases h2
    · exact h
  obtain ⟨i', rfl⟩ : ∃ i', i = i' + 1 := ⟨i - 1, by omega⟩
  have hiN := (pj (i' + 1) (by omega)).1
  have hm : o (p i') = some i' := by
    rcases Nat.eq_zero_or_pos i' with h | h
    · subst h; rw [p0]; exact hd.base
    · exact Classical.byContradiction fun hn => hjl i' (by omega) ⟨h, by omega, hn⟩
  have e1 : e (p (i' + 1)) (p i') = true := hs _ _ (pj i' (by omega)).1 hiN (pee i' (by omega))
  have e2 : e (p (i' + 1)) (p (i' + 1 + 1)) = true := pee (i' + 1) (by omega)
  have m1 := (hmem (p (i' + 1)) (p i') hiN).2 ⟨(pj i' (by omega)).1, e1⟩
  have m2 := (hmem (p (i' + 1)) (p (i' + 1 + 1)) hiN).2 ⟨(pj (i' + 1 + 1) hj2).1, e2⟩
  have hql : i' ≤ q := by
    obtain ⟨d, h1, h2⟩ := hd.tri (p (i' + 1 + 1)) (p (i' + 1)) q (pj (i' + 1 + 1) hj2).1 hiN (hs _ _ hiN (pj (i' + 1 + 1) hj2).1 e2) hq1
    rw [hi] at h1
    cases h1
    omega
  have hne2 : p i' ≠ p (i' + 1 + 1) := fun h => by
    have h1 := (pj i' (by omega)).2
    have h2 := (pj (i' + 1 + 1) hj2).2
    rw [h, h2] at h1
    cases h1
  refine ⟨p (i' + 1), hiN, ?_⟩
  unfold closedS
  rw [hi]
  simp only
  obtain ⟨_, hii, _, hii2⟩ := hq (i' + 1) (by omega)
  rw [hi] at hii
  cases hii
  by_cases hqq : q = i'
  · subst hqq
    have hc : 1 < cntD o (nb (p (q + 1))) (((q + 1 : Nat) : Int) - 1) := two_le (x := p q) (y := p (q + 1 + 1)) (List.mem_filter.2 ⟨m1, by rw [hm]; simp [farZ]⟩) (List.mem_filter.2 ⟨m2, by rw [hq1]; simp [farZ]⟩) hne2
    rw [if_pos hc]
    omega
  · have hqe : q = i' + 1 := by omega
    subst hqe
    have hc : 0 < cntD o (nb (p (i' + 1))) ((i' + 1 : Nat) : Int) := List.length_pos_of_mem (a := p (i' + 1 + 1)) (List.mem_filter.2 ⟨m2, by rw [hq1]; simp [farZ]⟩)
    by_cases hb : 1 < cntD o (nb (p (i' + 1))) (((i' + 1 : Nat) : Int) - 1)
    · rw [if_pos hb]; omega
    · rw [if_neg hb, if_pos hc]; omega

theorem lessB_comm (e : Nat → Nat → Bool) (a b : Nat) : lessB e a b = lessB e b a := by
  funext x y
  unfold lessB
  congr 2
  rw [Bool.or_comm]
/-- z is the least length of a ring through an edge, as far as the edges of L; 0: there is none. -/
def MinE (m : Nat) (e : Nat → Nat → Bool) (L : List (Nat × Nat)) (z : Nat) : Prop :=
  (∀ a b, (a, b) ∈ L → ∀ o d, Dist m (lessB e a b) a o → o b = some d → 0 < z ∧ z ≤ d + 1) ∧ (z = 0 ∨ ∃ a b o d, (a, b) ∈ L ∧ Dist m (lessB e a b) a o ∧ o b = some d ∧ z = d + 1)

/-- Both ways to find a shortest ring find the same. -/
theorem girth_same {m : Nat} {es : List Pair} (hirr : ∀ x : Nat, hasB es x x = false) {L : List (Nat × Nat)} (hL : ∀ a b, (a, b) ∈ L ↔ (a < b ∧ b < m ∧ pn (hasB es) a b = true)) {z z' : Nat} (h : MinTo (ClosedIs m es) m m 0 z) (h' : MinE m (pn (hasB es)) L z') : z = z' := by
  have hs := pn_symm es m
  have hmem : ∀ u x, u < m → (x ∈ nbL m es u ↔ (x < m ∧ pn (hasB es) u x = true)) := fun u x _ => by
    unfold nbL
    rw [List.mem_filter]
    simp [pn]
  have A : 0 < z → 0 < z' ∧ z' ≤ z := fun h0 => by
    rcases h.2 with h1 | ⟨v, u, hv, hu, o, hd, hz⟩
    · omega
    · obtain ⟨x, hx, hux, k, hk, hw⟩ := closed_edge hs hd hv hu (nbL m es u) (fun x => hmem u x hu) (List.Pairwise.filter _ List.nodup_range) hz.symm h0
      have hne : u ≠ x := fun e => by
        subst e
        have : hasB es u u = true := hux
        rw [hirr] at this; cases this
      rcases Nat.lt_or_ge u x with hlt | hge
      · obtain ⟨o', ho'⟩ := dist_ex (N := m) (e := lessB (pn (hasB es)) u x) (v := u)
        obtain ⟨d, h1, h2⟩ := dist_near ho' hu hw
        have := h'.1 u x ((hL u x).2 ⟨hlt, hx, hux⟩) o' d ho' h1
        omega
      · rw [lessB_comm] at hw
        have hw2 := Wk.symm (lessB_symm hs x u) hu hw
        obtain ⟨o', ho'⟩ := dist_ex (N := m) (e := lessB (pn (hasB es)) x u) (v := x)
        obtain ⟨d, h1, h2⟩ := dist_near ho' hx hw2
        have := h'.1 x u ((hL x u).2 ⟨by omega, hu, hs u x hu hx hux⟩) o' d ho' h1
        omega
  have B : 0 < z' → 0 < z ∧ z ≤ z' := fun h0 => by
    rcases h'.2 with h1 | ⟨a, b, o', d, hab, hd', hb, hz⟩
    · omega
    · obtain ⟨h1, h2, h3⟩ := (hL a b).1 hab
      obtain ⟨o, ho⟩ := dist_ex (N := m) (e := pn (hasB es)) (v := a)
      obtain ⟨u, hu, c1, c2⟩ := edge_closed hs (by omega) h2 (by omega) h3 hd' hb ho (nbL m es) hmem
      have := h.1 a u _ (by omega) hu (Or.inl (by omega)) ⟨o, ho, rfl⟩
      omega
  rcases Nat.eq_zero_or_pos z with h0 | h0
  · rcases Nat.eq_zero_or_pos z' with h1 | h1
    · omega
    · have := B h1; omega
  · have h1 := A h0
    have h2 := B h1.1
    omega
end Go.Proofs.Ytkbgcbbloogdjac
