/- What isTree tells of the ways up. Where the links hang together and there is one root, each bag's way up ends. -/
import Derived.Test.YtdalconphfgepaaDoorTreeW
namespace Go.Proofs.YtdalconphfgepaaDoor
theorem hop_in {n : Nat} {f : Nat → Int} {j : Nat} (h : j < n) : hop n f (j : Int) = f j := by
  unfold hop
  rw [if_pos ⟨by omega, by omega⟩]
  rfl
theorem treeB_all {n : Nat} {f : Nat → Int} (h : treeB n f = true) : (∀ j, j < n → hops n f n (j : Int) = -1) ∧ roots f n = 1 := by
  unfold treeB at h
  rw [Bool.and_eq_true, List.all_eq_true, beq_iff_eq] at h
  exact ⟨fun j hj => by simpa using h.1 j (List.mem_range.2 hj), h.2⟩
theorem treeB_of {n : Nat} {f : Nat → Int} (h1 : ∀ j, j < n → hops n f n (j : Int) = -1) (h2 : roots f n = 1) : treeB n f = true := by
  unfold treeB
  rw [Bool.and_eq_true, List.all_eq_true, beq_iff_eq]
  exact ⟨fun j hj => by simpa using h1 j (List.mem_range.1 hj), h2⟩
/-- Above each bag of a tree is none, or another bag. -/
theorem tree_up {n : Nat} {f : Nat → Int} (h : ∀ j, j < n → hops n f n (j : Int) = -1) {j : Nat} (hj : j < n) : f j = -1 ∨ ((0 ≤ f j ∧ f j < n) ∧ f j ≠ j) := by
  obtain ⟨m, rfl⟩ : ∃ m, n = m + 1 := ⟨n - 1, by omega⟩
  have h1 : hops (m + 1) f m (hop (m + 1) f (j : Int)) = -1 := h j hj
  rw [hop_in hj] at h1
  by_cases hin : 0 ≤ f j ∧ f j < ((m + 1 : Nat) : Int)
  · refine Or.inr ⟨hin, fun e => ?_⟩
    have hst : ∀ k, hops (m + 1) f k (j : Int) = j := fun k => by
      induction k with
      | zero => rfl
      | succ k ih =>
        show hops (m + 1) f k (hop (m + 1) f (j : Int)) = j
        rw [hop_in hj, e]
        exact ih
    rw [e, hst] at h1
    omega
  · rw [hops_out hin] at h1
    exact Or.inl h1
/-- How many steps lead from a bag to the root: less than n of them lead to a bag that has none above. -/
theorem hops_add (n : Nat) (f : Nat → Int) : ∀ (a b : Nat) (x : Int), hops n f (a + b) x = hops n f b (hops n f a x)
  | 0, b, x => by rw [Nat.zero_add]; rfl
  | a + 1, b, x => by
    rw [show a + 1 + b = (a + b) + 1 by omega]
    exact hops_add n f a b (hop n f x)
/-- A measure that falls with each step up. -/
theorem tree_depth {n : Nat} {f : Nat → Int} (h : ∀ j, j < n → hops n f n (j : Int) = -1) : ∃ d : Nat → Nat, ∀ j u : Nat, j < n → u < n → f j = u → d u < d j := by
  have hex : ∀ j, j < n → ∃ k, hops n f k (j : Int) = -1 := fun j hj => ⟨n, h j hj⟩
  have hmin : ∀ j : Nat, ∃ k : Nat, j < n → (hops n f k (j : Int) = -1 ∧ ∀ i, i < k → hops n f i (j : Int) ≠ -1) := fun j => by
    by_cases hj : j < n
    · have : ∀ k, hops n f k (j : Int) = -1 → ∃ m, hops n f m (j : Int) = -1 ∧ ∀ i, i < m → hops n f i (j : Int) ≠ -1 := fun k => by
        induction k using Nat.strongRecOn with
        | _ k ih =>
          intro hk
          by_cases hb : ∃ i, i < k ∧ hops n f i (j : Int) = -1
          · obtain ⟨i, hi, he⟩ := hb
            exact ih i hi he
          · exact ⟨k, hk, fun i hi he => hb ⟨i, hi, he⟩⟩
      obtain ⟨k, hk⟩ := hex j hj
      obtain ⟨m, hm⟩ := this k hk
      exact ⟨m, fun _ => hm⟩
    · exact ⟨0, fun h => absurd h hj⟩
  refine ⟨fun j => Classical.choose (hmin j), fun j u hj hu he => ?_⟩
  show Classical.choose (hmin u) < Classical.choose (hmin j)
  have h1 := Classical.choose_spec (hmin j) hj
  have h2 := Classical.choose_spec (hmin u) hu
  generalize Classical.choose (hmin j) = a at h1 ⊢
  generalize Classical.choose (hmin u) = b at h2 ⊢
  cases a with
  | zero => have := h1.1; simp [hops] at this
  | succ a =>
    have h3 : hops n f a (u : Int) = -1 := by
      have : hops n f a (hop n f (j : Int)) = -1 := h1.1
      rw [hop_in hj, he] at this
      exact this
    apply Classical.byContradiction
    intro hn
    exact h2.2 a (by omega) h3
/-- Ways up through bags of which P holds. -/
inductive Up (f : Nat → Int) (P : Nat → Prop) : Nat → Nat → Prop
  | refl {a : Nat} : Up f P a a
  | step {a b t : Nat} : P a → P b → f a = b → Up f P b t → Up f P a t
/-- Ways up and down through bags of which P holds. -/
inductive Lk (f : Nat → Int) (P : Nat → Prop) : Nat → Nat → Prop
  | refl {a : Nat} : Lk f P a a
  | up {a b c : Nat} : Lk f P a b → P b → P c → f b = c → Lk f P a c
  | down {a b c : Nat} : Lk f P a b → P b → P c → f c = b → Lk f P a c
/-- A bag of which P holds, and not of the one above. -/
def Top (f : Nat → Int) (P : Nat → Prop) (t : Nat) : Prop := P t ∧ ∀ u : Nat, f t = u → ¬ P u
section
variable {n : Nat} {f : Nat → Int} {P : Nat → Prop}
theorem Lk.trans {a b c : Nat} (h1 : Lk f P a b) (h2 : Lk f P b c) : Lk f P a c := by
  induction h2 with
  | refl => exact h1
  | up _ p q e ih => exact .up ih p q e
  | down _ p q e ih => exact .down ih p q e
theorem Lk.symm {a b : Nat} (h : Lk f P a b) : Lk f P b a := by
  induction h with
  | refl => exact .refl
  | up _ p q e ih => exact Lk.trans (.down .refl q p e) ih
  | down _ p q e ih => exact Lk.trans (.up .refl q p e) ih
theorem Up.lk {a t : Nat} (h : Up f P a t) : Lk f P a t := by
  induction h with
  | refl => exact .refl
  | step p q e _ ih => exact Lk.trans (.up .refl p q e) ih
theorem up_top (hP : ∀ j, P j → j < n) {d : Nat → Nat} (hd : ∀ j u : Nat, j < n → u < n → f j = u → d u < d j) : ∀ (k j : Nat), d j ≤ k → P j → ∃ t, Top f P t ∧ Up f P j t
  | k, j, hk, hj => by
    by_cases ht : ∃ u : Nat, f j = u ∧ P u
    · obtain ⟨u, e, hu⟩ := ht
      have hlt := hd j u (hP j hj) (hP u hu) e
      cases k with
      | zero => omega
      | succ k =>
        obtain ⟨t, h1, h2⟩ := up_top hP hd k u (by omega) hu
        exact ⟨t, h1, .step hj hu e h2⟩
    · exact ⟨j, ⟨hj, fun u e hu => ht ⟨u, e, hu⟩⟩, .refl⟩
theorem Up.uniq {a s t : Nat} (h : Up f P a s) (hs : Top f P s) (h2 : Up f P a t) (ht : Top f P t) : s = t := by
  induction h with
  | refl =>
    cases h2 with
    | refl => rfl
    | step _ q e _ => exact absurd q (hs.2 _ e)
  | step p q e _ ih =>
    cases h2 with
    | refl => exact absurd q (ht.2 _ e)
    | step _ _ e2 h3 =>
      have := e.symm.trans e2
      have e3 := Int.ofNat.inj this
      subst e3
      exact ih hs h3
theorem lk_top {a b s t : Nat} (h : Lk f P a b) (h1 : Up f P a s) (hs : Top f P s) (h2 : Up f P b t) (ht : Top f P t) (hall : ∀ j, P j → ∃ t, Top f P t ∧ Up f P j t) : s = t := by
  induction h generalizing t with
  | refl => exact h1.uniq hs h2 ht
  | up _ p q e ih => exact ih (.step p q e h2) ht
  | down _ p q e ih =>
    obtain ⟨r, hr, h3⟩ := hall _ p
    have e1 := ih h3 hr
    have e2 := Up.uniq (.step q p e h3) hr h2 ht
    exact e1.trans e2
/-- The bags of which P holds hang together, and there is one, just where one alone of them is on top. -/
theorem hang_iff (hP : ∀ j, P j → j < n) (ht : ∀ j, j < n → hops n f n (j : Int) = -1) : ((∃ j, P j) ∧ ∀ a b, P a → P b → Lk f P a b) ↔ (∃ t, Top f P t ∧ ∀ s, Top f P s → s = t) := by
  obtain ⟨d, hd⟩ := tree_depth ht
  have hall : ∀ j, P j → ∃ t, Top f P t ∧ Up f P j t := fun j hj => up_top hP hd (d j) j (Nat.le_refl _) hj
  constructor
  · rintro ⟨⟨j, hj⟩, hc⟩
    obtain ⟨t, h1, _⟩ := hall j hj
    exact ⟨t, h1, fun s hs => lk_top (hc s t hs.1 h1.1) .refl hs .refl h1 hall⟩
  · rintro ⟨t, h1, h2⟩
    refine ⟨⟨t, h1.1⟩, fun a b ha hb => ?_⟩
    obtain ⟨s, hs, ua⟩ := hall a ha
    obtain ⟨r, hr, ub⟩ := hall b hb
    rw [h2 s hs] at ua
    rw [h2 r hr] at ub
    exact ua.lk.trans ub.lk.symm
end
end Go.Proofs.YtdalconphfgepaaDoor

namespace Go.Proofs.YtdalconphfgepaaDoor
theorem nodup_lenW : ∀ (l m : List Nat), l.Nodup → (∀ e ∈ l, e ∈ m) → l.length ≤ m.length
  | [], _, _, _ => Nat.zero_le _
  | a :: l, m, hn, hs => by
    have hn' := List.nodup_cons.1 hn
    have ha := hs a (by simp)
    have h := nodup_lenW l (m.erase a) hn'.2 (fun e he => (List.mem_erase_of_ne (fun (h : e = a) => hn'.1 (h ▸ he))).2 (hs e (by simp [he])))
    rw [List.length_erase_of_mem ha] at h
    have : 0 < m.length := List.length_pos_of_mem ha
    simp
    omega
theorem inj_len {n k : Nat} {g : Nat → Nat} (h1 : ∀ i, i < k → g i < n) (h2 : ∀ i j, i < j → j < k → g i ≠ g j) : k ≤ n := by
  have hnd : ((List.range k).map g).Nodup := by
    unfold List.Nodup
    rw [List.pairwise_iff_getElem]
    intro i j hi hj hij e
    simp only [List.length_map, List.length_range] at hi hj
    simp only [List.getElem_map, List.getElem_range] at e
    exact h2 i j hij hj e
  have := nodup_lenW _ (List.range n) hnd fun e he => by
    obtain ⟨i, hi, rfl⟩ := List.mem_map.1 he
    exact List.mem_range.2 (h1 i (List.mem_range.1 hi))
  simpa using this
def UpOk (n : Nat) (f : Nat → Int) : Prop := ∀ j, j < n → f j = -1 ∨ ((0 ≤ f j ∧ f j < n) ∧ f j ≠ j)
section
variable {n : Nat} {f : Nat → Int}
theorem hops_min {j k : Nat} (hk : hops n f k (j : Int) = -1) : ∃ m, hops n f m (j : Int) = -1 ∧ ∀ i, i < m → hops n f i (j : Int) ≠ -1 := by
  induction k using Nat.strongRecOn with
  | _ k ih =>
    by_cases hb : ∃ i, i < k ∧ hops n f i (j : Int) = -1
    · obtain ⟨i, hi, he⟩ := hb
      exact ih i hi he
    · exact ⟨k, hk, fun i hi he => hb ⟨i, hi, he⟩⟩
/-- Who comes to none at all comes to none in n steps. -/
theorem hops_bound {j k : Nat} (hk : hops n f k (j : Int) = -1) : hops n f n (j : Int) = -1 := by
  obtain ⟨m, hm, hmin⟩ := hops_min hk
  have hin : ∀ i, i < m → 0 ≤ hops n f i (j : Int) ∧ hops n f i (j : Int) < n := fun i hi => by
    apply Classical.byContradiction
    intro hout
    have h1 : hops n f m (j : Int) = hops n f i (j : Int) := by
      rw [show m = i + (m - i) by omega, hops_add]
      exact hops_out hout _
    exact hmin i hi (by rw [← h1]; exact hm)
  have hle : m ≤ n := inj_len (g := fun i => (hops n f i (j : Int)).toNat) (fun i hi => by have := hin i hi; omega) fun a b hab hb e => by
    have ha' := hin a (by omega)
    have hb' := hin b hb
    have e' : hops n f a (j : Int) = hops n f b (j : Int) := by omega
    refine hmin (a + (m - b)) (by omega) ?_
    rw [hops_add, e', ← hops_add, show b + (m - b) = m by omega]
    exact hm
  rw [show n = m + (n - m) by omega]
  have := hops_add n f m (n - m) (j : Int)
  rw [show m + (n - m) = n by omega] at this ⊢
  rw [this, hm]
  exact hops_out (by omega) _
theorem roots_none {k : Nat} (h : ∀ j, j < k → f j ≠ -1) : roots f k = 0 := by
  unfold roots
  rw [List.length_eq_zero_iff, List.filter_eq_nil_iff]
  intro a ha
  simpa using h a (List.mem_range.1 ha)
theorem roots_pos {k : Nat} (h : roots f k ≠ 0) : ∃ r, r < k ∧ f r = -1 := by
  apply Classical.byContradiction
  intro hn
  exact h (roots_none fun j hj e => hn ⟨j, hj, e⟩)
theorem roots_mono {a : Nat} : ∀ d, roots f a ≤ roots f (a + d)
  | 0 => Nat.le_refl _
  | d + 1 => by
    have := roots_mono (a := a) d
    rw [← Nat.add_assoc, roots_succ]
    omega
/-- There is one root just where it is the only one. -/
theorem roots_one : roots f n = 1 ↔ ∃ r, (r < n ∧ f r = -1) ∧ ∀ s, s < n → f s = -1 → s = r := by
  constructor
  · intro h
    obtain ⟨r, hr, e⟩ := roots_pos (f := f) (k := n) (by omega)
    have key : ∀ a b, a < b → b < n → f a = -1 → f b = -1 → False := fun a b hab hb ha hb' => by
      have h1 := roots_succ f a
      have h2 := roots_succ f b
      rw [if_pos ha] at h1
      rw [if_pos hb'] at h2
      have h3 := roots_mono (f := f) (a := a + 1) (b - (a + 1))
      have h4 := roots_mono (f := f) (a := b + 1) (n - (b + 1))
      rw [show a + 1 + (b - (a + 1)) = b by omega] at h3
      rw [show b + 1 + (n - (b + 1)) = n by omega] at h4
      omega
    refine ⟨r, ⟨hr, e⟩, fun s hs es => ?_⟩
    rcases Nat.lt_trichotomy s r with h' | h' | h'
    · exact (key s r h' hr es e).elim
    · exact h'
    · exact (key r s h' hs e es).elim
  · rintro ⟨r, ⟨hr, e⟩, hu⟩
    have h0 : roots f r = 0 := roots_none fun j hj ej => by have := hu j (by omega) ej; omega
    have h1 : roots f (r + 1) = 1 := by rw [roots_succ, if_pos e, h0]
    have : ∀ d, r + 1 + d ≤ n → roots f (r + 1 + d) = 1 := fun d => by
      induction d with
      | zero => exact fun _ => h1
      | succ d ih =>
        intro hd
        rw [← Nat.add_assoc, roots_succ, ih (by omega), if_neg fun e2 => by have := hu (r + 1 + d) (by omega) e2; omega]
    have := this (n - (r + 1)) (by omega)
    rwa [show r + 1 + (n - (r + 1)) = n by omega] at this
/-- A tree: one root, and all hang together. -/
theorem treeB_iff : treeB n f = true ↔ (UpOk n f ∧ roots f n = 1 ∧ ∀ a b, a < n → b < n → Lk f (· < n) a b) := by
  constructor
  · intro h
    obtain ⟨h1, h2⟩ := treeB_all h
    have hU : UpOk n f := fun j hj => tree_up h1 hj
    refine ⟨hU, h2, ?_⟩
    refine ((hang_iff (P := (· < n)) (fun j hj => hj) h1).2 ?_).2
    obtain ⟨r, ⟨hr, e⟩, hu⟩ := roots_one.1 h2
    refine ⟨r, ⟨hr, fun u eu => by omega⟩, fun s hs => hu s hs.1 ?_⟩
    rcases hU s hs.1 with h3 | h3
    · exact h3
    · obtain ⟨u, e3⟩ := Int.eq_ofNat_of_zero_le h3.1.1
      exact absurd (show u < n by omega) (hs.2 u e3)
  · rintro ⟨hU, h2, hc⟩
    obtain ⟨r, ⟨hr, e⟩, _⟩ := roots_one.1 h2
    refine treeB_of (fun j hj => ?_) h2
    have : ∀ b, Lk f (· < n) r b → ∃ k, hops n f k (b : Int) = -1 := fun b hl => by
      induction hl with
      | refl => exact ⟨1, by show hop n f (r : Int) = -1; rw [hop_in hr]; exact e⟩
      | @up b c _ pb pc e2 ih =>
        obtain ⟨k, hk⟩ := ih
        cases k with
        | zero => simp [hops] at hk
        | succ k =>
          refine ⟨k, ?_⟩
          have : hops n f k (hop n f (b : Int)) = -1 := hk
          rw [hop_in pb, e2] at this
          exact this
      | @down b c _ pb pc e2 ih =>
        obtain ⟨k, hk⟩ := ih
        refine ⟨k + 1, ?_⟩
        show hops n f k (hop n f (c : Int)) = -1
        rw [hop_in pc, e2]
        exact hk
    obtain ⟨k, hk⟩ := this j (hc r j hr hj)
    exact hops_bound hk
end
end Go.Proofs.YtdalconphfgepaaDoor
